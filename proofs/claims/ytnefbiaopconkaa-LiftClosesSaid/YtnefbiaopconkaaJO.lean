/- Walks of layer 5 (lift): Doors of the specification. -/
import Derived.Test.YtnefbiaopconkaaJN
namespace Go.Proofs.Ytnefbiaopconkaa
open Go.RowKit

theorem own_drewN {w : World} {base : Nat} {e : TypeId} {size n : Nat} {v : Value} {xs : List Value} (h : Hid (w.ownsRow base e size v n xs)) (m : Nat) : Hid ((w.drewN m).ownsRow base e size v n xs) := Lib.hid (ownsRow_of_heap h.out fun _ _ _ h => h)

/-- How the specification's door stands beside the program's. -/
def SpR (s : DSt) (p a lf : Int) : Prop := a = s.at' ∧ ((s.ph = 0 ∧ p = 0) ∨ (s.ph = 1 ∧ p = 1 ∧ lf = s.lf) ∨ (s.ph = 2 ∧ (p = 2 ∨ (p = 1 ∧ lf = 0))))

section
variable {d : Dor} {a lf : Int}
theorem mv0w (h : a + 1 = d.wide) : moveS d ⟨0, a, lf⟩ = waitS d (a + 1) := by unfold moveS; rw [if_pos rfl, if_pos h]
theorem mv0 (h : ¬ a + 1 = d.wide) : moveS d ⟨0, a, lf⟩ = ⟨0, a + 1, lf⟩ := by unfold moveS; rw [if_pos rfl, if_neg h]
theorem mv1e (h : lf - 1 = 0) : moveS d ⟨1, a, lf⟩ = ⟨2, a, lf - 1⟩ := by unfold moveS; simp only [show ¬ ((1 : Int) = 0) by decide, if_false, if_true]; rw [if_pos h]
theorem mv1 (h : ¬ lf - 1 = 0) : moveS d ⟨1, a, lf⟩ = ⟨1, a, lf - 1⟩ := by unfold moveS; simp only [show ¬ ((1 : Int) = 0) by decide, if_false, if_true]; rw [if_neg h]
theorem mv2e (h : a - 1 = 0) : moveS d ⟨2, a, lf⟩ = ⟨3, a - 1, lf⟩ := by unfold moveS; simp only [show ¬ ((2 : Int) = 0) by decide, show ¬ ((2 : Int) = 1) by decide, if_false]; rw [if_pos h]
theorem mv2 (h : ¬ a - 1 = 0) : moveS d ⟨2, a, lf⟩ = ⟨2, a - 1, lf⟩ := by unfold moveS; simp only [show ¬ ((2 : Int) = 0) by decide, show ¬ ((2 : Int) = 1) by decide, if_false]; rw [if_neg h]
theorem wt0 (h : d.wait = 0) : waitS d a = ⟨2, a, d.wait⟩ := by unfold waitS; rw [if_pos h]
theorem wt1 (h : ¬ d.wait = 0) : waitS d a = ⟨1, a, d.wait⟩ := by unfold waitS; rw [if_neg h]
theorem dsw {ph : Int} (h : a = d.wide) : distS d ⟨ph, a, lf⟩ = waitS d a := by unfold distS; rw [if_pos h]
theorem dsn {ph : Int} (h : ¬ a = d.wide) : distS d ⟨ph, a, lf⟩ = ⟨0, a, lf⟩ := by unfold distS; rw [if_neg h]
end

/-- What is so of the next state if the door is not closed yet. -/
def NX (s : DSt) (p a lf : Int) : Prop := s.ph ≠ 3 ∧ SpR s p a lf

section
variable {d : Dor} {a lf x : Int}
theorem nx_wait (h : d.wait ≠ 0 ∨ d.wait = 0) : NX (waitS d a) 1 a d.wait := by
  rcases h with h | h
  · rw [wt1 h]; exact ⟨by dsimp only; decide, rfl, .inr (.inl ⟨rfl, rfl, rfl⟩)⟩
  · rw [wt0 h]; exact ⟨by dsimp only; decide, rfl, .inr (.inr ⟨rfl, .inr ⟨rfl, h⟩⟩)⟩
theorem nx0w (h : a + 1 = d.wide) : NX (moveS d ⟨0, a, lf⟩) 1 (a + 1) d.wait := by rw [mv0w h]; exact nx_wait (by omega)
theorem nx0 (h : ¬ a + 1 = d.wide) : NX (moveS d ⟨0, a, lf⟩) 0 (a + 1) x := by rw [mv0 h]; exact ⟨by dsimp only; decide, rfl, .inl ⟨rfl, rfl⟩⟩
theorem nx1 : NX (moveS d ⟨1, a, lf⟩) 1 a (lf - 1) := by
  by_cases h : lf - 1 = 0
  · rw [mv1e h]; exact ⟨by dsimp only; decide, rfl, .inr (.inr ⟨rfl, .inr ⟨rfl, h⟩⟩)⟩
  · rw [mv1 h]; exact ⟨by dsimp only; decide, rfl, .inr (.inl ⟨rfl, rfl, rfl⟩)⟩
theorem nx2 (h : ¬ a - 1 = 0) : NX (moveS d ⟨2, a, lf⟩) 2 (a - 1) x := by rw [mv2 h]; exact ⟨by dsimp only; decide, rfl, .inr (.inr ⟨rfl, .inl rfl⟩)⟩
theorem nxw (h : ¬ d.wait = 0) : NX (moveS d (waitS d a)) 1 a (d.wait - 1) := by rw [wt1 h]; exact nx1
theorem nxw0 (h : d.wait = 0) (h1 : ¬ a - 1 = 0) : NX (moveS d (waitS d a)) 2 (a - 1) x := by rw [wt0 h]; exact nx2 h1
theorem cl2 (h : a - 1 = 0) : (moveS d ⟨2, a, lf⟩).ph = 3 ∧ (moveS d ⟨2, a, lf⟩).at' = a - 1 := by rw [mv2e h]; exact ⟨rfl, rfl⟩
theorem clw (h : d.wait = 0) (h1 : a - 1 = 0) : (moveS d (waitS d a)).ph = 3 ∧ (moveS d (waitS d a)).at' = a - 1 := by rw [wt0 h]; exact cl2 h1
end

theorem same_is {f : FuncId} {args : Array Value} {w : World} {a q : Bool} (ha : a = q) (h : Calls Try.prog f args w fun e w' => e = .returned (.bool a) ∧ w = w') : Calls Try.prog f args w fun e w' => e = .returned (.bool q) ∧ w = w' := by
  subst ha; exact h

set_option maxRecDepth 100000 in
set_option maxHeartbeats 8000000 in
theorem rDoors_any (d : Dor) (v : Value) (l : List Int) (w : World) (hl : InAt w v l) :
    Calls Try.prog 37 #[dorV d, v] w (ListErr (dooO d l) (dooE d l) w) := by
  have HB := Lib.hid ((Below.refl w.heap.size w).alloc (Nat.le_refl _) (dorO d))
  have K0 := Lib.hid (block_new w (dorO d) w.heap.size rfl)
  have HL := Lib.hid (hl.below HB.out (Nat.le_refl _))
  have HI := Lib.hid (@doo_in d l)
  have HO := Lib.hid (@dooO_ok d l)
  have HN := Lib.hid (@dooO_no d l)
  cases hd : dorB d
  · have HD := Lib.hid (@dorE_no d true hd).symm
    have hE : dooE d l = 51 := (dorE_no hd).symm
    have HR := Lib.hid (HN.out (by rw [hE]; decide))
    have HE := Lib.hid hE
    clear hE hd
    go_enter Try.func37, Try.ntmps37
    go_upto_region 1 with fail
    generalize w.alloc (dorO d) = wA at *
    have c0 := block_cell K0.out
    go_wp2_with (go_at_call 46; refine (int_is HD.out (rCheckDoor_any d _)).mono ?_; rintro e w1 ⟨rfl, hb1⟩)
    go_ret2
    exact ⟨_, by rw [HE.out]; rfl, by rw [HR.out]; exact InAt.nil _, HB.out.trans (hb1.mono HB.out.size)⟩
  have HD := Lib.hid (@dorE_ok d true hd).symm
  cases hq : breB l
  · have HQ := Lib.hid hq
    have hE : dooE d l = 1 := by show dorE d (breB l) = 1; rw [← dorE_ok hd, hq]; rfl
    have HR := Lib.hid (HN.out (by rw [hE]; decide))
    have HE := Lib.hid hE
    clear hE hd hq
    go_enter Try.func37, Try.ntmps37
    go_upto_region 1 with fail
    generalize w.alloc (dorO d) = wA at *
    have c0 := block_cell K0.out
    go_wp2_with (first | (go_at_call 46; refine (int_is HD.out (rCheckDoor_any d _)).mono ?_; rintro e w1 ⟨rfl, hb1⟩) | (go_at_call 47; refine (same_is HQ.out (rBreaks_any v l _ (HL.out.below hb1 (Nat.le_refl _)))).mono ?_; rintro e w2 ⟨rfl, rfl⟩))
    go_ret2
    exact ⟨_, by rw [HE.out]; rfl, by rw [HR.out]; exact InAt.nil _, HB.out.trans (hb1.mono HB.out.size)⟩
  have HQ := Lib.hid hq
  have hE : dooE d l = 0 := by show dorE d (breB l) = 0; rw [← dorE_ok hd, hq]; rfl
  obtain ⟨_, h20, hs⟩ := HI.out hE
  have HR := Lib.hid (HO.out hE)
  have HE := Lib.hid hE
  obtain ⟨d1, d2, d3, d4⟩ := dor_of hd
  have HST := Lib.hid (fun k h => st_bd hd h20 (k := k) h)
  have HIN := Lib.hid (fun k h => (st_in hd l k h).1)
  have HDN := Lib.hid (fun k h0 h1 h2 => @doorN_is d l k h0 h1 h2)
  have HBR := Lib.hid (fun (k : Nat) (q : Bool) (hq : brkB l k = q) w1 (h : InAt w1 v l) => same_is hq (rbroken_any v l k w1 h))
  have HV := HL
  obtain ⟨la, lcap, rfl, ln, lcp, lc⟩ := hl
  clear lc hE hd hq hs HO HN HI
  go_enter Try.func37, Try.ntmps37
  go_upto_region 1 with fail
  generalize w.alloc (dorO d) = wA at *
  have c0 := block_cell K0.out
  go_wp2_with (first | (go_at_call 46; refine (int_is HD.out (rCheckDoor_any d _)).mono ?_; rintro e w1 ⟨rfl, hb1⟩) | (go_at_call 47; refine (same_is HQ.out (rBreaks_any _ l _ (HL.out.below hb1 (Nat.le_refl _)))).mono ?_; rintro e w2 ⟨rfl, rfl⟩))
  have HB1 := Lib.hid hb1
  clear c0 hb1
  generalize w1 = wB at *
  obtain ⟨i0, hi0, hz0, hz1, hz2⟩ := info_parts infoInt
  go_loopw [6, 7, 8, 9, 10] (fun aa ff pp vv tt wr => ∃ (k : Nat) (p a lf : Int), tt = .int .i64 k ∧ pp = .int .i64 p ∧ aa = .int .i64 a ∧ ff = .int .i64 lf ∧ Hid (SpR (stD d l k) p a lf) ∧ Hid (∀ j, j ≤ k → (stD d l j).ph ≠ 3) ∧ Hid (wr.ownsRow wB.heap.size 3 1 vv (outL d l k).length ((outL d l k).map (Value.int .i64))) ∧ Hid (Below wB.heap.size wB wr) ∧ k ≤ 7000) (fun _ _ _ _ tt _ => 10000 - (intOf tt).toNat)
  case atStart => exact ⟨0, 0, 0, 0, rfl, rfl, rfl, rfl, Lib.hid ⟨rfl, .inl ⟨rfl, rfl⟩⟩, Lib.hid (fun j hj => by obtain rfl : j = 0 := (by omega); exact (by decide : (0 : Int) ≠ 3)), Lib.hid ⟨by simp [outL], Or.inl ⟨rfl, by simp [outL]⟩⟩, Lib.hid (Below.refl _ _), by omega⟩
  case round =>
    obtain ⟨k, p, a, lf, rfl, rfl, rfl, rfl, hSp, hnc, hO, hb, hk⟩ := hrel
    obtain ⟨ra, rc, rfl, _⟩ := ownsRow_shape hO.out
    have HBA := Lib.hid (HB1.out.trans (hb.out.mono HB1.out.size))
    have c0 := block_cell (keepZ K0.out HBA.out)
    have hsz := hb.out.size
    have hol : (outL d l k).length ≤ 8000 := by rw [outL_len]; omega
    have HOS := Lib.hid (outL_succ d l k)
    have HSS := Lib.hid (show stD d l (k + 1) = moveS d (if brkB l k = true then distS d (stD d l k) else stD d l k) from rfl)
    have hin := HIN.out k hnc.out
    have hsp := hSp.out
    have HLr := Lib.hid (HV.out.below HBA.out (Nat.le_refl _))
    obtain ⟨q, hq⟩ : ∃ q, brkB l k = q := ⟨_, rfl⟩
    have G := Lib.hid (HBR.out k q hq _ HLr.out)
    rw [hq] at HSS
    obtain ⟨S, hS⟩ : ∃ S, stD d l k = S := ⟨_, rfl⟩
    rw [hS] at HSS hin hsp
    clear hS hSp hq
    generalize outL d l k = A at *
    obtain ⟨ph, sa, sl⟩ := S
    obtain ⟨hp, ia0, ia1, il0, il1, io, iw, ic⟩ := hin
    unfold SpR at hsp
    dsimp only at hp ia0 ia1 il0 il1 io iw ic hsp
    obtain ⟨rfl, hsp⟩ := hsp
    rcases hsp with ⟨rfl, rfl⟩ | ⟨rfl, rfl, rfl⟩ | ⟨rfl, rfl | ⟨rfl, rfl⟩⟩
    · have io := io rfl
      clear iw ic hp G HLr HBA
      have HSS : Hid (stD d l (k + 1) = moveS d ⟨0, a, sl⟩) := Lib.hid (by rw [HSS.out]; cases q; rfl; simp only [if_true, distS]; rw [if_neg (by omega)])
      by_cases h1 : a + 1 = d.wide
      · have h1b : (a + 1 == d.wide) = true := by simpa using h1
        have HNX := Lib.hid (show NX (stD d l (k + 1)) 1 (a + 1) d.wait from (by rw [HSS.out]; exact nx0w h1))
        have hzb : ((a + 1) == (0 : Int)) = false := by simp; omega
        try clear h1
        try clear hw
        try clear h0
        go_wp2_with fail
        go_quiet (fail)
        go_wp2_with ((at_builtin; refine wpList_append_own _ rfl (.tmp 57) (.tmp 59) 22 rfl wB.heap.size 3 i0 (.int .i64 0) 1 8 Try.underlying22 hi0 hz0 hz1 hz2 rfl (by decide) _ (A).length ((A).map (Value.int .i64)) rfl ?c0x6 _ _ _ [.int .i64 (a + 1)] rfl rfl ?c1x6 ?c2x6 ?c3x6 ?c4x6 ?c5x6 ?_))
        case c0x6 => exact World.ownsRow.alloc (own_drewN hO _).out _
        try (case c1x6 => exact one_cell _ _ _ rfl)
        case c2x6 => first | rfl | (intro u hu; simp only [List.mem_cons, List.not_mem_nil, or_false] at hu; subst hu; rfl)
        case c3x6 => unfold maxLen; omega
        case c4x6 => omega
        case c5x6 => first | exact Nat.le_trans hsz (al_le _ _) | (simp; omega) | omega
        intro v3 w3 hown3 hgrow3 _
        obtain ⟨_, _, _, hob3⟩ := ownsRow_shape (hO).out
        have hbX3 := below_grown hgrow3 hob3 (Nat.le_trans hsz (al_le _ _))
        have HBA3 := Lib.hid (((below_drewN (Below.refl _ _) _).alloc hsz _).trans hbX3)
        have HO3 := Lib.hid (own_snoc hown3)
        obtain ⟨r3, c3, rfl, _⟩ := ownsRow_shape hown3
        clear hown3 hgrow3 hbX3 hob3
        have HB3 := Lib.hid (hb.out.trans HBA3.out)
        have HNC2 : Hid (∀ j, j ≤ k + 1 → (stD d l j).ph ≠ 3) := Lib.hid (fun j hj => by
          by_cases hjk : j = k + 1
          · rw [hjk]; exact HNX.out.1
          · exact hnc.out j (by omega))
        have hk3 := (HST.out (k + 1) HNC2.out).2
        go_wp2
        go_roundw
        case rel => exact ⟨k + 1, _, _, _, by first | rfl | go_num, rfl, rfl, rfl, Lib.hid HNX.out.2, HNC2, by rw [HOS.out, ← HNX.out.2.1]; first | exact HO3 | (rw [List.length_append] at HO3; exact HO3), HB3, hk3⟩
        case measure => simp [intOf] <;> omega
      · have h1b : (a + 1 == d.wide) = false := by simpa using h1
        have HNX := Lib.hid (show NX (stD d l (k + 1)) 0 (a + 1) lf from (by rw [HSS.out]; exact nx0 h1))
        have hzb : ((a + 1) == (0 : Int)) = false := by simp; omega
        try clear h1
        try clear hw
        try clear h0
        go_upto_region 24 with (fail)
        try clear G HLr
        go_wp2_with ((at_builtin; refine wpList_append_own _ rfl (.tmp 57) (.tmp 59) 22 rfl wB.heap.size 3 i0 (.int .i64 0) 1 8 Try.underlying22 hi0 hz0 hz1 hz2 rfl (by decide) _ (A).length ((A).map (Value.int .i64)) rfl ?c0x9 _ _ _ [.int .i64 (a + 1)] rfl rfl ?c1x9 ?c2x9 ?c3x9 ?c4x9 ?c5x9 ?_))
        case c0x9 => exact World.ownsRow.alloc (hO).out _
        try (case c1x9 => exact one_cell _ _ _ rfl)
        case c2x9 => first | rfl | (intro u hu; simp only [List.mem_cons, List.not_mem_nil, or_false] at hu; subst hu; rfl)
        case c3x9 => unfold maxLen; omega
        case c4x9 => omega
        case c5x9 => first | exact Nat.le_trans hsz (al_le _ _) | (simp; omega) | omega
        intro v3 w3 hown3 hgrow3 _
        obtain ⟨_, _, _, hob3⟩ := ownsRow_shape (hO).out
        have hbX3 := below_grown hgrow3 hob3 (Nat.le_trans hsz (al_le _ _))
        have HBA3 := Lib.hid (((Below.refl _ _).alloc hsz _).trans hbX3)
        have HO3 := Lib.hid (own_snoc hown3)
        obtain ⟨r3, c3, rfl, _⟩ := ownsRow_shape hown3
        clear hown3 hgrow3 hbX3 hob3
        have HB3 := Lib.hid (hb.out.trans HBA3.out)
        have HNC2 : Hid (∀ j, j ≤ k + 1 → (stD d l j).ph ≠ 3) := Lib.hid (fun j hj => by
          by_cases hjk : j = k + 1
          · rw [hjk]; exact HNX.out.1
          · exact hnc.out j (by omega))
        have hk3 := (HST.out (k + 1) HNC2.out).2
        go_wp2
        go_roundw
        case rel => exact ⟨k + 1, _, _, _, by first | rfl | go_num, rfl, rfl, rfl, Lib.hid HNX.out.2, HNC2, by rw [HOS.out, ← HNX.out.2.1]; first | exact HO3 | (rw [List.length_append] at HO3; exact HO3), HB3, hk3⟩
        case measure => simp [intOf] <;> omega
    · obtain ⟨io, il⟩ := iw rfl
      have i1 : 1 ≤ a := by omega
      clear iw ic hp io
      cases q
      · have hlb : (lf == (0 : Int)) = false := by simp; omega
        have HNX := Lib.hid (show NX (stD d l (k + 1)) 1 a (lf - 1) from (by rw [HSS.out, if_neg (by decide)]; exact nx1))
        have hzb : (a == (0 : Int)) = false := by simp; omega
        try clear h1
        try clear hw
        try clear h0
        go_upto_region 24 with (go_at_call 90; refine G.out.mono ?_; rintro e w9 ⟨rfl, rfl⟩)
        try clear G HLr
        go_wp2_with ((at_builtin; refine wpList_append_own _ rfl (.tmp 57) (.tmp 59) 22 rfl wB.heap.size 3 i0 (.int .i64 0) 1 8 Try.underlying22 hi0 hz0 hz1 hz2 rfl (by decide) _ (A).length ((A).map (Value.int .i64)) rfl ?c0x13 _ _ _ [.int .i64 a] rfl rfl ?c1x13 ?c2x13 ?c3x13 ?c4x13 ?c5x13 ?_))
        case c0x13 => exact World.ownsRow.alloc (hO).out _
        try (case c1x13 => exact one_cell _ _ _ rfl)
        case c2x13 => first | rfl | (intro u hu; simp only [List.mem_cons, List.not_mem_nil, or_false] at hu; subst hu; rfl)
        case c3x13 => unfold maxLen; omega
        case c4x13 => omega
        case c5x13 => first | exact Nat.le_trans hsz (al_le _ _) | (simp; omega) | omega
        intro v3 w3 hown3 hgrow3 _
        obtain ⟨_, _, _, hob3⟩ := ownsRow_shape (hO).out
        have hbX3 := below_grown hgrow3 hob3 (Nat.le_trans hsz (al_le _ _))
        have HBA3 := Lib.hid (((Below.refl _ _).alloc hsz _).trans hbX3)
        have HO3 := Lib.hid (own_snoc hown3)
        obtain ⟨r3, c3, rfl, _⟩ := ownsRow_shape hown3
        clear hown3 hgrow3 hbX3 hob3
        have HB3 := Lib.hid (hb.out.trans HBA3.out)
        have HNC2 : Hid (∀ j, j ≤ k + 1 → (stD d l j).ph ≠ 3) := Lib.hid (fun j hj => by
          by_cases hjk : j = k + 1
          · rw [hjk]; exact HNX.out.1
          · exact hnc.out j (by omega))
        have hk3 := (HST.out (k + 1) HNC2.out).2
        go_wp2
        go_roundw
        case rel => exact ⟨k + 1, _, _, _, by first | rfl | go_num, rfl, rfl, rfl, Lib.hid HNX.out.2, HNC2, by rw [HOS.out, ← HNX.out.2.1]; first | exact HO3 | (rw [List.length_append] at HO3; exact HO3), HB3, hk3⟩
        case measure => simp [intOf] <;> omega
      · by_cases hw : a = d.wide
        · have hwb : (a == d.wide) = true := by simpa using hw
          by_cases h0 : d.wait = 0
          · have h0b : (d.wait == (0 : Int)) = true := by simpa using h0
            by_cases h1 : a - 1 = 0
            · have HNX := Lib.hid (show (stD d l (k + 1)).ph = 3 ∧ (stD d l (k + 1)).at' = (a - 1) from (by rw [HSS.out, if_pos rfl, dsw hw]; exact clw h0 h1))
              have hzb : ((a - 1) == (0 : Int)) = true := by simp; omega
              try clear h1
              try clear hw
              try clear h0
              go_wp2_with (go_at_call 90; refine G.out.mono ?_; rintro e w9 ⟨rfl, rfl⟩)
              go_quiet (fail)
              go_wp2_with ((at_builtin; refine wpList_append_own _ rfl (.tmp 57) (.tmp 59) 22 rfl wB.heap.size 3 i0 (.int .i64 0) 1 8 Try.underlying22 hi0 hz0 hz1 hz2 rfl (by decide) _ (A).length ((A).map (Value.int .i64)) rfl ?c0x18 _ _ _ [.int .i64 (a - 1)] rfl rfl ?c1x18 ?c2x18 ?c3x18 ?c4x18 ?c5x18 ?_))
              case c0x18 => exact World.ownsRow.alloc (own_drewN hO _).out _
              try (case c1x18 => exact one_cell _ _ _ rfl)
              case c2x18 => first | rfl | (intro u hu; simp only [List.mem_cons, List.not_mem_nil, or_false] at hu; subst hu; rfl)
              case c3x18 => unfold maxLen; omega
              case c4x18 => omega
              case c5x18 => first | exact Nat.le_trans hsz (al_le _ _) | (simp; omega) | omega
              intro v3 w3 hown3 hgrow3 _
              obtain ⟨_, _, _, hob3⟩ := ownsRow_shape (hO).out
              have hbX3 := below_grown hgrow3 hob3 (Nat.le_trans hsz (al_le _ _))
              have HBA3 := Lib.hid (((below_drewN (Below.refl _ _) _).alloc hsz _).trans hbX3)
              have HO3 := Lib.hid (own_snoc hown3)
              obtain ⟨r3, c3, rfl, _⟩ := ownsRow_shape hown3
              clear hown3 hgrow3 hbX3 hob3
              have HB3 := Lib.hid (hb.out.trans HBA3.out)
              have HDX := Lib.hid (HDN.out (k + 1) (by omega) (fun j hj => hnc.out j (by omega)) HNX.out.1)
              go_wp2
              go_ret2
              exact ⟨_, by rw [HE.out]; rfl, by rw [HR.out, HDX.out, HOS.out, HNX.out.2]; exact InAt.of_own HO3.out, HB.out.trans ((HB1.out.trans (HB3.out.mono HB1.out.size)).mono HB.out.size)⟩
            · have HNX := Lib.hid (show NX (stD d l (k + 1)) 2 (a - 1) d.wait from (by rw [HSS.out, if_pos rfl, dsw hw]; exact nxw0 h0 h1))
              have hzb : ((a - 1) == (0 : Int)) = false := by simp; omega
              try clear h1
              try clear hw
              try clear h0
              go_wp2_with (go_at_call 90; refine G.out.mono ?_; rintro e w9 ⟨rfl, rfl⟩)
              go_quiet (fail)
              go_wp2_with ((at_builtin; refine wpList_append_own _ rfl (.tmp 57) (.tmp 59) 22 rfl wB.heap.size 3 i0 (.int .i64 0) 1 8 Try.underlying22 hi0 hz0 hz1 hz2 rfl (by decide) _ (A).length ((A).map (Value.int .i64)) rfl ?c0x21 _ _ _ [.int .i64 (a - 1)] rfl rfl ?c1x21 ?c2x21 ?c3x21 ?c4x21 ?c5x21 ?_))
              case c0x21 => exact World.ownsRow.alloc (own_drewN hO _).out _
              try (case c1x21 => exact one_cell _ _ _ rfl)
              case c2x21 => first | rfl | (intro u hu; simp only [List.mem_cons, List.not_mem_nil, or_false] at hu; subst hu; rfl)
              case c3x21 => unfold maxLen; omega
              case c4x21 => omega
              case c5x21 => first | exact Nat.le_trans hsz (al_le _ _) | (simp; omega) | omega
              intro v3 w3 hown3 hgrow3 _
              obtain ⟨_, _, _, hob3⟩ := ownsRow_shape (hO).out
              have hbX3 := below_grown hgrow3 hob3 (Nat.le_trans hsz (al_le _ _))
              have HBA3 := Lib.hid (((below_drewN (Below.refl _ _) _).alloc hsz _).trans hbX3)
              have HO3 := Lib.hid (own_snoc hown3)
              obtain ⟨r3, c3, rfl, _⟩ := ownsRow_shape hown3
              clear hown3 hgrow3 hbX3 hob3
              have HB3 := Lib.hid (hb.out.trans HBA3.out)
              have HNC2 : Hid (∀ j, j ≤ k + 1 → (stD d l j).ph ≠ 3) := Lib.hid (fun j hj => by
                by_cases hjk : j = k + 1
                · rw [hjk]; exact HNX.out.1
                · exact hnc.out j (by omega))
              have hk3 := (HST.out (k + 1) HNC2.out).2
              go_wp2
              go_roundw
              case rel => exact ⟨k + 1, _, _, _, by first | rfl | go_num, rfl, rfl, rfl, Lib.hid HNX.out.2, HNC2, by rw [HOS.out, ← HNX.out.2.1]; first | exact HO3 | (rw [List.length_append] at HO3; exact HO3), HB3, hk3⟩
              case measure => simp [intOf] <;> omega
          · have h0b : (d.wait == (0 : Int)) = false := by simpa using h0
            have HNX := Lib.hid (show NX (stD d l (k + 1)) 1 a (d.wait - 1) from (by rw [HSS.out, if_pos rfl, dsw hw]; exact nxw h0))
            have hzb : (a == (0 : Int)) = false := by simp; omega
            try clear h1
            try clear hw
            try clear h0
            go_wp2_with (go_at_call 90; refine G.out.mono ?_; rintro e w9 ⟨rfl, rfl⟩)
            go_quiet (fail)
            go_wp2_with ((at_builtin; refine wpList_append_own _ rfl (.tmp 57) (.tmp 59) 22 rfl wB.heap.size 3 i0 (.int .i64 0) 1 8 Try.underlying22 hi0 hz0 hz1 hz2 rfl (by decide) _ (A).length ((A).map (Value.int .i64)) rfl ?c0x24 _ _ _ [.int .i64 a] rfl rfl ?c1x24 ?c2x24 ?c3x24 ?c4x24 ?c5x24 ?_))
            case c0x24 => exact World.ownsRow.alloc (own_drewN hO _).out _
            try (case c1x24 => exact one_cell _ _ _ rfl)
            case c2x24 => first | rfl | (intro u hu; simp only [List.mem_cons, List.not_mem_nil, or_false] at hu; subst hu; rfl)
            case c3x24 => unfold maxLen; omega
            case c4x24 => omega
            case c5x24 => first | exact Nat.le_trans hsz (al_le _ _) | (simp; omega) | omega
            intro v3 w3 hown3 hgrow3 _
            obtain ⟨_, _, _, hob3⟩ := ownsRow_shape (hO).out
            have hbX3 := below_grown hgrow3 hob3 (Nat.le_trans hsz (al_le _ _))
            have HBA3 := Lib.hid (((below_drewN (Below.refl _ _) _).alloc hsz _).trans hbX3)
            have HO3 := Lib.hid (own_snoc hown3)
            obtain ⟨r3, c3, rfl, _⟩ := ownsRow_shape hown3
            clear hown3 hgrow3 hbX3 hob3
            have HB3 := Lib.hid (hb.out.trans HBA3.out)
            have HNC2 : Hid (∀ j, j ≤ k + 1 → (stD d l j).ph ≠ 3) := Lib.hid (fun j hj => by
              by_cases hjk : j = k + 1
              · rw [hjk]; exact HNX.out.1
              · exact hnc.out j (by omega))
            have hk3 := (HST.out (k + 1) HNC2.out).2
            go_wp2
            go_roundw
            case rel => exact ⟨k + 1, _, _, _, by first | rfl | go_num, rfl, rfl, rfl, Lib.hid HNX.out.2, HNC2, by rw [HOS.out, ← HNX.out.2.1]; first | exact HO3 | (rw [List.length_append] at HO3; exact HO3), HB3, hk3⟩
            case measure => simp [intOf] <;> omega
        · have hwb : (a == d.wide) = false := by simpa using hw
          by_cases h1 : a + 1 = d.wide
          · have h1b : (a + 1 == d.wide) = true := by simpa using h1
            have HNX := Lib.hid (show NX (stD d l (k + 1)) 1 (a + 1) d.wait from (by rw [HSS.out, if_pos rfl, dsn hw]; exact nx0w h1))
            have hzb : ((a + 1) == (0 : Int)) = false := by simp; omega
            try clear h1
            try clear hw
            try clear h0
            go_wp2_with (go_at_call 90; refine G.out.mono ?_; rintro e w9 ⟨rfl, rfl⟩)
            go_quiet (fail)
            go_wp2_with ((at_builtin; refine wpList_append_own _ rfl (.tmp 57) (.tmp 59) 22 rfl wB.heap.size 3 i0 (.int .i64 0) 1 8 Try.underlying22 hi0 hz0 hz1 hz2 rfl (by decide) _ (A).length ((A).map (Value.int .i64)) rfl ?c0x27 _ _ _ [.int .i64 (a + 1)] rfl rfl ?c1x27 ?c2x27 ?c3x27 ?c4x27 ?c5x27 ?_))
            case c0x27 => exact World.ownsRow.alloc (own_drewN hO _).out _
            try (case c1x27 => exact one_cell _ _ _ rfl)
            case c2x27 => first | rfl | (intro u hu; simp only [List.mem_cons, List.not_mem_nil, or_false] at hu; subst hu; rfl)
            case c3x27 => unfold maxLen; omega
            case c4x27 => omega
            case c5x27 => first | exact Nat.le_trans hsz (al_le _ _) | (simp; omega) | omega
            intro v3 w3 hown3 hgrow3 _
            obtain ⟨_, _, _, hob3⟩ := ownsRow_shape (hO).out
            have hbX3 := below_grown hgrow3 hob3 (Nat.le_trans hsz (al_le _ _))
            have HBA3 := Lib.hid (((below_drewN (Below.refl _ _) _).alloc hsz _).trans hbX3)
            have HO3 := Lib.hid (own_snoc hown3)
            obtain ⟨r3, c3, rfl, _⟩ := ownsRow_shape hown3
            clear hown3 hgrow3 hbX3 hob3
            have HB3 := Lib.hid (hb.out.trans HBA3.out)
            have HNC2 : Hid (∀ j, j ≤ k + 1 → (stD d l j).ph ≠ 3) := Lib.hid (fun j hj => by
              by_cases hjk : j = k + 1
              · rw [hjk]; exact HNX.out.1
              · exact hnc.out j (by omega))
            have hk3 := (HST.out (k + 1) HNC2.out).2
            go_wp2
            go_roundw
            case rel => exact ⟨k + 1, _, _, _, by first | rfl | go_num, rfl, rfl, rfl, Lib.hid HNX.out.2, HNC2, by rw [HOS.out, ← HNX.out.2.1]; first | exact HO3 | (rw [List.length_append] at HO3; exact HO3), HB3, hk3⟩
            case measure => simp [intOf] <;> omega
          · have h1b : (a + 1 == d.wide) = false := by simpa using h1
            have HNX := Lib.hid (show NX (stD d l (k + 1)) 0 (a + 1) lf from (by rw [HSS.out, if_pos rfl, dsn hw]; exact nx0 h1))
            have hzb : ((a + 1) == (0 : Int)) = false := by simp; omega
            try clear h1
            try clear hw
            try clear h0
            go_upto_region 24 with (go_at_call 90; refine G.out.mono ?_; rintro e w9 ⟨rfl, rfl⟩)
            try clear G HLr
            go_wp2_with ((at_builtin; refine wpList_append_own _ rfl (.tmp 57) (.tmp 59) 22 rfl wB.heap.size 3 i0 (.int .i64 0) 1 8 Try.underlying22 hi0 hz0 hz1 hz2 rfl (by decide) _ (A).length ((A).map (Value.int .i64)) rfl ?c0x30 _ _ _ [.int .i64 (a + 1)] rfl rfl ?c1x30 ?c2x30 ?c3x30 ?c4x30 ?c5x30 ?_))
            case c0x30 => exact World.ownsRow.alloc (hO).out _
            try (case c1x30 => exact one_cell _ _ _ rfl)
            case c2x30 => first | rfl | (intro u hu; simp only [List.mem_cons, List.not_mem_nil, or_false] at hu; subst hu; rfl)
            case c3x30 => unfold maxLen; omega
            case c4x30 => omega
            case c5x30 => first | exact Nat.le_trans hsz (al_le _ _) | (simp; omega) | omega
            intro v3 w3 hown3 hgrow3 _
            obtain ⟨_, _, _, hob3⟩ := ownsRow_shape (hO).out
            have hbX3 := below_grown hgrow3 hob3 (Nat.le_trans hsz (al_le _ _))
            have HBA3 := Lib.hid (((Below.refl _ _).alloc hsz _).trans hbX3)
            have HO3 := Lib.hid (own_snoc hown3)
            obtain ⟨r3, c3, rfl, _⟩ := ownsRow_shape hown3
            clear hown3 hgrow3 hbX3 hob3
            have HB3 := Lib.hid (hb.out.trans HBA3.out)
            have HNC2 : Hid (∀ j, j ≤ k + 1 → (stD d l j).ph ≠ 3) := Lib.hid (fun j hj => by
              by_cases hjk : j = k + 1
              · rw [hjk]; exact HNX.out.1
              · exact hnc.out j (by omega))
            have hk3 := (HST.out (k + 1) HNC2.out).2
            go_wp2
            go_roundw
            case rel => exact ⟨k + 1, _, _, _, by first | rfl | go_num, rfl, rfl, rfl, Lib.hid HNX.out.2, HNC2, by rw [HOS.out, ← HNX.out.2.1]; first | exact HO3 | (rw [List.length_append] at HO3; exact HO3), HB3, hk3⟩
            case measure => simp [intOf] <;> omega
    · have ic := ic rfl
      clear iw io hp
      cases q
      · by_cases h1 : a - 1 = 0
        · have HNX := Lib.hid (show (stD d l (k + 1)).ph = 3 ∧ (stD d l (k + 1)).at' = (a - 1) from (by rw [HSS.out, if_neg (by decide)]; exact cl2 h1))
          have hzb : ((a - 1) == (0 : Int)) = true := by simp; omega
          try clear h1
          try clear hw
          try clear h0
          go_upto_region 24 with (go_at_call 90; refine G.out.mono ?_; rintro e w9 ⟨rfl, rfl⟩)
          try clear G HLr
          go_wp2_with ((at_builtin; refine wpList_append_own _ rfl (.tmp 57) (.tmp 59) 22 rfl wB.heap.size 3 i0 (.int .i64 0) 1 8 Try.underlying22 hi0 hz0 hz1 hz2 rfl (by decide) _ (A).length ((A).map (Value.int .i64)) rfl ?c0x34 _ _ _ [.int .i64 (a - 1)] rfl rfl ?c1x34 ?c2x34 ?c3x34 ?c4x34 ?c5x34 ?_))
          case c0x34 => exact World.ownsRow.alloc (hO).out _
          try (case c1x34 => exact one_cell _ _ _ rfl)
          case c2x34 => first | rfl | (intro u hu; simp only [List.mem_cons, List.not_mem_nil, or_false] at hu; subst hu; rfl)
          case c3x34 => unfold maxLen; omega
          case c4x34 => omega
          case c5x34 => first | exact Nat.le_trans hsz (al_le _ _) | (simp; omega) | omega
          intro v3 w3 hown3 hgrow3 _
          obtain ⟨_, _, _, hob3⟩ := ownsRow_shape (hO).out
          have hbX3 := below_grown hgrow3 hob3 (Nat.le_trans hsz (al_le _ _))
          have HBA3 := Lib.hid (((Below.refl _ _).alloc hsz _).trans hbX3)
          have HO3 := Lib.hid (own_snoc hown3)
          obtain ⟨r3, c3, rfl, _⟩ := ownsRow_shape hown3
          clear hown3 hgrow3 hbX3 hob3
          have HB3 := Lib.hid (hb.out.trans HBA3.out)
          have HDX := Lib.hid (HDN.out (k + 1) (by omega) (fun j hj => hnc.out j (by omega)) HNX.out.1)
          go_wp2
          go_ret2
          exact ⟨_, by rw [HE.out]; rfl, by rw [HR.out, HDX.out, HOS.out, HNX.out.2]; exact InAt.of_own HO3.out, HB.out.trans ((HB1.out.trans (HB3.out.mono HB1.out.size)).mono HB.out.size)⟩
        · have HNX := Lib.hid (show NX (stD d l (k + 1)) 2 (a - 1) lf from (by rw [HSS.out, if_neg (by decide)]; exact nx2 h1))
          have hzb : ((a - 1) == (0 : Int)) = false := by simp; omega
          try clear h1
          try clear hw
          try clear h0
          go_upto_region 24 with (go_at_call 90; refine G.out.mono ?_; rintro e w9 ⟨rfl, rfl⟩)
          try clear G HLr
          go_wp2_with ((at_builtin; refine wpList_append_own _ rfl (.tmp 57) (.tmp 59) 22 rfl wB.heap.size 3 i0 (.int .i64 0) 1 8 Try.underlying22 hi0 hz0 hz1 hz2 rfl (by decide) _ (A).length ((A).map (Value.int .i64)) rfl ?c0x38 _ _ _ [.int .i64 (a - 1)] rfl rfl ?c1x38 ?c2x38 ?c3x38 ?c4x38 ?c5x38 ?_))
          case c0x38 => exact World.ownsRow.alloc (hO).out _
          try (case c1x38 => exact one_cell _ _ _ rfl)
          case c2x38 => first | rfl | (intro u hu; simp only [List.mem_cons, List.not_mem_nil, or_false] at hu; subst hu; rfl)
          case c3x38 => unfold maxLen; omega
          case c4x38 => omega
          case c5x38 => first | exact Nat.le_trans hsz (al_le _ _) | (simp; omega) | omega
          intro v3 w3 hown3 hgrow3 _
          obtain ⟨_, _, _, hob3⟩ := ownsRow_shape (hO).out
          have hbX3 := below_grown hgrow3 hob3 (Nat.le_trans hsz (al_le _ _))
          have HBA3 := Lib.hid (((Below.refl _ _).alloc hsz _).trans hbX3)
          have HO3 := Lib.hid (own_snoc hown3)
          obtain ⟨r3, c3, rfl, _⟩ := ownsRow_shape hown3
          clear hown3 hgrow3 hbX3 hob3
          have HB3 := Lib.hid (hb.out.trans HBA3.out)
          have HNC2 : Hid (∀ j, j ≤ k + 1 → (stD d l j).ph ≠ 3) := Lib.hid (fun j hj => by
            by_cases hjk : j = k + 1
            · rw [hjk]; exact HNX.out.1
            · exact hnc.out j (by omega))
          have hk3 := (HST.out (k + 1) HNC2.out).2
          go_wp2
          go_roundw
          case rel => exact ⟨k + 1, _, _, _, by first | rfl | go_num, rfl, rfl, rfl, Lib.hid HNX.out.2, HNC2, by rw [HOS.out, ← HNX.out.2.1]; first | exact HO3 | (rw [List.length_append] at HO3; exact HO3), HB3, hk3⟩
          case measure => simp [intOf] <;> omega
      · by_cases hw : a = d.wide
        · have hwb : (a == d.wide) = true := by simpa using hw
          by_cases h0 : d.wait = 0
          · have h0b : (d.wait == (0 : Int)) = true := by simpa using h0
            by_cases h1 : a - 1 = 0
            · have HNX := Lib.hid (show (stD d l (k + 1)).ph = 3 ∧ (stD d l (k + 1)).at' = (a - 1) from (by rw [HSS.out, if_pos rfl, dsw hw]; exact clw h0 h1))
              have hzb : ((a - 1) == (0 : Int)) = true := by simp; omega
              try clear h1
              try clear hw
              try clear h0
              go_wp2_with (go_at_call 90; refine G.out.mono ?_; rintro e w9 ⟨rfl, rfl⟩)
              go_quiet (fail)
              go_wp2_with ((at_builtin; refine wpList_append_own _ rfl (.tmp 57) (.tmp 59) 22 rfl wB.heap.size 3 i0 (.int .i64 0) 1 8 Try.underlying22 hi0 hz0 hz1 hz2 rfl (by decide) _ (A).length ((A).map (Value.int .i64)) rfl ?c0x43 _ _ _ [.int .i64 (a - 1)] rfl rfl ?c1x43 ?c2x43 ?c3x43 ?c4x43 ?c5x43 ?_))
              case c0x43 => exact World.ownsRow.alloc (own_drewN hO _).out _
              try (case c1x43 => exact one_cell _ _ _ rfl)
              case c2x43 => first | rfl | (intro u hu; simp only [List.mem_cons, List.not_mem_nil, or_false] at hu; subst hu; rfl)
              case c3x43 => unfold maxLen; omega
              case c4x43 => omega
              case c5x43 => first | exact Nat.le_trans hsz (al_le _ _) | (simp; omega) | omega
              intro v3 w3 hown3 hgrow3 _
              obtain ⟨_, _, _, hob3⟩ := ownsRow_shape (hO).out
              have hbX3 := below_grown hgrow3 hob3 (Nat.le_trans hsz (al_le _ _))
              have HBA3 := Lib.hid (((below_drewN (Below.refl _ _) _).alloc hsz _).trans hbX3)
              have HO3 := Lib.hid (own_snoc hown3)
              obtain ⟨r3, c3, rfl, _⟩ := ownsRow_shape hown3
              clear hown3 hgrow3 hbX3 hob3
              have HB3 := Lib.hid (hb.out.trans HBA3.out)
              have HDX := Lib.hid (HDN.out (k + 1) (by omega) (fun j hj => hnc.out j (by omega)) HNX.out.1)
              go_wp2
              go_ret2
              exact ⟨_, by rw [HE.out]; rfl, by rw [HR.out, HDX.out, HOS.out, HNX.out.2]; exact InAt.of_own HO3.out, HB.out.trans ((HB1.out.trans (HB3.out.mono HB1.out.size)).mono HB.out.size)⟩
            · have HNX := Lib.hid (show NX (stD d l (k + 1)) 2 (a - 1) d.wait from (by rw [HSS.out, if_pos rfl, dsw hw]; exact nxw0 h0 h1))
              have hzb : ((a - 1) == (0 : Int)) = false := by simp; omega
              try clear h1
              try clear hw
              try clear h0
              go_wp2_with (go_at_call 90; refine G.out.mono ?_; rintro e w9 ⟨rfl, rfl⟩)
              go_quiet (fail)
              go_wp2_with ((at_builtin; refine wpList_append_own _ rfl (.tmp 57) (.tmp 59) 22 rfl wB.heap.size 3 i0 (.int .i64 0) 1 8 Try.underlying22 hi0 hz0 hz1 hz2 rfl (by decide) _ (A).length ((A).map (Value.int .i64)) rfl ?c0x46 _ _ _ [.int .i64 (a - 1)] rfl rfl ?c1x46 ?c2x46 ?c3x46 ?c4x46 ?c5x46 ?_))
              case c0x46 => exact World.ownsRow.alloc (own_drewN hO _).out _
              try (case c1x46 => exact one_cell _ _ _ rfl)
              case c2x46 => first | rfl | (intro u hu; simp only [List.mem_cons, List.not_mem_nil, or_false] at hu; subst hu; rfl)
              case c3x46 => unfold maxLen; omega
              case c4x46 => omega
              case c5x46 => first | exact Nat.le_trans hsz (al_le _ _) | (simp; omega) | omega
              intro v3 w3 hown3 hgrow3 _
              obtain ⟨_, _, _, hob3⟩ := ownsRow_shape (hO).out
              have hbX3 := below_grown hgrow3 hob3 (Nat.le_trans hsz (al_le _ _))
              have HBA3 := Lib.hid (((below_drewN (Below.refl _ _) _).alloc hsz _).trans hbX3)
              have HO3 := Lib.hid (own_snoc hown3)
              obtain ⟨r3, c3, rfl, _⟩ := ownsRow_shape hown3
              clear hown3 hgrow3 hbX3 hob3
              have HB3 := Lib.hid (hb.out.trans HBA3.out)
              have HNC2 : Hid (∀ j, j ≤ k + 1 → (stD d l j).ph ≠ 3) := Lib.hid (fun j hj => by
                by_cases hjk : j = k + 1
                · rw [hjk]; exact HNX.out.1
                · exact hnc.out j (by omega))
              have hk3 := (HST.out (k + 1) HNC2.out).2
              go_wp2
              go_roundw
              case rel => exact ⟨k + 1, _, _, _, by first | rfl | go_num, rfl, rfl, rfl, Lib.hid HNX.out.2, HNC2, by rw [HOS.out, ← HNX.out.2.1]; first | exact HO3 | (rw [List.length_append] at HO3; exact HO3), HB3, hk3⟩
              case measure => simp [intOf] <;> omega
          · have h0b : (d.wait == (0 : Int)) = false := by simpa using h0
            have HNX := Lib.hid (show NX (stD d l (k + 1)) 1 a (d.wait - 1) from (by rw [HSS.out, if_pos rfl, dsw hw]; exact nxw h0))
            have hzb : (a == (0 : Int)) = false := by simp; omega
            try clear h1
            try clear hw
            try clear h0
            go_wp2_with (go_at_call 90; refine G.out.mono ?_; rintro e w9 ⟨rfl, rfl⟩)
            go_quiet (fail)
            go_wp2_with ((at_builtin; refine wpList_append_own _ rfl (.tmp 57) (.tmp 59) 22 rfl wB.heap.size 3 i0 (.int .i64 0) 1 8 Try.underlying22 hi0 hz0 hz1 hz2 rfl (by decide) _ (A).length ((A).map (Value.int .i64)) rfl ?c0x49 _ _ _ [.int .i64 a] rfl rfl ?c1x49 ?c2x49 ?c3x49 ?c4x49 ?c5x49 ?_))
            case c0x49 => exact World.ownsRow.alloc (own_drewN hO _).out _
            try (case c1x49 => exact one_cell _ _ _ rfl)
            case c2x49 => first | rfl | (intro u hu; simp only [List.mem_cons, List.not_mem_nil, or_false] at hu; subst hu; rfl)
            case c3x49 => unfold maxLen; omega
            case c4x49 => omega
            case c5x49 => first | exact Nat.le_trans hsz (al_le _ _) | (simp; omega) | omega
            intro v3 w3 hown3 hgrow3 _
            obtain ⟨_, _, _, hob3⟩ := ownsRow_shape (hO).out
            have hbX3 := below_grown hgrow3 hob3 (Nat.le_trans hsz (al_le _ _))
            have HBA3 := Lib.hid (((below_drewN (Below.refl _ _) _).alloc hsz _).trans hbX3)
            have HO3 := Lib.hid (own_snoc hown3)
            obtain ⟨r3, c3, rfl, _⟩ := ownsRow_shape hown3
            clear hown3 hgrow3 hbX3 hob3
            have HB3 := Lib.hid (hb.out.trans HBA3.out)
            have HNC2 : Hid (∀ j, j ≤ k + 1 → (stD d l j).ph ≠ 3) := Lib.hid (fun j hj => by
              by_cases hjk : j = k + 1
              · rw [hjk]; exact HNX.out.1
              · exact hnc.out j (by omega))
            have hk3 := (HST.out (k + 1) HNC2.out).2
            go_wp2
            go_roundw
            case rel => exact ⟨k + 1, _, _, _, by first | rfl | go_num, rfl, rfl, rfl, Lib.hid HNX.out.2, HNC2, by rw [HOS.out, ← HNX.out.2.1]; first | exact HO3 | (rw [List.length_append] at HO3; exact HO3), HB3, hk3⟩
            case measure => simp [intOf] <;> omega
        · have hwb : (a == d.wide) = false := by simpa using hw
          by_cases h1 : a + 1 = d.wide
          · have h1b : (a + 1 == d.wide) = true := by simpa using h1
            have HNX := Lib.hid (show NX (stD d l (k + 1)) 1 (a + 1) d.wait from (by rw [HSS.out, if_pos rfl, dsn hw]; exact nx0w h1))
            have hzb : ((a + 1) == (0 : Int)) = false := by simp; omega
            try clear h1
            try clear hw
            try clear h0
            go_wp2_with (go_at_call 90; refine G.out.mono ?_; rintro e w9 ⟨rfl, rfl⟩)
            go_quiet (fail)
            go_wp2_with ((at_builtin; refine wpList_append_own _ rfl (.tmp 57) (.tmp 59) 22 rfl wB.heap.size 3 i0 (.int .i64 0) 1 8 Try.underlying22 hi0 hz0 hz1 hz2 rfl (by decide) _ (A).length ((A).map (Value.int .i64)) rfl ?c0x52 _ _ _ [.int .i64 (a + 1)] rfl rfl ?c1x52 ?c2x52 ?c3x52 ?c4x52 ?c5x52 ?_))
            case c0x52 => exact World.ownsRow.alloc (own_drewN hO _).out _
            try (case c1x52 => exact one_cell _ _ _ rfl)
            case c2x52 => first | rfl | (intro u hu; simp only [List.mem_cons, List.not_mem_nil, or_false] at hu; subst hu; rfl)
            case c3x52 => unfold maxLen; omega
            case c4x52 => omega
            case c5x52 => first | exact Nat.le_trans hsz (al_le _ _) | (simp; omega) | omega
            intro v3 w3 hown3 hgrow3 _
            obtain ⟨_, _, _, hob3⟩ := ownsRow_shape (hO).out
            have hbX3 := below_grown hgrow3 hob3 (Nat.le_trans hsz (al_le _ _))
            have HBA3 := Lib.hid (((below_drewN (Below.refl _ _) _).alloc hsz _).trans hbX3)
            have HO3 := Lib.hid (own_snoc hown3)
            obtain ⟨r3, c3, rfl, _⟩ := ownsRow_shape hown3
            clear hown3 hgrow3 hbX3 hob3
            have HB3 := Lib.hid (hb.out.trans HBA3.out)
            have HNC2 : Hid (∀ j, j ≤ k + 1 → (stD d l j).ph ≠ 3) := Lib.hid (fun j hj => by
              by_cases hjk : j = k + 1
              · rw [hjk]; exact HNX.out.1
              · exact hnc.out j (by omega))
            have hk3 := (HST.out (k + 1) HNC2.out).2
            go_wp2
            go_roundw
            case rel => exact ⟨k + 1, _, _, _, by first | rfl | go_num, rfl, rfl, rfl, Lib.hid HNX.out.2, HNC2, by rw [HOS.out, ← HNX.out.2.1]; first | exact HO3 | (rw [List.length_append] at HO3; exact HO3), HB3, hk3⟩
            case measure => simp [intOf] <;> omega
          · have h1b : (a + 1 == d.wide) = false := by simpa using h1
            have HNX := Lib.hid (show NX (stD d l (k + 1)) 0 (a + 1) lf from (by rw [HSS.out, if_pos rfl, dsn hw]; exact nx0 h1))
            have hzb : ((a + 1) == (0 : Int)) = false := by simp; omega
            try clear h1
            try clear hw
            try clear h0
            go_upto_region 24 with (go_at_call 90; refine G.out.mono ?_; rintro e w9 ⟨rfl, rfl⟩)
            try clear G HLr
            go_wp2_with ((at_builtin; refine wpList_append_own _ rfl (.tmp 57) (.tmp 59) 22 rfl wB.heap.size 3 i0 (.int .i64 0) 1 8 Try.underlying22 hi0 hz0 hz1 hz2 rfl (by decide) _ (A).length ((A).map (Value.int .i64)) rfl ?c0x55 _ _ _ [.int .i64 (a + 1)] rfl rfl ?c1x55 ?c2x55 ?c3x55 ?c4x55 ?c5x55 ?_))
            case c0x55 => exact World.ownsRow.alloc (hO).out _
            try (case c1x55 => exact one_cell _ _ _ rfl)
            case c2x55 => first | rfl | (intro u hu; simp only [List.mem_cons, List.not_mem_nil, or_false] at hu; subst hu; rfl)
            case c3x55 => unfold maxLen; omega
            case c4x55 => omega
            case c5x55 => first | exact Nat.le_trans hsz (al_le _ _) | (simp; omega) | omega
            intro v3 w3 hown3 hgrow3 _
            obtain ⟨_, _, _, hob3⟩ := ownsRow_shape (hO).out
            have hbX3 := below_grown hgrow3 hob3 (Nat.le_trans hsz (al_le _ _))
            have HBA3 := Lib.hid (((Below.refl _ _).alloc hsz _).trans hbX3)
            have HO3 := Lib.hid (own_snoc hown3)
            obtain ⟨r3, c3, rfl, _⟩ := ownsRow_shape hown3
            clear hown3 hgrow3 hbX3 hob3
            have HB3 := Lib.hid (hb.out.trans HBA3.out)
            have HNC2 : Hid (∀ j, j ≤ k + 1 → (stD d l j).ph ≠ 3) := Lib.hid (fun j hj => by
              by_cases hjk : j = k + 1
              · rw [hjk]; exact HNX.out.1
              · exact hnc.out j (by omega))
            have hk3 := (HST.out (k + 1) HNC2.out).2
            go_wp2
            go_roundw
            case rel => exact ⟨k + 1, _, _, _, by first | rfl | go_num, rfl, rfl, rfl, Lib.hid HNX.out.2, HNC2, by rw [HOS.out, ← HNX.out.2.1]; first | exact HO3 | (rw [List.length_append] at HO3; exact HO3), HB3, hk3⟩
            case measure => simp [intOf] <;> omega
    · have ic := ic rfl
      clear iw io hp
      cases q
      · by_cases h1 : a - 1 = 0
        · have HNX := Lib.hid (show (stD d l (k + 1)).ph = 3 ∧ (stD d l (k + 1)).at' = (a - 1) from (by rw [HSS.out, if_neg (by decide)]; exact cl2 h1))
          have hzb : ((a - 1) == (0 : Int)) = true := by simp; omega
          try clear h1
          try clear hw
          try clear h0
          go_upto_region 24 with (go_at_call 90; refine G.out.mono ?_; rintro e w9 ⟨rfl, rfl⟩)
          try clear G HLr
          go_wp2_with ((at_builtin; refine wpList_append_own _ rfl (.tmp 57) (.tmp 59) 22 rfl wB.heap.size 3 i0 (.int .i64 0) 1 8 Try.underlying22 hi0 hz0 hz1 hz2 rfl (by decide) _ (A).length ((A).map (Value.int .i64)) rfl ?c0x59 _ _ _ [.int .i64 (a - 1)] rfl rfl ?c1x59 ?c2x59 ?c3x59 ?c4x59 ?c5x59 ?_))
          case c0x59 => exact World.ownsRow.alloc (hO).out _
          try (case c1x59 => exact one_cell _ _ _ rfl)
          case c2x59 => first | rfl | (intro u hu; simp only [List.mem_cons, List.not_mem_nil, or_false] at hu; subst hu; rfl)
          case c3x59 => unfold maxLen; omega
          case c4x59 => omega
          case c5x59 => first | exact Nat.le_trans hsz (al_le _ _) | (simp; omega) | omega
          intro v3 w3 hown3 hgrow3 _
          obtain ⟨_, _, _, hob3⟩ := ownsRow_shape (hO).out
          have hbX3 := below_grown hgrow3 hob3 (Nat.le_trans hsz (al_le _ _))
          have HBA3 := Lib.hid (((Below.refl _ _).alloc hsz _).trans hbX3)
          have HO3 := Lib.hid (own_snoc hown3)
          obtain ⟨r3, c3, rfl, _⟩ := ownsRow_shape hown3
          clear hown3 hgrow3 hbX3 hob3
          have HB3 := Lib.hid (hb.out.trans HBA3.out)
          have HDX := Lib.hid (HDN.out (k + 1) (by omega) (fun j hj => hnc.out j (by omega)) HNX.out.1)
          go_wp2
          go_ret2
          exact ⟨_, by rw [HE.out]; rfl, by rw [HR.out, HDX.out, HOS.out, HNX.out.2]; exact InAt.of_own HO3.out, HB.out.trans ((HB1.out.trans (HB3.out.mono HB1.out.size)).mono HB.out.size)⟩
        · have HNX := Lib.hid (show NX (stD d l (k + 1)) 2 (a - 1) 0 from (by rw [HSS.out, if_neg (by decide)]; exact nx2 h1))
          have hzb : ((a - 1) == (0 : Int)) = false := by simp; omega
          try clear h1
          try clear hw
          try clear h0
          go_upto_region 24 with (go_at_call 90; refine G.out.mono ?_; rintro e w9 ⟨rfl, rfl⟩)
          try clear G HLr
          go_wp2_with ((at_builtin; refine wpList_append_own _ rfl (.tmp 57) (.tmp 59) 22 rfl wB.heap.size 3 i0 (.int .i64 0) 1 8 Try.underlying22 hi0 hz0 hz1 hz2 rfl (by decide) _ (A).length ((A).map (Value.int .i64)) rfl ?c0x63 _ _ _ [.int .i64 (a - 1)] rfl rfl ?c1x63 ?c2x63 ?c3x63 ?c4x63 ?c5x63 ?_))
          case c0x63 => exact World.ownsRow.alloc (hO).out _
          try (case c1x63 => exact one_cell _ _ _ rfl)
          case c2x63 => first | rfl | (intro u hu; simp only [List.mem_cons, List.not_mem_nil, or_false] at hu; subst hu; rfl)
          case c3x63 => unfold maxLen; omega
          case c4x63 => omega
          case c5x63 => first | exact Nat.le_trans hsz (al_le _ _) | (simp; omega) | omega
          intro v3 w3 hown3 hgrow3 _
          obtain ⟨_, _, _, hob3⟩ := ownsRow_shape (hO).out
          have hbX3 := below_grown hgrow3 hob3 (Nat.le_trans hsz (al_le _ _))
          have HBA3 := Lib.hid (((Below.refl _ _).alloc hsz _).trans hbX3)
          have HO3 := Lib.hid (own_snoc hown3)
          obtain ⟨r3, c3, rfl, _⟩ := ownsRow_shape hown3
          clear hown3 hgrow3 hbX3 hob3
          have HB3 := Lib.hid (hb.out.trans HBA3.out)
          have HNC2 : Hid (∀ j, j ≤ k + 1 → (stD d l j).ph ≠ 3) := Lib.hid (fun j hj => by
            by_cases hjk : j = k + 1
            · rw [hjk]; exact HNX.out.1
            · exact hnc.out j (by omega))
          have hk3 := (HST.out (k + 1) HNC2.out).2
          go_wp2
          go_roundw
          case rel => exact ⟨k + 1, _, _, _, by first | rfl | go_num, rfl, rfl, rfl, Lib.hid HNX.out.2, HNC2, by rw [HOS.out, ← HNX.out.2.1]; first | exact HO3 | (rw [List.length_append] at HO3; exact HO3), HB3, hk3⟩
          case measure => simp [intOf] <;> omega
      · by_cases hw : a = d.wide
        · have hwb : (a == d.wide) = true := by simpa using hw
          by_cases h0 : d.wait = 0
          · have h0b : (d.wait == (0 : Int)) = true := by simpa using h0
            by_cases h1 : a - 1 = 0
            · have HNX := Lib.hid (show (stD d l (k + 1)).ph = 3 ∧ (stD d l (k + 1)).at' = (a - 1) from (by rw [HSS.out, if_pos rfl, dsw hw]; exact clw h0 h1))
              have hzb : ((a - 1) == (0 : Int)) = true := by simp; omega
              try clear h1
              try clear hw
              try clear h0
              go_wp2_with (go_at_call 90; refine G.out.mono ?_; rintro e w9 ⟨rfl, rfl⟩)
              go_quiet (fail)
              go_wp2_with ((at_builtin; refine wpList_append_own _ rfl (.tmp 57) (.tmp 59) 22 rfl wB.heap.size 3 i0 (.int .i64 0) 1 8 Try.underlying22 hi0 hz0 hz1 hz2 rfl (by decide) _ (A).length ((A).map (Value.int .i64)) rfl ?c0x68 _ _ _ [.int .i64 (a - 1)] rfl rfl ?c1x68 ?c2x68 ?c3x68 ?c4x68 ?c5x68 ?_))
              case c0x68 => exact World.ownsRow.alloc (own_drewN hO _).out _
              try (case c1x68 => exact one_cell _ _ _ rfl)
              case c2x68 => first | rfl | (intro u hu; simp only [List.mem_cons, List.not_mem_nil, or_false] at hu; subst hu; rfl)
              case c3x68 => unfold maxLen; omega
              case c4x68 => omega
              case c5x68 => first | exact Nat.le_trans hsz (al_le _ _) | (simp; omega) | omega
              intro v3 w3 hown3 hgrow3 _
              obtain ⟨_, _, _, hob3⟩ := ownsRow_shape (hO).out
              have hbX3 := below_grown hgrow3 hob3 (Nat.le_trans hsz (al_le _ _))
              have HBA3 := Lib.hid (((below_drewN (Below.refl _ _) _).alloc hsz _).trans hbX3)
              have HO3 := Lib.hid (own_snoc hown3)
              obtain ⟨r3, c3, rfl, _⟩ := ownsRow_shape hown3
              clear hown3 hgrow3 hbX3 hob3
              have HB3 := Lib.hid (hb.out.trans HBA3.out)
              have HDX := Lib.hid (HDN.out (k + 1) (by omega) (fun j hj => hnc.out j (by omega)) HNX.out.1)
              go_wp2
              go_ret2
              exact ⟨_, by rw [HE.out]; rfl, by rw [HR.out, HDX.out, HOS.out, HNX.out.2]; exact InAt.of_own HO3.out, HB.out.trans ((HB1.out.trans (HB3.out.mono HB1.out.size)).mono HB.out.size)⟩
            · have HNX := Lib.hid (show NX (stD d l (k + 1)) 2 (a - 1) d.wait from (by rw [HSS.out, if_pos rfl, dsw hw]; exact nxw0 h0 h1))
              have hzb : ((a - 1) == (0 : Int)) = false := by simp; omega
              try clear h1
              try clear hw
              try clear h0
              go_wp2_with (go_at_call 90; refine G.out.mono ?_; rintro e w9 ⟨rfl, rfl⟩)
              go_quiet (fail)
              go_wp2_with ((at_builtin; refine wpList_append_own _ rfl (.tmp 57) (.tmp 59) 22 rfl wB.heap.size 3 i0 (.int .i64 0) 1 8 Try.underlying22 hi0 hz0 hz1 hz2 rfl (by decide) _ (A).length ((A).map (Value.int .i64)) rfl ?c0x71 _ _ _ [.int .i64 (a - 1)] rfl rfl ?c1x71 ?c2x71 ?c3x71 ?c4x71 ?c5x71 ?_))
              case c0x71 => exact World.ownsRow.alloc (own_drewN hO _).out _
              try (case c1x71 => exact one_cell _ _ _ rfl)
              case c2x71 => first | rfl | (intro u hu; simp only [List.mem_cons, List.not_mem_nil, or_false] at hu; subst hu; rfl)
              case c3x71 => unfold maxLen; omega
              case c4x71 => omega
              case c5x71 => first | exact Nat.le_trans hsz (al_le _ _) | (simp; omega) | omega
              intro v3 w3 hown3 hgrow3 _
              obtain ⟨_, _, _, hob3⟩ := ownsRow_shape (hO).out
              have hbX3 := below_grown hgrow3 hob3 (Nat.le_trans hsz (al_le _ _))
              have HBA3 := Lib.hid (((below_drewN (Below.refl _ _) _).alloc hsz _).trans hbX3)
              have HO3 := Lib.hid (own_snoc hown3)
              obtain ⟨r3, c3, rfl, _⟩ := ownsRow_shape hown3
              clear hown3 hgrow3 hbX3 hob3
              have HB3 := Lib.hid (hb.out.trans HBA3.out)
              have HNC2 : Hid (∀ j, j ≤ k + 1 → (stD d l j).ph ≠ 3) := Lib.hid (fun j hj => by
                by_cases hjk : j = k + 1
                · rw [hjk]; exact HNX.out.1
                · exact hnc.out j (by omega))
              have hk3 := (HST.out (k + 1) HNC2.out).2
              go_wp2
              go_roundw
              case rel => exact ⟨k + 1, _, _, _, by first | rfl | go_num, rfl, rfl, rfl, Lib.hid HNX.out.2, HNC2, by rw [HOS.out, ← HNX.out.2.1]; first | exact HO3 | (rw [List.length_append] at HO3; exact HO3), HB3, hk3⟩
              case measure => simp [intOf] <;> omega
          · have h0b : (d.wait == (0 : Int)) = false := by simpa using h0
            have HNX := Lib.hid (show NX (stD d l (k + 1)) 1 a (d.wait - 1) from (by rw [HSS.out, if_pos rfl, dsw hw]; exact nxw h0))
            have hzb : (a == (0 : Int)) = false := by simp; omega
            try clear h1
            try clear hw
            try clear h0
            go_wp2_with (go_at_call 90; refine G.out.mono ?_; rintro e w9 ⟨rfl, rfl⟩)
            go_quiet (fail)
            go_wp2_with ((at_builtin; refine wpList_append_own _ rfl (.tmp 57) (.tmp 59) 22 rfl wB.heap.size 3 i0 (.int .i64 0) 1 8 Try.underlying22 hi0 hz0 hz1 hz2 rfl (by decide) _ (A).length ((A).map (Value.int .i64)) rfl ?c0x74 _ _ _ [.int .i64 a] rfl rfl ?c1x74 ?c2x74 ?c3x74 ?c4x74 ?c5x74 ?_))
            case c0x74 => exact World.ownsRow.alloc (own_drewN hO _).out _
            try (case c1x74 => exact one_cell _ _ _ rfl)
            case c2x74 => first | rfl | (intro u hu; simp only [List.mem_cons, List.not_mem_nil, or_false] at hu; subst hu; rfl)
            case c3x74 => unfold maxLen; omega
            case c4x74 => omega
            case c5x74 => first | exact Nat.le_trans hsz (al_le _ _) | (simp; omega) | omega
            intro v3 w3 hown3 hgrow3 _
            obtain ⟨_, _, _, hob3⟩ := ownsRow_shape (hO).out
            have hbX3 := below_grown hgrow3 hob3 (Nat.le_trans hsz (al_le _ _))
            have HBA3 := Lib.hid (((below_drewN (Below.refl _ _) _).alloc hsz _).trans hbX3)
            have HO3 := Lib.hid (own_snoc hown3)
            obtain ⟨r3, c3, rfl, _⟩ := ownsRow_shape hown3
            clear hown3 hgrow3 hbX3 hob3
            have HB3 := Lib.hid (hb.out.trans HBA3.out)
            have HNC2 : Hid (∀ j, j ≤ k + 1 → (stD d l j).ph ≠ 3) := Lib.hid (fun j hj => by
              by_cases hjk : j = k + 1
              · rw [hjk]; exact HNX.out.1
              · exact hnc.out j (by omega))
            have hk3 := (HST.out (k + 1) HNC2.out).2
            go_wp2
            go_roundw
            case rel => exact ⟨k + 1, _, _, _, by first | rfl | go_num, rfl, rfl, rfl, Lib.hid HNX.out.2, HNC2, by rw [HOS.out, ← HNX.out.2.1]; first | exact HO3 | (rw [List.length_append] at HO3; exact HO3), HB3, hk3⟩
            case measure => simp [intOf] <;> omega
        · have hwb : (a == d.wide) = false := by simpa using hw
          by_cases h1 : a + 1 = d.wide
          · have h1b : (a + 1 == d.wide) = true := by simpa using h1
            have HNX := Lib.hid (show NX (stD d l (k + 1)) 1 (a + 1) d.wait from (by rw [HSS.out, if_pos rfl, dsn hw]; exact nx0w h1))
            have hzb : ((a + 1) == (0 : Int)) = false := by simp; omega
            try clear h1
            try clear hw
            try clear h0
            go_wp2_with (go_at_call 90; refine G.out.mono ?_; rintro e w9 ⟨rfl, rfl⟩)
            go_quiet (fail)
            go_wp2_with ((at_builtin; refine wpList_append_own _ rfl (.tmp 57) (.tmp 59) 22 rfl wB.heap.size 3 i0 (.int .i64 0) 1 8 Try.underlying22 hi0 hz0 hz1 hz2 rfl (by decide) _ (A).length ((A).map (Value.int .i64)) rfl ?c0x77 _ _ _ [.int .i64 (a + 1)] rfl rfl ?c1x77 ?c2x77 ?c3x77 ?c4x77 ?c5x77 ?_))
            case c0x77 => exact World.ownsRow.alloc (own_drewN hO _).out _
            try (case c1x77 => exact one_cell _ _ _ rfl)
            case c2x77 => first | rfl | (intro u hu; simp only [List.mem_cons, List.not_mem_nil, or_false] at hu; subst hu; rfl)
            case c3x77 => unfold maxLen; omega
            case c4x77 => omega
            case c5x77 => first | exact Nat.le_trans hsz (al_le _ _) | (simp; omega) | omega
            intro v3 w3 hown3 hgrow3 _
            obtain ⟨_, _, _, hob3⟩ := ownsRow_shape (hO).out
            have hbX3 := below_grown hgrow3 hob3 (Nat.le_trans hsz (al_le _ _))
            have HBA3 := Lib.hid (((below_drewN (Below.refl _ _) _).alloc hsz _).trans hbX3)
            have HO3 := Lib.hid (own_snoc hown3)
            obtain ⟨r3, c3, rfl, _⟩ := ownsRow_shape hown3
            clear hown3 hgrow3 hbX3 hob3
            have HB3 := Lib.hid (hb.out.trans HBA3.out)
            have HNC2 : Hid (∀ j, j ≤ k + 1 → (stD d l j).ph ≠ 3) := Lib.hid (fun j hj => by
              by_cases hjk : j = k + 1
              · rw [hjk]; exact HNX.out.1
              · exact hnc.out j (by omega))
            have hk3 := (HST.out (k + 1) HNC2.out).2
            go_wp2
            go_roundw
            case rel => exact ⟨k + 1, _, _, _, by first | rfl | go_num, rfl, rfl, rfl, Lib.hid HNX.out.2, HNC2, by rw [HOS.out, ← HNX.out.2.1]; first | exact HO3 | (rw [List.length_append] at HO3; exact HO3), HB3, hk3⟩
            case measure => simp [intOf] <;> omega
          · have h1b : (a + 1 == d.wide) = false := by simpa using h1
            have HNX := Lib.hid (show NX (stD d l (k + 1)) 0 (a + 1) 0 from (by rw [HSS.out, if_pos rfl, dsn hw]; exact nx0 h1))
            have hzb : ((a + 1) == (0 : Int)) = false := by simp; omega
            try clear h1
            try clear hw
            try clear h0
            go_upto_region 24 with (go_at_call 90; refine G.out.mono ?_; rintro e w9 ⟨rfl, rfl⟩)
            try clear G HLr
            go_wp2_with ((at_builtin; refine wpList_append_own _ rfl (.tmp 57) (.tmp 59) 22 rfl wB.heap.size 3 i0 (.int .i64 0) 1 8 Try.underlying22 hi0 hz0 hz1 hz2 rfl (by decide) _ (A).length ((A).map (Value.int .i64)) rfl ?c0x80 _ _ _ [.int .i64 (a + 1)] rfl rfl ?c1x80 ?c2x80 ?c3x80 ?c4x80 ?c5x80 ?_))
            case c0x80 => exact World.ownsRow.alloc (hO).out _
            try (case c1x80 => exact one_cell _ _ _ rfl)
            case c2x80 => first | rfl | (intro u hu; simp only [List.mem_cons, List.not_mem_nil, or_false] at hu; subst hu; rfl)
            case c3x80 => unfold maxLen; omega
            case c4x80 => omega
            case c5x80 => first | exact Nat.le_trans hsz (al_le _ _) | (simp; omega) | omega
            intro v3 w3 hown3 hgrow3 _
            obtain ⟨_, _, _, hob3⟩ := ownsRow_shape (hO).out
            have hbX3 := below_grown hgrow3 hob3 (Nat.le_trans hsz (al_le _ _))
            have HBA3 := Lib.hid (((Below.refl _ _).alloc hsz _).trans hbX3)
            have HO3 := Lib.hid (own_snoc hown3)
            obtain ⟨r3, c3, rfl, _⟩ := ownsRow_shape hown3
            clear hown3 hgrow3 hbX3 hob3
            have HB3 := Lib.hid (hb.out.trans HBA3.out)
            have HNC2 : Hid (∀ j, j ≤ k + 1 → (stD d l j).ph ≠ 3) := Lib.hid (fun j hj => by
              by_cases hjk : j = k + 1
              · rw [hjk]; exact HNX.out.1
              · exact hnc.out j (by omega))
            have hk3 := (HST.out (k + 1) HNC2.out).2
            go_wp2
            go_roundw
            case rel => exact ⟨k + 1, _, _, _, by first | rfl | go_num, rfl, rfl, rfl, Lib.hid HNX.out.2, HNC2, by rw [HOS.out, ← HNX.out.2.1]; first | exact HO3 | (rw [List.length_append] at HO3; exact HO3), HB3, hk3⟩
            case measure => simp [intOf] <;> omega

end Go.Proofs.Ytnefbiaopconkaa
