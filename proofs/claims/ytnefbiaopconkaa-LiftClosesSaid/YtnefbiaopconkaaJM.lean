/- Walks of layer 5 (lift): Doors, Dwell of the program. -/
import Derived.Test.YtnefbiaopconkaaJL
import Derived.Test.YtnefbiaopconkaaJB
namespace Go.Proofs.Ytnefbiaopconkaa
open Go.RowKit

theorem own_turned {w w' : World} {base g : Nat} {d : Dor} {s : DSt} {e : TypeId} {size n : Nat} {v : Value} {xs : List Value} (h : w.ownsRow base e size v n xs) (ht : Turned d s g w w') (hg : g < base) : w'.ownsRow base e size v n xs :=
  ownsRow_of_heap h fun b o hb ho => ht.2.2 b o (by omega) ho

set_option maxRecDepth 100000 in
set_option maxHeartbeats 4000000 in
theorem lplay_any (d : Dor) (v : Value) (l : List Int) (w : World) (hl : InAt w v l) (hd : dorB d = true) (hb20 : l.length ≤ 20) (hs : ascTo l 100000 l.length = true) :
    Calls Try.prog 89 #[dorV d, v] w (ListRes (outL d l (doorN d l)) w) := by
  have HB := Lib.hid (blw2 w (dorO d) (movO d ⟨0, 0, 0⟩))
  have K1 := Lib.hid (two_nw w (dorO d) (movO d ⟨0, 0, 0⟩))
  have HSZ : Hid (((w.alloc (dorO d)).alloc (movO d ⟨0, 0, 0⟩)).heap.size = w.heap.size + 2) := Lib.hid (by simp only [size_alloc])
  have HL := Lib.hid hl
  have HD := Lib.hid hd
  have HBI := Lib.hid (fun (k : Nat) (hk : k ≤ 100000) w1 (h : InAt w1 v l) => binary_any v l 100000 k w1 h hs (by omega) hk)
  have HST := Lib.hid (fun k h => st_bd hd hb20 (k := k) h)
  have HIN := Lib.hid (fun k h => (st_in hd l k h).1)
  have HDN := Lib.hid (fun k h0 h1 h2 => @doorN_is d l k h0 h1 h2)
  obtain ⟨la, lcap, rfl, ln, lcp, lc⟩ := hl
  clear lc hd hs
  go_enter Try.func89, Try.ntmps89
  go_wp2_with fail
  generalize hwB : (w.alloc (dorO d)).alloc (movO d ⟨0, 0, 0⟩) = wB at *
  clear hwB
  obtain ⟨g, hg⟩ : ∃ g, w.heap.size + 1 = g := ⟨_, rfl⟩
  have HG := Lib.hid hg
  rw [hg] at K1 ⊢
  clear hg
  obtain ⟨i0, hi0, hz0, hz1, hz2⟩ := info_parts infoInt
  go_loopw [5, 7] (fun vv tt wr => ∃ k : Nat, tt = .int .i64 k ∧ Hid (wr.heap[g]? = some (movO d (stD d l k))) ∧ Hid (∀ j, j < k → (stD d l j).ph ≠ 3) ∧ Hid (wr.ownsRow wB.heap.size 3 1 vv (outL d l k).length ((outL d l k).map (Value.int .i64))) ∧ Hid (Below g wB wr) ∧ k ≤ 8000) (fun _ tt _ => 10000 - (intOf tt).toNat)
  case atStart => exact ⟨0, rfl, K1, Lib.hid (fun j hj => by omega), Lib.hid ⟨by simp [outL], Or.inl ⟨rfl, by simp [outL]⟩⟩, Lib.hid (Below.refl _ _), by omega⟩
  case round =>
    obtain ⟨k, rfl, hm, hnc, hO, hb, hk⟩ := hrel
    obtain ⟨ra, rc, rfl, _⟩ := ownsRow_shape hO.out
    have hgw : w.heap.size ≤ g := by have := HG.out; omega
    have HBW := Lib.hid (HB.out.trans (hb.out.mono hgw))
    have c0 := block_cell hm.out
    have hol : (outL d l k).length ≤ 8000 := by rw [outL_len]; exact hk
    have HOS := Lib.hid (outL_succ d l k)
    by_cases h3 : (stD d l k).ph = 3
    · have HE := Lib.hid (HDN.out k (by omega) hnc.out h3)
      have h3b : ((stD d l k).ph != 3) = false := by rw [h3]; rfl
      have HOX := hO
      generalize (stD d l k).ph = P at *
      clear h3 HOS
      go_wp2_with fail
      go_ret
      exact ⟨_, rfl, by rw [HE.out]; exact InAt.of_own HOX.out, HBW.out⟩
    · have h3b : ((stD d l k).ph != 3) = true := by simpa using h3
      have HNC : Hid (∀ j, j ≤ k → (stD d l j).ph ≠ 3) := Lib.hid (fun j hj => by
        by_cases hjk : j = k
        · rw [hjk]; exact h3
        · exact hnc.out j (by omega))
      have hk2 := (HST.out k HNC.out).2
      have HI := Lib.hid (HIN.out k HNC.out)
      have HNC2 : Hid (∀ j, j < k + 1 → (stD d l j).ph ≠ 3) := Lib.hid (fun j hj => HNC.out j (by omega))
      have HSS := Lib.hid (show stD d l (k + 1) = moveS d (if brkB l k = true then distS d (stD d l k) else stD d l k) from rfl)
      have HLr := Lib.hid (HL.out.below HBW.out (Nat.le_refl _))
      have G := Lib.hid (HBI.out k (by omega) _ HLr.out)
      have HM := hm
      obtain ⟨P, hP⟩ : ∃ P, (stD d l k).ph = P := ⟨_, rfl⟩
      rw [hP] at h3b
      have c0' := c0
      simp only [hP] at c0'
      clear c0 h3
      go_wp2_with fail
      refine G.out.mono ?_
      rintro e w1 ⟨⟨ix, rfl⟩, rfl⟩
      have hgB : g < wB.heap.size := by have := HG.out; have := HSZ.out; omega
      have HMS := Lib.hid (show ∀ s, moveS d s = stD d l (k + 1) → DIn d s → ∀ w1 : World, w1.heap[g]? = some (movO d s) → Calls Try.prog 102 #[ptr g] w1 fun e w' => e = .returned (.tuple #[]) ∧ Turned d (stD d l (k + 1)) g w1 w' from fun s hs hin w1 hk => by
        have := move_any d s g w1 HD.out hin hk
        rw [hs] at this
        exact this)
      obtain ⟨S', hS⟩ : ∃ S', stD d l (k + 1) = S' := ⟨_, rfl⟩
      have HSP := Lib.hid hS
      rw [hS] at HMS HSS HOS
      clear hS
      generalize stD d l k = S at *
      generalize outL d l k = A at *
      obtain ⟨q, hq⟩ : ∃ q, brkB l k = q := ⟨_, rfl⟩
      rw [hq] at HSS ⊢
      clear hq c0'
      cases q
      · have hss : moveS d S = S' := HSS.out.symm
        have G2 := Lib.hid (HMS.out S hss HI.out wr HM.out)
        go_wp2_with fail
        refine G2.out.mono ?_
        rintro e w2 ⟨rfl, ht⟩
        have HTU := Lib.hid ht
        clear ht
        have HO2 := Lib.hid (own_turned hO.out HTU.out hgB)
        have HB2 := Lib.hid (hb.out.trans HTU.out.1)
        have c0 := block_cell HTU.out.2.1
        have hsz := HB2.out.size
        go_wp2_with ((at_builtin; refine wpList_append_own _ rfl (.tmp 26) (.tmp 29) 22 rfl wB.heap.size 3 i0 (.int .i64 0) 1 8 Try.underlying22 hi0 hz0 hz1 hz2 rfl (by decide) _ (A).length ((A).map (Value.int .i64)) rfl ?c0x4 _ _ _ [.int .i64 S'.at'] rfl rfl ?c1x4 ?c2x4 ?c3x4 ?c4x4 ?c5x4 ?_))
        case c0x4 => exact World.ownsRow.alloc (HO2).out _
        try (case c1x4 => exact one_cell _ _ _ rfl)
        case c2x4 => first | rfl | (intro u hu; simp only [List.mem_cons, List.not_mem_nil, or_false] at hu; subst hu; rfl)
        case c3x4 => unfold maxLen; omega
        case c4x4 => omega
        case c5x4 => first | exact Nat.le_trans hsz (al_le _ _) | (simp; omega) | omega
        intro v3 w3 hown3 hgrow3 _
        obtain ⟨_, _, _, hob3⟩ := ownsRow_shape (HO2).out
        have hbX3 := below_grown hgrow3 hob3 (Nat.le_trans hsz (al_le _ _))
        have HBA3 := Lib.hid (((Below.refl _ _).alloc hsz _).trans hbX3)
        have HO3 := Lib.hid (own_snoc hown3)
        obtain ⟨r3, c3, rfl, _⟩ := ownsRow_shape hown3
        clear hown3 hgrow3 hbX3 hob3
        have HKE := Lib.hid ((HBA3.out.block g hgB).trans HTU.out.2.1)
        have HB3 := Lib.hid (HB2.out.trans (HBA3.out.mono (by omega)))
        clear c0
        go_wp2
        go_roundw
        case rel => exact ⟨k + 1, by first | rfl | go_num, by rw [HSP.out]; exact HKE, HNC2, by rw [HOS.out]; first | exact HO3 | (rw [List.length_append] at HO3; exact HO3), HB3, by omega⟩
        case measure => simp [intOf] <;> omega
      · have hss : moveS d (distS d S) = S' := HSS.out.symm
        have hdi := (dist_in HD.out HI.out).1
        go_wp2_with fail
        refine (disturb_any d S g _ HM.out).mono ?_
        rintro e w5 ⟨rfl, ht5⟩
        have HT5 := Lib.hid ht5
        have G2 := Lib.hid (HMS.out _ hss hdi w5 HT5.out.2.1)
        clear ht5
        go_wp2_with fail
        refine G2.out.mono ?_
        rintro e w2 ⟨rfl, ht⟩
        have HTU := Lib.hid (HT5.out.trans ht)
        clear ht
        have HO2 := Lib.hid (own_turned hO.out HTU.out hgB)
        have HB2 := Lib.hid (hb.out.trans HTU.out.1)
        have c0 := block_cell HTU.out.2.1
        have hsz := HB2.out.size
        go_wp2_with ((at_builtin; refine wpList_append_own _ rfl (.tmp 26) (.tmp 29) 22 rfl wB.heap.size 3 i0 (.int .i64 0) 1 8 Try.underlying22 hi0 hz0 hz1 hz2 rfl (by decide) _ (A).length ((A).map (Value.int .i64)) rfl ?c0x5 _ _ _ [.int .i64 S'.at'] rfl rfl ?c1x5 ?c2x5 ?c3x5 ?c4x5 ?c5x5 ?_))
        case c0x5 => exact World.ownsRow.alloc (HO2).out _
        try (case c1x5 => exact one_cell _ _ _ rfl)
        case c2x5 => first | rfl | (intro u hu; simp only [List.mem_cons, List.not_mem_nil, or_false] at hu; subst hu; rfl)
        case c3x5 => unfold maxLen; omega
        case c4x5 => omega
        case c5x5 => first | exact Nat.le_trans hsz (al_le _ _) | (simp; omega) | omega
        intro v3 w3 hown3 hgrow3 _
        obtain ⟨_, _, _, hob3⟩ := ownsRow_shape (HO2).out
        have hbX3 := below_grown hgrow3 hob3 (Nat.le_trans hsz (al_le _ _))
        have HBA3 := Lib.hid (((Below.refl _ _).alloc hsz _).trans hbX3)
        have HO3 := Lib.hid (own_snoc hown3)
        obtain ⟨r3, c3, rfl, _⟩ := ownsRow_shape hown3
        clear hown3 hgrow3 hbX3 hob3
        have HKE := Lib.hid ((HBA3.out.block g hgB).trans HTU.out.2.1)
        have HB3 := Lib.hid (HB2.out.trans (HBA3.out.mono (by omega)))
        clear c0
        go_wp2
        go_roundw
        case rel => exact ⟨k + 1, by first | rfl | go_num, by rw [HSP.out]; exact HKE, HNC2, by rw [HOS.out]; first | exact HO3 | (rw [List.length_append] at HO3; exact HO3), HB3, by omega⟩
        case measure => simp [intOf] <;> omega

end Go.Proofs.Ytnefbiaopconkaa
