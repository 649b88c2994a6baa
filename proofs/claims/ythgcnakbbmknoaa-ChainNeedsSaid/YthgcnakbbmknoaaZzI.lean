import Derived.Test.YthgcnakbbmknoaaZzG
import Derived.Deep.DeepCutAuto
/- Texts of one seat, merged: Wg Wh -/
/- The statements' own helpers (layer 2): picked. -/
namespace Go.Proofs.Ythgcnakbbmknoaa
open Go.RowKit

set_option maxRecDepth 100000 in
set_option maxHeartbeats 8000000 in
theorem picked_any (l : List Gau) (v : Value) (ns : List Nat) (u : Value) (one : Int) (w : World) (hv : GaAt w v l) (hu : InAt w u (nats ns)) (hn : ∀ i, i < ns.length → ns.getD i 0 < l.length) (ha : ∀ i, 1 ≤ i → i < ns.length → ns.getD (i - 1) 0 < ns.getD i 0) (hl : ns.length ≤ 40) :
    Calls Try.prog 27 #[v, u, .int .i64 one] w fun e w' => ∃ v', e = .returned (.tuple #[v', .bool true]) ∧ GaAt w' v' (wo l ns one ns.length) ∧ Below w.heap.size w w' := by
  obtain ⟨va, cap, rfl, hn1, hcap, hc⟩ := hv
  obtain ⟨ua, ucap, rfl, hn2, hucap, hd⟩ := hu
  obtain ⟨g0, hg0, hy0, hy1, hy2⟩ := info_parts gau_infoG
  have HC := Lib.hid hc
  have HD := Lib.hid hd
  have HN := Lib.hid hn
  have HAS := Lib.hid ha
  rw [nats_len] at *
  clear hc hd hn ha
  go_enter Try.func27, Try.ntmps27
  go_wp2_with fail
  go_loopw [8, 9] (fun s i wr => ∃ k : Nat, k ≤ ns.length ∧ i = .int .i64 k ∧ Hid (Below w.heap.size w wr) ∧ Hid (wr.ownsRow w.heap.size 53 4 s (wo l ns one k).length ((wo l ns one k).flatMap gauL))) (fun _ i _ => ns.length - (intOf i).toNat)
  case atStart => exact ⟨0, Nat.zero_le _, rfl, Lib.hid (Below.refl _ _), Lib.hid ⟨by simp [wo], .inl ⟨rfl, by simp [wo]⟩⟩⟩
  case round =>
    obtain ⟨k, hk, rfl, hb, ho⟩ := hrel
    obtain ⟨sa, sc, rfl, hob⟩ := ownsRow_shape ho.out
    have hwl : (wo l ns one k).length ≤ 40 := Nat.le_trans (wo_len k) (by omega)
    by_cases hlt : k < ns.length
    · obtain ⟨b2, o2, rfl, l2, hd2⟩ := HD.out (by first | omega | (rw [nats_len]; omega))
      have hx := HN.out k hlt
      have g2 := (hb.out.cell (p := ⟨b2, o2 + k, none⟩) l2).trans (hd2 k (by first | omega | (rw [nats_len]; omega)))
      rw [nats_getD] at g2
      have HPV := Lib.hid (fun (h1 : 1 ≤ k) => show wr.cell? ⟨b2, o2 + (k - 1), none⟩ = some (.int .i64 (ns.getD (k - 1) 0 : Nat)) by
        have := (hb.out.cell (p := ⟨b2, o2 + (k - 1), none⟩) l2).trans (hd2 (k - 1) (by first | omega | (rw [nats_len]; omega)))
        rw [nats_getD] at this
        exact this)
      have HA1 := Lib.hid (fun (h1 : 1 ≤ k) => HAS.out k h1 hlt)
      have HW := Lib.hid (show wo l ns one (k + 1) = wo l ns one k ++ (if (k : Int) = one then [] else [l.getD (ns.getD k 0) Gau.zero]) from rfl)
      obtain ⟨b1, o1, rfl, l1, hc1⟩ := HC.out (by omega)
      obtain ⟨q1, q2, q3, q4⟩ := ga_at hb.out l1 hc1 hx
      have HL1 := Lib.hid l1
      clear hc1 hd2
      generalize ns.getD k 0 = x at *
      generalize l.getD x Gau.zero = G at *
      generalize wo l ns one k = WO at *
      have j0 : (0 : Int) ≤ k := by omega
      have j1 : (k : Int) < ns.length := by omega
      have x0 : (0 : Int) ≤ x := by omega
      have x1 : (x : Int) < l.length := by omega
      have x2 : ¬ (x : Int) < 0 := by omega
      have x3 : ¬ (l.length : Int) ≤ x := by omega
      have hz1 := Nat.lt_of_lt_of_le l1 hb.out.size
      have hz2 := Nat.lt_of_lt_of_le l2 hb.out.size
      go_upto_region 5 with fail
      go_cut [45] (fun s wx => s = .bool false ∧ Hid (Below wr.heap.size wr wx))
      case first =>
        by_cases hk0 : k = 0
        · have hk1 : ¬ (0 : Int) < k := by omega
          have hk2 : ¬ 0 < k := by omega
          clear hk0
          go_quiet (fail)
          go_wp2
          go_meet
          exact ⟨rfl, Lib.hid (below_drewN (Below.refl _ _) _)⟩
        · have g5 := HPV.out (by omega)
          have h5 := HA1.out (by omega)
          have hk1 : (0 : Int) < k := by omega
          have hk2 : 0 < k := by omega
          have j2 : (0 : Int) ≤ (k : Int) - 1 := by omega
          have j3 : (k : Int) - 1 < ns.length := by omega
          have j4 : ((k : Int) - 1).toNat = k - 1 := by omega
          generalize ns.getD (k - 1) 0 = y at *
          have h6 : ¬ (x : Int) ≤ y := by omega
          have j5 : IntKind.i64.wrap ((k : Int) - 1) = (k : Int) - 1 := by rw [IntKind.wrap_i64]; omega
          clear hk0
          go_quiet (fail)
          go_wp2
          go_meet
          exact ⟨rfl, Lib.hid (below_drewN (Below.refl _ _) _)⟩
      case rest =>
        obtain ⟨rfl, hbq⟩ := hcut
        have hb := Lib.hid (hb.out.trans (hbq.out.mono hb.out.size))
        have ho := Lib.hid (ownsRow_below ho.out hbq.out)
        have g2 := (hbq.out.cell (p := ⟨b2, o2 + k, none⟩) hz2).trans g2
        have q1 := (hbq.out.cell hz1).trans q1
        have q2 := (hbq.out.cell hz1).trans q2
        have q3 := (hbq.out.cell hz1).trans q3
        have q4 := (hbq.out.cell hz1).trans q4
        have hszr := hb.out.size
        by_cases hq : (k : Int) = one
        · have hqb : ((k : Int) != one) = false := by simpa using hq
          have HW2 := Lib.hid (HW.out.trans (by rw [if_pos hq, List.append_nil]))
          clear hq
          go_wp2
          go_roundw
          case rel => exact ⟨k + 1, hlt, by go_num, hb, by rw [HW2.out]; exact ho⟩
          case measure => simp [intOf]; omega
        · have hqb : ((k : Int) != one) = true := by simpa using hq
          have HW2 := Lib.hid (HW.out.trans (by rw [if_neg hq]))
          clear hq
          go_wp2_with (at_builtin; refine wpList_append_own _ rfl (.tmp 49) (.tmp 57) 24 rfl w.heap.size 53 g0 (.agg #[.int .i64 0, .int .i64 0, .int .i64 0, .int .i64 0]) 4 32 Try.underlying24 hg0 hy0 hy1 hy2 rfl (by decide) _ WO.length (WO.flatMap gauL) rfl ?g0 _ _ _ [.int .i64 G.a, .int .i64 G.b, .int .i64 G.lo, .int .i64 G.hi] rfl rfl ?g1 ?g2 ?g3 ?g4 ?g5 ?_)
          case g0 => exact World.ownsRow.alloc ho.out _
          try (case g1 => exact cells_newL _ [.int .i64 G.a, .int .i64 G.b, .int .i64 G.lo, .int .i64 G.hi] _ (by simp))
          case g2 => first | exact ⟨rfl, rfl, rfl, rfl⟩ | (intro u hu; simp only [List.mem_cons, List.not_mem_nil, or_false] at hu; rcases hu with rfl | rfl | rfl | rfl <;> rfl)
          case g3 => unfold maxLen; omega
          case g4 => omega
          case g5 => first | omega | exact Nat.le_trans hszr (le_alloc _ _)
          intro v7 w7 hown7 hgrow7 _
          have hbX := below_grown hgrow7 hob (Nat.le_trans hszr (le_alloc _ _))
          have HB7 := Lib.hid (hb.out.trans (((Below.refl _ _).alloc hszr _).trans hbX))
          have HO7 := Lib.hid (show w7.ownsRow w.heap.size 53 4 v7 (wo l ns one (k + 1)).length ((wo l ns one (k + 1)).flatMap gauL) by rw [HW2.out, gau_snoc]; simpa using hown7)
          obtain ⟨sb, sd, rfl, _⟩ := ownsRow_shape hown7
          clear hown7 hgrow7 hbX
          go_wp2
          go_roundw
          case rel => exact ⟨k + 1, hlt, by go_num, HB7, HO7⟩
          case measure => simp [intOf]; omega
    · obtain rfl : k = ns.length := by omega
      have HE := Lib.hid (ElAt.of_own (m := 4) (f := gauL) (xs := wo l ns one ns.length) (fun _ => rfl) ho.out)
      go_wp2
      refine bodyPost_ret (v := .tuple #[.slice sa (wo l ns one ns.length).length sc, .bool true]) (by simp [results, Try.results27, go_sem]) rfl ⟨_, rfl, HE.out, hb.out⟩

end Go.Proofs.Ythgcnakbbmknoaa

/- ChainNeeds, the walk. -/
namespace Go.Proofs.Ythgcnakbbmknoaa
open Go.RowKit

theorem lnk_atN {c : Chn} {l : List Gau} {w w' : World} {e : Ending} (h : LnkRes c l w e w') : ∃ a n k, e = .returned (.tuple #[.slice a n k, .int .i64 (CkM c l 0 0)]) ∧ Below w.heap.size w w' := by
  obtain ⟨v, rfl, hb, ho⟩ := h
  obtain ⟨a, k, rfl, _⟩ := ownsRow_shape ho
  exact ⟨a, _, k, rfl, hb⟩
theorem in_shN {w : World} {v : Value} {xs : List Nat} (h : InAt w v (nats xs)) : ∃ a c, v = .slice a xs.length c := by
  obtain ⟨a, c, rfl, _⟩ := h
  rw [nats_len]
  exact ⟨a, c, rfl⟩

theorem ga_shN {w : World} {v : Value} {l : List Gau} (h : GaAt w v l) : ∃ a c, v = .slice a l.length c := by
  obtain ⟨a, c, rfl, _⟩ := h
  exact ⟨a, c, rfl⟩

def neeB (c : Chn) (l : List Gau) : Bool := decide (42 < l.length) || (chkM c l != 0) || decide (10 < c.n)
theorem nee_no {c : Chn} {l : List Gau} (h : neeB c l = false) : chkM c l = 0 := by
  unfold neeB at h
  simp only [Bool.or_eq_false_iff, decide_eq_false_iff_not, bne_eq_false_iff_eq] at h
  exact h.1.2

theorem ck_clash {c : Chn} {k : List Gau} (h : chkM c k = 0) : CkM c k 0 0 = if clashB c k = true then 3 else 0 := by
  rw [ck00 h]
  unfold clashB
  cases agreeB c k <;> rfl
theorem run_short {c : Chn} {k : List Gau} {a b : Nat} {m : Int} (h : chkM c k = 0) (hab : a ≤ b) (hb : b ≤ c.n.toNat) :
    ((runM c k a b).e = 3 ∧ shortB c a b m k = true) ∨ ((runM c k a b).e = 0 ∧ shortB c a b m k = decide ((runM c k a b).hi ≤ m)) := by
  have hc : crunM c k a b = 0 := by
    unfold crunM
    rw [if_pos h, if_pos]
    have := (chk_goks h).1.n1
    omega
  unfold runM shortB
  rw [if_pos hc]
  cases ha : agreeB c k
  · left; exact ⟨rfl, rfl⟩
  · right
    refine ⟨rfl, ?_⟩
    simp [highM]

theorem why_cases {c : Chn} {l : List Gau} {a b m : Int} (h : chkM c l = 0) :
    (whyE c l a b m = 0 ∧ ∃ a' b' : Nat, a = a' ∧ b = b' ∧ a' ≤ b' ∧ b' ≤ c.n.toNat ∧ shortB c a' b' m l = true ∧ whyL c l a b m = nats (leftM (shortB c a' b' m) l)) ∨ whyE c l a b m = 1 ∨ whyE c l a b m = 3 := by
  by_cases hr : 0 ≤ a ∧ a ≤ b ∧ b ≤ c.n
  · have hc : crunM c l a b = 0 := by unfold crunM; rw [if_pos h, if_pos hr]
    obtain ⟨r1, r2, r3⟩ := hr
    obtain ⟨a', rfl⟩ : ∃ j : Nat, a = j := ⟨a.toNat, by omega⟩
    obtain ⟨b', rfl⟩ : ∃ j : Nat, b = j := ⟨b.toNat, by omega⟩
    cases hs : shortB c a' b' m l
    · right; right
      exact (why_none hc (by simpa using hs)).1
    · left
      obtain ⟨e1, e2⟩ := why_ok (m := m) hc (by simpa using hs)
      simp only [Int.toNat_natCast] at e2
      exact ⟨e1, a', b', rfl, rfl, by omega, by omega, hs, e2⟩
  · right; left
    have hc : crunM c l a b = 1 := by unfold crunM; rw [if_pos h, if_neg hr]
    rw [(why_bad (m := m) (show ¬ crunM c l a b = 0 by rw [hc]; decide)).1, hc]

set_option maxRecDepth 100000 in
set_option maxHeartbeats 16000000 in
theorem needs_any (c : Chn) (v : Value) (l : List Gau) (a b m : Int) (w : World) (hv : GaAt w v l) :
    Calls Try.prog 7 #[chnV c, v, .agg #[.int .i64 a, .int .i64 b, .int .i64 m]] w fun e w' => e = .returned (.bool true) ∧ Below w.heap.size w w' := by
  have hb0 := blw2 w (Obj.cells #[.int .i64 c.n, .int .i64 c.pi, .int .i64 c.li] 23) (Obj.cells #[.int .i64 a, .int .i64 b, .int .i64 m] 26)
  have k0 := two_od w (Obj.cells #[.int .i64 c.n, .int .i64 c.pi, .int .i64 c.li] 23) (Obj.cells #[.int .i64 a, .int .i64 b, .int .i64 m] 26)
  have k1 := two_nw w (Obj.cells #[.int .i64 c.n, .int .i64 c.pi, .int .i64 c.li] 23) (Obj.cells #[.int .i64 a, .int .i64 b, .int .i64 m] 26)
  have HV := Lib.hid (hv.below hb0 (Nat.le_refl _))
  obtain ⟨ka, cap, rfl, hn1, hcap, hc⟩ := hv
  have HB := Lib.hid hb0
  have K0 := Lib.hid k0
  have K1 := Lib.hid k1
  clear hc hb0 k0 k1
  go_enter Try.func7, Try.ntmps7
  go_upto_region 1 with fail
  generalize (w.alloc (Obj.cells #[.int .i64 c.n, .int .i64 c.pi, .int .i64 c.li] 23)).alloc (Obj.cells #[.int .i64 a, .int .i64 b, .int .i64 m] 26) = wA at *
  have HNB := Lib.hid (show neeB c l = (decide (42 < l.length) || (chkM c l != 0) || decide (10 < c.n)) from rfl)
  have HNN := Lib.hid (@nee_no c l)
  have HRK := Lib.hid (rcheck_any c l _ _ HV.out)
  go_cut [34] (fun s wx => s = .bool (neeB c l) ∧ Hid (Below wA.heap.size wA wx))
  case first =>
    have c0 := block_cell K0.out
    have z0 := lt_of_block K0.out
    cases hf1 : decide (42 < l.length)
    · have HF1 := Lib.hid hf1
      have HT2 := Lib.hid (show neeB c l = ((chkM c l != 0) || decide (10 < c.n)) by rw [HNB.out, hf1]; rfl)
      clear hf1
      generalize chkM c l = p at *
      by_cases hp : p = 0
      · subst hp
        go_wp2_with (first | (go_at_call 11; refine (far_any l _ _ HV.out).mono ?_; rintro e w' ⟨rfl, rfl⟩; rw [HF1.out]) | (go_at_call 21; refine HRK.out.mono ?_; rintro e w1 ⟨rfl, hb1⟩; clear c0; have c0 := block_cell (keepZ K0.out hb1)))
        go_meet
        exact ⟨by rw [HT2.out]; rfl, Lib.hid hb1⟩
      · have hpb : (p != 0) = true := by simpa using hp
        have HT3 := Lib.hid (show neeB c l = true by rw [HT2.out, hpb]; rfl)
        clear hp
        go_wp2_with (first | (go_at_call 11; refine (far_any l _ _ HV.out).mono ?_; rintro e w' ⟨rfl, rfl⟩; rw [HF1.out]) | (go_at_call 21; refine HRK.out.mono ?_; rintro e w1 ⟨rfl, hb1⟩))
        go_meet
        exact ⟨by rw [HT3.out], Lib.hid hb1⟩
    · have HF1 := Lib.hid hf1
      have HT3 := Lib.hid (show neeB c l = true by rw [HNB.out, hf1]; rfl)
      clear hf1
      go_wp2_with (go_at_call 11; refine (far_any l _ _ HV.out).mono ?_; rintro e w' ⟨rfl, rfl⟩; rw [HF1.out])
      go_meet
      exact ⟨by rw [HT3.out], Lib.hid (Below.refl _ _)⟩
  case rest =>
    obtain ⟨rfl, HN0⟩ := hcut
    cases htb : neeB c l
    · have p1 := HNN.out htb
      have HP1 := Lib.hid p1
      have HKC := Lib.hid (fun w1 (h : Below wA.heap.size wA w1) => kConflict_any c l (.slice ka l.length cap) w1 (HV.out.below h (Nat.le_refl _)))
      have HKL := Lib.hid (fun w1 (h : Below wA.heap.size wA w1) => kLinks_any c l (.slice ka l.length cap) w1 (HV.out.below h (Nat.le_refl _)))
      have HKW := Lib.hid (fun w1 (h : Below wA.heap.size wA w1) => kWhy_any c l (.slice ka l.length cap) a b m w1 (HV.out.below h (Nat.le_refl _)))
      have HCK := Lib.hid (ck_clash p1)
      have HWC := Lib.hid (why_cases (a := a) (b := b) (m := m) p1)
      have HC1 := Lib.hid (fun h => (con_ok (c := c) (l := l) p1 h))
      have HC2 := Lib.hid (fun h => (con_none (c := c) (l := l) p1 h))
      clear htb HNN HNB HRK p1
      have c0 := block_cell ((HN0.out.block _ (lt_of_block K0.out)).trans K0.out)
      have c1 := block_cell ((HN0.out.block _ (lt_of_block K1.out)).trans K1.out)
      have z0 := Nat.lt_of_lt_of_le (lt_of_block K0.out) HN0.out.size
      have z1 := Nat.lt_of_lt_of_le (lt_of_block K1.out) HN0.out.size
      -- the part of Conflict
      go_wp2_with fail
      refine (HKC.out _ HN0.out).mono ?_
      rintro e w3 ⟨v3, rfl, hi3, hb3⟩
      have HI3 := Lib.hid hi3
      obtain ⟨a3, c3, rfl⟩ : ∃ a c0, v3 = .slice a (conL c l).length c0 := by obtain ⟨a, c0, rfl, _⟩ := hi3; exact ⟨a, c0, rfl⟩
      have HN1 := Lib.hid (HN0.out.trans (hb3.mono HN0.out.size))
      clear hi3 hb3 c0 c1 z0 z1
      have c0 := block_cell ((HN1.out.block _ (lt_of_block K0.out)).trans K0.out)
      have z0 := Nat.lt_of_lt_of_le (lt_of_block K0.out) HN1.out.size
      have HEF : Hid ((clashB c l = true ∧ conE c l = 0 ∧ CkM c l 0 0 = 3) ∨ (clashB c l = false ∧ conE c l = 3 ∧ CkM c l 0 0 = 0)) := Lib.hid (by
        cases hcl : clashB c l
        · right; exact ⟨rfl, (HC2.out hcl).1, by rw [HCK.out, if_neg (by rw [hcl]; decide)]⟩
        · left; exact ⟨rfl, (HC1.out hcl).1, by rw [HCK.out, if_pos hcl]⟩)
      have HCL := Lib.hid (fun h => (HC1.out h).2)
      clear HC1 HC2 HCK
      generalize conE c l = E at *
      generalize conL c l = CL at *
      generalize hF : CkM c l 0 0 = F at *
      have HF := Lib.hid hF
      clear hF
      go_wp2_with fail
      refine (HKL.out _ HN1.out).mono ?_
      rintro e w4 hres
      obtain ⟨a4, n4, c4, rfl, hb4⟩ := lnk_atN hres
      have HI4 := Lib.hid (HI3.out.below hb4 (Nat.le_refl _))
      have HN2 := Lib.hid (HN1.out.trans (hb4.mono HN1.out.size))
      rw [HF.out]
      clear hres hb4 c0 z0
      go_upto_region 5 with fail
      go_cut [60] (fun s wx => s = .bool false ∧ w4 = wx)
      case first =>
        rcases HEF.out with ⟨_, e1, e2⟩ | ⟨_, e1, e2⟩
        · subst e1
          subst e2
          go_wp2
          go_meet
          exact ⟨rfl, rfl⟩
        · subst e1
          subst e2
          go_wp2
          go_meet
          exact ⟨rfl, rfl⟩
      case rest =>
        obtain ⟨rfl, rfl⟩ := hcut
        rcases HEF.out with ⟨hcl, e1, e2⟩ | ⟨hcl, e1, e2⟩
        · have HCLL := Lib.hid (HCL.out hcl)
          have HCF := Lib.hid (fun one h1 h2 => con_left (c := c) (l := l) HP1.out hcl (one := one) h1 h2)
          have HLT := Lib.hid (fun p (hp : p < (leftM (clashB c) l).length) => left_at hp)
          have HASC := Lib.hid (fun p (h0 : 1 ≤ p) (hp : p < (leftM (clashB c) l).length) => left_asc h0 hp)
          have h40 : (leftM (clashB c) l).length ≤ 40 := by have := leftM_len (clashB c) l; have := (chk_goks HP1.out).2.2; omega
          have HCKK := Lib.hid (fun (k : List Gau) (h : chkM c k = 0) => ck_clash h)
          subst e1
          have hcl2 := HCLL.out
          subst hcl2
          rw [nats_len] at HI4 ⊢
          clear HCLL
          generalize leftM (clashB c) l = NS at *
          clear hcl e2 HEF HCL
          go_wp2_with fail
          go_loopw [11] (fun i wr => ∃ one : Int, i = .int .i64 one ∧ -1 ≤ one ∧ one ≤ NS.length ∧ Hid (Below w4.heap.size w4 wr)) (fun i _ => 60 - (intOf i + 1).toNat)
          case atStart => exact ⟨-1, rfl, Int.le_refl _, by omega, Lib.hid (Below.refl _ _)⟩
          case round =>
            obtain ⟨one, rfl, o1, o2, hb⟩ := hrel
            have HN3 := Lib.hid (HN2.out.trans (hb.out.mono HN2.out.size))
            by_cases hlt : one < NS.length
            · obtain ⟨hck, hcw⟩ := HCF.out one o1 hlt
              have HCW := Lib.hid hcw
              have HCE := Lib.hid (HCKK.out _ hck)
              have HCKW := Lib.hid hck
              clear hck hcw
              go_wp2_with fail
              refine (picked_any l _ NS _ one _ (HV.out.below HN3.out (Nat.le_refl _)) (HI4.out.below hb.out (Nat.le_refl _)) HLT.out HASC.out h40).mono ?_
              rintro e w5 ⟨v5, rfl, hg5, hb5⟩
              have HG5 := Lib.hid hg5
              obtain ⟨a5, c5, rfl⟩ := ga_shN hg5
              have HN4 := Lib.hid (HN3.out.trans (hb5.mono HN3.out.size))
              have HBB := Lib.hid (hb.out.trans (hb5.mono hb.out.size))
              have c0 := block_cell ((HN4.out.block _ (lt_of_block K0.out)).trans K0.out)
              have z0 := Nat.lt_of_lt_of_le (lt_of_block K0.out) HN4.out.size
              clear hg5 hb5
              generalize wo l NS one NS.length = WO at *
              go_wp2_with fail
              refine (kLinks_any c WO _ _ HG5.out).mono ?_
              rintro e w6 hres
              obtain ⟨a6, n6, c6, rfl, hb6⟩ := lnk_atN hres
              rw [HCE.out, HCW.out]
              have HBC := Lib.hid (HBB.out.trans (hb6.mono HBB.out.size))
              clear hres hb6 c0 z0
              by_cases hneg : one < 0
              · rw [if_pos (by rw [decide_eq_true hneg])]
                go_wp2
                go_roundw
                case rel => exact ⟨one + 1, by go_num, by omega, by omega, HBC⟩
                case measure => simp [intOf]; omega
              · rw [if_neg (by rw [decide_eq_false hneg]; decide)]
                go_wp2
                go_roundw
                case rel => exact ⟨one + 1, by go_num, by omega, by omega, HBC⟩
                case measure => simp [intOf]; omega
            · have c0 := block_cell ((HN3.out.block _ (lt_of_block K0.out)).trans K0.out)
              have c1 := block_cell ((HN3.out.block _ (lt_of_block K1.out)).trans K1.out)
              have z0 := Nat.lt_of_lt_of_le (lt_of_block K0.out) HN3.out.size
              have z1 := Nat.lt_of_lt_of_le (lt_of_block K1.out) HN3.out.size
              go_wp2_with fail
              refine (HKW.out _ HN3.out).mono ?_
              rintro e w7 ⟨v7, rfl, hi7, hb7⟩
              have HM2 := Lib.hid (HN3.out.trans (hb7.mono HN3.out.size))
              have HI7 := Lib.hid hi7
              obtain ⟨a7, c7, rfl⟩ : ∃ x y, v7 = .slice x (whyL c l a b m).length y := by obtain ⟨x, y, rfl, _⟩ := hi7; exact ⟨x, y, rfl⟩
              clear hi7 hb7 c0 c1 z0 z1
              rcases HWC.out with ⟨e0, a', b', rfl, rfl, hab, hbn, hsh, hwl⟩ | e0 | e0
              · rw [e0]
                rw [hwl, nats_len] at HI7 ⊢
                have HCF2 := Lib.hid (fun one h1 h2 => why_left (c := c) (l := l) (a := a') (b := b') (m := m) (by omega) hbn HP1.out hsh (one := one) h1 h2)
                have HLT2 := Lib.hid (fun p (hp : p < (leftM (shortB c a' b' m) l).length) => left_at hp)
                have HASC2 := Lib.hid (fun p (h0 : 1 ≤ p) (hp : p < (leftM (shortB c a' b' m) l).length) => left_asc h0 hp)
                have h402 : (leftM (shortB c a' b' m) l).length ≤ 40 := by have := leftM_len (shortB c a' b' m) l; have := (chk_goks HP1.out).2.2; omega
                have HSRT := Lib.hid (fun (k : List Gau) (h : chkM c k = 0) => run_short (c := c) (k := k) (a := a') (b := b') (m := m) h hab hbn)
                generalize leftM (shortB c a' b' m) l = NS2 at *
                clear hwl hsh e0 hab hbn
                go_wp2_with fail
                go_loopw [17] (fun i wr => ∃ one : Int, i = .int .i64 one ∧ -1 ≤ one ∧ one ≤ NS2.length ∧ Hid (Below w7.heap.size w7 wr)) (fun i _ => 60 - (intOf i + 1).toNat)
                case atStart => exact ⟨-1, rfl, Int.le_refl _, by omega, Lib.hid (Below.refl _ _)⟩
                case round =>
                  obtain ⟨one, rfl, o1, o2, hbz⟩ := hrel
                  have HM3 := Lib.hid (HM2.out.trans (hbz.out.mono HM2.out.size))
                  by_cases hlt2 : one < NS2.length
                  · obtain ⟨hck, hcw⟩ := HCF2.out one o1 hlt2
                    have hsr := HSRT.out _ hck
                    rw [hcw] at hsr
                    clear hck hcw
                    go_wp2_with fail
                    refine (picked_any l _ NS2 _ one _ (HV.out.below HM3.out (Nat.le_refl _)) (HI7.out.below hbz.out (Nat.le_refl _)) HLT2.out HASC2.out h402).mono ?_
                    rintro e w8 ⟨v8, rfl, hg8, hb8⟩
                    have HG8 := Lib.hid hg8
                    obtain ⟨a8, c8, rfl⟩ := ga_shN hg8
                    have HM4 := Lib.hid (HM3.out.trans (hb8.mono HM3.out.size))
                    have HBY := Lib.hid (hbz.out.trans (hb8.mono hbz.out.size))
                    have c0 := block_cell ((HM4.out.block _ (lt_of_block K0.out)).trans K0.out)
                    have z0 := Nat.lt_of_lt_of_le (lt_of_block K0.out) HM4.out.size
                    have c1 := block_cell ((HM4.out.block _ (lt_of_block K1.out)).trans K1.out)
                    have z1 := Nat.lt_of_lt_of_le (lt_of_block K1.out) HM4.out.size
                    clear hg8 hb8
                    generalize wo l NS2 one NS2.length = WO2 at *
                    obtain ⟨⟨rlo, rhi, re⟩, hrr⟩ : ∃ x, runM c WO2 a' b' = x := ⟨_, rfl⟩
                    rw [hrr] at hsr
                    dsimp only at hsr
                    have HRR := Lib.hid hrr
                    clear hrr
                    go_wp2_with fail
                    refine (krun_any c WO2 _ _ _ _ HG8.out).mono ?_
                    rintro e w9 ⟨rfl, hb9⟩
                    rw [HRR.out]
                    have HBX := Lib.hid (HBY.out.trans (hb9.mono HBY.out.size))
                    have HBW2 := Lib.hid (HBX.out.alloc HBX.out.size (Obj.cells #[.int .i64 rlo, .int .i64 rhi] 45))
                    have HM5 := Lib.hid (HM4.out.trans (hb9.mono HM4.out.size))
                    clear hb9 c0 z0 c1 z1
                    have c1 := block_cell ((HM5.out.block _ (lt_of_block K1.out)).trans K1.out)
                    have z1 := Nat.lt_of_lt_of_le (lt_of_block K1.out) HM5.out.size
                    rcases hsr with ⟨rfl, hs1⟩ | ⟨rfl, hs1⟩
                    · have hneg : one < 0 := of_decide_eq_true hs1
                      clear hs1
                      go_wp2
                      go_roundw
                      case rel => exact ⟨one + 1, by go_num, by omega, by omega, HBW2⟩
                      case measure => simp [intOf]; omega
                    · by_cases hneg : one < 0
                      · have hle : rhi ≤ m := of_decide_eq_true (hs1.symm.trans (decide_eq_true hneg))
                        clear hs1
                        go_wp2
                        go_roundw
                        case rel => exact ⟨one + 1, by go_num, by omega, by omega, HBW2⟩
                        case measure => simp [intOf]; omega
                      · have hle : ¬ rhi ≤ m := of_decide_eq_false (hs1.symm.trans (decide_eq_false hneg))
                        have hle2 : m < rhi := by omega
                        have hleb : decide (rhi ≤ m) = false := decide_eq_false hle
                        have hngb : decide (one < 0) = false := decide_eq_false hneg
                        have hbb : (decide (rhi ≤ m) != decide (one < 0)) = false := by rw [hleb, hngb]; rfl
                        clear hs1
                        go_wp2
                        go_roundw
                        case rel => exact ⟨one + 1, by go_num, by omega, by omega, HBW2⟩
                        case measure => simp [intOf]; omega
                  · go_wp2_with fail
                    refine (works_any _).mono ?_
                    rintro e wz ⟨rfl, hbz⟩
                    go_wp2_with fail
                    go_ret
                    exact ⟨rfl, HB.out.trans ((HM3.out.trans (hbz.mono HM3.out.size)).mono HB.out.size)⟩
              · rw [e0]
                go_wp2_with fail
                refine (works_any _).mono ?_
                rintro e wz ⟨rfl, hbz⟩
                go_wp2_with fail
                go_ret
                exact ⟨rfl, HB.out.trans ((HM2.out.trans (hbz.mono HM2.out.size)).mono HB.out.size)⟩
              · rw [e0]
                go_wp2_with fail
                refine (works_any _).mono ?_
                rintro e wz ⟨rfl, hbz⟩
                go_wp2_with fail
                go_ret
                exact ⟨rfl, HB.out.trans ((HM2.out.trans (hbz.mono HM2.out.size)).mono HB.out.size)⟩
        · subst e1
          have c0 := block_cell ((HN2.out.block _ (lt_of_block K0.out)).trans K0.out)
          have c1 := block_cell ((HN2.out.block _ (lt_of_block K1.out)).trans K1.out)
          have z0 := Nat.lt_of_lt_of_le (lt_of_block K0.out) HN2.out.size
          have z1 := Nat.lt_of_lt_of_le (lt_of_block K1.out) HN2.out.size
          go_wp2_with fail
          refine (HKW.out _ HN2.out).mono ?_
          rintro e w7 ⟨v7, rfl, hi7, hb7⟩
          have HM2 := Lib.hid (HN2.out.trans (hb7.mono HN2.out.size))
          have HI7 := Lib.hid hi7
          obtain ⟨a7, c7, rfl⟩ : ∃ x y, v7 = .slice x (whyL c l a b m).length y := by obtain ⟨x, y, rfl, _⟩ := hi7; exact ⟨x, y, rfl⟩
          clear hi7 hb7 c0 c1 z0 z1
          rcases HWC.out with ⟨e0, a', b', rfl, rfl, hab, hbn, hsh, hwl⟩ | e0 | e0
          · rw [e0]
            rw [hwl, nats_len] at HI7 ⊢
            have HCF2 := Lib.hid (fun one h1 h2 => why_left (c := c) (l := l) (a := a') (b := b') (m := m) (by omega) hbn HP1.out hsh (one := one) h1 h2)
            have HLT2 := Lib.hid (fun p (hp : p < (leftM (shortB c a' b' m) l).length) => left_at hp)
            have HASC2 := Lib.hid (fun p (h0 : 1 ≤ p) (hp : p < (leftM (shortB c a' b' m) l).length) => left_asc h0 hp)
            have h402 : (leftM (shortB c a' b' m) l).length ≤ 40 := by have := leftM_len (shortB c a' b' m) l; have := (chk_goks HP1.out).2.2; omega
            have HSRT := Lib.hid (fun (k : List Gau) (h : chkM c k = 0) => run_short (c := c) (k := k) (a := a') (b := b') (m := m) h hab hbn)
            generalize leftM (shortB c a' b' m) l = NS2 at *
            clear hwl hsh e0 hab hbn
            go_wp2_with fail
            go_loopw [17] (fun i wr => ∃ one : Int, i = .int .i64 one ∧ -1 ≤ one ∧ one ≤ NS2.length ∧ Hid (Below w7.heap.size w7 wr)) (fun i _ => 60 - (intOf i + 1).toNat)
            case atStart => exact ⟨-1, rfl, Int.le_refl _, by omega, Lib.hid (Below.refl _ _)⟩
            case round =>
              obtain ⟨one, rfl, o1, o2, hbz⟩ := hrel
              have HM3 := Lib.hid (HM2.out.trans (hbz.out.mono HM2.out.size))
              by_cases hlt2 : one < NS2.length
              · obtain ⟨hck, hcw⟩ := HCF2.out one o1 hlt2
                have hsr := HSRT.out _ hck
                rw [hcw] at hsr
                clear hck hcw
                go_wp2_with fail
                refine (picked_any l _ NS2 _ one _ (HV.out.below HM3.out (Nat.le_refl _)) (HI7.out.below hbz.out (Nat.le_refl _)) HLT2.out HASC2.out h402).mono ?_
                rintro e w8 ⟨v8, rfl, hg8, hb8⟩
                have HG8 := Lib.hid hg8
                obtain ⟨a8, c8, rfl⟩ := ga_shN hg8
                have HM4 := Lib.hid (HM3.out.trans (hb8.mono HM3.out.size))
                have HBY := Lib.hid (hbz.out.trans (hb8.mono hbz.out.size))
                have c0 := block_cell ((HM4.out.block _ (lt_of_block K0.out)).trans K0.out)
                have z0 := Nat.lt_of_lt_of_le (lt_of_block K0.out) HM4.out.size
                have c1 := block_cell ((HM4.out.block _ (lt_of_block K1.out)).trans K1.out)
                have z1 := Nat.lt_of_lt_of_le (lt_of_block K1.out) HM4.out.size
                clear hg8 hb8
                generalize wo l NS2 one NS2.length = WO2 at *
                obtain ⟨⟨rlo, rhi, re⟩, hrr⟩ : ∃ x, runM c WO2 a' b' = x := ⟨_, rfl⟩
                rw [hrr] at hsr
                dsimp only at hsr
                have HRR := Lib.hid hrr
                clear hrr
                go_wp2_with fail
                refine (krun_any c WO2 _ _ _ _ HG8.out).mono ?_
                rintro e w9 ⟨rfl, hb9⟩
                rw [HRR.out]
                have HBX := Lib.hid (HBY.out.trans (hb9.mono HBY.out.size))
                have HBW2 := Lib.hid (HBX.out.alloc HBX.out.size (Obj.cells #[.int .i64 rlo, .int .i64 rhi] 45))
                have HM5 := Lib.hid (HM4.out.trans (hb9.mono HM4.out.size))
                clear hb9 c0 z0 c1 z1
                have c1 := block_cell ((HM5.out.block _ (lt_of_block K1.out)).trans K1.out)
                have z1 := Nat.lt_of_lt_of_le (lt_of_block K1.out) HM5.out.size
                rcases hsr with ⟨rfl, hs1⟩ | ⟨rfl, hs1⟩
                · have hneg : one < 0 := of_decide_eq_true hs1
                  clear hs1
                  go_wp2
                  go_roundw
                  case rel => exact ⟨one + 1, by go_num, by omega, by omega, HBW2⟩
                  case measure => simp [intOf]; omega
                · by_cases hneg : one < 0
                  · have hle : rhi ≤ m := of_decide_eq_true (hs1.symm.trans (decide_eq_true hneg))
                    clear hs1
                    go_wp2
                    go_roundw
                    case rel => exact ⟨one + 1, by go_num, by omega, by omega, HBW2⟩
                    case measure => simp [intOf]; omega
                  · have hle : ¬ rhi ≤ m := of_decide_eq_false (hs1.symm.trans (decide_eq_false hneg))
                    have hle2 : m < rhi := by omega
                    have hleb : decide (rhi ≤ m) = false := decide_eq_false hle
                    have hngb : decide (one < 0) = false := decide_eq_false hneg
                    have hbb : (decide (rhi ≤ m) != decide (one < 0)) = false := by rw [hleb, hngb]; rfl
                    clear hs1
                    go_wp2
                    go_roundw
                    case rel => exact ⟨one + 1, by go_num, by omega, by omega, HBW2⟩
                    case measure => simp [intOf]; omega
              · go_wp2_with fail
                refine (works_any _).mono ?_
                rintro e wz ⟨rfl, hbz⟩
                go_wp2_with fail
                go_ret
                exact ⟨rfl, HB.out.trans ((HM3.out.trans (hbz.mono HM3.out.size)).mono HB.out.size)⟩
          · rw [e0]
            go_wp2_with fail
            refine (works_any _).mono ?_
            rintro e wz ⟨rfl, hbz⟩
            go_wp2_with fail
            go_ret
            exact ⟨rfl, HB.out.trans ((HM2.out.trans (hbz.mono HM2.out.size)).mono HB.out.size)⟩
          · rw [e0]
            go_wp2_with fail
            refine (works_any _).mono ?_
            rintro e wz ⟨rfl, hbz⟩
            go_wp2_with fail
            go_ret
            exact ⟨rfl, HB.out.trans ((HM2.out.trans (hbz.mono HM2.out.size)).mono HB.out.size)⟩
    · clear htb HNN HNB HRK
      go_wp2_with fail
      refine (works_any _).mono ?_
      rintro e wz ⟨rfl, hbz⟩
      go_wp2_with fail
      go_ret
      exact ⟨rfl, HB.out.trans ((HN0.out.trans (hbz.mono HN0.out.size)).mono HB.out.size)⟩

end Go.Proofs.Ythgcnakbbmknoaa
