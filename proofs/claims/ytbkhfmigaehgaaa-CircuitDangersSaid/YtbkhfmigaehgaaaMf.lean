/- CircuitTwo walked. -/
import Derived.Test.YtbkhfmigaehgaaaMe
namespace Go.Proofs.Ytbkhfmigaehgaaa
open Go.RowKit

theorem pr_at {w w' : World} {b off : Nat} {l : List (Nat × Nat)} {k : Nat} (hb : Below w.heap.size w w') (hbl : b < w.heap.size)
    (hc : ∀ i x, l[i]? = some x → ∀ j u, (prL x)[j]? = some u → w.cell? ⟨b, off + i * 2 + j, none⟩ = some u) (hk : k < l.length) :
    w'.cell? ⟨b, off + k * 2, none⟩ = some (.int .i64 (l.getD k (0, 0)).1) ∧ w'.cell? ⟨b, off + k * 2 + 1, none⟩ = some (.int .i64 (l.getD k (0, 0)).2) := by
  have h := hc k _ (getD_get? hk (0, 0))
  exact ⟨(hb.cell hbl).trans (h 0 _ rfl), (hb.cell hbl).trans (h 1 _ rfl)⟩

/-- One of the first k pairs is (a, b). -/
def pairIn (l : List (Nat × Nat)) (a b : Nat) (k : Nat) : Bool := (l.take k).any fun p => ((p.1 : Int) == (a : Int)) && ((p.2 : Int) == (b : Int))
theorem pairIn_succ {l : List (Nat × Nat)} {a b k : Nat} (h : k < l.length) : pairIn l a b (k + 1) = (pairIn l a b k || ((((l.getD k (0, 0)).1 : Int) == (a : Int)) && (((l.getD k (0, 0)).2 : Int) == (b : Int)))) := by
  unfold pairIn
  rw [List.take_succ_eq_append_getElem h, List.any_append, List.getD_eq_getElem?_getD, List.getElem?_eq_getElem h]
  simp
theorem pairIn_all {l : List (Nat × Nat)} {a b : Nat} : pairIn l a b l.length = true ↔ (a, b) ∈ l := by
  unfold pairIn
  rw [List.take_length, List.any_eq_true]
  constructor
  · rintro ⟨p, hp, h⟩
    simp only [Bool.and_eq_true, beq_iff_eq] at h
    have e : p = (a, b) := by
      obtain ⟨p1, p2⟩ := p
      simp only at h
      rw [Prod.mk.injEq]
      omega
    rwa [e] at hp
  · intro h
    exact ⟨_, h, by simp⟩

theorem crit_mem {c : Cir} {k : Nat} (hk : k < c.sw.length) : (k ∈ critM c) ↔ dangB c (2 ^ k) = true := by
  unfold critM
  rw [List.mem_filter, List.mem_range]
  exact ⟨fun h => h.2, fun h => ⟨hk, h⟩⟩

theorem crit_has2 {c : Cir} {k : Nat} (hk : k < c.sw.length) : ((natL (critM c)).any fun y => y == (k : Int)) = dangB c (2 ^ k) := by
  rw [← crit_has hk]
  apply congrArg (fun f => (natL (critM c)).any f)
  funext y
  rw [Bool.eq_iff_iff, beq_iff_eq, beq_iff_eq]
  exact ⟨fun h => h.symm, fun h => h.symm⟩

theorem two_bool {c : Cir} {a b : Nat} (hab : a < b) (hb : b < c.sw.length) : dangB c (2 ^ a ||| 2 ^ b) = (pairIn (pairsM c) a b (pairsM c).length || dangB c (2 ^ a) || dangB c (2 ^ b)) := by
  rw [Bool.eq_iff_iff, two_dang hab hb, Bool.or_eq_true, Bool.or_eq_true, pairIn_all, crit_mem (by omega), crit_mem hb, or_assoc]

set_option maxRecDepth 100000 in
set_option maxHeartbeats 8000000 in
theorem lawTwo_any (c : Cir) (sv wv : Value) (ai bi : Int) (w : World) (hv : CirAt w sv wv c) :
    Calls Try.prog 11 #[cirV c sv wv, .int .i64 ai, .int .i64 bi] w fun e w' => e = .returned (.bool true) ∧ Below w.heap.size w w' := by
  have HB := Lib.hid ((Below.refl w.heap.size w).alloc (Nat.le_refl _) (cirO c sv wv))
  have K0 := Lib.hid (block_new w (cirO c sv wv) w.heap.size rfl)
  have HV := Lib.hid (hv.below HB.out (Nat.le_refl _))
  have m5 : (c.sw.length : Int) ≤ 9223372036854775807 := by
    obtain ⟨⟨_, _, _, _, _, _⟩, _⟩ := hv
    omega
  obtain ⟨⟨sa, scap, rfl, _⟩, _⟩ := hv
  go_enter Try.func11, Try.ntmps11
  go_wp2_with fail
  generalize w.alloc (cirO c (.slice sa c.sw.length scap) wv) = wA at *
  refine (far_any c _ wv _ HV.out).mono ?_
  rintro e w1 ⟨q, rfl, hb1⟩
  have HB1 := Lib.hid hb1
  clear hb1
  cases q
  rotate_left
  · go_wp2_with fail
    refine (works_any _).mono ?_
    rintro e wz ⟨rfl, hbz⟩
    go_wp2_with fail
    go_ret
    exact ⟨rfl, HB.out.trans ((HB1.out.trans (hbz.mono HB1.out.size)).mono HB.out.size)⟩
  have c0 := block_cell (keepZ K0.out HB1.out)
  go_wp2_with fail
  refine (rcheck_any c _ wv _ (HV.out.below HB1.out (Nat.le_refl _))).mono ?_
  rintro e w2 ⟨rfl, hb2⟩
  have HB2 := Lib.hid (HB1.out.trans (hb2.mono HB1.out.size))
  clear hb2
  clear c0
  cases hq : validB c
  · have HR0 := Lib.hid (chkC_bad hq)
    clear hq
    rw [← HR0.out]
    go_wp2_with fail
    refine (works_any _).mono ?_
    rintro e wz ⟨rfl, hbz⟩
    go_wp2_with fail
    go_ret
    exact ⟨rfl, HB.out.trans ((HB2.out.trans (hbz.mono HB2.out.size)).mono HB.out.size)⟩
  have HR0 := Lib.hid (chkC_ok hq)
  have HQ := Lib.hid hq
  have HC := Lib.hid (cval hq)
  have s12 := (cval hq).s2
  clear hq
  rw [← HR0.out]
  by_cases ha0 : ai < 0
  · go_wp2_with fail
    refine (works_any _).mono ?_
    rintro e wz ⟨rfl, hbz⟩
    go_wp2_with fail
    go_ret
    exact ⟨rfl, HB.out.trans ((HB2.out.trans (hbz.mono HB2.out.size)).mono HB.out.size)⟩
  by_cases hab : bi ≤ ai
  · go_wp2_with fail
    refine (works_any _).mono ?_
    rintro e wz ⟨rfl, hbz⟩
    go_wp2_with fail
    go_ret
    exact ⟨rfl, HB.out.trans ((HB2.out.trans (hbz.mono HB2.out.size)).mono HB.out.size)⟩
  have c0 := block_cell (keepZ K0.out HB2.out)
  by_cases hbl : (c.sw.length : Int) ≤ bi
  · go_wp2_with fail
    refine (works_any _).mono ?_
    rintro e wz ⟨rfl, hbz⟩
    go_wp2_with fail
    go_ret
    exact ⟨rfl, HB.out.trans ((HB2.out.trans (hbz.mono HB2.out.size)).mono HB.out.size)⟩
  obtain ⟨a, rfl⟩ : ∃ s : Nat, ai = s := ⟨ai.toNat, by omega⟩
  obtain ⟨b, rfl⟩ : ∃ s : Nat, bi = s := ⟨bi.toNat, by omega⟩
  have hab' : a < b := by omega
  have hb' : b < c.sw.length := by omega
  have a0 : (0 : Int) ≤ a := by omega
  have b0 : (0 : Int) ≤ b := by omega
  have hpa := wrap64_pow (k := a) (by omega)
  have hpb := wrap64_pow (k := b) (by omega)
  have HTW := Lib.hid (two_bool hab' hb')
  have HC1 := Lib.hid (crit_has2 (c := c) (k := a) (by omega))
  have HC2 := Lib.hid (crit_has2 (c := c) (k := b) hb')
  have hA20 := pow_set (k := a) (by omega)
  have hB20 := pow_set (k := b) (by omega)
  have HSA := Lib.hid (show ∀ j, j < c.sw.length → setB ((2 ^ j : Nat) : Int) c.sw.length = true from fun j hj => by
    unfold setB
    rw [decide_eq_true_eq, show ((2 : Int) ^ c.sw.length) = ((2 ^ c.sw.length : Nat) : Int) by simp]
    have := Nat.pow_lt_pow_right (show 1 < 2 by omega) hj
    generalize (2 ^ j : Nat) = a at *
    generalize (2 ^ c.sw.length : Nat) = b at *
    omega)
  have HSO := Lib.hid (setB_or (HSA.out a (by omega)) (HSA.out b hb'))
  generalize (2 ^ a : Nat) = A at *
  generalize (2 ^ b : Nat) = D at *
  have hor := i64_or_nat A D (by omega) (by omega)
  generalize A ||| D = M at *
  go_wp2_with fail
  clear hor hpa hpb
  refine (cweak_any c _ wv M _ (HV.out.below HB2.out (Nat.le_refl _))).mono ?_
  rintro e w3 ⟨v, rfl, ⟨va, vcap, rfl, hvc, hvd, _⟩, hb3⟩
  have HB3 := Lib.hid (HB2.out.trans (hb3.mono HB2.out.size))
  clear hb3
  have HE := Lib.hid (show weakE c M = 0 by unfold weakE; rw [HQ.out, HSO.out]; rfl)
  have HWR := Lib.hid (show weakR c M = natL (weakM c M) by unfold weakR; rw [HE.out]; rfl)
  rw [HE.out, HWR.out, natL_len]
  rw [HWR.out, natL_len] at hvc
  have HDL := Lib.hid (dang_len c M)
  generalize (weakM c M).length = L at *
  have hLm : (L : Int) ≤ 9223372036854775807 := by omega
  clear c0
  have c0 := block_cell (keepZ K0.out HB3.out)
  go_wp2_with fail
  refine (ccritical_any c _ wv _ (HV.out.below HB3.out (Nat.le_refl _))).mono ?_
  rintro e w4 ⟨v, rfl, hcr, hb4⟩
  have HB4 := Lib.hid (HB3.out.trans (hb4.mono HB3.out.size))
  clear hb4
  rw [← HR0.out]
  rw [critR_is HQ.out] at hcr
  have HCR := Lib.hid hcr
  obtain ⟨ca, ccap, rfl, _⟩ := hcr
  clear c0
  have c0 := block_cell (keepZ K0.out HB4.out)
  go_wp2_with fail
  refine (cpairs_any c _ wv _ (HV.out.below HB4.out (Nat.le_refl _))).mono ?_
  rintro e w5 ⟨v, rfl, hpr, hb5⟩
  have HCR5 := Lib.hid (HCR.out.below hb5 (Nat.le_refl _))
  have HB5 := Lib.hid (HB4.out.trans (hb5.mono HB4.out.size))
  clear hb5
  rw [← HR0.out]
  rw [show pairsR c = pairsM c by unfold pairsR; rw [HQ.out]; rfl] at hpr
  obtain ⟨pa, pcap, rfl, p1, p2, hpc⟩ := hpr
  have HPC := Lib.hid hpc
  clear c0 hpc
  generalize pairsM c = PM at *
  have p3 : (PM.length : Int) ≤ 9223372036854775807 := by omega
  go_wp2_with fail
  go_loop [13, 14] (fun x i => ∃ k : Nat, k ≤ PM.length ∧ i = .int .i64 k ∧ x = .bool (pairIn PM a b k)) (fun _ i => PM.length - (intOf i).toNat)
  case atStart => exact ⟨0, Nat.zero_le _, rfl, rfl⟩
  case round =>
    obtain ⟨k, hk, rfl, rfl⟩ := hrel
    by_cases hlt : k < PM.length
    · obtain ⟨pb, poff, rfl, hpbl, hpc⟩ := HPC.out (by omega)
      obtain ⟨g1, g2⟩ := pr_at (Below.refl _ _) hpbl hpc hlt
      have HS := Lib.hid (pairIn_succ (a := a) (b := b) hlt)
      have k1 : (0 : Int) ≤ k := by omega
      have k2 : (k : Int) < PM.length := by omega
      generalize PM.getD k (0, 0) = P at *
      obtain ⟨P1, P2⟩ := P
      have heq := run_eqPair P1 P2 a b
      clear hpc
      cases hp : pairIn PM a b k
      · rw [hp] at HS
        have HS2 := Lib.hid (show pairIn PM a b (k + 1) = (((P1 : Int) == (a : Int)) && ((P2 : Int) == (b : Int))) by rw [HS.out]; rfl)
        clear hp
        go_wp2_with fail
        go_round
        case rel => exact ⟨k + 1, hlt, by go_num, by rw [HS2.out]⟩
        case measure => simp [intOf]; omega
      · rw [hp] at HS
        have HS2 := Lib.hid (show pairIn PM a b (k + 1) = true by rw [HS.out]; rfl)
        clear hp
        go_wp2_with fail
        go_round
        case rel => exact ⟨k + 1, hlt, by go_num, by rw [HS2.out]⟩
        case measure => simp [intOf]; omega
    · obtain rfl : k = PM.length := by omega
      generalize pairIn PM a b PM.length = q at *
      have HDL2 := Lib.hid (show decide ((0 : Int) < (L : Int)) = dangB c M by rw [← HDL.out]; exact decide_eq_decide.2 (by omega))
      cases q
      · cases h1 : dangB c A
        · cases h2 : dangB c D
          · rw [h1] at HC1
            rw [h2] at HC2
            rw [HTW.out, h1, h2] at HDL2
            have hL : ¬ (0 : Int) < L := by have := HDL2.out; simpa using this
            clear h1 h2
            go_wp2_with (go_at_call 49; (first | (with_reducible refine (hasOf_is false _ (natL (critM c)) a _ HCR5.out HC1.out).mono ?_) | (with_reducible refine (hasOf_is false _ (natL (critM c)) b _ HCR5.out HC2.out).mono ?_)); rintro e w6 ⟨rfl, rfl⟩)
            refine (works_any _).mono ?_
            rintro e wz ⟨rfl, hbz⟩
            go_wp2_with fail
            go_ret
            exact ⟨rfl, HB.out.trans ((HB5.out.trans (hbz.mono HB5.out.size)).mono HB.out.size)⟩
          · rw [h1] at HC1
            rw [h2] at HC2
            rw [HTW.out, h1, h2] at HDL2
            have hL : (0 : Int) < L := by have := HDL2.out; simpa using this
            clear h1 h2
            go_wp2_with (go_at_call 49; (first | (with_reducible refine (hasOf_is false _ (natL (critM c)) a _ HCR5.out HC1.out).mono ?_) | (with_reducible refine (hasOf_is true _ (natL (critM c)) b _ HCR5.out HC2.out).mono ?_)); rintro e w6 ⟨rfl, rfl⟩)
            refine (works_any _).mono ?_
            rintro e wz ⟨rfl, hbz⟩
            go_wp2_with fail
            go_ret
            exact ⟨rfl, HB.out.trans ((HB5.out.trans (hbz.mono HB5.out.size)).mono HB.out.size)⟩
        · rw [h1] at HC1
          rw [HTW.out, h1] at HDL2
          have hL : (0 : Int) < L := by have := HDL2.out; simpa using this
          clear h1
          go_wp2_with (go_at_call 49; (with_reducible refine (hasOf_is true _ (natL (critM c)) a _ HCR5.out HC1.out).mono ?_); rintro e w6 ⟨rfl, rfl⟩)
          refine (works_any _).mono ?_
          rintro e wz ⟨rfl, hbz⟩
          go_wp2_with fail
          go_ret
          exact ⟨rfl, HB.out.trans ((HB5.out.trans (hbz.mono HB5.out.size)).mono HB.out.size)⟩
      · rw [HTW.out] at HDL2
        have hL : (0 : Int) < L := by have := HDL2.out; simpa using this
        go_wp2_with fail
        refine (works_any _).mono ?_
        rintro e wz ⟨rfl, hbz⟩
        go_wp2_with fail
        go_ret
        exact ⟨rfl, HB.out.trans ((HB5.out.trans (hbz.mono HB5.out.size)).mono HB.out.size)⟩

end Go.Proofs.Ytbkhfmigaehgaaa
