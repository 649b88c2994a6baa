import Derived.Test.YtbiihhokcmdlhaaZzK
/- Texts of one seat, merged: Mf Mn Mo Mp Ne -/
/- CircuitTwo walked. -/
namespace Go.Proofs.Ytbiihhokcmdlhaa
open Go.RowKit

theorem pr_at {w w' : World} {b off : Nat} {l : List (Nat × Nat)} {k : Nat} (hb : Below w.heap.size w w') (hbl : b < w.heap.size)
    (hc : ∀ i x, l[i]? = some x → ∀ j u, (prL x)[j]? = some u → w.cell? ⟨b, off + i * 2 + j, none⟩ = some u) (hk : k < l.length) :
    w'.cell? ⟨b, off + k * 2, none⟩ = some (.int .i64 (l.getD k (0, 0)).1) ∧ w'.cell? ⟨b, off + k * 2 + 1, none⟩ = some (.int .i64 (l.getD k (0, 0)).2) := by
  have h := hc k _ (getD_get? hk (0, 0))
  exact ⟨(hb.cell hbl).trans (h 0 _ rfl), (hb.cell hbl).trans (h 1 _ rfl)⟩

/-- One of the first k pairs is (a, b). -/
def pairIn (l : List (Nat × Nat)) (a b : Nat) (k : Nat) : Bool := (l.take k).any fun p => ((p.1 : Int) == (a : Int)) && ((p.2 : Int) == (b : Int))
theorem pairIn_succ {l : List (Nat × Nat)} {a b k : Nat} (h : k < l.length) : pairIn l a b (k + 1) = (pairIn l a b k || ((((l.getD k (0, 0)).1 : Int) == (a : Int)) && (((l.getD k (0, 0)).2 : Int) == (b : Int)))) := by
  unfold pairIn
  rw [List.take_succ_eq_append_getElem h, List.any_append, List.getD_eq_getElem?_getD, List.getElem?_eq_getElem h]
  simp
theorem pairIn_all {l : List (Nat × Nat)} {a b : Nat} : pairIn l a b l.length = true ↔ (a, b) ∈ l := by
  unfold pairIn
  rw [List.take_length, List.any_eq_true]
  constructor
  · rintro ⟨p, hp, h⟩
    simp only [Bool.and_eq_true, beq_iff_eq] at h
    have e : p = (a, b) := by
      obtain ⟨p1, p2⟩ := p
      simp only at h
      rw [Prod.mk.injEq]
      omega
    rwa [e] at hp
  · intro h
    exact ⟨_, h, by simp⟩

theorem crit_mem {c : Cir} {k : Nat} (hk : k < c.sw.length) : (k ∈ critM c) ↔ dangB c (2 ^ k) = true := by
  unfold critM
  rw [List.mem_filter, List.mem_range]
  exact ⟨fun h => h.2, fun h => ⟨hk, h⟩⟩

theorem crit_has2 {c : Cir} {k : Nat} (hk : k < c.sw.length) : ((natL (critM c)).any fun y => y == (k : Int)) = dangB c (2 ^ k) := by
  rw [← crit_has hk]
  apply congrArg (fun f => (natL (critM c)).any f)
  funext y
  rw [Bool.eq_iff_iff, beq_iff_eq, beq_iff_eq]
  exact ⟨fun h => h.symm, fun h => h.symm⟩

theorem two_bool {c : Cir} {a b : Nat} (hab : a < b) (hb : b < c.sw.length) : dangB c (2 ^ a ||| 2 ^ b) = (pairIn (pairsM c) a b (pairsM c).length || dangB c (2 ^ a) || dangB c (2 ^ b)) := by
  rw [Bool.eq_iff_iff, two_dang hab hb, Bool.or_eq_true, Bool.or_eq_true, pairIn_all, crit_mem (by omega), crit_mem hb, or_assoc]

set_option maxRecDepth 100000 in
set_option maxHeartbeats 8000000 in
theorem lawTwo_any (c : Cir) (sv wv : Value) (ai bi : Int) (w : World) (hv : CirAt w sv wv c) :
    Calls Try.prog 11 #[cirV c sv wv, .int .i64 ai, .int .i64 bi] w fun e w' => e = .returned (.bool true) ∧ Below w.heap.size w w' := by
  have HB := Lib.hid ((Below.refl w.heap.size w).alloc (Nat.le_refl _) (cirO c sv wv))
  have K0 := Lib.hid (block_new w (cirO c sv wv) w.heap.size rfl)
  have HV := Lib.hid (hv.below HB.out (Nat.le_refl _))
  have m5 : (c.sw.length : Int) ≤ 9223372036854775807 := by
    obtain ⟨⟨_, _, _, _, _, _⟩, _⟩ := hv
    omega
  obtain ⟨⟨sa, scap, rfl, _⟩, _⟩ := hv
  go_enter Try.func11, Try.ntmps11
  go_wp2_with fail
  generalize w.alloc (cirO c (.slice sa c.sw.length scap) wv) = wA at *
  refine (far_any c _ wv _ HV.out).mono ?_
  rintro e w1 ⟨q, rfl, hb1⟩
  have HB1 := Lib.hid hb1
  clear hb1
  cases q
  rotate_left
  · go_wp2_with fail
    refine (works_any _).mono ?_
    rintro e wz ⟨rfl, hbz⟩
    go_wp2_with fail
    go_ret
    exact ⟨rfl, HB.out.trans ((HB1.out.trans (hbz.mono HB1.out.size)).mono HB.out.size)⟩
  have c0 := block_cell (keepZ K0.out HB1.out)
  go_wp2_with fail
  refine (rcheck_any c _ wv _ (HV.out.below HB1.out (Nat.le_refl _))).mono ?_
  rintro e w2 ⟨rfl, hb2⟩
  have HB2 := Lib.hid (HB1.out.trans (hb2.mono HB1.out.size))
  clear hb2
  clear c0
  cases hq : validB c
  · have HR0 := Lib.hid (chkC_bad hq)
    clear hq
    rw [← HR0.out]
    go_wp2_with fail
    refine (works_any _).mono ?_
    rintro e wz ⟨rfl, hbz⟩
    go_wp2_with fail
    go_ret
    exact ⟨rfl, HB.out.trans ((HB2.out.trans (hbz.mono HB2.out.size)).mono HB.out.size)⟩
  have HR0 := Lib.hid (chkC_ok hq)
  have HQ := Lib.hid hq
  have HC := Lib.hid (cval hq)
  have s12 := (cval hq).s2
  clear hq
  rw [← HR0.out]
  by_cases ha0 : ai < 0
  · go_wp2_with fail
    refine (works_any _).mono ?_
    rintro e wz ⟨rfl, hbz⟩
    go_wp2_with fail
    go_ret
    exact ⟨rfl, HB.out.trans ((HB2.out.trans (hbz.mono HB2.out.size)).mono HB.out.size)⟩
  by_cases hab : bi ≤ ai
  · go_wp2_with fail
    refine (works_any _).mono ?_
    rintro e wz ⟨rfl, hbz⟩
    go_wp2_with fail
    go_ret
    exact ⟨rfl, HB.out.trans ((HB2.out.trans (hbz.mono HB2.out.size)).mono HB.out.size)⟩
  have c0 := block_cell (keepZ K0.out HB2.out)
  by_cases hbl : (c.sw.length : Int) ≤ bi
  · go_wp2_with fail
    refine (works_any _).mono ?_
    rintro e wz ⟨rfl, hbz⟩
    go_wp2_with fail
    go_ret
    exact ⟨rfl, HB.out.trans ((HB2.out.trans (hbz.mono HB2.out.size)).mono HB.out.size)⟩
  obtain ⟨a, rfl⟩ : ∃ s : Nat, ai = s := ⟨ai.toNat, by omega⟩
  obtain ⟨b, rfl⟩ : ∃ s : Nat, bi = s := ⟨bi.toNat, by omega⟩
  have hab' : a < b := by omega
  have hb' : b < c.sw.length := by omega
  have a0 : (0 : Int) ≤ a := by omega
  have b0 : (0 : Int) ≤ b := by omega
  have hpa := wrap64_pow (k := a) (by omega)
  have hpb := wrap64_pow (k := b) (by omega)
  have HTW := Lib.hid (two_bool hab' hb')
  have HC1 := Lib.hid (crit_has2 (c := c) (k := a) (by omega))
  have HC2 := Lib.hid (crit_has2 (c := c) (k := b) hb')
  have hA20 := pow_set (k := a) (by omega)
  have hB20 := pow_set (k := b) (by omega)
  have HSA := Lib.hid (show ∀ j, j < c.sw.length → setB ((2 ^ j : Nat) : Int) c.sw.length = true from fun j hj => by
    unfold setB
    rw [decide_eq_true_eq, show ((2 : Int) ^ c.sw.length) = ((2 ^ c.sw.length : Nat) : Int) by simp]
    have := Nat.pow_lt_pow_right (show 1 < 2 by omega) hj
    generalize (2 ^ j : Nat) = a at *
    generalize (2 ^ c.sw.length : Nat) = b at *
    omega)
  have HSO := Lib.hid (setB_or (HSA.out a (by omega)) (HSA.out b hb'))
  generalize (2 ^ a : Nat) = A at *
  generalize (2 ^ b : Nat) = D at *
  have hor := i64_or_nat A D (by omega) (by omega)
  generalize A ||| D = M at *
  go_wp2_with fail
  clear hor hpa hpb
  refine (cweak_any c _ wv M _ (HV.out.below HB2.out (Nat.le_refl _))).mono ?_
  rintro e w3 ⟨v, rfl, ⟨va, vcap, rfl, hvc, hvd, _⟩, hb3⟩
  have HB3 := Lib.hid (HB2.out.trans (hb3.mono HB2.out.size))
  clear hb3
  have HE := Lib.hid (show weakE c M = 0 by unfold weakE; rw [HQ.out, HSO.out]; rfl)
  have HWR := Lib.hid (show weakR c M = natL (weakM c M) by unfold weakR; rw [HE.out]; rfl)
  rw [HE.out, HWR.out, natL_len]
  rw [HWR.out, natL_len] at hvc
  have HDL := Lib.hid (dang_len c M)
  generalize (weakM c M).length = L at *
  have hLm : (L : Int) ≤ 9223372036854775807 := by omega
  clear c0
  have c0 := block_cell (keepZ K0.out HB3.out)
  go_wp2_with fail
  refine (ccritical_any c _ wv _ (HV.out.below HB3.out (Nat.le_refl _))).mono ?_
  rintro e w4 ⟨v, rfl, hcr, hb4⟩
  have HB4 := Lib.hid (HB3.out.trans (hb4.mono HB3.out.size))
  clear hb4
  rw [← HR0.out]
  rw [critR_is HQ.out] at hcr
  have HCR := Lib.hid hcr
  obtain ⟨ca, ccap, rfl, _⟩ := hcr
  clear c0
  have c0 := block_cell (keepZ K0.out HB4.out)
  go_wp2_with fail
  refine (cpairs_any c _ wv _ (HV.out.below HB4.out (Nat.le_refl _))).mono ?_
  rintro e w5 ⟨v, rfl, hpr, hb5⟩
  have HCR5 := Lib.hid (HCR.out.below hb5 (Nat.le_refl _))
  have HB5 := Lib.hid (HB4.out.trans (hb5.mono HB4.out.size))
  clear hb5
  rw [← HR0.out]
  rw [show pairsR c = pairsM c by unfold pairsR; rw [HQ.out]; rfl] at hpr
  obtain ⟨pa, pcap, rfl, p1, p2, hpc⟩ := hpr
  have HPC := Lib.hid hpc
  clear c0 hpc
  generalize pairsM c = PM at *
  have p3 : (PM.length : Int) ≤ 9223372036854775807 := by omega
  go_wp2_with fail
  go_loop [13, 14] (fun x i => ∃ k : Nat, k ≤ PM.length ∧ i = .int .i64 k ∧ x = .bool (pairIn PM a b k)) (fun _ i => PM.length - (intOf i).toNat)
  case atStart => exact ⟨0, Nat.zero_le _, rfl, rfl⟩
  case round =>
    obtain ⟨k, hk, rfl, rfl⟩ := hrel
    by_cases hlt : k < PM.length
    · obtain ⟨pb, poff, rfl, hpbl, hpc⟩ := HPC.out (by omega)
      obtain ⟨g1, g2⟩ := pr_at (Below.refl _ _) hpbl hpc hlt
      have HS := Lib.hid (pairIn_succ (a := a) (b := b) hlt)
      have k1 : (0 : Int) ≤ k := by omega
      have k2 : (k : Int) < PM.length := by omega
      generalize PM.getD k (0, 0) = P at *
      obtain ⟨P1, P2⟩ := P
      have heq := run_eqPair P1 P2 a b
      clear hpc
      cases hp : pairIn PM a b k
      · rw [hp] at HS
        have HS2 := Lib.hid (show pairIn PM a b (k + 1) = (((P1 : Int) == (a : Int)) && ((P2 : Int) == (b : Int))) by rw [HS.out]; rfl)
        clear hp
        go_wp2_with fail
        go_round
        case rel => exact ⟨k + 1, hlt, by go_num, by rw [HS2.out]⟩
        case measure => simp [intOf]; omega
      · rw [hp] at HS
        have HS2 := Lib.hid (show pairIn PM a b (k + 1) = true by rw [HS.out]; rfl)
        clear hp
        go_wp2_with fail
        go_round
        case rel => exact ⟨k + 1, hlt, by go_num, by rw [HS2.out]⟩
        case measure => simp [intOf]; omega
    · obtain rfl : k = PM.length := by omega
      generalize pairIn PM a b PM.length = q at *
      have HDL2 := Lib.hid (show decide ((0 : Int) < (L : Int)) = dangB c M by rw [← HDL.out]; exact decide_eq_decide.2 (by omega))
      cases q
      · cases h1 : dangB c A
        · cases h2 : dangB c D
          · rw [h1] at HC1
            rw [h2] at HC2
            rw [HTW.out, h1, h2] at HDL2
            have hL : ¬ (0 : Int) < L := by have := HDL2.out; simpa using this
            clear h1 h2
            go_wp2_with (go_at_call 49; (first | (with_reducible refine (hasOf_is false _ (natL (critM c)) a _ HCR5.out HC1.out).mono ?_) | (with_reducible refine (hasOf_is false _ (natL (critM c)) b _ HCR5.out HC2.out).mono ?_)); rintro e w6 ⟨rfl, rfl⟩)
            refine (works_any _).mono ?_
            rintro e wz ⟨rfl, hbz⟩
            go_wp2_with fail
            go_ret
            exact ⟨rfl, HB.out.trans ((HB5.out.trans (hbz.mono HB5.out.size)).mono HB.out.size)⟩
          · rw [h1] at HC1
            rw [h2] at HC2
            rw [HTW.out, h1, h2] at HDL2
            have hL : (0 : Int) < L := by have := HDL2.out; simpa using this
            clear h1 h2
            go_wp2_with (go_at_call 49; (first | (with_reducible refine (hasOf_is false _ (natL (critM c)) a _ HCR5.out HC1.out).mono ?_) | (with_reducible refine (hasOf_is true _ (natL (critM c)) b _ HCR5.out HC2.out).mono ?_)); rintro e w6 ⟨rfl, rfl⟩)
            refine (works_any _).mono ?_
            rintro e wz ⟨rfl, hbz⟩
            go_wp2_with fail
            go_ret
            exact ⟨rfl, HB.out.trans ((HB5.out.trans (hbz.mono HB5.out.size)).mono HB.out.size)⟩
        · rw [h1] at HC1
          rw [HTW.out, h1] at HDL2
          have hL : (0 : Int) < L := by have := HDL2.out; simpa using this
          clear h1
          go_wp2_with (go_at_call 49; (with_reducible refine (hasOf_is true _ (natL (critM c)) a _ HCR5.out HC1.out).mono ?_); rintro e w6 ⟨rfl, rfl⟩)
          refine (works_any _).mono ?_
          rintro e wz ⟨rfl, hbz⟩
          go_wp2_with fail
          go_ret
          exact ⟨rfl, HB.out.trans ((HB5.out.trans (hbz.mono HB5.out.size)).mono HB.out.size)⟩
      · rw [HTW.out] at HDL2
        have hL : (0 : Int) < L := by have := HDL2.out; simpa using this
        go_wp2_with fail
        refine (works_any _).mono ?_
        rintro e wz ⟨rfl, hbz⟩
        go_wp2_with fail
        go_ret
        exact ⟨rfl, HB.out.trans ((HB5.out.trans (hbz.mono HB5.out.size)).mono HB.out.size)⟩

end Go.Proofs.Ytbiihhokcmdlhaa

/- Walks of layer 3 (circuit): sameInts, samePairs. -/
namespace Go.Proofs.Ytbiihhokcmdlhaa
open Go.RowKit

set_option maxRecDepth 100000 in
set_option maxHeartbeats 1000000 in
theorem sameInts_any (v v2 : Value) (l : List Int) (w : World) (hv : InAt w v l) (hv2 : InAt w v2 l) :
    Calls Try.prog 26 #[v, v2] w fun e w' => e = .returned (.bool true) ∧ Below w.heap.size w w' := by
  obtain ⟨a, cap, rfl, hn, hcap, hc⟩ := hv
  obtain ⟨a2, cap2, rfl, hn2, hcap2, hc2⟩ := hv2
  have HC := Lib.hid hc
  have HC2 := Lib.hid hc2
  clear hc hc2
  go_enter Try.func26, Try.ntmps26
  go_wp2_with fail
  go_loopw [5] (fun i wr => ∃ k : Nat, k ≤ l.length ∧ i = .int .i64 k ∧ Hid (Below w.heap.size w wr)) (fun i _ => l.length - (intOf i).toNat)
  case atStart => exact ⟨0, Nat.zero_le _, rfl, Lib.hid (Below.refl _ _)⟩
  case round =>
    obtain ⟨k, hk, rfl, hb⟩ := hrel
    by_cases hlt : k < l.length
    · obtain ⟨b, off, rfl, hbl, hc⟩ := HC.out (by omega)
      obtain ⟨b2, off2, rfl, hbl2, hc2⟩ := HC2.out (by omega)
      have g1 := (hb.out.cell (p := ⟨b, off + k, none⟩) hbl).trans (hc k hlt)
      have g2 := (hb.out.cell (p := ⟨b2, off2 + k, none⟩) hbl2).trans (hc2 k hlt)
      have k1 : (0 : Int) ≤ k := by omega
      have k2 : (k : Int) < l.length := by omega
      clear hc hc2
      generalize l.getD k 0 = q at g1 g2
      go_wp2_with fail
      go_quiet (fail)
      go_wp2
      go_roundw
      case rel => exact ⟨k + 1, hlt, by go_num, Lib.hid (below_drewN hb.out _)⟩
      case measure => simp [intOf]; omega
    · go_wp2_with fail
      go_ret
      exact ⟨rfl, hb.out⟩

set_option maxRecDepth 100000 in
set_option maxHeartbeats 1000000 in
theorem samePairs_any (v v2 : Value) (l : List (Nat × Nat)) (w : World) (hv : PrAt w v l) (hv2 : PrAt w v2 l) :
    Calls Try.prog 33 #[v, v2] w fun e w' => e = .returned (.bool true) ∧ Below w.heap.size w w' := by
  obtain ⟨a, cap, rfl, hn, hcap, hc⟩ := hv
  obtain ⟨a2, cap2, rfl, hn2, hcap2, hc2⟩ := hv2
  have HC := Lib.hid hc
  have HC2 := Lib.hid hc2
  have p3 : (l.length : Int) ≤ 9223372036854775807 := by omega
  clear hc hc2
  go_enter Try.func33, Try.ntmps33
  go_wp2_with fail
  go_loopw [5] (fun i wr => ∃ k : Nat, k ≤ l.length ∧ i = .int .i64 k ∧ Hid (Below w.heap.size w wr)) (fun i _ => l.length - (intOf i).toNat)
  case atStart => exact ⟨0, Nat.zero_le _, rfl, Lib.hid (Below.refl _ _)⟩
  case round =>
    obtain ⟨k, hk, rfl, hb⟩ := hrel
    by_cases hlt : k < l.length
    · obtain ⟨b, off, rfl, hbl, hc⟩ := HC.out (by omega)
      obtain ⟨b2, off2, rfl, hbl2, hc2⟩ := HC2.out (by omega)
      obtain ⟨g1, g2⟩ := pr_at hb.out hbl hc hlt
      obtain ⟨g3, g4⟩ := pr_at hb.out hbl2 hc2 hlt
      have k1 : (0 : Int) ≤ k := by omega
      have k2 : (k : Int) < l.length := by omega
      generalize l.getD k (0, 0) = P at *
      obtain ⟨P1, P2⟩ := P
      have heq : ∀ W : World, (Op.equalIn 10000 71 (.agg #[.int .i64 P1, .int .i64 P2]) (.agg #[.int .i64 P1, .int .i64 P2])).run Try.prog W = .ok true W := fun W => by
        rw [run_eqPair]; simp
      clear hc hc2
      go_wp2_with fail
      go_quiet (fail)
      go_wp2
      go_roundw
      case rel => exact ⟨k + 1, hlt, by go_num, Lib.hid (below_drewN hb.out _)⟩
      case measure => simp [intOf]; omega
    · go_wp2_with fail
      go_ret
      exact ⟨rfl, hb.out⟩

end Go.Proofs.Ytbiihhokcmdlhaa

/- Walks of layer 3 (circuit): Pairs of the specification. -/
namespace Go.Proofs.Ytbiihhokcmdlhaa
open Go.RowKit

set_option maxRecDepth 100000 in
set_option maxHeartbeats 8000000 in
theorem rpairs_any (c : Cir) (sv wv : Value) (w : World) (hv : CirAt w sv wv c) :
    Calls Try.prog 30 #[cirV c sv wv] w (PairErr (pairsR c) (chkC c) w) := by
  have HB := Lib.hid ((Below.refl w.heap.size w).alloc (Nat.le_refl _) (cirO c sv wv))
  have K0 := Lib.hid (block_new w (cirO c sv wv) w.heap.size rfl)
  have HV := Lib.hid (hv.below HB.out (Nat.le_refl _))
  obtain ⟨⟨sa, scap, rfl, _, _, _⟩, _⟩ := hv
  cases hq : validB c
  · have HR := Lib.hid (chkC_bad hq)
    have HL := Lib.hid (show [] = pairsR c by unfold pairsR; rw [hq]; rfl)
    clear hq
    go_enter Try.func30, Try.ntmps30
    go_wp2_with fail
    generalize w.alloc (cirO c (.slice sa c.sw.length scap) wv) = wA at *
    refine (rcheck_any c _ _ _ HV.out).mono ?_
    rintro e w1 ⟨rfl, hb1⟩
    rw [← HR.out]
    go_wp2
    go_ret2
    exact ⟨.slice none 0 0, by rw [HR.out]; rfl, by rw [← HL.out]; exact ElAt.nil _, HB.out.trans (hb1.mono HB.out.size)⟩
  · have HC := Lib.hid (cval hq)
    have HR := Lib.hid (chkC_ok hq)
    have HL := Lib.hid (show pairsM c = pairsR c by unfold pairsR; rw [hq]; rfl)
    have s2 := (cval hq).s2
    have s1 := (cval hq).s1
    clear hq
    obtain ⟨i0, hi0, hz0, hz1, hz2⟩ := info_parts infoPair
    go_enter Try.func30, Try.ntmps30
    go_wp2_with fail
    generalize w.alloc (cirO c (.slice sa c.sw.length scap) wv) = wA at *
    refine (rcheck_any c _ _ _ HV.out).mono ?_
    rintro e w1 ⟨rfl, hb1⟩
    rw [← HR.out]
    have KW := Lib.hid (keepZ K0.out hb1)
    have HB1 := Lib.hid hb1
    clear hb1
    go_wp2_with fail
    go_loopw [4, 5] (fun x i wr => ∃ k : Nat, k ≤ c.sw.length ∧ i = .int .i64 k ∧ Hid (Below w1.heap.size w1 wr) ∧ Hid (wr.ownsRow w1.heap.size 71 2 x (pairTo c k).length ((pairTo c k).flatMap prL))) (fun _ i _ => c.sw.length - (intOf i).toNat)
    case atStart => exact ⟨0, Nat.zero_le _, rfl, Lib.hid (Below.refl _ _), Lib.hid ⟨by simp [pairTo], Or.inl ⟨rfl, by simp [pairTo]⟩⟩⟩
    case round =>
      obtain ⟨i, hi, rfl, hb, ho⟩ := hrel
      obtain ⟨wo, rfl⟩ : ∃ wo : World, wo = wr := ⟨_, rfl⟩
      obtain ⟨xa, xc, rfl, _⟩ := ownsRow_shape ho.out
      have c0 := block_cell (keepZ KW.out hb.out)
      by_cases hlt : i < c.sw.length
      · have R0 := Lib.hid (show wo.ownsRow w1.heap.size 71 2 (.slice xa (pairTo c i).length xc) (pairTo c i ++ pairRow c i (i + 1)).length ((pairTo c i ++ pairRow c i (i + 1)).flatMap prL) by
          rw [show pairTo c i ++ pairRow c i (i + 1) = pairTo c i by rw [pairRow_start c i _ (Nat.le_refl _)]; simp]; exact ho.out)
        have hpl := pairTo_len c i
        have hpl2 : (pairTo c i).length ≤ 144 := Nat.le_trans hpl (Nat.mul_le_mul (by omega : i ≤ 12) s2)
        have i1 : (0 : Int) ≤ i := by omega
        clear ho hpl
        go_wp2_with fail
        clear c0
        go_loopw [4, 6] (fun x j wr => ∃ k : Nat, i < k ∧ k ≤ c.sw.length ∧ j = .int .i64 k ∧ Hid (Below w1.heap.size w1 wr) ∧ Hid (wr.ownsRow w1.heap.size 71 2 x (pairTo c i ++ pairRow c i k).length ((pairTo c i ++ pairRow c i k).flatMap prL))) (fun _ j _ => c.sw.length - (intOf j).toNat)
        case atStart => exact ⟨i + 1, by omega, hlt, by go_num, hb, R0⟩
        case round =>
          obtain ⟨k, hik, hk, rfl, hb2, ho2⟩ := hrel
          obtain ⟨ya, yc, rfl, hown⟩ := ownsRow_shape ho2.out
          have c0 := block_cell (keepZ KW.out hb2.out)
          by_cases hlk : k < c.sw.length
          · have HO := Lib.hid ho2.out
            have HOWN := Lib.hid hown
            have hrl := pairRow_len c i k
            have h1 : (pairTo c i ++ pairRow c i k).length ≤ 156 := by rw [List.length_append]; omega
            have HN := Lib.hid (pairRow_no (c := c) (i := i) (k := k))
            have HY := Lib.hid (pairRow_yes (c := c) (i := i) (k := k))
            have HF := Lib.hid (pair_flat (pairTo c i ++ pairRow c i k) i k)
            have HPI := Lib.hid (pairB_i (c := c) (i := i) (k := k))
            have HPK := Lib.hid (pairB_k (c := c) (i := i) (k := k))
            have HPS := Lib.hid (pairB_is (c := c) hik)
            have k0 : (0 : Int) ≤ k := by omega
            have hpi := wrap64_pow (k := i) (by omega)
            have hpk := wrap64_pow (k := k) (by omega)
            clear hrl hown ho2
            obtain ⟨A, hA⟩ : ∃ A, 2 ^ i = A := ⟨_, rfl⟩
            obtain ⟨D, hD⟩ : ∃ D, 2 ^ k = D := ⟨_, rfl⟩
            have a20 : A < 1048576 := by rw [← hA]; exact pow_set (by omega)
            have d20 : D < 1048576 := by rw [← hD]; exact pow_set (by omega)
            have hor := i64_or_nat A D (by omega) (by omega)
            have ho20 : A ||| D < 1048576 := Nat.or_lt_two_pow (n := 20) a20 d20
            rw [hA] at HPI HPS hpi
            rw [hD] at HPK HPS hpk
            have HV2 := Lib.hid (HV.out.below (HB1.out.trans (hb2.out.mono HB1.out.size)) (Nat.le_refl _))
            generalize hLL : (pairTo c i ++ pairRow c i k) = L at *
            have HLL := Lib.hid hLL
            clear hA hD hLL
            generalize A ||| D = M at *
            go_wp2_with fail
            refine (rweak_any c _ wv A _ HV2.out HC.out a20).mono ?_
            rintro e w3 ⟨v, rfl, ⟨va, vcap, rfl, v1, v2, _⟩, hb3⟩
            rw [natL_len]
            rw [natL_len] at v1
            have HB3 := Lib.hid (hb2.out.trans (hb3.mono hb2.out.size))
            have HO3 := Lib.hid (ownsRow_below HO.out hb3)
            have HV3 := Lib.hid (HV2.out.below hb3 (Nat.le_refl _))
            clear hb3 c0
            have c0 := block_cell (keepZ KW.out HB3.out)
            cases hdi : dangB c A
            rotate_left
            · have HP := Lib.hid (HN.out (HPI.out hdi))
              have hw0 := dang_yes hdi
              clear hdi
              generalize (weakM c A).length = Z at *
              have hZ : ¬ ((Z : Nat) : Int) = 0 := by omega
              go_wp2_with fail
              go_roundw
              case rel => exact ⟨k + 1, by omega, hlk, by go_num, HB3, by rw [HP.out, HLL.out]; exact HO3⟩
              case measure => simp [intOf]; omega
            have D1 := Lib.hid hdi
            rw [dang_no hdi]
            clear hdi v1
            go_wp2_with fail
            refine (rweak_any c _ wv D _ HV3.out HC.out d20).mono ?_
            rintro e w4 ⟨v, rfl, ⟨va4, vcap4, rfl, v1, v2, _⟩, hb4⟩
            rw [natL_len]
            rw [natL_len] at v1
            have HB4 := Lib.hid (HB3.out.trans (hb4.mono HB3.out.size))
            have HO4 := Lib.hid (ownsRow_below HO3.out hb4)
            have HV4 := Lib.hid (HV3.out.below hb4 (Nat.le_refl _))
            clear hb4 c0
            have c0 := block_cell (keepZ KW.out HB4.out)
            cases hdk : dangB c D
            rotate_left
            · have HP := Lib.hid (HN.out (HPK.out hdk))
              have hw0 := dang_yes hdk
              clear hdk
              generalize (weakM c D).length = Z at *
              have hZ : ¬ ((Z : Nat) : Int) = 0 := by omega
              go_wp2_with fail
              go_roundw
              case rel => exact ⟨k + 1, by omega, hlk, by go_num, HB4, by rw [HP.out, HLL.out]; exact HO4⟩
              case measure => simp [intOf]; omega
            have D2 := Lib.hid hdk
            rw [dang_no hdk]
            clear hdk v1
            go_wp2_with fail
            refine (rweak_any c _ wv M _ HV4.out HC.out ho20).mono ?_
            rintro e w5 ⟨v, rfl, ⟨va5, vcap5, rfl, v1, v2, _⟩, hb5⟩
            rw [natL_len]
            rw [natL_len] at v1
            have HB5 := Lib.hid (HB4.out.trans (hb5.mono HB4.out.size))
            have HO5 := Lib.hid (ownsRow_below HO4.out hb5)
            have hsz5 := HB5.out.size
            clear hb5 c0
            have PB := Lib.hid (HPS.out D1.out D2.out)
            cases hpb : dangB c M
            · have HP := Lib.hid (HN.out (PB.out.trans hpb))
              rw [dang_no hpb]
              clear hpb v1
              go_wp2_with fail
              go_roundw
              case rel => exact ⟨k + 1, by omega, hlk, by go_num, HB5, by rw [HP.out, HLL.out]; exact HO5⟩
              case measure => simp [intOf]; omega
            · have HP := Lib.hid (HY.out (PB.out.trans hpb))
              have hw0 := dang_yes hpb
              clear hpb
              generalize (weakM c M).length = Z at *
              have hZ : (0 : Int) < Z := by omega
              go_wp2_with (at_builtin; refine wpList_append_own _ rfl (.tmp 55) (.tmp 59) 39 rfl w1.heap.size 71 i0 (.agg #[.int .i64 0, .int .i64 0]) 2 16 Try.underlying39 hi0 hz0 hz1 hz2 rfl (by decide) _ L.length (L.flatMap prL) rfl ?g0 _ _ _ [.int .i64 i, .int .i64 k] rfl rfl ?g1 ?g2 ?g3 ?g4 ?g5 ?_)
              case g0 => exact World.ownsRow.alloc HO5.out _
              case g1 => exact cells_new _ _ _ rfl
              case g2 => intro u hu; simp only [List.mem_cons, List.not_mem_nil, or_false] at hu; rcases hu with rfl | rfl <;> rfl
              case g3 => unfold maxLen; omega
              case g4 => omega
              case g5 => exact Nat.le_trans hsz5 (al_le _ _)
              intro v2 w6 hown2 hgrow _
              have hbX := ((Below.refl _ _).alloc hsz5 _).trans (below_grown hgrow HOWN.out (Nat.le_trans hsz5 (al_le _ _)))
              have HB6 := Lib.hid (HB5.out.trans hbX)
              have HL2 := Lib.hid (show pairTo c i ++ pairRow c i (k + 1) = L ++ [(i, k)] by rw [HP.out, ← HLL.out, List.append_assoc])
              have HO6 : Hid (w6.ownsRow w1.heap.size 71 2 v2 (L ++ [(i, k)]).length ((L ++ [(i, k)]).flatMap prL)) := by
                rw [HF.out, show (L ++ [(i, k)]).length = L.length + 1 by simp]; exact hown2
              obtain ⟨ya2, yc2, rfl, _⟩ := ownsRow_shape hown2
              clear hown2 hgrow hbX
              go_wp2
              go_roundw
              case rel => exact ⟨k + 1, by omega, hlk, by go_num, HB6, by rw [HL2.out]; exact HO6⟩
              case measure => simp [intOf]; omega
          · obtain rfl : k = c.sw.length := by omega
            have HO := Lib.hid ho2.out
            clear ho2 hown
            go_wp2_with fail
            go_roundw
            case rel => exact ⟨i + 1, hlt, by go_num, hb2, HO⟩
            case measure => simp [intOf]; omega
      · obtain rfl : i = c.sw.length := by omega
        go_wp2_with fail
        go_ret2
        exact ⟨.slice xa (pairTo c c.sw.length).length xc, by rw [HR.out]; rfl, by rw [← HL.out]; exact ElAt.of_own (f := prL) (xs := pairsM c) (fun _ => rfl) ho.out, HB.out.trans ((HB1.out.trans (hb.out.mono HB1.out.size)).mono HB.out.size)⟩

end Go.Proofs.Ytbiihhokcmdlhaa

/- CircuitDangers walked. -/
namespace Go.Proofs.Ytbiihhokcmdlhaa
open Go.RowKit

set_option maxRecDepth 100000 in
set_option maxHeartbeats 8000000 in
theorem lawDangers_any (c : Cir) (sv wv : Value) (ki hi : Int) (w : World) (hv : CirAt w sv wv c) :
    Calls Try.prog 4 #[cirV c sv wv, .int .i64 ki, .int .i64 hi] w fun e w' => e = .returned (.bool true) ∧ Below w.heap.size w w' := by
  have HB := Lib.hid ((Below.refl w.heap.size w).alloc (Nat.le_refl _) (cirO c sv wv))
  have K0 := Lib.hid (block_new w (cirO c sv wv) w.heap.size rfl)
  have HV := Lib.hid (hv.below HB.out (Nat.le_refl _))
  obtain ⟨⟨sa, scap, rfl, _⟩, _⟩ := hv
  go_enter Try.func4, Try.ntmps4
  go_wp2_with fail
  generalize w.alloc (cirO c (.slice sa c.sw.length scap) wv) = wA at *
  refine (far_any c _ wv _ HV.out).mono ?_
  rintro e w1 ⟨q, rfl, hb1⟩
  have HB1 := Lib.hid hb1
  clear hb1
  cases q
  rotate_left
  · go_wp2_with fail
    refine (works_any _).mono ?_
    rintro e wz ⟨rfl, hbz⟩
    go_wp2_with fail
    go_ret
    exact ⟨rfl, HB.out.trans ((HB1.out.trans (hbz.mono HB1.out.size)).mono HB.out.size)⟩
  have c0 := block_cell (keepZ K0.out HB1.out)
  go_wp2_with fail
  refine (cweak_any c _ wv ki _ (HV.out.below HB1.out (Nat.le_refl _))).mono ?_
  rintro e w2 ⟨v, rfl, hin, hb2⟩
  have HB2 := Lib.hid (HB1.out.trans (hb2.mono HB1.out.size))
  clear hb2
  have HI := Lib.hid hin
  obtain ⟨va, vcap, rfl, _⟩ := hin
  clear c0
  have c0 := block_cell (keepZ K0.out HB2.out)
  go_wp2_with fail
  refine (rWeak_any c _ wv ki _ (HV.out.below HB2.out (Nat.le_refl _))).mono ?_
  rintro e w3 ⟨v, rfl, hin, hb3⟩
  have H1 := Lib.hid (HI.out.below hb3 (Nat.le_refl _))
  have H2 := Lib.hid hin
  obtain ⟨va2, vcap2, rfl, _⟩ := hin
  have HB3 := Lib.hid (HB2.out.trans (hb3.mono HB2.out.size))
  clear hb3
  clear HI c0
  generalize weakE c ki = E at *
  generalize weakR c ki = R at *
  go_wp2_with fail
  refine (sameInts_any _ _ _ _ H1.out H2.out).mono ?_
  rintro e w4 ⟨rfl, hb4⟩
  have HB4 := Lib.hid (HB3.out.trans (hb4.mono HB3.out.size))
  clear hb4
  clear H1 H2
  have c0 := block_cell (keepZ K0.out HB4.out)
  go_wp2_with fail
  refine (ccritical_any c _ wv _ (HV.out.below HB4.out (Nat.le_refl _))).mono ?_
  rintro e w5 ⟨v, rfl, hin, hb5⟩
  have HB5 := Lib.hid (HB4.out.trans (hb5.mono HB4.out.size))
  clear hb5
  have HI := Lib.hid hin
  obtain ⟨ca, ccap, rfl, _⟩ := hin
  clear c0
  have c0 := block_cell (keepZ K0.out HB5.out)
  go_wp2_with fail
  refine (rcritical_any c _ wv _ (HV.out.below HB5.out (Nat.le_refl _))).mono ?_
  rintro e w6 ⟨v, rfl, hin, hb6⟩
  have H1 := Lib.hid (HI.out.below hb6 (Nat.le_refl _))
  have H2 := Lib.hid hin
  obtain ⟨ca2, ccap2, rfl, _⟩ := hin
  have HB6 := Lib.hid (HB5.out.trans (hb6.mono HB5.out.size))
  clear hb6
  clear HI c0
  generalize chkC c = E2 at *
  generalize critR c = R2 at *
  go_wp2_with fail
  refine (sameInts_any _ _ _ _ H1.out H2.out).mono ?_
  rintro e w7 ⟨rfl, hb7⟩
  have HB7 := Lib.hid (HB6.out.trans (hb7.mono HB6.out.size))
  clear hb7
  clear H1 H2
  have c0 := block_cell (keepZ K0.out HB7.out)
  go_wp2_with fail
  refine (cpairs_any c _ wv _ (HV.out.below HB7.out (Nat.le_refl _))).mono ?_
  rintro e w8 ⟨v, rfl, hin, hb8⟩
  have HB8 := Lib.hid (HB7.out.trans (hb8.mono HB7.out.size))
  clear hb8
  have HI := Lib.hid hin
  obtain ⟨pa, pcap, rfl, _⟩ := hin
  clear c0
  have c0 := block_cell (keepZ K0.out HB8.out)
  go_wp2_with fail
  refine (rpairs_any c _ wv _ (HV.out.below HB8.out (Nat.le_refl _))).mono ?_
  rintro e w9 ⟨v, rfl, hin, hb9⟩
  have H1 := Lib.hid (HI.out.below hb9 (Nat.le_refl _))
  have H2 := Lib.hid hin
  obtain ⟨pa2, pcap2, rfl, _⟩ := hin
  have HB9 := Lib.hid (HB8.out.trans (hb9.mono HB8.out.size))
  clear hb9
  clear HI c0
  generalize chkC c = E3 at *
  have c0 := block_cell (keepZ K0.out HB9.out)
  go_wp2_with fail
  refine (cleast_any c _ wv hi _ (HV.out.below HB9.out (Nat.le_refl _))).mono ?_
  rintro e w10 ⟨rfl, hb10⟩
  have H3 := Lib.hid (H1.out.below hb10 (Nat.le_refl _))
  have H4 := Lib.hid (H2.out.below hb10 (Nat.le_refl _))
  have HB10 := Lib.hid (HB9.out.trans (hb10.mono HB9.out.size))
  clear hb10
  clear H1 H2 c0
  have HM := Lib.hid (show ∃ m er : Int, lstV (lstR c hi) = .tuple #[.int .i64 m, .int .i64 er] from ⟨_, _, rfl⟩)
  obtain ⟨m, er, hm⟩ := HM.out
  have HMM := Lib.hid hm
  rw [hm]
  clear hm HM
  have c0 := block_cell (keepZ K0.out HB10.out)
  go_wp2_with fail
  refine (rleast_any c _ wv hi _ (HV.out.below HB10.out (Nat.le_refl _))).mono ?_
  rintro e w11 ⟨rfl, hb11⟩
  have H5 := Lib.hid (H3.out.below hb11 (Nat.le_refl _))
  have H6 := Lib.hid (H4.out.below hb11 (Nat.le_refl _))
  have HB11 := Lib.hid (HB10.out.trans (hb11.mono HB10.out.size))
  clear hb11
  clear H3 H4 c0
  rw [HMM.out]
  generalize pairsR c = PR at *
  go_wp2_with fail
  refine (samePairs_any _ _ _ _ H5.out H6.out).mono ?_
  rintro e w12 ⟨rfl, hb12⟩
  have HB12 := Lib.hid (HB11.out.trans (hb12.mono HB11.out.size))
  clear hb12
  go_wp2_with fail
  refine (works_any _).mono ?_
  rintro e wz ⟨rfl, hbz⟩
  go_wp2_with fail
  go_ret
  exact ⟨rfl, HB.out.trans ((HB12.out.trans (hbz.mono HB12.out.size)).mono HB.out.size)⟩

end Go.Proofs.Ytbiihhokcmdlhaa

/- CircuitRotas walked. -/
namespace Go.Proofs.Ytbiihhokcmdlhaa
open Go.RowKit

set_option maxRecDepth 100000 in
set_option maxHeartbeats 8000000 in
theorem lawRotas_any (c : Cir) (sv wv : Value) (l : List Tri) (v : Value) (r : Rot) (nv : Value) (w : World) (hv : CirAt w sv wv c) (hl : TrAt w v l) (hr : NsAt w nv r.nights) :
    Calls Try.prog 6 #[cirV c sv wv, v, rotV r nv] w fun e w' => e = .returned (.bool true) ∧ Below w.heap.size w w' := by
  have hb0 := blw2 w (cirO c sv wv) (rotO r nv)
  have HB := Lib.hid hb0
  have K0 := Lib.hid (two_od w (cirO c sv wv) (rotO r nv))
  have K1 := Lib.hid (two_nw w (cirO c sv wv) (rotO r nv))
  have HV := Lib.hid (hv.below hb0 (Nat.le_refl _))
  have HT := Lib.hid (hl.below hb0 (Nat.le_refl _))
  have HN := Lib.hid (hr.below hb0 (Nat.le_refl _))
  obtain ⟨ta, tcap, rfl, _, m2, _⟩ := hl
  have m3 : (l.length : Int) ≤ 9223372036854775807 := by omega
  clear hb0 hv hr
  go_enter Try.func6, Try.ntmps6
  go_wp2_with fail
  generalize (w.alloc (cirO c sv wv)).alloc (rotO r nv) = wA at *
  refine (far_any c _ wv _ HV.out).mono ?_
  rintro e w1 ⟨q, rfl, hb1⟩
  have HB1 := Lib.hid hb1
  clear hb1
  cases q
  rotate_left
  · go_wp2_with fail
    refine (works_any _).mono ?_
    rintro e wz ⟨rfl, hbz⟩
    go_wp2_with fail
    go_ret
    exact ⟨rfl, HB.out.trans ((HB1.out.trans (hbz.mono HB1.out.size)).mono HB.out.size)⟩
  by_cases h20 : (20 : Int) < l.length
  · go_wp2_with fail
    refine (works_any _).mono ?_
    rintro e wz ⟨rfl, hbz⟩
    go_wp2_with fail
    go_ret
    exact ⟨rfl, HB.out.trans ((HB1.out.trans (hbz.mono HB1.out.size)).mono HB.out.size)⟩
  have c1 := block_cell (keepZ K1.out HB1.out)
  go_wp2_with fail
  refine (farRota_any r nv _ (HN.out.below HB1.out (Nat.le_refl _))).mono ?_
  rintro e w2 ⟨q, rfl, hb2⟩
  have HB2 := Lib.hid (HB1.out.trans (hb2.mono HB1.out.size))
  clear hb2
  clear c1
  cases q
  rotate_left
  · go_wp2_with fail
    refine (works_any _).mono ?_
    rintro e wz ⟨rfl, hbz⟩
    go_wp2_with fail
    go_ret
    exact ⟨rfl, HB.out.trans ((HB2.out.trans (hbz.mono HB2.out.size)).mono HB.out.size)⟩
  have c0 := block_cell (keepZ K0.out HB2.out)
  have c1 := block_cell (keepZ K1.out HB2.out)
  obtain ⟨t1, t2, t3, hT⟩ : ∃ t1 t2 t3, rotaM c l r = ⟨t1, t2, t3⟩ := ⟨_, _, _, rfl⟩
  have HTT := Lib.hid hT
  clear hT
  go_wp2_with fail
  refine (crota_any c l r _ wv _ nv _ (HV.out.below HB2.out (Nat.le_refl _)) (HT.out.below HB2.out (Nat.le_refl _)) (HN.out.below HB2.out (Nat.le_refl _))).mono ?_
  rintro e w3 ⟨rfl, hb3⟩
  rw [HTT.out]
  have HB3 := Lib.hid (HB2.out.trans (hb3.mono HB2.out.size))
  clear hb3
  clear c0 c1
  have c0 := block_cell (keepZ K0.out HB3.out)
  have c1 := block_cell (keepZ K1.out HB3.out)
  go_wp2_with fail
  refine (rcrota_any c l r _ wv _ nv _ (HV.out.below HB3.out (Nat.le_refl _)) (HT.out.below HB3.out (Nat.le_refl _)) (HN.out.below HB3.out (Nat.le_refl _))).mono ?_
  rintro e w4 ⟨rfl, hb4⟩
  rw [HTT.out]
  have HB4 := Lib.hid (HB3.out.trans (hb4.mono HB3.out.size))
  clear hb4
  clear c0 c1
  generalize chkR c l r = E at *
  have e1 : (t1 == t1) = true := by simp
  have e2 : (t2 == t2) = true := by simp
  have e3 : (t3 == t3) = true := by simp
  have e4 : (E == E) = true := by simp
  go_wp2_with fail
  refine (works_any _).mono ?_
  rintro e wz ⟨rfl, hbz⟩
  go_wp2_with fail
  go_ret
  exact ⟨rfl, HB.out.trans ((HB4.out.trans (hbz.mono HB4.out.size)).mono HB.out.size)⟩

end Go.Proofs.Ytbiihhokcmdlhaa
