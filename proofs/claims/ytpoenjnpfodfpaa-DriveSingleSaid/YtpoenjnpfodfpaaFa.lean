/- Walks of layer 1 (drive): stopsWithin, Fastest of both. -/
import Derived.Test.YtpoenjnpfodfpaaHq
import Derived.Test.YtpoenjnpfodfpaaRw
import Derived.Test.YtpoenjnpfodfpaaDq
namespace Go.Proofs.Ytpoenjnpfodfpaa
open Go.RowKit

set_option maxHeartbeats 1000000 in
theorem stopsWithin_any (E : Esc) (S : Stp) (v : Value) (limit : Int) (w : World) (hv : BrAt w v E.bs) (hE : E.ok = true) (hS : S.Num) :
    Calls Try.prog 64 #[escV E v, stpV S, .int .i64 limit] w fun e w' => e = .returned (.bool (swB E S limit)) ∧ Below w.heap.size w w' := by
  have hbA := ((Below.refl w.heap.size w).alloc (Nat.le_refl _) (Obj.cells #[.bool E.up, .int .i64 E.em, .int .i64 E.pu, .int .i64 E.dr, .int .i64 E.mo, v] 24)).alloc (by simp) (Obj.cells #[.int .i64 S.sp, .int .i64 S.lo, .int .i64 S.hi, .int .i64 S.fa] 38)
  have k1 := block_alloc (block_new w (Obj.cells #[.bool E.up, .int .i64 E.em, .int .i64 E.pu, .int .i64 E.dr, .int .i64 E.mo, v] 24) w.heap.size rfl) (Obj.cells #[.int .i64 S.sp, .int .i64 S.lo, .int .i64 S.hi, .int .i64 S.fa] 38)
  have k2 := block_new (w.alloc (Obj.cells #[.bool E.up, .int .i64 E.em, .int .i64 E.pu, .int .i64 E.dr, .int .i64 E.mo, v] 24)) (Obj.cells #[.int .i64 S.sp, .int .i64 S.lo, .int .i64 S.hi, .int .i64 S.fa] 38) (w.heap.size + 1) (by simp only [size_alloc])
  have hsz : ((w.alloc (Obj.cells #[.bool E.up, .int .i64 E.em, .int .i64 E.pu, .int .i64 E.dr, .int .i64 E.mo, v] 24)).alloc (Obj.cells #[.int .i64 S.sp, .int .i64 S.lo, .int .i64 S.hi, .int .i64 S.fa] 38)).heap.size = w.heap.size + 2 := by simp only [size_alloc]
  have hv1 := hv.below hbA (Nat.le_refl _)
  obtain ⟨a, cap, rfl, hn, hcap, hc⟩ := hv
  clear hc
  cases hr : (pathM E S true (restN E S true) == 0)
  all_goals
    have HR : Hid (swB E S limit = ((pathM E S true (restN E S true) == 0) && decide (wayTo E S true (restN E S true) ≤ limit))) := rfl
    rw [hr] at HR
    have Hr := Lib.hid hr
    clear hr
    go_enter Try.func64, Try.ntmps64
    go_wp2_with fail
    generalize ((w.alloc (Obj.cells #[.bool E.up, .int .i64 E.em, .int .i64 E.pu, .int .i64 E.dr, .int .i64 E.mo, .slice a E.bs.length cap] 24)).alloc (Obj.cells #[.int .i64 S.sp, .int .i64 S.lo, .int .i64 S.hi, .int .i64 S.fa] 38)) = wA at *
    have HSZ := Lib.hid hsz
    have HV := Lib.hid hv1
    have K1 := Lib.hid k1
    have K2 := Lib.hid k2
    clear hsz hv1 k1 k2
    refine (roll_any E S _ true _ HV.out hE hS).mono ?_
    rintro e w1 ⟨al, cl, rfl, _, hb1⟩
    rw [Hr.out]
    have hbz := hbA.trans (hb1.mono hbA.size)
    go_wp2
    go_ret
    refine ⟨ret_bool (by rw [HR.out]; rfl), hbz.alloc hbz.size _⟩

set_option maxHeartbeats 1000000 in
theorem search_fast (ps pe pl : Nat) (n : Nat) (ni : Int) (hni : ni = n) (p : Nat → Bool) (w : World) (hn : n ≤ 100000)
    (hp : ∀ (k : Nat) (w1 : World), k < n → Below w.heap.size w w1 → Calls Try.prog 63 #[.int .i64 k, .pointer (some ⟨ps, 0, none⟩), .pointer (some ⟨pe, 0, none⟩), .pointer (some ⟨pl, 0, none⟩)] w1 fun e w' => e = .returned (.bool (p k)) ∧ Below w1.heap.size w1 w')
    (mono : ∀ a b : Nat, b < n → a ≤ b → p a = true → p b = true) :
    Calls Try.prog 51 #[.int .i64 ni, .func (.func 63) #[] #[.pointer (some ⟨ps, 0, none⟩), .pointer (some ⟨pe, 0, none⟩), .pointer (some ⟨pl, 0, none⟩)]] w (SearchRes n p w) := by
  subst hni
  have HP := Lib.hid hp
  have HM := Lib.hid mono
  clear hp mono
  go_enter Try.func51, Try.ntmps51
  go_wp2_with fail
  go_loopw [5, 6] (fun x y wr => ∃ i j : Nat, i ≤ j ∧ j ≤ n ∧ x = .int .i64 i ∧ y = .int .i64 j ∧ Below w.heap.size w wr ∧ Hid (∀ k, k < i → p k = false) ∧ Hid (∀ k, j ≤ k → k < n → p k = true)) (fun x y _ => (intOf y).toNat - (intOf x).toNat)
  case atStart => exact ⟨0, n, Nat.zero_le _, Nat.le_refl _, rfl, rfl, Below.refl _ _, fun k hk => by omega, fun k h1 h2 => by omega⟩
  case round =>
    obtain ⟨i, j, hij, hj, rfl, rfl, hb, h1, h2⟩ := hrel
    by_cases hlt : i < j
    · have Hm := Lib.hid (mid_eq i j)
      go_wp2_with fail
      rw [Hm.out]
      refine (HP.out ((i + j) / 2) wr (by omega) hb).mono ?_
      rintro e w1 ⟨rfl, hb1⟩
      have hb2 := hb.trans (hb1.mono hb.size)
      clear hb hb1
      have m1 : i ≤ (i + j) / 2 := by omega
      have m2 : (i + j) / 2 < j := by omega
      generalize (i + j) / 2 = m at *
      cases hq : p m
      · have HQ := Lib.hid hq
        clear hq
        go_wp2
        go_roundw
        case rel => exact ⟨m + 1, j, by omega, hj, by go_num, rfl, hb2, (fun k hk => by
          cases hk' : p k
          · rfl
          · have := HM.out k m (by omega) (by omega) hk'
            rw [HQ.out] at this; cases this), h2⟩
        case measure => simp [intOf]; omega
      · have HQ := Lib.hid hq
        clear hq
        go_wp2
        go_roundw
        case rel => exact ⟨i, m, m1, by omega, rfl, rfl, hb2, h1, fun k hk hkn => HM.out m k hkn hk HQ.out⟩
        case measure => simp [intOf]; omega
    · obtain rfl : i = j := by omega
      go_wp2
      go_ret
      exact ⟨i, hj, rfl, h1.out, h2.out, hb⟩

set_option maxHeartbeats 1000000 in
theorem fast1_any (E : Esc) (S : Stp) (v : Value) (limit : Int) (ps pe pl : Nat) (k : Nat) (w : World) (hv : BrAt w v E.bs) (hE : E.ok = true) (hS : S.Num) (hk : k < 1000)
    (ks : w.heap[ps]? = some (.cells #[.int .i64 S.sp, .int .i64 S.lo, .int .i64 S.hi, .int .i64 S.fa] 38 (0, 0)))
    (ke : w.heap[pe]? = some (.cells #[.bool E.up, .int .i64 E.em, .int .i64 E.pu, .int .i64 E.dr, .int .i64 E.mo, v] 24 (0, 0)))
    (kl : w.heap[pl]? = some (.cells #[.int .i64 limit] 3 (0, 0))) :
    Calls Try.prog 63 #[.int .i64 k, .pointer (some ⟨ps, 0, none⟩), .pointer (some ⟨pe, 0, none⟩), .pointer (some ⟨pl, 0, none⟩)] w fun e w' => e = .returned (.bool (!swB E (S.at (k + 1)) limit)) ∧ Below w.heap.size w w' := by
  have c1 := block_cell ks
  have c2 := block_cell ke
  have c3 := block_cell kl
  have z1 := lt_of_block ks
  have z2 := lt_of_block ke
  have z3 := lt_of_block kl
  have n1 : pe ≠ w.heap.size := by omega
  have n2 : pl ≠ w.heap.size := by omega
  have hv1 := hv.below (((Below.refl w.heap.size w).alloc (Nat.le_refl _) (Obj.cells #[.int .i64 S.sp, .int .i64 S.lo, .int .i64 S.hi, .int .i64 S.fa] 38)).setCell (p := ⟨w.heap.size, 0, none⟩) (Nat.le_refl _) (.int .i64 (k + 1))) (Nat.le_refl _)
  have HV := Lib.hid hv1
  have HN := Lib.hid (at_num hS (v := k + 1) (by omega) (by omega))
  clear ks ke kl hv1
  go_enter Try.func63, Try.ntmps63
  go_wp2_with fail
  refine (stopsWithin_any E (S.at (k + 1)) _ limit _ ?_ hE HN.out).mono ?_
  · exact hv.below (((Below.refl w.heap.size w).alloc (Nat.le_refl _) _)) (Nat.le_refl _)
  rintro e w1 ⟨rfl, hb⟩
  go_wp2
  go_ret
  refine ⟨rfl, ((Below.refl w.heap.size w).alloc (Nat.le_refl _) _).trans (hb.mono ?_)⟩
  simp

set_option maxRecDepth 100000 in
set_option maxHeartbeats 4000000 in
theorem fastest_any (E : Esc) (S : Stp) (v : Value) (limit : Int) (w : World) (hv : BrAt w v E.bs) :
    Calls Try.prog 34 #[escV E v, stpV S, .int .i64 limit] w fun e w' => e = .returned (pairV (fastR E S limit)) ∧ Below w.heap.size w w' := by
  have hbA := (((Below.refl w.heap.size w).alloc (Nat.le_refl _) (Obj.cells #[.bool E.up, .int .i64 E.em, .int .i64 E.pu, .int .i64 E.dr, .int .i64 E.mo, v] 24)).alloc (by simp) (Obj.cells #[.int .i64 S.sp, .int .i64 S.lo, .int .i64 S.hi, .int .i64 S.fa] 38)).alloc (by simp; omega) (Obj.cells #[.int .i64 limit] 3)
  have k1 := block_alloc (block_alloc (block_new w (Obj.cells #[.bool E.up, .int .i64 E.em, .int .i64 E.pu, .int .i64 E.dr, .int .i64 E.mo, v] 24) w.heap.size rfl) (Obj.cells #[.int .i64 S.sp, .int .i64 S.lo, .int .i64 S.hi, .int .i64 S.fa] 38)) (Obj.cells #[.int .i64 limit] 3)
  have k2 := block_alloc (block_new (w.alloc (Obj.cells #[.bool E.up, .int .i64 E.em, .int .i64 E.pu, .int .i64 E.dr, .int .i64 E.mo, v] 24)) (Obj.cells #[.int .i64 S.sp, .int .i64 S.lo, .int .i64 S.hi, .int .i64 S.fa] 38) (w.heap.size + 1) (by simp only [size_alloc])) (Obj.cells #[.int .i64 limit] 3)
  have k3 := block_new ((w.alloc (Obj.cells #[.bool E.up, .int .i64 E.em, .int .i64 E.pu, .int .i64 E.dr, .int .i64 E.mo, v] 24)).alloc (Obj.cells #[.int .i64 S.sp, .int .i64 S.lo, .int .i64 S.hi, .int .i64 S.fa] 38)) (Obj.cells #[.int .i64 limit] 3) (w.heap.size + 1 + 1) (by simp only [size_alloc])
  have hsz : (((w.alloc (Obj.cells #[.bool E.up, .int .i64 E.em, .int .i64 E.pu, .int .i64 E.dr, .int .i64 E.mo, v] 24)).alloc (Obj.cells #[.int .i64 S.sp, .int .i64 S.lo, .int .i64 S.hi, .int .i64 S.fa] 38)).alloc (Obj.cells #[.int .i64 limit] 3)).heap.size = w.heap.size + 3 := by simp only [size_alloc]
  have hv1 := hv.below hbA (Nat.le_refl _)
  obtain ⟨a, cap, rfl, hn, hcap, hc⟩ := hv
  clear hc
  by_cases hf : checkStopM E S = 0
  · obtain ⟨hE, hS⟩ := checkStopM_num hf
    have Hf := Lib.hid hf
    clear hf
    cases hq : (decide (0 ≤ limit) && decide (limit ≤ 10000000))
    · have HQ := Lib.hid hq
      have HR := Lib.hid (fastR_arg (limit := limit) Hf.out (by rw [Bool.and_eq_false_iff, decide_eq_false_iff_not, decide_eq_false_iff_not] at hq; omega))
      clear hq
      go_enter Try.func34, Try.ntmps34
      go_wp2_with fail
      refine (checkStop_any _ _ _ _ hv1).mono ?_
      rintro e w1 ⟨rfl, hb1⟩
      rw [Hf.out]
      obtain ⟨hcl, hfz⟩ := bcell hb1
      go_wp2_with (go_at_call 45; refine (within_is _ _ _ _ _ HQ.out).mono ?_; rintro e w' ⟨rfl, rfl⟩)
      go_ret2
      refine ⟨by rw [HR.out]; rfl, hbA.trans (hb1.mono hbA.size)⟩
    · have HQ := Lib.hid hq
      have hl : 0 ≤ limit ∧ limit ≤ 10000000 := by rw [Bool.and_eq_true, decide_eq_true_eq, decide_eq_true_eq] at hq; exact hq
      have HR := Lib.hid (fastR_ok Hf.out hl)
      have HM := Lib.hid (fun v v' h0 h1 h2 => @sw_mono E S hE hS v v' limit h0 h1 h2)
      have HF := Lib.hid (fun r => @fastN_eq E S limit r)
      clear hq hl
      go_enter Try.func34, Try.ntmps34
      go_wp2_with fail
      generalize ((w.alloc (Obj.cells #[.bool E.up, .int .i64 E.em, .int .i64 E.pu, .int .i64 E.dr, .int .i64 E.mo, .slice a E.bs.length cap] 24)).alloc (Obj.cells #[.int .i64 S.sp, .int .i64 S.lo, .int .i64 S.hi, .int .i64 S.fa] 38)).alloc (Obj.cells #[.int .i64 limit] 3) = wA at *
      have HV := Lib.hid hv1
      have K1 := Lib.hid k1
      have K2 := Lib.hid k2
      have K3 := Lib.hid k3
      have HSZ := Lib.hid hsz
      clear k1 k2 k3 hv1 hsz
      refine (checkStop_any _ _ _ _ HV.out).mono ?_
      rintro e w1 ⟨rfl, hb1⟩
      rw [Hf.out]
      have KE := Lib.hid ((hb1.block _ (lt_of_block K1.out)).trans K1.out)
      have KS := Lib.hid ((hb1.block _ (lt_of_block K2.out)).trans K2.out)
      have KL := Lib.hid ((hb1.block _ (lt_of_block K3.out)).trans K3.out)
      have c3 := block_cell KL.out
      go_wp2_with (first | (go_at_call 45; refine (within_is _ _ _ _ _ HQ.out).mono ?_; rintro e w' ⟨rfl, rfl⟩) | fail)
      refine (search_fast (w.heap.size + 1) w.heap.size (w.heap.size + 1 + 1) 1000 1000 rfl (fun k => !swB E (S.at (k + 1)) limit) _ (by omega)
        (fun k w2 hk hb2 => fast1_any E S _ limit _ _ _ k w2 (HV.out.below (hb1.trans (hb2.mono hb1.size)) (Nat.le_refl _)) hE hS hk ((hb2.block _ (lt_of_block KS.out)).trans KS.out) ((hb2.block _ (lt_of_block KE.out)).trans KE.out) ((hb2.block _ (lt_of_block KL.out)).trans KL.out)) ?_).mono ?_
      · intro i j hj hij hi
        simp only [Bool.not_eq_true'] at hi ⊢
        cases hs : swB E (S.at (j + 1)) limit
        · rfl
        · have := HM.out (j + 1) (i + 1) (by omega) (by omega) (by omega) hs
          rw [this] at hi; cases hi
      rintro e w2 ⟨r, hr, rfl, hr1, hr2, hb2⟩
      have HF' := Lib.hid (HF.out r hr (fun k hk => by simpa using hr1 k hk) (fun h => by simpa using hr2 r (Nat.le_refl _) h))
      clear hr1 hr2
      go_wp2
      go_ret2
      refine ⟨by rw [HR.out, HF'.out]; rfl, hbA.trans ((hb1.trans (hb2.mono hb1.size)).mono hbA.size)⟩
  · have HR := Lib.hid (fastR_bad (limit := limit) hf)
    have h0 : (checkStopM E S == 0) = false := by simpa using hf
    clear hf
    go_enter Try.func34, Try.ntmps34
    go_wp2_with fail
    refine (checkStop_any _ _ _ _ hv1).mono ?_
    rintro e w1 ⟨rfl, hb1⟩
    go_wp2
    go_ret2
    refine ⟨by rw [HR.out]; rfl, hbA.trans (hb1.mono hbA.size)⟩

end Go.Proofs.Ytpoenjnpfodfpaa
