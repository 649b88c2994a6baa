/- Walks of layer 1 (drive): the specification's Critical; DriveFails. -/
import Derived.Test.YtpoenjnpfodfpaaFg
import Derived.Test.YtpoenjnpfodfpaaDv
namespace Go.Proofs.Ytpoenjnpfodfpaa
open Go.RowKit

set_option maxRecDepth 100000 in
set_option maxHeartbeats 4000000 in
theorem rcritical_any (E : Esc) (S : Stp) (v : Value) (way back : Int) (w : World) (hv : BrAt w v E.bs) :
    Calls Try.prog 39 #[escV E v, stpV S, .int .i64 way, .int .i64 back] w (CritRes E S way back w) := by
  obtain ⟨i0, hi, hz0, hz1, hz2⟩ := info_parts infoInt
  have hbA := ((Below.refl w.heap.size w).alloc (Nat.le_refl _) (Obj.cells #[.bool E.up, .int .i64 E.em, .int .i64 E.pu, .int .i64 E.dr, .int .i64 E.mo, v] 24)).alloc (by simp) (Obj.cells #[.int .i64 S.sp, .int .i64 S.lo, .int .i64 S.hi, .int .i64 S.fa] 38)
  have k1 := block_alloc (block_new w (Obj.cells #[.bool E.up, .int .i64 E.em, .int .i64 E.pu, .int .i64 E.dr, .int .i64 E.mo, v] 24) w.heap.size rfl) (Obj.cells #[.int .i64 S.sp, .int .i64 S.lo, .int .i64 S.hi, .int .i64 S.fa] 38)
  have k2 := block_new (w.alloc (Obj.cells #[.bool E.up, .int .i64 E.em, .int .i64 E.pu, .int .i64 E.dr, .int .i64 E.mo, v] 24)) (Obj.cells #[.int .i64 S.sp, .int .i64 S.lo, .int .i64 S.hi, .int .i64 S.fa] 38) (w.heap.size + 1) (by simp only [size_alloc])
  have hsz : ((w.alloc (Obj.cells #[.bool E.up, .int .i64 E.em, .int .i64 E.pu, .int .i64 E.dr, .int .i64 E.mo, v] 24)).alloc (Obj.cells #[.int .i64 S.sp, .int .i64 S.lo, .int .i64 S.hi, .int .i64 S.fa] 38)).heap.size = w.heap.size + 2 := by simp only [size_alloc]
  have hv1 := hv.below hbA (Nat.le_refl _)
  obtain ⟨a, cap, rfl, hn, hcap, hc⟩ := hv
  clear hc
  by_cases hf : checkStopM E S = 0
  · obtain ⟨hE, hS⟩ := checkStopM_num hf
    have Hf := Lib.hid hf
    cases hq1 : (decide (0 ≤ way) && decide (way ≤ 10000000)) <;> cases hq2 : (decide (0 ≤ back) && decide (back ≤ 10000000))
    case true.true =>
      have HR := Lib.hid (critR_ok (way := way) (back := back) hf ⟨by simpa using hq1, by simpa using hq2⟩)
      have HQ1 := Lib.hid hq1
      have HQ2 := Lib.hid hq2
      have HC := Lib.hid (fun k hk => @check_or E S hf k hk)
      have hlen := Esc.ok_len hE
      clear hf hq1 hq2
      go_enter Try.func39, Try.ntmps39
      go_wp2_with fail
      generalize ((w.alloc (Obj.cells #[.bool E.up, .int .i64 E.em, .int .i64 E.pu, .int .i64 E.dr, .int .i64 E.mo, .slice a E.bs.length cap] 24)).alloc (Obj.cells #[.int .i64 S.sp, .int .i64 S.lo, .int .i64 S.hi, .int .i64 S.fa] 38)) = wA at *
      have HSZ := Lib.hid hsz
      have HV := Lib.hid hv1
      have K1 := Lib.hid k1
      have K2 := Lib.hid k2
      clear hsz hv1 k1 k2
      refine (rcheckStop_any _ _ _ _ HV.out).mono ?_
      rintro e w1 ⟨rfl, hb1⟩
      rw [Hf.out]
      have c1 := block_cell ((hb1.block w.heap.size (by have := HSZ.out; omega)).trans K1.out)
      have c2 := block_cell ((hb1.block (w.heap.size + 1) (by have := HSZ.out; omega)).trans K2.out)
      go_wp2_with (first | (go_at_call_of 47 (Value.int .i64 way); refine (rwithq _ _ _ _ _ HQ1.out).mono ?_; rintro e w' ⟨rfl, rfl⟩) | (go_at_call 47; refine (rwithq _ _ _ _ _ HQ2.out).mono ?_; rintro e w' ⟨rfl, rfl⟩) | fail)
      clear c1 c2
      go_loopw [11, 12] (fun l i wr => ∃ k : Nat, k ≤ E.bs.length ∧ i = .int .i64 k ∧ Below wA.heap.size wA wr ∧ wr.ownsRow wA.heap.size 3 1 l (critTo E S way back k).length ((critTo E S way back k).map (Value.int .i64))) (fun _ i _ => E.bs.length - (intOf i).toNat)
      case atStart => exact ⟨0, Nat.zero_le _, rfl, hb1, rfl, .inl ⟨rfl, rfl⟩⟩
      case round =>
        obtain ⟨k, hk, rfl, hb, hown⟩ := hrel
        have hz12 : wA.heap.size ≤ wr.heap.size := hb.size
        have c1 := block_cell ((hb.block w.heap.size (by have := HSZ.out; omega)).trans K1.out)
        have c2 := block_cell ((hb.block (w.heap.size + 1) (by have := HSZ.out; omega)).trans K2.out)
        have z1 : w.heap.size < wr.heap.size := by have := HSZ.out; omega
        have z2 : w.heap.size + 1 < wr.heap.size := by have := HSZ.out; omega
        by_cases hlt : k < E.bs.length
        · have hor := bits_or (fa := S.fa) (k := k) (by omega) hS.fa0 hS.fa7
          have hne := @or_ne S.fa k
          cases hq : failB S.fa k
          · rw [hq] at hne
            have HQ := Lib.hid hq
            clear hq
            go_wp2_with fail
            refine (calls_big (A := wr) (B := wr.heap.size) ?_ (Nat.le_refl _) (rsafe_any E (S.orF k) _ way back _ ?_ (HC.out k hlt))).mono ?_
            · repeat' (first | exact Below.refl _ _ | (with_reducible refine Below.drew ?_) | (with_reducible refine Below.alloc ?_ ?_ _) | (with_reducible refine Below.setCell ?_ ?_ _))
              all_goals (first | omega | (simp; done) | (simp; omega))
            · refine HV.out.below ?_ (Nat.le_refl _)
              repeat' (first | exact hb | (with_reducible refine Below.drew ?_) | (with_reducible refine Below.alloc ?_ ?_ _) | (with_reducible refine Below.setCell ?_ ?_ _))
              all_goals (first | omega | (simp; done) | (simp; omega))
            rintro e w3 ⟨rfl, hb3⟩
            have hb13 := hb.trans (hb3.mono hz12)
            have hown3 := ownsRow_below hown hb3
            clear c1 c2 z1 z2 hown hor hb hne
            cases hs : safeB E (S.orF k) way back
            · have hyes : critB E S way back k = true := by unfold critB; rw [HQ.out, hs]; rfl
              have HY := Lib.hid (critTo_yes hyes)
              clear hs hyes
              obtain ⟨al, cl, rfl, halb⟩ := ownsRow_shape hown3
              have hll := critTo_len E S way back k
              have hzr := hb13.size
              go_wp2_with (at_builtin; refine wpList_append_own _ rfl _ _ 39 rfl wA.heap.size 3 i0 (.int .i64 0) 1 8 Try.underlying39 hi hz0 hz1 hz2 rfl (by decide) _ _ _ rfl (hown3.alloc _) ⟨w3.heap.size, 0, none⟩ 1 1 [.int .i64 k] rfl rfl ?c1 ?c2 ?c3 ?c4 ?c5 ?_)
              case c1 => exact cell_one_new _ _ _
              case c2 => intro u hu; simp only [List.mem_singleton] at hu; subst hu; rfl
              case c3 => unfold maxLen; omega
              case c4 => omega
              case c5 => rw [size_alloc]; omega
              intro v4 w4 hown4 hgrow _
              have HB := Lib.hid (hb13.trans (((Below.refl wA.heap.size w3).alloc hzr _).trans (below_grown hgrow halb (by rw [size_alloc]; omega))))
              have HO := Lib.hid hown4
              clear hown4 hgrow hown3
              go_wp2
              go_roundw
              case rel => exact ⟨k + 1, hlt, by go_num, HB.out, by rw [HY.out, List.map_append, List.length_append]; exact HO.out⟩
              case measure => simp [intOf]; omega
            · have hno : critB E S way back k = false := by unfold critB; rw [hs]; simp
              have HN := Lib.hid (critTo_no hno)
              clear hs hno
              go_wp2
              go_roundw
              case rel => exact ⟨k + 1, hlt, by go_num, hb13, by rw [HN.out]; exact hown3⟩
              case measure => simp [intOf]; omega
          · rw [hq] at hne
            have HQ := Lib.hid hq
            have hno : critB E S way back k = false := by unfold critB; rw [hq]; rfl
            have HN := Lib.hid (critTo_no hno)
            clear hq hno
            go_wp2
            go_roundw
            case rel =>
              refine ⟨k + 1, hlt, by go_num, ?_, ?_⟩
              · repeat' (first | exact hb | (with_reducible refine Below.drew ?_) | (with_reducible refine Below.alloc ?_ ?_ _) | (with_reducible refine Below.setCell ?_ ?_ _))
                all_goals (first | omega | (simp; done) | (simp; omega))
              · rw [HN.out]
                refine ownsRow_below hown ?_
                repeat' (first | exact Below.refl _ _ | (with_reducible refine Below.drew ?_) | (with_reducible refine Below.alloc ?_ ?_ _) | (with_reducible refine Below.setCell ?_ ?_ _))
                all_goals (first | omega | (simp; done) | (simp; omega))
            case measure => simp [intOf]; omega
        · have hkn : k = E.bs.length := by omega
          subst hkn
          go_wp2
          go_ret2
          obtain ⟨al, cl, rfl, halb⟩ := ownsRow_shape hown
          exact ⟨_, by rw [HR.out]; rfl, by rw [HR.out]; exact InAt.of_own hown, hbA.trans (hb.mono hbA.size)⟩
    all_goals
      have HR := Lib.hid (critR_arg (way := way) (back := back) hf (by
        intro h
        simp only [Bool.and_eq_false_iff, decide_eq_false_iff_not] at hq1 hq2
        omega))
      have HQ1 := Lib.hid hq1
      have HQ2 := Lib.hid hq2
      clear hf hq1 hq2
      go_enter Try.func39, Try.ntmps39
      go_wp2_with fail
      generalize ((w.alloc (Obj.cells #[.bool E.up, .int .i64 E.em, .int .i64 E.pu, .int .i64 E.dr, .int .i64 E.mo, .slice a E.bs.length cap] 24)).alloc (Obj.cells #[.int .i64 S.sp, .int .i64 S.lo, .int .i64 S.hi, .int .i64 S.fa] 38)) = wA at *
      have HSZ := Lib.hid hsz
      have HV := Lib.hid hv1
      have K1 := Lib.hid k1
      have K2 := Lib.hid k2
      clear hsz hv1 k1 k2
      refine (rcheckStop_any _ _ _ _ HV.out).mono ?_
      rintro e w1 ⟨rfl, hb1⟩
      rw [Hf.out]
      have c1 := block_cell ((hb1.block w.heap.size (by have := HSZ.out; omega)).trans K1.out)
      have c2 := block_cell ((hb1.block (w.heap.size + 1) (by have := HSZ.out; omega)).trans K2.out)
      go_wp2_with (first | (go_at_call_of 47 (Value.int .i64 way); refine (rwithq _ _ _ _ _ HQ1.out).mono ?_; rintro e w' ⟨rfl, rfl⟩) | (go_at_call 47; refine (rwithq _ _ _ _ _ HQ2.out).mono ?_; rintro e w' ⟨rfl, rfl⟩) | fail)
      go_ret2
      exact ⟨.slice none 0 0, by rw [HR.out]; rfl, by rw [HR.out]; exact InAt.nil _, hbA.trans (hb1.mono hbA.size)⟩
  · have HR := Lib.hid (critR_bad (way := way) (back := back) hf)
    have h0 : (checkStopM E S == 0) = false := by simpa using hf
    clear hf
    go_enter Try.func39, Try.ntmps39
    go_wp2_with fail
    generalize ((w.alloc (Obj.cells #[.bool E.up, .int .i64 E.em, .int .i64 E.pu, .int .i64 E.dr, .int .i64 E.mo, .slice a E.bs.length cap] 24)).alloc (Obj.cells #[.int .i64 S.sp, .int .i64 S.lo, .int .i64 S.hi, .int .i64 S.fa] 38)) = wA at *
    have HSZ := Lib.hid hsz
    have HV := Lib.hid hv1
    have K1 := Lib.hid k1
    have K2 := Lib.hid k2
    clear hsz hv1 k1 k2
    refine (rcheckStop_any _ _ _ _ HV.out).mono ?_
    rintro e w1 ⟨rfl, hb1⟩
    go_wp2
    go_ret2
    exact ⟨.slice none 0 0, by rw [HR.out]; rfl, by rw [HR.out]; exact InAt.nil _, hbA.trans (hb1.mono hbA.size)⟩

set_option maxRecDepth 100000 in
set_option maxHeartbeats 4000000 in
theorem failsL_any (E : Esc) (v : Value) (S : Stp) (lo hi : Int) (w : World) (hv : BrAt w v E.bs) :
    Calls Try.prog 8 #[escV E v, stpV S, .agg #[.int .i64 lo, .int .i64 hi]] w fun e w' => e = .returned (.bool true) ∧ Below w.heap.size w w' := by
  have hbA := (((Below.refl w.heap.size w).alloc (Nat.le_refl _) (Obj.cells #[.bool E.up, .int .i64 E.em, .int .i64 E.pu, .int .i64 E.dr, .int .i64 E.mo, v] 24)).alloc (by simp) (Obj.cells #[.int .i64 S.sp, .int .i64 S.lo, .int .i64 S.hi, .int .i64 S.fa] 38)).alloc (by simp; omega) (Obj.cells #[.int .i64 lo, .int .i64 hi] 56)
  have k1 := block_alloc (block_alloc (block_new w (Obj.cells #[.bool E.up, .int .i64 E.em, .int .i64 E.pu, .int .i64 E.dr, .int .i64 E.mo, v] 24) w.heap.size rfl) (Obj.cells #[.int .i64 S.sp, .int .i64 S.lo, .int .i64 S.hi, .int .i64 S.fa] 38)) (Obj.cells #[.int .i64 lo, .int .i64 hi] 56)
  have k2 := block_alloc (block_new (w.alloc (Obj.cells #[.bool E.up, .int .i64 E.em, .int .i64 E.pu, .int .i64 E.dr, .int .i64 E.mo, v] 24)) (Obj.cells #[.int .i64 S.sp, .int .i64 S.lo, .int .i64 S.hi, .int .i64 S.fa] 38) (w.heap.size + 1) (by simp only [size_alloc])) (Obj.cells #[.int .i64 lo, .int .i64 hi] 56)
  have k3 := block_new ((w.alloc (Obj.cells #[.bool E.up, .int .i64 E.em, .int .i64 E.pu, .int .i64 E.dr, .int .i64 E.mo, v] 24)).alloc (Obj.cells #[.int .i64 S.sp, .int .i64 S.lo, .int .i64 S.hi, .int .i64 S.fa] 38)) (Obj.cells #[.int .i64 lo, .int .i64 hi] 56) (w.heap.size + 1 + 1) (by simp only [size_alloc])
  have hsz : (((w.alloc (Obj.cells #[.bool E.up, .int .i64 E.em, .int .i64 E.pu, .int .i64 E.dr, .int .i64 E.mo, v] 24)).alloc (Obj.cells #[.int .i64 S.sp, .int .i64 S.lo, .int .i64 S.hi, .int .i64 S.fa] 38)).alloc (Obj.cells #[.int .i64 lo, .int .i64 hi] 56)).heap.size = w.heap.size + 3 := by simp only [size_alloc]
  have hv1 := hv.below hbA (Nat.le_refl _)
  obtain ⟨a, cap, rfl, hn, hcap, hc⟩ := hv
  clear hc
  obtain ⟨⟨L, F⟩, hd⟩ : ∃ D, critR E S lo hi = D := ⟨_, rfl⟩
  have HD := Lib.hid hd
  clear hd
  go_enter Try.func8, Try.ntmps8
  go_wp2_with fail
  generalize (((w.alloc (Obj.cells #[.bool E.up, .int .i64 E.em, .int .i64 E.pu, .int .i64 E.dr, .int .i64 E.mo, .slice a E.bs.length cap] 24)).alloc (Obj.cells #[.int .i64 S.sp, .int .i64 S.lo, .int .i64 S.hi, .int .i64 S.fa] 38)).alloc (Obj.cells #[.int .i64 lo, .int .i64 hi] 56)) = wA at *
  have HSZ := Lib.hid hsz
  have HV := Lib.hid hv1
  have K1 := Lib.hid k1
  have K2 := Lib.hid k2
  have K3 := Lib.hid k3
  clear hsz hv1 k1 k2 k3
  refine (far_any _ _ _ HV.out).mono ?_
  rintro e w1 ⟨rfl, hb1⟩
  have c1 := block_cell ((hb1.block w.heap.size (by have := HSZ.out; omega)).trans K1.out)
  have c2 := block_cell ((hb1.block (w.heap.size + 1) (by have := HSZ.out; omega)).trans K2.out)
  have c3 := block_cell ((hb1.block (w.heap.size + 1 + 1) (by have := HSZ.out; omega)).trans K3.out)
  go_wp2_with fail
  · refine (works_any _).mono ?_
    rintro e w2 ⟨rfl, hb2⟩
    go_wp2
    go_ret
    exact ⟨rfl, hbA.trans ((hb1.trans (hb2.mono hb1.size)).mono hbA.size)⟩
  · refine (critical_any E S _ _ _ _ (HV.out.below hb1 (Nat.le_refl _))).mono ?_
    rintro e w2 ⟨v2, rfl, hi2, hb2⟩
    rw [HD.out] at hi2 ⊢
    have hb12 := hb1.trans (hb2.mono hb1.size)
    have HI2 := Lib.hid hi2
    clear c1 c2 c3 hi2
    have c1 := block_cell ((hb12.block w.heap.size (by have := HSZ.out; omega)).trans K1.out)
    have c2 := block_cell ((hb12.block (w.heap.size + 1) (by have := HSZ.out; omega)).trans K2.out)
    have c3 := block_cell ((hb12.block (w.heap.size + 1 + 1) (by have := HSZ.out; omega)).trans K3.out)
    go_wp2_with fail
    refine (rcritical_any E S _ _ _ _ (HV.out.below hb12 (Nat.le_refl _))).mono ?_
    rintro e w3 ⟨v3, rfl, hi3, hb3⟩
    rw [HD.out] at hi3 ⊢
    have hb13 := hb12.trans (hb3.mono hb12.size)
    have HI3 := Lib.hid hi3
    clear c1 c2 c3 hi3
    go_wp2_with fail
    refine (sameInts_any _ _ L L _ (HI2.out.below hb3 (Nat.le_refl _)) HI3.out).mono ?_
    rintro e w4 ⟨rfl, hb4⟩
    have hdd : decide (L = L) = true := by simp
    rw [hdd]
    have hb14 := hb13.trans (hb4.mono hb13.size)
    go_wp2_with fail
    refine (works_any _).mono ?_
    rintro e w5 ⟨rfl, hb5⟩
    go_wp2
    go_ret
    exact ⟨rfl, hbA.trans ((hb14.trans (hb5.mono hb14.size)).mono hbA.size)⟩

end Go.Proofs.Ytpoenjnpfodfpaa
