/- DriveFast, the walk. -/
import Derived.Test.YtpoenjnpfodfpaaFa
import Derived.Test.YtpoenjnpfodfpaaDv
namespace Go.Proofs.Ytpoenjnpfodfpaa
open Go.RowKit

theorem sw_zero {E : Esc} {S : Stp} {limit : Int} (h : 0 ≤ limit) : swB E (S.at 0) limit = true := by
  have e : restN E (S.at 0) true = 0 := by
    rw [← restN_restG]
    exact restG_eq (Nat.zero_le _) (fun i hi => by omega) (fun _ => rfl)
  unfold swB
  have p : pathM E (S.at 0) true 0 = 0 := rfl
  have q : wayTo E (S.at 0) true 0 = 0 := rfl
  rw [e, p, q]
  simp [h]

theorem dist_of_sw {E : Esc} {S : Stp} {limit : Int} (h : checkStopM E S = 0) : (swB E S limit = true → (distM E S).f = 0 ∧ (distM E S).b ≤ limit) ∧ (swB E S limit = false → (distM E S).f = 12 ∨ ((distM E S).f = 0 ∧ limit < (distM E S).b)) := by
  rw [dist_sw h]
  have hf : (distM E S).f = 0 ∨ (distM E S).f = 12 := by
    unfold distM
    rw [if_pos h]
    by_cases hr : pathM E S true (restN E S true) = 0
    · rw [if_pos hr]; exact .inl rfl
    · rw [if_neg hr]; exact .inr rfl
  refine ⟨fun h1 => by simpa using h1, fun h1 => ?_⟩
  rcases hf with hf | hf
  · rw [hf] at h1
    right
    simp at h1
    exact ⟨hf, h1⟩
  · exact .inl hf

theorem fast_says {E : Esc} {S : Stp} {limit : Int} (h : checkStopM E S = 0) (h0 : 0 ≤ limit) :
    fastN E S limit ≤ 1000 ∧ ((distM E (S.at (fastN E S limit))).f = 0 ∧ (distM E (S.at (fastN E S limit))).b ≤ limit) ∧
    (fastN E S limit < 1000 → (distM E (S.at (fastN E S limit + 1))).f = 12 ∨ ((distM E (S.at (fastN E S limit + 1))).f = 0 ∧ limit < (distM E (S.at (fastN E S limit + 1))).b)) := by
  obtain ⟨a, b, c⟩ := fastN_spec E S limit
  generalize fastN E S limit = r at *
  refine ⟨a, ?_, fun hlt => (dist_of_sw (check_at h (by omega) (by omega))).2 (c hlt)⟩
  apply (dist_of_sw (check_at h (by omega) (by omega))).1
  cases r with
  | zero => exact sw_zero h0
  | succ k =>
    have := b k (by omega)
    rw [show ((k + 1 : Nat) : Int) = (k : Int) + 1 from by omega]
    exact this

theorem far_no {E : Esc} {S : Stp} (h : checkStopM E S = 0) : decide (10 < E.bs.length) = false := by
  have := Esc.ok_len (checkStopM_num h).1
  simp
  omega

set_option maxRecDepth 100000 in
set_option maxHeartbeats 4000000 in
theorem fast_any (E : Esc) (v : Value) (S : Stp) (limit : Int) (w : World) (hv : BrAt w v E.bs) :
    Calls Try.prog 12 #[escV E v, stpV S, .int .i64 limit] w fun e w' => e = .returned (.bool true) ∧ Below w.heap.size w w' := by
  have HV0 := Lib.hid hv
  have hbA := ((Below.refl w.heap.size w).alloc (Nat.le_refl _) (Obj.cells #[.bool E.up, .int .i64 E.em, .int .i64 E.pu, .int .i64 E.dr, .int .i64 E.mo, v] 24)).alloc (by simp) (Obj.cells #[.int .i64 S.sp, .int .i64 S.lo, .int .i64 S.hi, .int .i64 S.fa] 38)
  have k1 := block_alloc (block_new w (Obj.cells #[.bool E.up, .int .i64 E.em, .int .i64 E.pu, .int .i64 E.dr, .int .i64 E.mo, v] 24) w.heap.size rfl) (Obj.cells #[.int .i64 S.sp, .int .i64 S.lo, .int .i64 S.hi, .int .i64 S.fa] 38)
  have k2 := block_new (w.alloc (Obj.cells #[.bool E.up, .int .i64 E.em, .int .i64 E.pu, .int .i64 E.dr, .int .i64 E.mo, v] 24)) (Obj.cells #[.int .i64 S.sp, .int .i64 S.lo, .int .i64 S.hi, .int .i64 S.fa] 38) (w.heap.size + 1) (by simp only [size_alloc])
  have hsz : ((w.alloc (Obj.cells #[.bool E.up, .int .i64 E.em, .int .i64 E.pu, .int .i64 E.dr, .int .i64 E.mo, v] 24)).alloc (Obj.cells #[.int .i64 S.sp, .int .i64 S.lo, .int .i64 S.hi, .int .i64 S.fa] 38)).heap.size = w.heap.size + 2 := by simp only [size_alloc]
  have hv1 := hv.below hbA (Nat.le_refl _)
  obtain ⟨a, cap, rfl, hn, hcap, hc⟩ := hv
  clear hc
  by_cases hf : checkStopM E S = 0
  · have Hfar := Lib.hid (far_no hf)
    have Hf := Lib.hid hf
    by_cases hl : 0 ≤ limit ∧ limit ≤ 10000000
    · have HR := Lib.hid (fastR_ok hf hl)
      obtain ⟨q1, ⟨q2, q3⟩, q4⟩ := fast_says hf hl.1
      obtain ⟨l0, l1⟩ := hl
      clear hf
      generalize fastN E S limit = r at *
      obtain ⟨⟨A1, A2, A3, A4, A5⟩, ha⟩ : ∃ D, distM E (S.at r) = D := ⟨_, rfl⟩
      obtain ⟨⟨B1, B2, B3, B4, B5⟩, hb⟩ : ∃ D, distM E (S.at (r + 1)) = D := ⟨_, rfl⟩
      rw [ha] at q2 q3
      rw [hb] at q4
      dsimp only at q2 q3 q4
      subst q2
      have HA := Lib.hid ha
      have HB := Lib.hid hb
      have Q4 := Lib.hid q4
      clear ha hb q4
      go_enter Try.func12, Try.ntmps12
      go_wp2_with fail
      generalize ((w.alloc (Obj.cells #[.bool E.up, .int .i64 E.em, .int .i64 E.pu, .int .i64 E.dr, .int .i64 E.mo, .slice a E.bs.length cap] 24)).alloc (Obj.cells #[.int .i64 S.sp, .int .i64 S.lo, .int .i64 S.hi, .int .i64 S.fa] 38)) = wA at *
      have HSZ := Lib.hid hsz
      have HV := Lib.hid hv1
      have K1 := Lib.hid k1
      have K2 := Lib.hid k2
      clear hsz hv1 k1 k2
      refine (far_any _ _ _ HV.out).mono ?_
      rintro e w1 ⟨rfl, hb1⟩
      rw [Hfar.out]
      have c1 := block_cell ((hb1.block w.heap.size (by have := HSZ.out; omega)).trans K1.out)
      have c2 := block_cell ((hb1.block (w.heap.size + 1) (by have := HSZ.out; omega)).trans K2.out)
      go_wp2_with fail
      refine (rcheckStop_any E S _ _ (HV.out.below hb1 (Nat.le_refl _))).mono ?_
      rintro e w2 ⟨rfl, hb2⟩
      rw [Hf.out]
      have hb12 := hb1.trans (hb2.mono hb1.size)
      clear c1 c2
      have c1 := block_cell ((hb12.block w.heap.size (by have := HSZ.out; omega)).trans K1.out)
      have c2 := block_cell ((hb12.block (w.heap.size + 1) (by have := HSZ.out; omega)).trans K2.out)
      go_wp2_with fail
      refine (fastest_any E S _ limit _ (HV.out.below hb12 (Nat.le_refl _))).mono ?_
      rintro e w3 ⟨rfl, hb3⟩
      rw [HR.out]
      have hb13 := hb12.trans (hb3.mono hb12.size)
      have kE := (hb13.block _ (lt_of_block K1.out)).trans K1.out
      have kS := (hb13.block _ (lt_of_block K2.out)).trans K2.out
      have hbw := (hbA.trans (hb13.mono hbA.size)).setCell (p := ⟨w.heap.size + 1, 0, none⟩) (by show w.heap.size ≤ w.heap.size + 1; omega) (.int .i64 r)
      clear c1 c2
      have c1 := block_cell kE
      have c2 := block_cell kS
      have f2 := block_free kS
      have kE' := block_set_other kE (p := ⟨w.heap.size + 1, 0, none⟩) (by simp) (.int .i64 r)
      have kS' := block_set kS 0 (.int .i64 r)
      have i1 : (0 : Int) ≤ (r : Int) := by omega
      have i2 : (r : Int) ≤ 1000 := by omega
      go_wp2_with fail
      generalize w3.setCell ⟨w.heap.size + 1, 0, none⟩ (.int .i64 r) = wC at *
      clear kE kS c1 c2 f2 hb1 hb2 hb12 hb3 hb13
      have KE := Lib.hid kE'
      have KS : Hid (wC.heap[w.heap.size + 1]? = some (.cells #[.int .i64 r, .int .i64 S.lo, .int .i64 S.hi, .int .i64 S.fa] 38 (0, 0))) := kS'
      clear kE' kS'
      refine (distance_any E (S.at r) _ _ (HV0.out.below hbw (Nat.le_refl _))).mono ?_
      rintro e w4 ⟨rfl, hb4⟩
      rw [HA.out]
      unfold distV
      have k4E := (hb4.block _ (lt_of_block KE.out)).trans KE.out
      have k4S := (hb4.block _ (lt_of_block KS.out)).trans KS.out
      have c1 := block_cell k4E
      have c2 := block_cell k4S
      have f2 := block_free k4S
      have z1 := lt_of_block k4E
      have z2 := lt_of_block k4S
      have hb4w := hbw.trans (hb4.mono hbw.size)
      by_cases hr : r = 1000
      · subst hr
        go_wp2_with fail
        refine (works_any _).mono ?_
        rintro e w5 ⟨rfl, hb5⟩
        go_wp2
        go_ret
        refine ⟨rfl, Below.trans (b := (w4.alloc (Obj.cells #[.int .i64 A1, .int .i64 A2] 36)).alloc (Obj.cells #[.int .i64 A3, .int .i64 A4] 36)) ?_ (hb5.mono (by simp; have := hb4w.size; omega))⟩
        exact (hb4w.alloc hb4w.size _).alloc (by simp; have := hb4w.size; omega) _
      · have hrb : ((r : Int) == 1000) = false := by simp; omega
        have i3 : (r : Int) < 1000 := by omega
        have q4' := Q4.out (by omega)
        go_wp2_with fail
        have hbD : Below w.heap.size w (((w4.setCell ⟨w.heap.size + 1, 0, none⟩ (.int .i64 (r + 1))).alloc (Obj.cells #[.int .i64 A1, .int .i64 A2] 36)).alloc (Obj.cells #[.int .i64 A3, .int .i64 A4] 36)) := by
          have hz := hb4w.size
          repeat' (first | exact hb4w | (with_reducible refine Below.drew ?_) | (with_reducible refine Below.alloc ?_ ?_ _) | (with_reducible refine Below.setCell ?_ ?_ _))
          all_goals (first | omega | (simp; done) | (simp; omega))
        have kW := block_alloc (block_new (w4.setCell ⟨w.heap.size + 1, 0, none⟩ (.int .i64 (r + 1))) (Obj.cells #[.int .i64 A1, .int .i64 A2] 36) w4.heap.size (by simp)) (Obj.cells #[.int .i64 A3, .int .i64 A4] 36)
        clear c1 c2 f2 z1 z2
        generalize ((w4.setCell ⟨w.heap.size + 1, 0, none⟩ (.int .i64 (r + 1))).alloc (Obj.cells #[.int .i64 A1, .int .i64 A2] 36)).alloc (Obj.cells #[.int .i64 A3, .int .i64 A4] 36) = wD at *
        have HDz := Lib.hid hb4w.size
        refine (distance_any E (S.at (r + 1)) _ _ (HV0.out.below hbD (Nat.le_refl _))).mono ?_
        rintro e w5 ⟨rfl, hb5⟩
        rw [HB.out]
        unfold distV
        have k5 := (hb5.block _ (lt_of_block kW)).trans kW
        have c3 := block_cell k5
        have f3 := block_free k5
        have hb5w := hbD.trans (hb5.mono hbD.size)
        clear kW k5
        rcases q4' with rfl | ⟨rfl, hB⟩
        all_goals
          go_wp2_with (go_at_call 16; refine (calls_big (A := w) (B := w.heap.size) ?_ (Nat.le_refl _) (works_any _)).mono ?_)
          · have hz := HDz.out
            repeat' (first | exact hb5w | (with_reducible refine Below.drew ?_) | (with_reducible refine Below.alloc ?_ ?_ _) | (with_reducible refine Below.setCell ?_ ?_ _))
            all_goals (first | omega | (simp; done) | (simp; omega))
          rintro e w6 ⟨rfl, hb6⟩
          go_wp2
          go_ret
          exact ⟨rfl, hb6⟩
    · clear hf
      by_cases hl0 : limit < 0
      all_goals try (have hl1 : 10000000 < limit := by omega)
      all_goals
        go_enter Try.func12, Try.ntmps12
        go_wp2_with fail
        generalize ((w.alloc (Obj.cells #[.bool E.up, .int .i64 E.em, .int .i64 E.pu, .int .i64 E.dr, .int .i64 E.mo, .slice a E.bs.length cap] 24)).alloc (Obj.cells #[.int .i64 S.sp, .int .i64 S.lo, .int .i64 S.hi, .int .i64 S.fa] 38)) = wA at *
        have HSZ := Lib.hid hsz
        have HV := Lib.hid hv1
        have K1 := Lib.hid k1
        have K2 := Lib.hid k2
        clear hsz hv1 k1 k2
        refine (far_any _ _ _ HV.out).mono ?_
        rintro e w1 ⟨rfl, hb1⟩
        rw [Hfar.out]
        have c1 := block_cell ((hb1.block w.heap.size (by have := HSZ.out; omega)).trans K1.out)
        have c2 := block_cell ((hb1.block (w.heap.size + 1) (by have := HSZ.out; omega)).trans K2.out)
        go_wp2_with fail
        refine (rcheckStop_any E S _ _ (HV.out.below hb1 (Nat.le_refl _))).mono ?_
        rintro e w2 ⟨rfl, hb2⟩
        rw [Hf.out]
        have hb12 := hb1.trans (hb2.mono hb1.size)
        clear c1 c2
        have c1 := block_cell ((hb12.block w.heap.size (by have := HSZ.out; omega)).trans K1.out)
        have c2 := block_cell ((hb12.block (w.heap.size + 1) (by have := HSZ.out; omega)).trans K2.out)
        go_wp2_with fail
        refine (works_any _).mono ?_
        rintro e w5 ⟨rfl, hb5⟩
        go_wp2
        go_ret
        exact ⟨rfl, hbA.trans ((hb12.trans (hb5.mono hb12.size)).mono hbA.size)⟩
  · have h0 : (checkStopM E S == 0) = false := by simpa using hf
    have h0' : (checkStopM E S != 0) = true := by simpa using hf
    clear hf
    go_enter Try.func12, Try.ntmps12
    go_wp2_with fail
    generalize ((w.alloc (Obj.cells #[.bool E.up, .int .i64 E.em, .int .i64 E.pu, .int .i64 E.dr, .int .i64 E.mo, .slice a E.bs.length cap] 24)).alloc (Obj.cells #[.int .i64 S.sp, .int .i64 S.lo, .int .i64 S.hi, .int .i64 S.fa] 38)) = wA at *
    have HSZ := Lib.hid hsz
    have HV := Lib.hid hv1
    have K1 := Lib.hid k1
    have K2 := Lib.hid k2
    clear hsz hv1 k1 k2
    refine (far_any _ _ _ HV.out).mono ?_
    rintro e w1 ⟨rfl, hb1⟩
    have c1 := block_cell ((hb1.block w.heap.size (by have := HSZ.out; omega)).trans K1.out)
    have c2 := block_cell ((hb1.block (w.heap.size + 1) (by have := HSZ.out; omega)).trans K2.out)
    go_wp2_with fail
    · refine (rcheckStop_any E S _ _ (HV.out.below hb1 (Nat.le_refl _))).mono ?_
      rintro e w2 ⟨rfl, hb2⟩
      have hb12 := hb1.trans (hb2.mono hb1.size)
      clear c1 c2
      go_wp2_with fail
      refine (works_any _).mono ?_
      rintro e w5 ⟨rfl, hb5⟩
      go_wp2
      go_ret
      exact ⟨rfl, hbA.trans ((hb12.trans (hb5.mono hb12.size)).mono hbA.size)⟩
    · refine (works_any _).mono ?_
      rintro e w5 ⟨rfl, hb5⟩
      go_wp2
      go_ret
      exact ⟨rfl, hbA.trans ((hb1.trans (hb5.mono hb1.size)).mono hbA.size)⟩

end Go.Proofs.Ytpoenjnpfodfpaa
