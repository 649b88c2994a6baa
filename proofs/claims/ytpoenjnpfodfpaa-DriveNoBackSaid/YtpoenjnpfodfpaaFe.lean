/- Walks of layer 1 (drive): safe of both. -/
import Derived.Test.YtpoenjnpfodfpaaFa
import Derived.Test.YtpoenjnpfodfpaaDb
namespace Go.Proofs.Ytpoenjnpfodfpaa
open Go.RowKit

def safeB (E : Esc) (S : Stp) (way back : Int) : Bool := swB E S way && decide (0 ≤ pathM E S false 100) && decide (backTo E S 100 ≤ back) && holdsM E S

set_option maxRecDepth 100000 in
set_option maxHeartbeats 4000000 in
theorem safe_any (E : Esc) (S : Stp) (v : Value) (way back : Int) (w : World) (hv : BrAt w v E.bs) (hE : E.ok = true) (hS : S.Num) :
    Calls Try.prog 66 #[escV E v, stpV S, .int .i64 way, .int .i64 back] w fun e w' => e = .returned (.bool (safeB E S way back)) ∧ Below w.heap.size w w' := by
  have hbA := ((Below.refl w.heap.size w).alloc (Nat.le_refl _) (Obj.cells #[.bool E.up, .int .i64 E.em, .int .i64 E.pu, .int .i64 E.dr, .int .i64 E.mo, v] 24)).alloc (by simp) (Obj.cells #[.int .i64 S.sp, .int .i64 S.lo, .int .i64 S.hi, .int .i64 S.fa] 38)
  have k1 := block_alloc (block_new w (Obj.cells #[.bool E.up, .int .i64 E.em, .int .i64 E.pu, .int .i64 E.dr, .int .i64 E.mo, v] 24) w.heap.size rfl) (Obj.cells #[.int .i64 S.sp, .int .i64 S.lo, .int .i64 S.hi, .int .i64 S.fa] 38)
  have k2 := block_new (w.alloc (Obj.cells #[.bool E.up, .int .i64 E.em, .int .i64 E.pu, .int .i64 E.dr, .int .i64 E.mo, v] 24)) (Obj.cells #[.int .i64 S.sp, .int .i64 S.lo, .int .i64 S.hi, .int .i64 S.fa] 38) (w.heap.size + 1) (by simp only [size_alloc])
  have hsz : ((w.alloc (Obj.cells #[.bool E.up, .int .i64 E.em, .int .i64 E.pu, .int .i64 E.dr, .int .i64 E.mo, v] 24)).alloc (Obj.cells #[.int .i64 S.sp, .int .i64 S.lo, .int .i64 S.hi, .int .i64 S.fa] 38)).heap.size = w.heap.size + 2 := by simp only [size_alloc]
  have hv1 := hv.below hbA (Nat.le_refl _)
  obtain ⟨a, cap, rfl, hn, hcap, hc⟩ := hv
  clear hc
  cases h1 : swB E S way <;> cases h2 : decide (0 ≤ pathM E S false 100) <;> cases h3 : decide (backTo E S 100 ≤ back)
  all_goals
    have HR := Lib.hid (show safeB E S way back = _ by unfold safeB; rw [h1, h2, h3])
    have H1 := Lib.hid h1
    have H2 := Lib.hid h2
    clear h1 h2
    go_enter Try.func66, Try.ntmps66
    go_wp2_with fail
    generalize ((w.alloc (Obj.cells #[.bool E.up, .int .i64 E.em, .int .i64 E.pu, .int .i64 E.dr, .int .i64 E.mo, .slice a E.bs.length cap] 24)).alloc (Obj.cells #[.int .i64 S.sp, .int .i64 S.lo, .int .i64 S.hi, .int .i64 S.fa] 38)) = wA at *
    have HSZ := Lib.hid hsz
    have HV := Lib.hid hv1
    have K1 := Lib.hid k1
    have K2 := Lib.hid k2
    clear hsz hv1 k1 k2
    refine (runBack_any E S _ _ HV.out hE hS).mono ?_
    rintro e w1 ⟨rfl, hb1⟩
    rw [H2.out]
    have c1 := block_cell ((hb1.block w.heap.size (by have := HSZ.out; omega)).trans K1.out)
    have c2 := block_cell ((hb1.block (w.heap.size + 1) (by have := HSZ.out; omega)).trans K2.out)
    go_wp2_with fail
    refine (stopsWithin_any E S _ way _ (HV.out.below hb1 (Nat.le_refl _)) hE hS).mono ?_
    rintro e w2 ⟨rfl, hb2⟩
    rw [H1.out]
    have hb12 := hb1.trans (hb2.mono hb1.size)
    clear c1 c2
    have c1 := block_cell ((hb12.block w.heap.size (by have := HSZ.out; omega)).trans K1.out)
    have c2 := block_cell ((hb12.block (w.heap.size + 1) (by have := HSZ.out; omega)).trans K2.out)
    have hbz := hbA.trans (hb12.mono hbA.size)
    go_wp2_with fail
    first
      | (go_ret
         exact ⟨ret_bool (by rw [HR.out]; simp), hbz⟩)
      | (refine (holds_any E S _ _ (HV.out.below hb12 (Nat.le_refl _)) hE hS.fa0 hS.fa7 (by have h1 := hS.lo0; have h2 := hS.lohi; omega) hS.hi1).mono ?_
         rintro e w3 ⟨rfl, hb3⟩
         go_wp2
         go_ret
         exact ⟨ret_bool (by rw [HR.out]; simp), hbz.trans (hb3.mono hbz.size)⟩)

theorem dist_f {E : Esc} {S : Stp} (h : checkStopM E S = 0) : ((distM E S).f = 0 ∧ pathM E S true (restN E S true) = 0 ∧ (distM E S).b = wayTo E S true (restN E S true)) ∨ ((distM E S).f = 12 ∧ pathM E S true (restN E S true) ≠ 0) := by
  unfold distM
  rw [if_pos h]
  by_cases hr : pathM E S true (restN E S true) = 0
  · rw [if_pos hr]; exact .inl ⟨rfl, hr, rfl⟩
  · rw [if_neg hr]; exact .inr ⟨rfl, hr⟩

theorem back_f {E : Esc} {S : Stp} (h : checkStopM E S = 0) : backM E S = if 0 ≤ pathM E S false 100 then ⟨backTo E S 100, 0⟩ else ⟨0, 12⟩ := by
  unfold backM
  rw [if_pos h]

theorem holds_f {E : Esc} {S : Stp} (h : checkStopM E S = 0) : holdsRM E S = ⟨holdsM E S, 0⟩ := by
  unfold holdsRM
  rw [if_pos h]

theorem safe_dist {E : Esc} {S : Stp} (h : checkStopM E S = 0) (way back : Int) : safeB E S way back = ((((((distM E S).f == 0) && ((backM E S).f == 0)) && decide ((distM E S).b ≤ way)) && decide ((backM E S).a ≤ back)) && (holdsRM E S).q) := by
  unfold safeB
  rw [dist_sw h, back_f h, holds_f h]
  by_cases hb : 0 ≤ pathM E S false 100
  · rw [if_pos hb, decide_eq_true hb]
    cases (distM E S).f == 0 <;> simp
  · rw [if_neg hb, decide_eq_false hb]
    simp

set_option maxRecDepth 100000 in
set_option maxHeartbeats 8000000 in
theorem rsafe_any (E : Esc) (S : Stp) (v : Value) (way back : Int) (w : World) (hv : BrAt w v E.bs) (hf : checkStopM E S = 0) :
    Calls Try.prog 67 #[escV E v, stpV S, .int .i64 way, .int .i64 back] w fun e w' => e = .returned (.bool (safeB E S way back)) ∧ Below w.heap.size w w' := by
  have hbA := ((Below.refl w.heap.size w).alloc (Nat.le_refl _) (Obj.cells #[.bool E.up, .int .i64 E.em, .int .i64 E.pu, .int .i64 E.dr, .int .i64 E.mo, v] 24)).alloc (by simp) (Obj.cells #[.int .i64 S.sp, .int .i64 S.lo, .int .i64 S.hi, .int .i64 S.fa] 38)
  have k1 := block_alloc (block_new w (Obj.cells #[.bool E.up, .int .i64 E.em, .int .i64 E.pu, .int .i64 E.dr, .int .i64 E.mo, v] 24) w.heap.size rfl) (Obj.cells #[.int .i64 S.sp, .int .i64 S.lo, .int .i64 S.hi, .int .i64 S.fa] 38)
  have k2 := block_new (w.alloc (Obj.cells #[.bool E.up, .int .i64 E.em, .int .i64 E.pu, .int .i64 E.dr, .int .i64 E.mo, v] 24)) (Obj.cells #[.int .i64 S.sp, .int .i64 S.lo, .int .i64 S.hi, .int .i64 S.fa] 38) (w.heap.size + 1) (by simp only [size_alloc])
  have hsz : ((w.alloc (Obj.cells #[.bool E.up, .int .i64 E.em, .int .i64 E.pu, .int .i64 E.dr, .int .i64 E.mo, v] 24)).alloc (Obj.cells #[.int .i64 S.sp, .int .i64 S.lo, .int .i64 S.hi, .int .i64 S.fa] 38)).heap.size = w.heap.size + 2 := by simp only [size_alloc]
  have hv1 := hv.below hbA (Nat.le_refl _)
  obtain ⟨a, cap, rfl, hn, hcap, hc⟩ := hv
  clear hc
  have hs := safe_dist hf way back
  clear hf
  obtain ⟨⟨D1, D2, D3, D4, F⟩, hd⟩ : ∃ D, distM E S = D := ⟨_, rfl⟩
  obtain ⟨⟨B1, G⟩, hb⟩ : ∃ D, backM E S = D := ⟨_, rfl⟩
  obtain ⟨⟨Q, I⟩, hq⟩ : ∃ D, holdsRM E S = D := ⟨_, rfl⟩
  rw [hd, hb, hq] at hs
  dsimp only at hs
  have HD := Lib.hid hd
  have HB := Lib.hid hb
  have HQ := Lib.hid hq
  clear hd hb hq
  cases h1 : (F == 0) <;> cases h2 : (G == 0) <;> by_cases h3 : D2 ≤ way <;> by_cases h4 : B1 ≤ back
  all_goals
    rw [h1, h2] at hs
    simp only [h3, h4, decide_true, decide_false, Bool.true_and, Bool.false_and, Bool.and_false, Bool.and_true] at hs
    have HS := Lib.hid hs
    clear hs
    go_enter Try.func67, Try.ntmps67
    go_wp2_with fail
    generalize ((w.alloc (Obj.cells #[.bool E.up, .int .i64 E.em, .int .i64 E.pu, .int .i64 E.dr, .int .i64 E.mo, .slice a E.bs.length cap] 24)).alloc (Obj.cells #[.int .i64 S.sp, .int .i64 S.lo, .int .i64 S.hi, .int .i64 S.fa] 38)) = wA at *
    have HSZ := Lib.hid hsz
    have HV := Lib.hid hv1
    have K1 := Lib.hid k1
    have K2 := Lib.hid k2
    clear hsz hv1 k1 k2
    refine (rdistance_any E S _ _ HV.out).mono ?_
    rintro e w1 ⟨rfl, hb1⟩
    rw [HD.out]
    unfold distV
    have c1 := block_cell ((hb1.block w.heap.size (by have := HSZ.out; omega)).trans K1.out)
    have c2 := block_cell ((hb1.block (w.heap.size + 1) (by have := HSZ.out; omega)).trans K2.out)
    have z1 : w.heap.size < w1.heap.size := by have := HSZ.out; have := hb1.size; omega
    have z2 : w.heap.size + 1 < w1.heap.size := by have := HSZ.out; have := hb1.size; omega
    go_wp2_with fail
    have hbs := ((hb1.alloc (by have := hb1.size; omega) (Obj.cells #[.int .i64 D1, .int .i64 D2] 36)).alloc (by have := hb1.size; simp; omega) (Obj.cells #[.int .i64 D3, .int .i64 D4] 36))
    have ks := block_alloc (block_new w1 (Obj.cells #[.int .i64 D1, .int .i64 D2] 36) w1.heap.size rfl) (Obj.cells #[.int .i64 D3, .int .i64 D4] 36)
    generalize (w1.alloc (Obj.cells #[.int .i64 D1, .int .i64 D2] 36)).alloc (Obj.cells #[.int .i64 D3, .int .i64 D4] 36) = wB at *
    refine (rback_any E S _ _ (HV.out.below hbs (Nat.le_refl _))).mono ?_
    rintro e w2 ⟨rfl, hb2⟩
    rw [HB.out]
    have hb12 := hbs.trans (hb2.mono hbs.size)
    clear c1 c2 z1 z2
    have c1 := block_cell ((hb12.block w.heap.size (by have := HSZ.out; omega)).trans K1.out)
    have c2 := block_cell ((hb12.block (w.heap.size + 1) (by have := HSZ.out; omega)).trans K2.out)
    go_wp2_with fail
    refine (rholds_any E S _ _ (HV.out.below hb12 (Nat.le_refl _))).mono ?_
    rintro e w3 ⟨rfl, hb3⟩
    rw [HQ.out]
    have hb13 := hb12.trans (hb3.mono hb12.size)
    have c3 := block_cell ((hb3.block w1.heap.size (by have := lt_of_block ks; have := hb2.size; omega)).trans ((hb2.block w1.heap.size (lt_of_block ks)).trans ks))
    have hbz := hbA.trans (hb13.mono hbA.size)
    clear c1 c2 ks
    go_wp2
    all_goals
      go_ret
      exact ⟨ret_bool (by rw [HS.out]; try rfl), hbz⟩

end Go.Proofs.Ytpoenjnpfodfpaa
