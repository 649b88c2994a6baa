/- DriveBacks, the walk. -/
import Derived.Test.YtpoenjnpfodfpaaRd
import Derived.Test.YtpoenjnpfodfpaaDv
namespace Go.Proofs.Ytpoenjnpfodfpaa
open Go.RowKit

set_option maxRecDepth 100000 in
set_option maxHeartbeats 4000000 in
theorem backs_any (E : Esc) (v : Value) (S : Stp) (w : World) (hv : BrAt w v E.bs) :
    Calls Try.prog 6 #[escV E v, stpV S] w fun e w' => e = .returned (.bool true) ∧ Below w.heap.size w w' := by
  have hbA := ((Below.refl w.heap.size w).alloc (Nat.le_refl _) (Obj.cells #[.bool E.up, .int .i64 E.em, .int .i64 E.pu, .int .i64 E.dr, .int .i64 E.mo, v] 24)).alloc (by simp) (Obj.cells #[.int .i64 S.sp, .int .i64 S.lo, .int .i64 S.hi, .int .i64 S.fa] 38)
  have k1 := block_alloc (block_new w (Obj.cells #[.bool E.up, .int .i64 E.em, .int .i64 E.pu, .int .i64 E.dr, .int .i64 E.mo, v] 24) w.heap.size rfl) (Obj.cells #[.int .i64 S.sp, .int .i64 S.lo, .int .i64 S.hi, .int .i64 S.fa] 38)
  have k2 := block_new (w.alloc (Obj.cells #[.bool E.up, .int .i64 E.em, .int .i64 E.pu, .int .i64 E.dr, .int .i64 E.mo, v] 24)) (Obj.cells #[.int .i64 S.sp, .int .i64 S.lo, .int .i64 S.hi, .int .i64 S.fa] 38) (w.heap.size + 1) (by simp only [size_alloc])
  have hsz : ((w.alloc (Obj.cells #[.bool E.up, .int .i64 E.em, .int .i64 E.pu, .int .i64 E.dr, .int .i64 E.mo, v] 24)).alloc (Obj.cells #[.int .i64 S.sp, .int .i64 S.lo, .int .i64 S.hi, .int .i64 S.fa] 38)).heap.size = w.heap.size + 2 := by simp only [size_alloc]
  have hv1 := hv.below hbA (Nat.le_refl _)
  obtain ⟨a, cap, rfl, hn, hcap, hc⟩ := hv
  clear hc
  have hd1 : ∃ D, backM E S = D := ⟨_, rfl⟩
  have hd2 : ∃ D, holdsRM E S = D := ⟨_, rfl⟩
  obtain ⟨⟨D1, F1⟩, h1⟩ := hd1
  obtain ⟨⟨D2, F2⟩, h2⟩ := hd2
  have H1 := Lib.hid h1
  have H2 := Lib.hid h2
  clear h1 h2
  go_enter Try.func6, Try.ntmps6
  go_wp2_with fail
  generalize ((w.alloc (Obj.cells #[.bool E.up, .int .i64 E.em, .int .i64 E.pu, .int .i64 E.dr, .int .i64 E.mo, .slice a E.bs.length cap] 24)).alloc (Obj.cells #[.int .i64 S.sp, .int .i64 S.lo, .int .i64 S.hi, .int .i64 S.fa] 38)) = wA at *
  have HSZ := Lib.hid hsz
  have HV := Lib.hid hv1
  have K1 := Lib.hid k1
  have K2 := Lib.hid k2
  clear hsz hv1 k1 k2
  refine (far_any _ _ _ HV.out).mono ?_
  rintro e w1 ⟨rfl, hb1⟩
  have c1 := block_cell ((hb1.block w.heap.size (by have := HSZ.out; omega)).trans K1.out)
  have c2 := block_cell ((hb1.block (w.heap.size + 1) (by have := HSZ.out; omega)).trans K2.out)
  go_wp2_with fail
  · refine (works_any _).mono ?_
    rintro e w2 ⟨rfl, hb2⟩
    go_wp2
    go_ret
    exact ⟨rfl, hbA.trans ((hb1.trans (hb2.mono hb1.size)).mono hbA.size)⟩
  · refine (back_any E S _ _ (HV.out.below hb1 (Nat.le_refl _))).mono ?_
    rintro e w2 ⟨rfl, hb2⟩
    rw [H1.out]
    have hb12 := hb1.trans (hb2.mono hb1.size)
    clear c1 c2
    have c1 := block_cell ((hb12.block w.heap.size (by have := HSZ.out; omega)).trans K1.out)
    have c2 := block_cell ((hb12.block (w.heap.size + 1) (by have := HSZ.out; omega)).trans K2.out)
    go_wp2_with fail
    refine (rback_any E S _ _ (HV.out.below hb12 (Nat.le_refl _))).mono ?_
    rintro e w3 ⟨rfl, hb3⟩
    rw [H1.out]
    have hb13 := hb12.trans (hb3.mono hb12.size)
    clear c1 c2
    have c1 := block_cell ((hb13.block w.heap.size (by have := HSZ.out; omega)).trans K1.out)
    have c2 := block_cell ((hb13.block (w.heap.size + 1) (by have := HSZ.out; omega)).trans K2.out)
    go_wp2_with fail
    refine (holdsR_any E S _ _ (HV.out.below hb13 (Nat.le_refl _))).mono ?_
    rintro e w4 ⟨rfl, hb4⟩
    rw [H2.out]
    have hb14 := hb13.trans (hb4.mono hb13.size)
    clear c1 c2
    have c1 := block_cell ((hb14.block w.heap.size (by have := HSZ.out; omega)).trans K1.out)
    have c2 := block_cell ((hb14.block (w.heap.size + 1) (by have := HSZ.out; omega)).trans K2.out)
    go_wp2_with fail
    refine (rholds_any E S _ _ (HV.out.below hb14 (Nat.le_refl _))).mono ?_
    rintro e w5 ⟨rfl, hb5⟩
    rw [H2.out]
    have hb15 := hb14.trans (hb5.mono hb14.size)
    clear c1 c2
    go_wp2_with (go_at_call 16; refine (works_any _).mono ?_; rintro e w6 ⟨rfl, hb6⟩)
    all_goals
      go_ret
      exact ⟨rfl, hbA.trans ((hb15.trans (hb6.mono hb15.size)).mono hbA.size)⟩

end Go.Proofs.Ytpoenjnpfodfpaa
