/- DriveNoBack, the walk where nothing is to be shown. -/
import Derived.Test.YtpoenjnpfodfpaaLn
namespace Go.Proofs.Ytpoenjnpfodfpaa
open Go.RowKit

set_option maxRecDepth 100000 in
set_option maxHeartbeats 8000000 in
theorem nobackL_any (E : Esc) (v : Value) (S : Stp) (lv : Value) (xs : List Int) (w : World) (hv : BrAt w v E.bs) (hx : InAt w lv xs) :
    Calls Try.prog 10 #[escV E v, stpV S, lv] w fun e w' => e = .returned (.bool true) ∧ Below w.heap.size w w' := by
  by_cases hf : checkStopM E S = 0
  · have Hfar := Lib.hid (far_no hf)
    cases hh : histB S xs
    · have hbA := ((Below.refl w.heap.size w).alloc (Nat.le_refl _) (Obj.cells #[.bool E.up, .int .i64 E.em, .int .i64 E.pu, .int .i64 E.dr, .int .i64 E.mo, v] 24)).alloc (by simp) (Obj.cells #[.int .i64 S.sp, .int .i64 S.lo, .int .i64 S.hi, .int .i64 S.fa] 38)
      have k1 := block_alloc (block_new w (Obj.cells #[.bool E.up, .int .i64 E.em, .int .i64 E.pu, .int .i64 E.dr, .int .i64 E.mo, v] 24) w.heap.size rfl) (Obj.cells #[.int .i64 S.sp, .int .i64 S.lo, .int .i64 S.hi, .int .i64 S.fa] 38)
      have k2 := block_new (w.alloc (Obj.cells #[.bool E.up, .int .i64 E.em, .int .i64 E.pu, .int .i64 E.dr, .int .i64 E.mo, v] 24)) (Obj.cells #[.int .i64 S.sp, .int .i64 S.lo, .int .i64 S.hi, .int .i64 S.fa] 38) (w.heap.size + 1) (by simp only [size_alloc])
      have hsz : ((w.alloc (Obj.cells #[.bool E.up, .int .i64 E.em, .int .i64 E.pu, .int .i64 E.dr, .int .i64 E.mo, v] 24)).alloc (Obj.cells #[.int .i64 S.sp, .int .i64 S.lo, .int .i64 S.hi, .int .i64 S.fa] 38)).heap.size = w.heap.size + 2 := by simp only [size_alloc]
      have hv1 := hv.below hbA (Nat.le_refl _)
      obtain ⟨a, cap, rfl, hn, hcap, hc⟩ := hv
      clear hc
      have hx1 := hx.below hbA (Nat.le_refl _)
      obtain ⟨xa, xc, rfl, xn, xm, hxc⟩ := hx
      clear hxc
      have Hf := Lib.hid hf
      have Hh := Lib.hid hh
      clear hf hh
      by_cases hl : (xs.length : Int) ≤ 100
      all_goals
        go_enter Try.func10, Try.ntmps10
        go_wp2_with fail
        generalize ((w.alloc (Obj.cells #[.bool E.up, .int .i64 E.em, .int .i64 E.pu, .int .i64 E.dr, .int .i64 E.mo, .slice a E.bs.length cap] 24)).alloc (Obj.cells #[.int .i64 S.sp, .int .i64 S.lo, .int .i64 S.hi, .int .i64 S.fa] 38)) = wA at *
        have HSZ := Lib.hid hsz
        have HV := Lib.hid hv1
        have K1 := Lib.hid k1
        have K2 := Lib.hid k2
        clear hsz hv1 k1 k2
        have HX := Lib.hid hx1
        clear hx1
        refine (far_any _ _ _ HV.out).mono ?_
        rintro e w1 ⟨rfl, hb1⟩
        rw [Hfar.out]
        have c1 := block_cell ((hb1.block w.heap.size (by have := HSZ.out; omega)).trans K1.out)
        have c2 := block_cell ((hb1.block (w.heap.size + 1) (by have := HSZ.out; omega)).trans K2.out)
        go_wp2_with fail
        first
          | (refine (rcheckStop_any E S _ _ (HV.out.below hb1 (Nat.le_refl _))).mono ?_
             rintro e w2 ⟨rfl, hb2⟩
             rw [Hf.out]
             have hb12 := hb1.trans (hb2.mono hb1.size)
             clear c1 c2
             have c1 := block_cell ((hb12.block w.heap.size (by have := HSZ.out; omega)).trans K1.out)
             have c2 := block_cell ((hb12.block (w.heap.size + 1) (by have := HSZ.out; omega)).trans K2.out)
             go_wp2_with fail
             refine (history_any S _ xs _ (HX.out.below hb12 (Nat.le_refl _))).mono ?_
             rintro e w3 ⟨rfl, hb3⟩
             rw [Hh.out]
             have hb13 := hb12.trans (hb3.mono hb12.size)
             go_wp2_with fail
             refine (works_any _).mono ?_
             rintro e w5 ⟨rfl, hb5⟩
             go_wp2
             go_ret
             exact ⟨rfl, hbA.trans ((hb13.trans (hb5.mono hb13.size)).mono hbA.size)⟩)
          | (refine (works_any _).mono ?_
             rintro e w5 ⟨rfl, hb5⟩
             go_wp2
             go_ret
             exact ⟨rfl, hbA.trans ((hb1.trans (hb5.mono hb1.size)).mono hbA.size)⟩)
    · exact noback_main E v S lv xs w hv hx hf hh
  · have hbA := ((Below.refl w.heap.size w).alloc (Nat.le_refl _) (Obj.cells #[.bool E.up, .int .i64 E.em, .int .i64 E.pu, .int .i64 E.dr, .int .i64 E.mo, v] 24)).alloc (by simp) (Obj.cells #[.int .i64 S.sp, .int .i64 S.lo, .int .i64 S.hi, .int .i64 S.fa] 38)
    have k1 := block_alloc (block_new w (Obj.cells #[.bool E.up, .int .i64 E.em, .int .i64 E.pu, .int .i64 E.dr, .int .i64 E.mo, v] 24) w.heap.size rfl) (Obj.cells #[.int .i64 S.sp, .int .i64 S.lo, .int .i64 S.hi, .int .i64 S.fa] 38)
    have k2 := block_new (w.alloc (Obj.cells #[.bool E.up, .int .i64 E.em, .int .i64 E.pu, .int .i64 E.dr, .int .i64 E.mo, v] 24)) (Obj.cells #[.int .i64 S.sp, .int .i64 S.lo, .int .i64 S.hi, .int .i64 S.fa] 38) (w.heap.size + 1) (by simp only [size_alloc])
    have hsz : ((w.alloc (Obj.cells #[.bool E.up, .int .i64 E.em, .int .i64 E.pu, .int .i64 E.dr, .int .i64 E.mo, v] 24)).alloc (Obj.cells #[.int .i64 S.sp, .int .i64 S.lo, .int .i64 S.hi, .int .i64 S.fa] 38)).heap.size = w.heap.size + 2 := by simp only [size_alloc]
    have hv1 := hv.below hbA (Nat.le_refl _)
    obtain ⟨a, cap, rfl, hn, hcap, hc⟩ := hv
    clear hc
    have hx1 := hx.below hbA (Nat.le_refl _)
    obtain ⟨xa, xc, rfl, xn, xm, hxc⟩ := hx
    clear hxc
    have h0 : (checkStopM E S == 0) = false := by simpa using hf
    have h0' : (checkStopM E S != 0) = true := by simpa using hf
    clear hf
    by_cases hl : (xs.length : Int) ≤ 100
    all_goals
      rcases far_or' E with hfar | hfar
      all_goals
        have Hfar := Lib.hid hfar
        clear hfar
        go_enter Try.func10, Try.ntmps10
        go_wp2_with fail
        generalize ((w.alloc (Obj.cells #[.bool E.up, .int .i64 E.em, .int .i64 E.pu, .int .i64 E.dr, .int .i64 E.mo, .slice a E.bs.length cap] 24)).alloc (Obj.cells #[.int .i64 S.sp, .int .i64 S.lo, .int .i64 S.hi, .int .i64 S.fa] 38)) = wA at *
        have HSZ := Lib.hid hsz
        have HV := Lib.hid hv1
        have K1 := Lib.hid k1
        have K2 := Lib.hid k2
        clear hsz hv1 k1 k2
        refine (far_any _ _ _ HV.out).mono ?_
        rintro e w1 ⟨rfl, hb1⟩
        rw [Hfar.out]
        have c1 := block_cell ((hb1.block w.heap.size (by have := HSZ.out; omega)).trans K1.out)
        have c2 := block_cell ((hb1.block (w.heap.size + 1) (by have := HSZ.out; omega)).trans K2.out)
        go_wp2_with fail
        first
          | (refine (rcheckStop_any E S _ _ (HV.out.below hb1 (Nat.le_refl _))).mono ?_
             rintro e w2 ⟨rfl, hb2⟩
             have hb12 := hb1.trans (hb2.mono hb1.size)
             go_wp2_with fail
             refine (works_any _).mono ?_
             rintro e w5 ⟨rfl, hb5⟩
             go_wp2
             go_ret
             exact ⟨rfl, hbA.trans ((hb12.trans (hb5.mono hb12.size)).mono hbA.size)⟩)
          | (refine (works_any _).mono ?_
             rintro e w5 ⟨rfl, hb5⟩
             go_wp2
             go_ret
             exact ⟨rfl, hbA.trans ((hb1.trans (hb5.mono hb1.size)).mono hbA.size)⟩)

end Go.Proofs.Ytpoenjnpfodfpaa
