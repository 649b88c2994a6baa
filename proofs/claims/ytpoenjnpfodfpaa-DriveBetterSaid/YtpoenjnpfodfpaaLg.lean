/- DriveBetter, the walk where nothing is to be shown. -/
import Derived.Test.YtpoenjnpfodfpaaLe
import Derived.Test.YtpoenjnpfodfpaaLn
namespace Go.Proofs.Ytpoenjnpfodfpaa
open Go.RowKit

set_option maxRecDepth 100000 in
set_option maxHeartbeats 8000000 in
theorem betterL_any (E : Esc) (v : Value) (S : Stp) (X : Bet) (w : World) (hv : BrAt w v E.bs) :
    Calls Try.prog 11 #[escV E v, stpV S, betV X] w fun e w' => e = .returned (.bool true) ∧ Below w.heap.size w w' := by
  by_cases hf : checkStopM E S = 0
  · by_cases hr : pathM E S true (restN E S true) = 0
    · exact better_main E v S X w hv hf hr
    · have Hfar := Lib.hid (far_no hf)
      have hbA := (((Below.refl w.heap.size w).alloc (Nat.le_refl _) (Obj.cells #[.bool E.up, .int .i64 E.em, .int .i64 E.pu, .int .i64 E.dr, .int .i64 E.mo, v] 24)).alloc (by simp) (Obj.cells #[.int .i64 S.sp, .int .i64 S.lo, .int .i64 S.hi, .int .i64 S.fa] 38)).alloc (by simp; omega) (Obj.cells #[.int .i64 X.br, .int .i64 X.fo, .int .i64 X.de, .int .i64 X.me, .int .i64 X.sl, .int .i64 X.lo, .int .i64 X.hi] 68)
      have k1 := block_alloc (block_alloc (block_new w (Obj.cells #[.bool E.up, .int .i64 E.em, .int .i64 E.pu, .int .i64 E.dr, .int .i64 E.mo, v] 24) w.heap.size rfl) (Obj.cells #[.int .i64 S.sp, .int .i64 S.lo, .int .i64 S.hi, .int .i64 S.fa] 38)) (Obj.cells #[.int .i64 X.br, .int .i64 X.fo, .int .i64 X.de, .int .i64 X.me, .int .i64 X.sl, .int .i64 X.lo, .int .i64 X.hi] 68)
      have k2 := block_alloc (block_new (w.alloc (Obj.cells #[.bool E.up, .int .i64 E.em, .int .i64 E.pu, .int .i64 E.dr, .int .i64 E.mo, v] 24)) (Obj.cells #[.int .i64 S.sp, .int .i64 S.lo, .int .i64 S.hi, .int .i64 S.fa] 38) (w.heap.size + 1) (by simp only [size_alloc])) (Obj.cells #[.int .i64 X.br, .int .i64 X.fo, .int .i64 X.de, .int .i64 X.me, .int .i64 X.sl, .int .i64 X.lo, .int .i64 X.hi] 68)
      have k3 := block_new ((w.alloc (Obj.cells #[.bool E.up, .int .i64 E.em, .int .i64 E.pu, .int .i64 E.dr, .int .i64 E.mo, v] 24)).alloc (Obj.cells #[.int .i64 S.sp, .int .i64 S.lo, .int .i64 S.hi, .int .i64 S.fa] 38)) (Obj.cells #[.int .i64 X.br, .int .i64 X.fo, .int .i64 X.de, .int .i64 X.me, .int .i64 X.sl, .int .i64 X.lo, .int .i64 X.hi] 68) (w.heap.size + 1 + 1) (by simp only [size_alloc])
      have hsz : (((w.alloc (Obj.cells #[.bool E.up, .int .i64 E.em, .int .i64 E.pu, .int .i64 E.dr, .int .i64 E.mo, v] 24)).alloc (Obj.cells #[.int .i64 S.sp, .int .i64 S.lo, .int .i64 S.hi, .int .i64 S.fa] 38)).alloc (Obj.cells #[.int .i64 X.br, .int .i64 X.fo, .int .i64 X.de, .int .i64 X.me, .int .i64 X.sl, .int .i64 X.lo, .int .i64 X.hi] 68)).heap.size = w.heap.size + 3 := by simp only [size_alloc]
      have hv1 := hv.below hbA (Nat.le_refl _)
      obtain ⟨a, cap, rfl, hn, hcap, hc⟩ := hv
      clear hc
      have HD := Lib.hid (show distM E S = ⟨0, 0, 0, 0, 12⟩ by unfold distM; rw [if_pos hf, if_neg hr])
      have Hf := Lib.hid hf
      clear hf hr
      go_enter Try.func11, Try.ntmps11
      go_wp2_with fail
      generalize (((w.alloc (Obj.cells #[.bool E.up, .int .i64 E.em, .int .i64 E.pu, .int .i64 E.dr, .int .i64 E.mo, .slice a E.bs.length cap] 24)).alloc (Obj.cells #[.int .i64 S.sp, .int .i64 S.lo, .int .i64 S.hi, .int .i64 S.fa] 38)).alloc (Obj.cells #[.int .i64 X.br, .int .i64 X.fo, .int .i64 X.de, .int .i64 X.me, .int .i64 X.sl, .int .i64 X.lo, .int .i64 X.hi] 68)) = wA at *
      have HSZ := Lib.hid hsz
      have HV := Lib.hid hv1
      have K1 := Lib.hid k1
      have K2 := Lib.hid k2
      have K3 := Lib.hid k3
      clear hsz hv1 k1 k2 k3
      refine (far_any _ _ _ HV.out).mono ?_
      rintro e w1 ⟨rfl, hb1⟩
      rw [Hfar.out]
      have c1 := block_cell ((hb1.block w.heap.size (by have := HSZ.out; omega)).trans K1.out)
      have c2 := block_cell ((hb1.block (w.heap.size + 1) (by have := HSZ.out; omega)).trans K2.out)
      have c3 := block_cell ((hb1.block (w.heap.size + 1 + 1) (by have := HSZ.out; omega)).trans K3.out)
      go_wp2_with fail
      refine (rcheckStop_any E S _ _ (HV.out.below hb1 (Nat.le_refl _))).mono ?_
      rintro e w2 ⟨rfl, hb2⟩
      rw [Hf.out]
      have hb12 := hb1.trans (hb2.mono hb1.size)
      clear c1 c2 c3
      have c1 := block_cell ((hb12.block w.heap.size (by have := HSZ.out; omega)).trans K1.out)
      have c2 := block_cell ((hb12.block (w.heap.size + 1) (by have := HSZ.out; omega)).trans K2.out)
      have c3 := block_cell ((hb12.block (w.heap.size + 1 + 1) (by have := HSZ.out; omega)).trans K3.out)
      go_wp2_with fail
      refine (distance_any E S _ _ (HV.out.below hb12 (Nat.le_refl _))).mono ?_
      rintro e w4 ⟨rfl, hb4⟩
      rw [HD.out]
      unfold distV
      have hb14 := hb12.trans (hb4.mono hb12.size)
      have hbz := hbA.trans (hb14.mono hbA.size)
      have hzz := hbz.size
      clear c1 c2 c3
      go_wp2_with (go_at_call 16; refine (calls_big (A := w) (B := w.heap.size) ?_ (Nat.le_refl _) (works_any _)).mono ?_)
      · repeat' (first | exact hbz | (with_reducible refine Below.drew ?_) | (with_reducible refine Below.alloc ?_ ?_ _) | (with_reducible refine Below.setCell ?_ ?_ _))
        all_goals (first | omega | (simp; done) | (simp; omega))
      rintro e w6 ⟨rfl, hb6⟩
      go_wp2
      go_ret
      exact ⟨rfl, hb6⟩
  · have h0 : (checkStopM E S == 0) = false := by simpa using hf
    have h0' : (checkStopM E S != 0) = true := by simpa using hf
    clear hf
    have hbA := (((Below.refl w.heap.size w).alloc (Nat.le_refl _) (Obj.cells #[.bool E.up, .int .i64 E.em, .int .i64 E.pu, .int .i64 E.dr, .int .i64 E.mo, v] 24)).alloc (by simp) (Obj.cells #[.int .i64 S.sp, .int .i64 S.lo, .int .i64 S.hi, .int .i64 S.fa] 38)).alloc (by simp; omega) (Obj.cells #[.int .i64 X.br, .int .i64 X.fo, .int .i64 X.de, .int .i64 X.me, .int .i64 X.sl, .int .i64 X.lo, .int .i64 X.hi] 68)
    have k1 := block_alloc (block_alloc (block_new w (Obj.cells #[.bool E.up, .int .i64 E.em, .int .i64 E.pu, .int .i64 E.dr, .int .i64 E.mo, v] 24) w.heap.size rfl) (Obj.cells #[.int .i64 S.sp, .int .i64 S.lo, .int .i64 S.hi, .int .i64 S.fa] 38)) (Obj.cells #[.int .i64 X.br, .int .i64 X.fo, .int .i64 X.de, .int .i64 X.me, .int .i64 X.sl, .int .i64 X.lo, .int .i64 X.hi] 68)
    have k2 := block_alloc (block_new (w.alloc (Obj.cells #[.bool E.up, .int .i64 E.em, .int .i64 E.pu, .int .i64 E.dr, .int .i64 E.mo, v] 24)) (Obj.cells #[.int .i64 S.sp, .int .i64 S.lo, .int .i64 S.hi, .int .i64 S.fa] 38) (w.heap.size + 1) (by simp only [size_alloc])) (Obj.cells #[.int .i64 X.br, .int .i64 X.fo, .int .i64 X.de, .int .i64 X.me, .int .i64 X.sl, .int .i64 X.lo, .int .i64 X.hi] 68)
    have k3 := block_new ((w.alloc (Obj.cells #[.bool E.up, .int .i64 E.em, .int .i64 E.pu, .int .i64 E.dr, .int .i64 E.mo, v] 24)).alloc (Obj.cells #[.int .i64 S.sp, .int .i64 S.lo, .int .i64 S.hi, .int .i64 S.fa] 38)) (Obj.cells #[.int .i64 X.br, .int .i64 X.fo, .int .i64 X.de, .int .i64 X.me, .int .i64 X.sl, .int .i64 X.lo, .int .i64 X.hi] 68) (w.heap.size + 1 + 1) (by simp only [size_alloc])
    have hsz : (((w.alloc (Obj.cells #[.bool E.up, .int .i64 E.em, .int .i64 E.pu, .int .i64 E.dr, .int .i64 E.mo, v] 24)).alloc (Obj.cells #[.int .i64 S.sp, .int .i64 S.lo, .int .i64 S.hi, .int .i64 S.fa] 38)).alloc (Obj.cells #[.int .i64 X.br, .int .i64 X.fo, .int .i64 X.de, .int .i64 X.me, .int .i64 X.sl, .int .i64 X.lo, .int .i64 X.hi] 68)).heap.size = w.heap.size + 3 := by simp only [size_alloc]
    have hv1 := hv.below hbA (Nat.le_refl _)
    obtain ⟨a, cap, rfl, hn, hcap, hc⟩ := hv
    clear hc
    rcases far_or' E with hfar | hfar
    all_goals
      have Hfar := Lib.hid hfar
      clear hfar
      go_enter Try.func11, Try.ntmps11
      go_wp2_with fail
      generalize (((w.alloc (Obj.cells #[.bool E.up, .int .i64 E.em, .int .i64 E.pu, .int .i64 E.dr, .int .i64 E.mo, .slice a E.bs.length cap] 24)).alloc (Obj.cells #[.int .i64 S.sp, .int .i64 S.lo, .int .i64 S.hi, .int .i64 S.fa] 38)).alloc (Obj.cells #[.int .i64 X.br, .int .i64 X.fo, .int .i64 X.de, .int .i64 X.me, .int .i64 X.sl, .int .i64 X.lo, .int .i64 X.hi] 68)) = wA at *
      have HSZ := Lib.hid hsz
      have HV := Lib.hid hv1
      have K1 := Lib.hid k1
      have K2 := Lib.hid k2
      have K3 := Lib.hid k3
      clear hsz hv1 k1 k2 k3
      refine (far_any _ _ _ HV.out).mono ?_
      rintro e w1 ⟨rfl, hb1⟩
      rw [Hfar.out]
      have c1 := block_cell ((hb1.block w.heap.size (by have := HSZ.out; omega)).trans K1.out)
      have c2 := block_cell ((hb1.block (w.heap.size + 1) (by have := HSZ.out; omega)).trans K2.out)
      have c3 := block_cell ((hb1.block (w.heap.size + 1 + 1) (by have := HSZ.out; omega)).trans K3.out)
      have hbw1 := hbA.trans (hb1.mono hbA.size)
      go_wp2_with fail
      all_goals first
        | (refine (works_any _).mono ?_
           rintro e w5 ⟨rfl, hb5⟩
           go_wp2
           go_ret
           exact ⟨rfl, hbw1.trans (hb5.mono hbw1.size)⟩)
        | (refine (rcheckStop_any E S _ _ (HV.out.below hb1 (Nat.le_refl _))).mono ?_
           rintro e w2 ⟨rfl, hb2⟩
           have hbw2 := hbw1.trans (hb2.mono hbw1.size)
           clear c1 c2 c3
           go_wp2_with fail
           all_goals
             refine (works_any _).mono ?_
             rintro e w5 ⟨rfl, hb5⟩
             go_wp2
             go_ret
             exact ⟨rfl, hbw2.trans (hb5.mono hbw2.size)⟩)

end Go.Proofs.Ytpoenjnpfodfpaa
