/- DriveSingle, the walk where nothing is to be shown. -/
import Derived.Test.YtpoenjnpfodfpaaLs
namespace Go.Proofs.Ytpoenjnpfodfpaa
open Go.RowKit

set_option maxRecDepth 100000 in
set_option maxHeartbeats 8000000 in
theorem singleL_any (E : Esc) (v : Value) (S : Stp) (br : Int) (lv : Value) (xs : List Int) (way back : Int) (w : World) (hv : BrAt w v E.bs) (hx : InAt w lv xs) :
    Calls Try.prog 13 #[escV E v, stpV S, oneO br lv way back] w fun e w' => e = .returned (.bool true) ∧ Below w.heap.size w w' := by
  by_cases hf : checkStopM E S = 0
  · have Hfar := Lib.hid (far_no hf)
    by_cases hm : histB S xs = true ∧ 0 ≤ br ∧ br < E.bs.length
    · obtain ⟨hh, hb0, hb1⟩ := hm
      obtain ⟨k, rfl⟩ := Int.eq_ofNat_of_zero_le hb0
      exact single_main E v S k lv xs way back w hv hx hf hh (by omega)
    · have HX0 := Lib.hid hx
      obtain ⟨xa, xc, rfl, xn, xm, hxc⟩ := hx
      clear hxc
      have hbA := (((Below.refl w.heap.size w).alloc (Nat.le_refl _) (Obj.cells #[.bool E.up, .int .i64 E.em, .int .i64 E.pu, .int .i64 E.dr, .int .i64 E.mo, v] 24)).alloc (by simp) (Obj.cells #[.int .i64 S.sp, .int .i64 S.lo, .int .i64 S.hi, .int .i64 S.fa] 38)).alloc (by simp; omega) (Obj.cells #[.int .i64 br, .slice xa xs.length xc, .int .i64 way, .int .i64 back] 72)
      have k1 := block_alloc (block_alloc (block_new w (Obj.cells #[.bool E.up, .int .i64 E.em, .int .i64 E.pu, .int .i64 E.dr, .int .i64 E.mo, v] 24) w.heap.size rfl) (Obj.cells #[.int .i64 S.sp, .int .i64 S.lo, .int .i64 S.hi, .int .i64 S.fa] 38)) (Obj.cells #[.int .i64 br, .slice xa xs.length xc, .int .i64 way, .int .i64 back] 72)
      have k2 := block_alloc (block_new (w.alloc (Obj.cells #[.bool E.up, .int .i64 E.em, .int .i64 E.pu, .int .i64 E.dr, .int .i64 E.mo, v] 24)) (Obj.cells #[.int .i64 S.sp, .int .i64 S.lo, .int .i64 S.hi, .int .i64 S.fa] 38) (w.heap.size + 1) (by simp only [size_alloc])) (Obj.cells #[.int .i64 br, .slice xa xs.length xc, .int .i64 way, .int .i64 back] 72)
      have k3 := block_new ((w.alloc (Obj.cells #[.bool E.up, .int .i64 E.em, .int .i64 E.pu, .int .i64 E.dr, .int .i64 E.mo, v] 24)).alloc (Obj.cells #[.int .i64 S.sp, .int .i64 S.lo, .int .i64 S.hi, .int .i64 S.fa] 38)) (Obj.cells #[.int .i64 br, .slice xa xs.length xc, .int .i64 way, .int .i64 back] 72) (w.heap.size + 1 + 1) (by simp only [size_alloc])
      have hsz : (((w.alloc (Obj.cells #[.bool E.up, .int .i64 E.em, .int .i64 E.pu, .int .i64 E.dr, .int .i64 E.mo, v] 24)).alloc (Obj.cells #[.int .i64 S.sp, .int .i64 S.lo, .int .i64 S.hi, .int .i64 S.fa] 38)).alloc (Obj.cells #[.int .i64 br, .slice xa xs.length xc, .int .i64 way, .int .i64 back] 72)).heap.size = w.heap.size + 3 := by simp only [size_alloc]
      have hv1 := hv.below hbA (Nat.le_refl _)
      obtain ⟨a, cap, rfl, hn, hcap, hc⟩ := hv
      clear hc
      have Hf := Lib.hid hf
      have hm' : histB S xs = false ∨ (histB S xs = true ∧ (br < 0 ∨ (0 ≤ br ∧ (E.bs.length : Int) ≤ br))) := by
        cases hh : histB S xs
        · exact .inl rfl
        · right
          refine ⟨rfl, ?_⟩
          by_cases hb : br < 0
          · exact .inl hb
          · exact .inr ⟨by omega, by
              by_cases hb2 : br < E.bs.length
              · exact absurd ⟨hh, by omega, hb2⟩ hm
              · omega⟩
      clear hf hm
      have hl3 : (E.bs.length : Int) ≤ 3 := by have := Esc.ok_len (checkStopM_num Hf.out).1; omega
      by_cases hl : (xs.length : Int) ≤ 100
      all_goals
        rcases hm' with hh | ⟨hh, hb | ⟨hb, hb'⟩⟩
        all_goals
          have Hh := Lib.hid hh
          clear hh
          go_enter Try.func13, Try.ntmps13
          go_wp2_with fail
          generalize (((w.alloc (Obj.cells #[.bool E.up, .int .i64 E.em, .int .i64 E.pu, .int .i64 E.dr, .int .i64 E.mo, .slice a E.bs.length cap] 24)).alloc (Obj.cells #[.int .i64 S.sp, .int .i64 S.lo, .int .i64 S.hi, .int .i64 S.fa] 38)).alloc (Obj.cells #[.int .i64 br, .slice xa xs.length xc, .int .i64 way, .int .i64 back] 72)) = wA at *
          have HSZ := Lib.hid hsz
          have HV := Lib.hid hv1
          have K1 := Lib.hid k1
          have K2 := Lib.hid k2
          have K3 := Lib.hid k3
          clear hsz hv1 k1 k2 k3
          refine (far_any _ _ _ HV.out).mono ?_
          rintro e w1 ⟨rfl, hb1⟩
          rw [Hfar.out]
          have c1 := block_cell ((hb1.block w.heap.size (by have := HSZ.out; omega)).trans K1.out)
          have c2 := block_cell ((hb1.block (w.heap.size + 1) (by have := HSZ.out; omega)).trans K2.out)
          have c3 := block_cell ((hb1.block (w.heap.size + 1 + 1) (by have := HSZ.out; omega)).trans K3.out)
          have hbw1 := hbA.trans (hb1.mono hbA.size)
          go_wp2_with fail
          first
            | (refine (works_any _).mono ?_
               rintro e w5 ⟨rfl, hb5⟩
               go_wp2
               go_ret
               exact ⟨rfl, hbw1.trans (hb5.mono hbw1.size)⟩)
            | (refine (rcheckStop_any E S _ _ (HV.out.below hb1 (Nat.le_refl _))).mono ?_
               rintro e w2 ⟨rfl, hb2⟩
               rw [Hf.out]
               have hb12 := hb1.trans (hb2.mono hb1.size)
               have hbw2 := hbA.trans (hb12.mono hbA.size)
               clear c1 c2 c3
               have c1 := block_cell ((hb12.block w.heap.size (by have := HSZ.out; omega)).trans K1.out)
               have c2 := block_cell ((hb12.block (w.heap.size + 1) (by have := HSZ.out; omega)).trans K2.out)
               have c3 := block_cell ((hb12.block (w.heap.size + 1 + 1) (by have := HSZ.out; omega)).trans K3.out)
               go_wp2_with fail
               refine (history_any S _ xs _ (HX0.out.below hbw2 (Nat.le_refl _))).mono ?_
               rintro e w3 ⟨rfl, hb3⟩
               rw [Hh.out]
               have hb13 := hb12.trans (hb3.mono hb12.size)
               have hbw3 := hbA.trans (hb13.mono hbA.size)
               clear c1 c2 c3
               have c1 := block_cell ((hb13.block w.heap.size (by have := HSZ.out; omega)).trans K1.out)
               have c2 := block_cell ((hb13.block (w.heap.size + 1) (by have := HSZ.out; omega)).trans K2.out)
               have c3 := block_cell ((hb13.block (w.heap.size + 1 + 1) (by have := HSZ.out; omega)).trans K3.out)
               go_wp2_with fail
               refine (works_any _).mono ?_
               rintro e w5 ⟨rfl, hb5⟩
               go_wp2
               go_ret
               exact ⟨rfl, hbw3.trans (hb5.mono hbw3.size)⟩)
  · have h0 : (checkStopM E S == 0) = false := by simpa using hf
    have h0' : (checkStopM E S != 0) = true := by simpa using hf
    clear hf
    obtain ⟨xa, xc, rfl, xn, xm, hxc⟩ := hx
    clear hxc
    have hbA := (((Below.refl w.heap.size w).alloc (Nat.le_refl _) (Obj.cells #[.bool E.up, .int .i64 E.em, .int .i64 E.pu, .int .i64 E.dr, .int .i64 E.mo, v] 24)).alloc (by simp) (Obj.cells #[.int .i64 S.sp, .int .i64 S.lo, .int .i64 S.hi, .int .i64 S.fa] 38)).alloc (by simp; omega) (Obj.cells #[.int .i64 br, .slice xa xs.length xc, .int .i64 way, .int .i64 back] 72)
    have k1 := block_alloc (block_alloc (block_new w (Obj.cells #[.bool E.up, .int .i64 E.em, .int .i64 E.pu, .int .i64 E.dr, .int .i64 E.mo, v] 24) w.heap.size rfl) (Obj.cells #[.int .i64 S.sp, .int .i64 S.lo, .int .i64 S.hi, .int .i64 S.fa] 38)) (Obj.cells #[.int .i64 br, .slice xa xs.length xc, .int .i64 way, .int .i64 back] 72)
    have k2 := block_alloc (block_new (w.alloc (Obj.cells #[.bool E.up, .int .i64 E.em, .int .i64 E.pu, .int .i64 E.dr, .int .i64 E.mo, v] 24)) (Obj.cells #[.int .i64 S.sp, .int .i64 S.lo, .int .i64 S.hi, .int .i64 S.fa] 38) (w.heap.size + 1) (by simp only [size_alloc])) (Obj.cells #[.int .i64 br, .slice xa xs.length xc, .int .i64 way, .int .i64 back] 72)
    have k3 := block_new ((w.alloc (Obj.cells #[.bool E.up, .int .i64 E.em, .int .i64 E.pu, .int .i64 E.dr, .int .i64 E.mo, v] 24)).alloc (Obj.cells #[.int .i64 S.sp, .int .i64 S.lo, .int .i64 S.hi, .int .i64 S.fa] 38)) (Obj.cells #[.int .i64 br, .slice xa xs.length xc, .int .i64 way, .int .i64 back] 72) (w.heap.size + 1 + 1) (by simp only [size_alloc])
    have hsz : (((w.alloc (Obj.cells #[.bool E.up, .int .i64 E.em, .int .i64 E.pu, .int .i64 E.dr, .int .i64 E.mo, v] 24)).alloc (Obj.cells #[.int .i64 S.sp, .int .i64 S.lo, .int .i64 S.hi, .int .i64 S.fa] 38)).alloc (Obj.cells #[.int .i64 br, .slice xa xs.length xc, .int .i64 way, .int .i64 back] 72)).heap.size = w.heap.size + 3 := by simp only [size_alloc]
    have hv1 := hv.below hbA (Nat.le_refl _)
    obtain ⟨a, cap, rfl, hn, hcap, hc⟩ := hv
    clear hc
    by_cases hl : (xs.length : Int) ≤ 100
    all_goals
      rcases far_or' E with hfar | hfar
      all_goals
        have Hfar := Lib.hid hfar
        clear hfar
        go_enter Try.func13, Try.ntmps13
        go_wp2_with fail
        generalize (((w.alloc (Obj.cells #[.bool E.up, .int .i64 E.em, .int .i64 E.pu, .int .i64 E.dr, .int .i64 E.mo, .slice a E.bs.length cap] 24)).alloc (Obj.cells #[.int .i64 S.sp, .int .i64 S.lo, .int .i64 S.hi, .int .i64 S.fa] 38)).alloc (Obj.cells #[.int .i64 br, .slice xa xs.length xc, .int .i64 way, .int .i64 back] 72)) = wA at *
        have HSZ := Lib.hid hsz
        have HV := Lib.hid hv1
        have K1 := Lib.hid k1
        have K2 := Lib.hid k2
        have K3 := Lib.hid k3
        clear hsz hv1 k1 k2 k3
        refine (far_any _ _ _ HV.out).mono ?_
        rintro e w1 ⟨rfl, hb1⟩
        rw [Hfar.out]
        have c1 := block_cell ((hb1.block w.heap.size (by have := HSZ.out; omega)).trans K1.out)
        have c2 := block_cell ((hb1.block (w.heap.size + 1) (by have := HSZ.out; omega)).trans K2.out)
        have c3 := block_cell ((hb1.block (w.heap.size + 1 + 1) (by have := HSZ.out; omega)).trans K3.out)
        have hbw1 := hbA.trans (hb1.mono hbA.size)
        go_wp2_with fail
        all_goals first
          | (refine (works_any _).mono ?_
             rintro e w5 ⟨rfl, hb5⟩
             go_wp2
             go_ret
             exact ⟨rfl, hbw1.trans (hb5.mono hbw1.size)⟩)
          | (refine (rcheckStop_any E S _ _ (HV.out.below hb1 (Nat.le_refl _))).mono ?_
             rintro e w2 ⟨rfl, hb2⟩
             have hbw2 := hbw1.trans (hb2.mono hbw1.size)
             clear c1 c2 c3
             go_wp2_with fail
             all_goals
               refine (works_any _).mono ?_
               rintro e w5 ⟨rfl, hb5⟩
               go_wp2
               go_ret
               exact ⟨rfl, hbw2.trans (hb5.mono hbw2.size)⟩)

end Go.Proofs.Ytpoenjnpfodfpaa
