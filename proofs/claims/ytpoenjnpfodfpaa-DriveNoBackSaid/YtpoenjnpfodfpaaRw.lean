/- Walks of layer 1 (drive): the specification's Distance, Witness of both. -/
import Derived.Test.YtpoenjnpfodfpaaRd
import Derived.Test.YtpoenjnpfodfpaaDv
namespace Go.Proofs.Ytpoenjnpfodfpaa
open Go.RowKit

theorem bcellA {B : Nat} {W w1 : World} (hb : Below B W w1) : (∀ b o, b < B → w1.cell? ⟨b, o, none⟩ = W.cell? ⟨b, o, none⟩) ∧ (∀ b o, b < B → w1.frozen? ⟨b, o, none⟩ = W.frozen? ⟨b, o, none⟩) :=
  ⟨fun b o h => hb.cell (p := ⟨b, o, none⟩) h, fun b o h => hb.frozen (p := ⟨b, o, none⟩) h⟩

set_option maxRecDepth 100000 in
set_option maxHeartbeats 4000000 in
theorem rdistance_any (E : Esc) (S : Stp) (v : Value) (w : World) (hv : BrAt w v E.bs) :
    Calls Try.prog 27 #[escV E v, stpV S] w fun e w' => e = .returned (distV (distM E S)) ∧ Below w.heap.size w w' := by
  have hb0 := ((((Below.refl w.heap.size w).alloc (Nat.le_refl _) (Obj.cells #[.bool E.up, .int .i64 E.em, .int .i64 E.pu, .int .i64 E.dr, .int .i64 E.mo, v] 24)).alloc (by simp) (Obj.cells #[.int .i64 S.sp, .int .i64 S.lo, .int .i64 S.hi, .int .i64 S.fa] 38)).alloc (by simp; omega) (Obj.cells #[.int .i64 0, .int .i64 0] 36)).alloc (by simp; omega) (Obj.cells #[.int .i64 0, .int .i64 0] 36)
  have k1 := block_alloc (block_alloc (block_alloc (block_new w (Obj.cells #[.bool E.up, .int .i64 E.em, .int .i64 E.pu, .int .i64 E.dr, .int .i64 E.mo, v] 24) w.heap.size rfl) (Obj.cells #[.int .i64 S.sp, .int .i64 S.lo, .int .i64 S.hi, .int .i64 S.fa] 38)) (Obj.cells #[.int .i64 0, .int .i64 0] 36)) (Obj.cells #[.int .i64 0, .int .i64 0] 36)
  have k2 := block_alloc (block_alloc (block_new (w.alloc (Obj.cells #[.bool E.up, .int .i64 E.em, .int .i64 E.pu, .int .i64 E.dr, .int .i64 E.mo, v] 24)) (Obj.cells #[.int .i64 S.sp, .int .i64 S.lo, .int .i64 S.hi, .int .i64 S.fa] 38) (w.heap.size + 1) (by simp only [size_alloc])) (Obj.cells #[.int .i64 0, .int .i64 0] 36)) (Obj.cells #[.int .i64 0, .int .i64 0] 36)
  have k3 := block_alloc (block_new ((w.alloc (Obj.cells #[.bool E.up, .int .i64 E.em, .int .i64 E.pu, .int .i64 E.dr, .int .i64 E.mo, v] 24)).alloc (Obj.cells #[.int .i64 S.sp, .int .i64 S.lo, .int .i64 S.hi, .int .i64 S.fa] 38)) (Obj.cells #[.int .i64 0, .int .i64 0] 36) (w.heap.size + 1 + 1) (by simp only [size_alloc])) (Obj.cells #[.int .i64 0, .int .i64 0] 36)
  have k4 := block_new (((w.alloc (Obj.cells #[.bool E.up, .int .i64 E.em, .int .i64 E.pu, .int .i64 E.dr, .int .i64 E.mo, v] 24)).alloc (Obj.cells #[.int .i64 S.sp, .int .i64 S.lo, .int .i64 S.hi, .int .i64 S.fa] 38)).alloc (Obj.cells #[.int .i64 0, .int .i64 0] 36)) (Obj.cells #[.int .i64 0, .int .i64 0] 36) (w.heap.size + 1 + 1 + 1) (by simp only [size_alloc])
  have hsz : ((((w.alloc (Obj.cells #[.bool E.up, .int .i64 E.em, .int .i64 E.pu, .int .i64 E.dr, .int .i64 E.mo, v] 24)).alloc (Obj.cells #[.int .i64 S.sp, .int .i64 S.lo, .int .i64 S.hi, .int .i64 S.fa] 38)).alloc (Obj.cells #[.int .i64 0, .int .i64 0] 36)).alloc (Obj.cells #[.int .i64 0, .int .i64 0] 36)).heap.size = w.heap.size + 4 := by simp only [size_alloc]
  have hv1 := hv.below hb0 (Nat.le_refl _)
  obtain ⟨a, cap, rfl, hn, hcap, hc⟩ := hv
  clear hc
  by_cases hf : checkStopM E S = 0
  · obtain ⟨hE, hS⟩ := checkStopM_num hf
    have Hf := Lib.hid hf
    clear hf
    cases hr : (pathM E S true (restN E S true) == 0)
    all_goals
      have Hr := Lib.hid hr
      clear hr
      go_enter Try.func27, Try.ntmps27
      go_wp2_with fail
      generalize (((w.alloc (Obj.cells #[.bool E.up, .int .i64 E.em, .int .i64 E.pu, .int .i64 E.dr, .int .i64 E.mo, .slice a E.bs.length cap] 24)).alloc (Obj.cells #[.int .i64 S.sp, .int .i64 S.lo, .int .i64 S.hi, .int .i64 S.fa] 38)).alloc (Obj.cells #[.int .i64 0, .int .i64 0] 36)).alloc (Obj.cells #[.int .i64 0, .int .i64 0] 36) = wA at *
      have HSZ := Lib.hid hsz
      have HV := Lib.hid hv1
      have K1 := Lib.hid k1
      have K2 := Lib.hid k2
      have K3 := Lib.hid k3
      have K4 := Lib.hid k4
      clear hsz hv1 k1 k2 k3 k4
      refine (rcheckStop_any _ _ _ _ HV.out).mono ?_
      rintro e w1 ⟨rfl, hb1⟩
      rw [Hf.out]
      have c1 := block_cell ((hb1.block w.heap.size (by have := HSZ.out; omega)).trans K1.out)
      have c2 := block_cell ((hb1.block (w.heap.size + 1) (by have := HSZ.out; omega)).trans K2.out)
      go_wp2_with fail
      refine (path_any E S _ true _ (HV.out.below hb1 (Nat.le_refl _)) hE hS).mono ?_
      rintro e w2 ⟨v1, v2, rfl, hi1, _, hb2⟩
      have hb12 := hb1.trans (hb2.mono hb1.size)
      have HI1 := Lib.hid hi1
      clear c1 c2 hi1
      have c1 := block_cell ((hb12.block w.heap.size (by have := HSZ.out; omega)).trans K1.out)
      have c2 := block_cell ((hb12.block (w.heap.size + 1) (by have := HSZ.out; omega)).trans K2.out)
      go_wp2_with fail
      refine (path_any E S _ false _ (HV.out.below hb12 (Nat.le_refl _)) hE hS).mono ?_
      rintro e w3 ⟨v3, v4, rfl, hi3, _, hb3⟩
      have hb13 := hb12.trans (hb3.mono hb12.size)
      have HI3 := Lib.hid hi3
      have HI2 := Lib.hid (HI1.out.below hb3 (Nat.le_refl _))
      clear c1 c2 hi3
      have c1 := block_cell ((hb13.block w.heap.size (by have := HSZ.out; omega)).trans K1.out)
      have c2 := block_cell ((hb13.block (w.heap.size + 1) (by have := HSZ.out; omega)).trans K2.out)
      go_wp2_with fail
      refine (rest_path hE hS false _ _ HI3.out).mono ?_
      rintro e w4 ⟨rfl, rfl⟩
      go_wp2_with fail
      refine (rest_path hE hS true _ _ HI2.out).mono ?_
      rintro e w5 ⟨rfl, rfl⟩
      rw [Hr.out]
      have hk3 := (hb13.block _ (lt_of_block K3.out)).trans K3.out
      have hk4 := (hb13.block _ (lt_of_block K4.out)).trans K4.out
      have c3 := block_cell hk3
      have f3 := block_free hk3
      have c4 := block_cell hk4
      have f4 := block_free hk4
    · go_wp2
      refine bodyPost_ret (v := .tuple #[.agg #[.int .i64 0, .int .i64 0], .agg #[.int .i64 0, .int .i64 0], .int .i64 12]) (by simp [results, Try.results27, go_sem, c3, c4]) rfl ⟨?_, ?_⟩
      · unfold distM
        rw [if_pos Hf.out, if_neg (by have := Hr.out; simpa using this)]
      · refine Below.setCell (Below.setCell (Below.setCell (Below.setCell (hb0.trans (hb13.mono hb0.size)) ?_ _) ?_ _) ?_ _) ?_ _
        all_goals first | omega | (simp; omega)
    · have k3 := block_set_other (block_set_other (block_set (block_set hk3 0 (.int .i64 (wayTo E S false (restN E S false)))) 1 (.int .i64 (wayTo E S true (restN E S true)))) (p := ⟨w.heap.size + 1 + 1 + 1, 0, none⟩) (by simp) (.int .i64 (restN E S false))) (p := ⟨w.heap.size + 1 + 1 + 1, 1, none⟩) (by simp) (.int .i64 (restN E S true))
      have k4 := block_set (block_set (block_set_other (block_set_other hk4 (p := ⟨w.heap.size + 1 + 1, 0, none⟩) (by simp) (.int .i64 (wayTo E S false (restN E S false)))) (p := ⟨w.heap.size + 1 + 1, 1, none⟩) (by simp) (.int .i64 (wayTo E S true (restN E S true)))) 0 (.int .i64 (restN E S false))) 1 (.int .i64 (restN E S true))
      have K3' := Lib.hid k3
      have K4' := Lib.hid k4
      clear k3 k4
      go_wp2
      refine bodyPost_ret (v := distV ⟨wayTo E S false (restN E S false), wayTo E S true (restN E S true), restN E S false, restN E S true, 0⟩) (by simp [results, Try.results27, go_sem, distV, block_cell K3'.out, block_cell K4'.out]) rfl ⟨?_, ?_⟩
      · unfold distM
        rw [if_pos Hf.out, if_pos (by have := Hr.out; simpa using this)]
      · refine Below.setCell (Below.setCell (Below.setCell (Below.setCell (hb0.trans (hb13.mono hb0.size)) ?_ _) ?_ _) ?_ _) ?_ _
        all_goals first | omega | (simp; omega)
  · have Hf := Lib.hid hf
    have h0 : (checkStopM E S == 0) = false := by simpa using hf
    clear hf
    go_enter Try.func27, Try.ntmps27
    go_wp2_with fail
    generalize (((w.alloc (Obj.cells #[.bool E.up, .int .i64 E.em, .int .i64 E.pu, .int .i64 E.dr, .int .i64 E.mo, .slice a E.bs.length cap] 24)).alloc (Obj.cells #[.int .i64 S.sp, .int .i64 S.lo, .int .i64 S.hi, .int .i64 S.fa] 38)).alloc (Obj.cells #[.int .i64 0, .int .i64 0] 36)).alloc (Obj.cells #[.int .i64 0, .int .i64 0] 36) = wA at *
    have HSZ := Lib.hid hsz
    have HV := Lib.hid hv1
    have K3 := Lib.hid k3
    have K4 := Lib.hid k4
    clear hsz hv1 k1 k2 k3 k4
    refine (rcheckStop_any _ _ _ _ HV.out).mono ?_
    rintro e w1 ⟨rfl, hb1⟩
    have hk3 := (hb1.block _ (lt_of_block K3.out)).trans K3.out
    have hk4 := (hb1.block _ (lt_of_block K4.out)).trans K4.out
    have c3 := block_cell hk3
    have f3 := block_free hk3
    have c4 := block_cell hk4
    have f4 := block_free hk4
    go_wp2
    refine bodyPost_ret (v := .tuple #[.agg #[.int .i64 0, .int .i64 0], .agg #[.int .i64 0, .int .i64 0], .int .i64 (checkStopM E S)]) (by simp [results, Try.results27, go_sem, c3, c4]) rfl ⟨?_, ?_⟩
    · unfold distM
      rw [if_neg Hf.out]
    · refine Below.setCell (Below.setCell (Below.setCell (Below.setCell (hb0.trans (hb1.mono hb0.size)) ?_ _) ?_ _) ?_ _) ?_ _
      all_goals first | omega | (simp; omega)

end Go.Proofs.Ytpoenjnpfodfpaa
