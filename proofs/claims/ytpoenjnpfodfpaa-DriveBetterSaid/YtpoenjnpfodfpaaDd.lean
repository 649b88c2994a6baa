/- Walks of layer 1 (drive): Distance, Back. -/
import Derived.Test.YtpoenjnpfodfpaaDr
import Derived.Test.YtpoenjnpfodfpaaDk
import Derived.RegionTactic
namespace Go.Proofs.Ytpoenjnpfodfpaa
open Go.RowKit

structure Dist where
  a : Int
  b : Int
  c : Int
  d : Int
  f : Int

def distM (E : Esc) (S : Stp) : Dist :=
  if checkStopM E S = 0 then
    (if pathM E S true (restN E S true) = 0 then ⟨wayTo E S false (restN E S false), wayTo E S true (restN E S true), restN E S false, restN E S true, 0⟩ else ⟨0, 0, 0, 0, 12⟩)
  else ⟨0, 0, 0, 0, checkStopM E S⟩

abbrev distV (D : Dist) : Value := .tuple #[.agg #[.int .i64 D.a, .int .i64 D.b], .agg #[.int .i64 D.c, .int .i64 D.d], .int .i64 D.f]

theorem checkStopM_num {E : Esc} {S : Stp} (h : checkStopM E S = 0) : E.ok = true ∧ S.Num := by
  unfold checkStopM at h
  by_cases hE : E.ok = true
  · rw [if_pos hE] at h
    by_cases hS : S.ok E.bs.length = true
    · exact ⟨hE, Stp.ok_num (Esc.ok_len hE) hS⟩
    · rw [if_neg hS] at h; omega
  · rw [if_neg hE] at h; omega

theorem checkStopM_cases (E : Esc) (S : Stp) : checkStopM E S = 0 ∨ checkStopM E S = 10 ∨ checkStopM E S = 11 := by
  unfold checkStopM
  by_cases hE : E.ok = true
  · rw [if_pos hE]
    by_cases hS : S.ok E.bs.length = true
    · rw [if_pos hS]; exact .inl rfl
    · rw [if_neg hS]; exact .inr (.inr rfl)
  · rw [if_neg hE]; exact .inr (.inl rfl)

set_option maxHeartbeats 2000000 in
theorem distance_any (E : Esc) (S : Stp) (v : Value) (w : World) (hv : BrAt w v E.bs) :
    Calls Try.prog 26 #[escV E v, stpV S] w fun e w' => e = .returned (distV (distM E S)) ∧ Below w.heap.size w w' := by
  have hb0 := ((((Below.refl w.heap.size w).alloc (Nat.le_refl _) (Obj.cells #[.bool E.up, .int .i64 E.em, .int .i64 E.pu, .int .i64 E.dr, .int .i64 E.mo, v] 24)).alloc (by simp) (Obj.cells #[.int .i64 S.sp, .int .i64 S.lo, .int .i64 S.hi, .int .i64 S.fa] 38)).alloc (by simp; omega) (Obj.cells #[.int .i64 0, .int .i64 0] 36)).alloc (by simp; omega) (Obj.cells #[.int .i64 0, .int .i64 0] 36)
  have hv1 := hv.below hb0 (Nat.le_refl _)
  obtain ⟨a, cap, rfl, hn, hcap, hc⟩ := hv
  clear hc
  have HV := Lib.hid hv1
  have HB0 := Lib.hid hb0
  clear hv1 hb0
  by_cases hf : checkStopM E S = 0
  · obtain ⟨hE, hS⟩ := checkStopM_num hf
    have Hf := Lib.hid hf
    clear hf
    by_cases hr : pathM E S true (restN E S true) = 0
    · have Hr := Lib.hid hr
      have hrb : (pathM E S true (restN E S true) == 0) = true := by simpa using hr
      have Hrb := Lib.hid hrb
      clear hr hrb
      go_enter Try.func26, Try.ntmps26
      go_wp2_with fail
      refine (checkStop_any _ _ _ _ HV.out).mono ?_
      rintro e w1 ⟨rfl, hb1⟩
      rw [Hf.out]
      obtain ⟨hcl, hfz⟩ := bcell hb1
      go_wp2_with fail
      refine (roll_any E S _ true _ (HV.out.below hb1 (Nat.le_refl _)) hE hS).mono ?_
      rintro e w2 ⟨al, cl, rfl, _, hb2⟩
      rw [Hrb.out]
      have hb12 := hb1.trans (hb2.mono hb1.size)
      obtain ⟨hcl2, hfz2⟩ := bcell hb12
      clear hcl hfz
      obtain ⟨z0, z1, z2, z3⟩ : w.heap.size < w2.heap.size ∧ w.heap.size + 1 < w2.heap.size ∧ w.heap.size + 1 + 1 < w2.heap.size ∧ w.heap.size + 1 + 1 + 1 < w2.heap.size := by have := hb12.size; simp at this; omega
      have hbr := hb12.trans ((Below.refl w2.heap.size w2).alloc (Nat.le_refl _) (Obj.cells #[.slice al (restN E S true) cl, .int .i64 (wayTo E S true (restN E S true)), .bool true] 85) |>.mono hb12.size)
      go_wp2_with fail
      refine (roll_any E S _ false _ (HV.out.below hbr (Nat.le_refl _)) hE hS).mono ?_
      rintro e w3 ⟨al3, cl3, rfl, _, hb3⟩
      obtain ⟨hcl3, hfz3⟩ := bcell hb3
      have hz3 : w2.heap.size < w3.heap.size := by have := hb3.size; simp at this; omega
      have hb13 := hbr.trans (hb3.mono hbr.size)
      have y0 : w.heap.size < w3.heap.size := by omega
      have y1 : w.heap.size + 1 < w3.heap.size := by omega
      have y2 : w.heap.size + 1 + 1 < w3.heap.size := by omega
      have y3 : w.heap.size + 1 + 1 + 1 < w3.heap.size := by omega
      have k2 := (hb13.block (w.heap.size + 1 + 1) (by simp only [size_alloc]; omega)).trans (block_alloc (block_new ((w.alloc (Obj.cells #[.bool E.up, .int .i64 E.em, .int .i64 E.pu, .int .i64 E.dr, .int .i64 E.mo, .slice a E.bs.length cap] 24)).alloc (Obj.cells #[.int .i64 S.sp, .int .i64 S.lo, .int .i64 S.hi, .int .i64 S.fa] 38)) (Obj.cells #[.int .i64 0, .int .i64 0] 36) (w.heap.size + 1 + 1) (by simp only [size_alloc])) (Obj.cells #[.int .i64 0, .int .i64 0] 36))
      have k3 := (hb13.block (w.heap.size + 1 + 1 + 1) (by simp only [size_alloc]; omega)).trans (block_new (((w.alloc (Obj.cells #[.bool E.up, .int .i64 E.em, .int .i64 E.pu, .int .i64 E.dr, .int .i64 E.mo, .slice a E.bs.length cap] 24)).alloc (Obj.cells #[.int .i64 S.sp, .int .i64 S.lo, .int .i64 S.hi, .int .i64 S.fa] 38)).alloc (Obj.cells #[.int .i64 0, .int .i64 0] 36)) (Obj.cells #[.int .i64 0, .int .i64 0] 36) (w.heap.size + 1 + 1 + 1) (by simp only [size_alloc]))
      have k2 := block_set (block_set k2 0 (.int .i64 (wayTo E S false (restN E S false)))) 1 (.int .i64 (wayTo E S true (restN E S true)))
      have k2 := block_set_other (block_set_other k2 (p := ⟨w.heap.size + 1 + 1 + 1, 0, none⟩) (by simp) (.int .i64 (restN E S false))) (p := ⟨w.heap.size + 1 + 1 + 1, 1, none⟩) (by simp) (.int .i64 (restN E S true))
      have k3 := block_set_other (block_set_other k3 (p := ⟨w.heap.size + 1 + 1, 0, none⟩) (by simp) (.int .i64 (wayTo E S false (restN E S false)))) (p := ⟨w.heap.size + 1 + 1, 1, none⟩) (by simp) (.int .i64 (wayTo E S true (restN E S true)))
      have k3 := block_set (block_set k3 0 (.int .i64 (restN E S false))) 1 (.int .i64 (restN E S true))
      have k2 := block_set (block_set k2 0 (.int .i64 (wayTo E S false (restN E S false)))) 1 (.int .i64 (wayTo E S true (restN E S true)))
      have k2 := block_set_other (block_set_other k2 (p := ⟨w.heap.size + 1 + 1 + 1, 0, none⟩) (by simp) (.int .i64 (restN E S false))) (p := ⟨w.heap.size + 1 + 1 + 1, 1, none⟩) (by simp) (.int .i64 (restN E S true))
      have k3 := block_set_other (block_set_other k3 (p := ⟨w.heap.size + 1 + 1, 0, none⟩) (by simp) (.int .i64 (wayTo E S false (restN E S false)))) (p := ⟨w.heap.size + 1 + 1, 1, none⟩) (by simp) (.int .i64 (wayTo E S true (restN E S true)))
      have k3 := block_set (block_set k3 0 (.int .i64 (restN E S false))) 1 (.int .i64 (restN E S true))
      have k2 := block_alloc k2 (Obj.cells #[.slice al3 (restN E S false) cl3, .int .i64 (wayTo E S false (restN E S false)), .bool (pathM E S false (restN E S false) == 0)] 85)
      have k3 := block_alloc k3 (Obj.cells #[.slice al3 (restN E S false) cl3, .int .i64 (wayTo E S false (restN E S false)), .bool (pathM E S false (restN E S false) == 0)] 85)
      have K2 := Lib.hid k2
      have K3 := Lib.hid k3
      clear k2 k3
      go_wp2
      go_region
      go_wp2
      refine bodyPost_ret (v := distV ⟨wayTo E S false (restN E S false), wayTo E S true (restN E S true), restN E S false, restN E S true, 0⟩) (by simp [results, Try.results26, go_sem, distV, block_cell K2.out, block_cell K3.out]) rfl ⟨?_, ?_⟩
      · unfold distM
        rw [if_pos Hf.out, if_pos Hr.out]
      · refine Below.drew (Below.alloc (Below.setCell (Below.setCell (Below.setCell (Below.setCell (Below.setCell (Below.setCell (Below.setCell (Below.setCell (HB0.out.trans (hb13.mono HB0.out.size)) ?_ _) ?_ _) ?_ _) ?_ _) ?_ _) ?_ _) ?_ _) ?_ _) ?_ _)
        all_goals first | omega | (simp; omega)
    · have Hr := Lib.hid hr
      have hrb : (pathM E S true (restN E S true) == 0) = false := by simpa using hr
      have Hrb := Lib.hid hrb
      clear hr hrb
      go_enter Try.func26, Try.ntmps26
      go_wp2_with fail
      refine (checkStop_any _ _ _ _ HV.out).mono ?_
      rintro e w1 ⟨rfl, hb1⟩
      rw [Hf.out]
      obtain ⟨hcl, hfz⟩ := bcell hb1
      go_wp2_with fail
      refine (roll_any E S _ true _ (HV.out.below hb1 (Nat.le_refl _)) hE hS).mono ?_
      rintro e w2 ⟨al, cl, rfl, _, hb2⟩
      rw [Hrb.out]
      have hb12 := hb1.trans (hb2.mono hb1.size)
      obtain ⟨hcl2, hfz2⟩ := bcell hb12
      clear hcl hfz
      obtain ⟨z0, z1, z2, z3⟩ : w.heap.size < w2.heap.size ∧ w.heap.size + 1 < w2.heap.size ∧ w.heap.size + 1 + 1 < w2.heap.size ∧ w.heap.size + 1 + 1 + 1 < w2.heap.size := by have := hb12.size; simp at this; omega
      go_wp2
      refine bodyPost_ret (v := .tuple #[.agg #[.int .i64 0, .int .i64 0], .agg #[.int .i64 0, .int .i64 0], .int .i64 12]) (by simp [results, Try.results26, go_sem, hcl2, z2, z3]) rfl ⟨?_, ?_⟩
      · unfold distM
        rw [if_pos Hf.out, if_neg Hr.out]
      · refine Below.alloc (Below.setCell (Below.setCell (Below.setCell (Below.setCell (HB0.out.trans (hb12.mono HB0.out.size)) ?_ _) ?_ _) ?_ _) ?_ _) ?_ _
        all_goals first | omega | (simp; omega)
  · have Hf := Lib.hid hf
    have h0 : (checkStopM E S == 0) = false := by simpa using hf
    clear hf
    go_enter Try.func26, Try.ntmps26
    go_wp2_with fail
    refine (checkStop_any _ _ _ _ HV.out).mono ?_
    rintro e w1 ⟨rfl, hb1⟩
    obtain ⟨hcl, hfz⟩ := bcell hb1
    have hs1 : w.heap.size + 3 < w1.heap.size := by have := hb1.size; simp at this; omega
    go_wp2
    refine bodyPost_ret (v := .tuple #[.agg #[.int .i64 0, .int .i64 0], .agg #[.int .i64 0, .int .i64 0], .int .i64 (checkStopM E S)]) (by simp [results, Try.results26, go_sem, hcl]) rfl ⟨?_, ?_⟩
    · unfold distM
      rw [if_neg Hf.out]
    · exact ((((HB0.out.trans (hb1.mono HB0.out.size)).setCell (by simp; omega) _).setCell (by simp; omega) _).setCell (by simp; omega) _).setCell (by simp; omega) _
end Go.Proofs.Ytpoenjnpfodfpaa
