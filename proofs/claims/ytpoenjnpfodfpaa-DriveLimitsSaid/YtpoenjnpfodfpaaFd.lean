/- Walks of layer 1 (drive): the specification's Legal; DriveLimits. -/
import Derived.Test.YtpoenjnpfodfpaaFc
import Derived.Test.YtpoenjnpfodfpaaFb
namespace Go.Proofs.Ytpoenjnpfodfpaa
open Go.RowKit

theorem legR_dist {E : Esc} {S : Stp} {lo hi : Int} (h : checkStopM E S = 0) (hl : (0 ≤ hi ∧ hi ≤ 10000000) ∧ (0 ≤ lo ∧ lo ≤ hi)) :
    legR E S lo hi = if (distM E S).f = 0 then (if (distM E S).b ≤ hi then (if lo ≤ (distM E S).a then (if (holdsRM E S).q = true then ⟨0, true, 0⟩ else ⟨4, false, 0⟩) else ⟨3, false, 0⟩) else ⟨2, false, 0⟩) else ⟨1, false, 0⟩ := by
  unfold legR distM holdsRM
  rw [if_pos h, if_pos h, if_pos h, if_pos hl]
  by_cases hr : pathM E S true (restN E S true) = 0
  · rw [if_pos hr, if_pos hr]; rfl
  · rw [if_neg hr, if_neg hr]; rfl

set_option maxRecDepth 100000 in
set_option maxHeartbeats 8000000 in
theorem rlegal_any (E : Esc) (S : Stp) (v : Value) (lo hi : Int) (w : World) (hv : BrAt w v E.bs) :
    Calls Try.prog 37 #[escV E v, stpV S, .agg #[.int .i64 lo, .int .i64 hi]] w fun e w' => e = .returned (legV (legR E S lo hi)) ∧ Below w.heap.size w w' := by
  have hbA := (((Below.refl w.heap.size w).alloc (Nat.le_refl _) (Obj.cells #[.bool E.up, .int .i64 E.em, .int .i64 E.pu, .int .i64 E.dr, .int .i64 E.mo, v] 24)).alloc (by simp) (Obj.cells #[.int .i64 S.sp, .int .i64 S.lo, .int .i64 S.hi, .int .i64 S.fa] 38)).alloc (by simp; omega) (Obj.cells #[.int .i64 lo, .int .i64 hi] 36)
  have k1 := block_alloc (block_alloc (block_new w (Obj.cells #[.bool E.up, .int .i64 E.em, .int .i64 E.pu, .int .i64 E.dr, .int .i64 E.mo, v] 24) w.heap.size rfl) (Obj.cells #[.int .i64 S.sp, .int .i64 S.lo, .int .i64 S.hi, .int .i64 S.fa] 38)) (Obj.cells #[.int .i64 lo, .int .i64 hi] 36)
  have k2 := block_alloc (block_new (w.alloc (Obj.cells #[.bool E.up, .int .i64 E.em, .int .i64 E.pu, .int .i64 E.dr, .int .i64 E.mo, v] 24)) (Obj.cells #[.int .i64 S.sp, .int .i64 S.lo, .int .i64 S.hi, .int .i64 S.fa] 38) (w.heap.size + 1) (by simp only [size_alloc])) (Obj.cells #[.int .i64 lo, .int .i64 hi] 36)
  have k3 := block_new ((w.alloc (Obj.cells #[.bool E.up, .int .i64 E.em, .int .i64 E.pu, .int .i64 E.dr, .int .i64 E.mo, v] 24)).alloc (Obj.cells #[.int .i64 S.sp, .int .i64 S.lo, .int .i64 S.hi, .int .i64 S.fa] 38)) (Obj.cells #[.int .i64 lo, .int .i64 hi] 36) (w.heap.size + 1 + 1) (by simp only [size_alloc])
  have hsz : (((w.alloc (Obj.cells #[.bool E.up, .int .i64 E.em, .int .i64 E.pu, .int .i64 E.dr, .int .i64 E.mo, v] 24)).alloc (Obj.cells #[.int .i64 S.sp, .int .i64 S.lo, .int .i64 S.hi, .int .i64 S.fa] 38)).alloc (Obj.cells #[.int .i64 lo, .int .i64 hi] 36)).heap.size = w.heap.size + 3 := by simp only [size_alloc]
  have hv1 := hv.below hbA (Nat.le_refl _)
  obtain ⟨a, cap, rfl, hn, hcap, hc⟩ := hv
  clear hc
  by_cases hf : checkStopM E S = 0
  · by_cases hl : (0 ≤ hi ∧ hi ≤ 10000000) ∧ (0 ≤ lo ∧ lo ≤ hi)
    · have HR := legR_dist hf hl
      obtain ⟨⟨D1, D2, D3, D4, F⟩, hd⟩ : ∃ D, distM E S = D := ⟨_, rfl⟩
      obtain ⟨⟨Q, G⟩, hq⟩ : ∃ D, holdsRM E S = D := ⟨_, rfl⟩
      rw [hd, hq] at HR
      dsimp only at HR
      obtain ⟨⟨l1, l2⟩, l3, l4⟩ := hl
      have Hf := Lib.hid hf
      have Hd := Lib.hid hd
      have Hq := Lib.hid hq
      clear hf hd hq
      by_cases hF : F = 0
      · subst hF
        rw [if_pos rfl] at HR
        by_cases h2 : D2 ≤ hi <;> by_cases h1 : lo ≤ D1 <;> cases Q
        all_goals
          simp only [h1, h2, if_true, if_false, Bool.false_eq_true] at HR
          have HR := Lib.hid HR
          go_enter Try.func37, Try.ntmps37
          go_wp2_with fail
          generalize (((w.alloc (Obj.cells #[.bool E.up, .int .i64 E.em, .int .i64 E.pu, .int .i64 E.dr, .int .i64 E.mo, .slice a E.bs.length cap] 24)).alloc (Obj.cells #[.int .i64 S.sp, .int .i64 S.lo, .int .i64 S.hi, .int .i64 S.fa] 38)).alloc (Obj.cells #[.int .i64 lo, .int .i64 hi] 36)) = wA at *
          have HSZ := Lib.hid hsz
          have HV := Lib.hid hv1
          have K1 := Lib.hid k1
          have K2 := Lib.hid k2
          have K3 := Lib.hid k3
          clear hsz hv1 k1 k2 k3
          refine (rcheckStop_any _ _ _ _ HV.out).mono ?_
          rintro e w1 ⟨rfl, hb1⟩
          rw [Hf.out]
          have c1 := block_cell ((hb1.block w.heap.size (by have := HSZ.out; omega)).trans K1.out)
          have c2 := block_cell ((hb1.block (w.heap.size + 1) (by have := HSZ.out; omega)).trans K2.out)
          have c3 := block_cell ((hb1.block (w.heap.size + 1 + 1) (by have := HSZ.out; omega)).trans K3.out)
          go_wp2_with fail
          refine (rdistance_any E S _ _ (HV.out.below hb1 (Nat.le_refl _))).mono ?_
          rintro e w2 ⟨rfl, hb2⟩
          rw [Hd.out]
          have hb12 := hb1.trans (hb2.mono hb1.size)
          clear c1 c2 c3
          have c1 := block_cell ((hb12.block w.heap.size (by have := HSZ.out; omega)).trans K1.out)
          have c2 := block_cell ((hb12.block (w.heap.size + 1) (by have := HSZ.out; omega)).trans K2.out)
          have c3 := block_cell ((hb12.block (w.heap.size + 1 + 1) (by have := HSZ.out; omega)).trans K3.out)
          have z1 : w.heap.size < w2.heap.size := by have := HSZ.out; have := hb12.size; omega
          have z2 : w.heap.size + 1 < w2.heap.size := by have := HSZ.out; have := hb12.size; omega
          have z3 : w.heap.size + 1 + 1 < w2.heap.size := by have := HSZ.out; have := hb12.size; omega
          go_wp2_with fail
          have hbs := ((hb12.alloc (by have := hb12.size; omega) (Obj.cells #[.int .i64 D1, .int .i64 D2] 36)).alloc (by have := hb12.size; simp; omega) (Obj.cells #[.int .i64 D3, .int .i64 D4] 36))
          refine (rholds_any E S _ _ (HV.out.below hbs (Nat.le_refl _))).mono ?_
          rintro e w3 ⟨rfl, hb3⟩
          rw [Hq.out]
          have ks1 := (hb3.block w2.heap.size (by simp only [size_alloc]; omega)).trans (block_alloc (block_new w2 (Obj.cells #[.int .i64 D1, .int .i64 D2] 36) w2.heap.size rfl) (Obj.cells #[.int .i64 D3, .int .i64 D4] 36))
          have hb13 := hbs.trans (hb3.mono hbs.size)
          have c4 := block_cell ks1
          clear c1 c2 c3 z1 z2 z3
          have c1 := block_cell ((hb13.block w.heap.size (by have := HSZ.out; omega)).trans K1.out)
          have c2 := block_cell ((hb13.block (w.heap.size + 1) (by have := HSZ.out; omega)).trans K2.out)
          have c3 := block_cell ((hb13.block (w.heap.size + 1 + 1) (by have := HSZ.out; omega)).trans K3.out)
          have hBz := hbA.trans (hb13.mono hbA.size)
          go_wp2
          refine bodyPost_ret (v := legV (legR E S lo hi)) ?_ rfl ⟨rfl, hBz⟩
          rw [HR.out]
          simp [results, Try.results37, go_sem]
      · rw [if_neg hF] at HR
        have HR := Lib.hid HR
        have hFb : (F == 0) = false := by simpa using hF
        clear hF
        go_enter Try.func37, Try.ntmps37
        go_wp2_with fail
        generalize (((w.alloc (Obj.cells #[.bool E.up, .int .i64 E.em, .int .i64 E.pu, .int .i64 E.dr, .int .i64 E.mo, .slice a E.bs.length cap] 24)).alloc (Obj.cells #[.int .i64 S.sp, .int .i64 S.lo, .int .i64 S.hi, .int .i64 S.fa] 38)).alloc (Obj.cells #[.int .i64 lo, .int .i64 hi] 36)) = wA at *
        have HSZ := Lib.hid hsz
        have HV := Lib.hid hv1
        have K1 := Lib.hid k1
        have K2 := Lib.hid k2
        have K3 := Lib.hid k3
        clear hsz hv1 k1 k2 k3
        refine (rcheckStop_any _ _ _ _ HV.out).mono ?_
        rintro e w1 ⟨rfl, hb1⟩
        rw [Hf.out]
        have c1 := block_cell ((hb1.block w.heap.size (by have := HSZ.out; omega)).trans K1.out)
        have c2 := block_cell ((hb1.block (w.heap.size + 1) (by have := HSZ.out; omega)).trans K2.out)
        have c3 := block_cell ((hb1.block (w.heap.size + 1 + 1) (by have := HSZ.out; omega)).trans K3.out)
        go_wp2_with fail
        refine (rdistance_any E S _ _ (HV.out.below hb1 (Nat.le_refl _))).mono ?_
        rintro e w2 ⟨rfl, hb2⟩
        rw [Hd.out]
        have hb12 := hb1.trans (hb2.mono hb1.size)
        clear c1 c2 c3
        have c1 := block_cell ((hb12.block w.heap.size (by have := HSZ.out; omega)).trans K1.out)
        have c2 := block_cell ((hb12.block (w.heap.size + 1) (by have := HSZ.out; omega)).trans K2.out)
        have c3 := block_cell ((hb12.block (w.heap.size + 1 + 1) (by have := HSZ.out; omega)).trans K3.out)
        have z1 : w.heap.size < w2.heap.size := by have := HSZ.out; have := hb12.size; omega
        have z2 : w.heap.size + 1 < w2.heap.size := by have := HSZ.out; have := hb12.size; omega
        have z3 : w.heap.size + 1 + 1 < w2.heap.size := by have := HSZ.out; have := hb12.size; omega
        go_wp2_with fail
        have hbs := ((hb12.alloc (by have := hb12.size; omega) (Obj.cells #[.int .i64 D1, .int .i64 D2] 36)).alloc (by have := hb12.size; simp; omega) (Obj.cells #[.int .i64 D3, .int .i64 D4] 36))
        refine (rholds_any E S _ _ (HV.out.below hbs (Nat.le_refl _))).mono ?_
        rintro e w3 ⟨rfl, hb3⟩
        rw [Hq.out]
        have hb13 := hbs.trans (hb3.mono hbs.size)
        clear c1 c2 c3 z1 z2 z3
        have hBz := hbA.trans (hb13.mono hbA.size)
        go_wp2
        refine bodyPost_ret (v := legV (legR E S lo hi)) ?_ rfl ⟨rfl, hBz⟩
        rw [HR.out]
        simp [results, Try.results37, go_sem]
    · have HR := Lib.hid (show legR E S lo hi = ⟨0, false, 1⟩ by unfold legR; rw [if_pos hf, if_neg hl])
      have Hf := Lib.hid hf
      clear hf
      by_cases h1 : lo < 0
      all_goals try by_cases h2 : hi < lo
      all_goals try by_cases h3 : 10000000 < hi
      all_goals try (exfalso; omega)
      all_goals
        go_enter Try.func37, Try.ntmps37
        go_wp2_with fail
        generalize (((w.alloc (Obj.cells #[.bool E.up, .int .i64 E.em, .int .i64 E.pu, .int .i64 E.dr, .int .i64 E.mo, .slice a E.bs.length cap] 24)).alloc (Obj.cells #[.int .i64 S.sp, .int .i64 S.lo, .int .i64 S.hi, .int .i64 S.fa] 38)).alloc (Obj.cells #[.int .i64 lo, .int .i64 hi] 36)) = wA at *
        have HSZ := Lib.hid hsz
        have HV := Lib.hid hv1
        have K1 := Lib.hid k1
        have K2 := Lib.hid k2
        have K3 := Lib.hid k3
        clear hsz hv1 k1 k2 k3
        refine (rcheckStop_any _ _ _ _ HV.out).mono ?_
        rintro e w1 ⟨rfl, hb1⟩
        rw [Hf.out]
        have c1 := block_cell ((hb1.block w.heap.size (by have := HSZ.out; omega)).trans K1.out)
        have c2 := block_cell ((hb1.block (w.heap.size + 1) (by have := HSZ.out; omega)).trans K2.out)
        have c3 := block_cell ((hb1.block (w.heap.size + 1 + 1) (by have := HSZ.out; omega)).trans K3.out)
        go_wp2
        refine bodyPost_ret (v := legV (legR E S lo hi)) ?_ rfl ⟨rfl, hbA.trans (hb1.mono hbA.size)⟩
        rw [HR.out]
        simp [results, Try.results37, go_sem]
  · have HR := Lib.hid (show legR E S lo hi = ⟨0, false, checkStopM E S⟩ by unfold legR; rw [if_neg hf])
    have h0 : (checkStopM E S == 0) = false := by simpa using hf
    clear hf
    go_enter Try.func37, Try.ntmps37
    go_wp2_with fail
    generalize (((w.alloc (Obj.cells #[.bool E.up, .int .i64 E.em, .int .i64 E.pu, .int .i64 E.dr, .int .i64 E.mo, .slice a E.bs.length cap] 24)).alloc (Obj.cells #[.int .i64 S.sp, .int .i64 S.lo, .int .i64 S.hi, .int .i64 S.fa] 38)).alloc (Obj.cells #[.int .i64 lo, .int .i64 hi] 36)) = wA at *
    have HSZ := Lib.hid hsz
    have HV := Lib.hid hv1
    have K1 := Lib.hid k1
    have K2 := Lib.hid k2
    have K3 := Lib.hid k3
    clear hsz hv1 k1 k2 k3
    refine (rcheckStop_any _ _ _ _ HV.out).mono ?_
    rintro e w1 ⟨rfl, hb1⟩
    go_wp2
    refine bodyPost_ret (v := legV (legR E S lo hi)) ?_ rfl ⟨rfl, hbA.trans (hb1.mono hbA.size)⟩
    rw [HR.out]
    simp [results, Try.results37, go_sem]

set_option maxRecDepth 100000 in
set_option maxHeartbeats 4000000 in
theorem limits_any (E : Esc) (v : Value) (S : Stp) (lo hi : Int) (w : World) (hv : BrAt w v E.bs) :
    Calls Try.prog 7 #[escV E v, stpV S, .agg #[.int .i64 lo, .int .i64 hi]] w fun e w' => e = .returned (.bool true) ∧ Below w.heap.size w w' := by
  have hbA := (((Below.refl w.heap.size w).alloc (Nat.le_refl _) (Obj.cells #[.bool E.up, .int .i64 E.em, .int .i64 E.pu, .int .i64 E.dr, .int .i64 E.mo, v] 24)).alloc (by simp) (Obj.cells #[.int .i64 S.sp, .int .i64 S.lo, .int .i64 S.hi, .int .i64 S.fa] 38)).alloc (by simp; omega) (Obj.cells #[.int .i64 lo, .int .i64 hi] 36)
  have k1 := block_alloc (block_alloc (block_new w (Obj.cells #[.bool E.up, .int .i64 E.em, .int .i64 E.pu, .int .i64 E.dr, .int .i64 E.mo, v] 24) w.heap.size rfl) (Obj.cells #[.int .i64 S.sp, .int .i64 S.lo, .int .i64 S.hi, .int .i64 S.fa] 38)) (Obj.cells #[.int .i64 lo, .int .i64 hi] 36)
  have k2 := block_alloc (block_new (w.alloc (Obj.cells #[.bool E.up, .int .i64 E.em, .int .i64 E.pu, .int .i64 E.dr, .int .i64 E.mo, v] 24)) (Obj.cells #[.int .i64 S.sp, .int .i64 S.lo, .int .i64 S.hi, .int .i64 S.fa] 38) (w.heap.size + 1) (by simp only [size_alloc])) (Obj.cells #[.int .i64 lo, .int .i64 hi] 36)
  have k3 := block_new ((w.alloc (Obj.cells #[.bool E.up, .int .i64 E.em, .int .i64 E.pu, .int .i64 E.dr, .int .i64 E.mo, v] 24)).alloc (Obj.cells #[.int .i64 S.sp, .int .i64 S.lo, .int .i64 S.hi, .int .i64 S.fa] 38)) (Obj.cells #[.int .i64 lo, .int .i64 hi] 36) (w.heap.size + 1 + 1) (by simp only [size_alloc])
  have hsz : (((w.alloc (Obj.cells #[.bool E.up, .int .i64 E.em, .int .i64 E.pu, .int .i64 E.dr, .int .i64 E.mo, v] 24)).alloc (Obj.cells #[.int .i64 S.sp, .int .i64 S.lo, .int .i64 S.hi, .int .i64 S.fa] 38)).alloc (Obj.cells #[.int .i64 lo, .int .i64 hi] 36)).heap.size = w.heap.size + 3 := by simp only [size_alloc]
  have hv1 := hv.below hbA (Nat.le_refl _)
  obtain ⟨a, cap, rfl, hn, hcap, hc⟩ := hv
  clear hc
  obtain ⟨⟨D1, F1⟩, h1⟩ : ∃ D, fastR E S hi = D := ⟨_, rfl⟩
  obtain ⟨⟨D2, Q2, F2⟩, h2⟩ : ∃ D, legR E S lo hi = D := ⟨_, rfl⟩
  have H1 := Lib.hid h1
  have H2 := Lib.hid h2
  clear h1 h2
  go_enter Try.func7, Try.ntmps7
  go_wp2_with fail
  generalize (((w.alloc (Obj.cells #[.bool E.up, .int .i64 E.em, .int .i64 E.pu, .int .i64 E.dr, .int .i64 E.mo, .slice a E.bs.length cap] 24)).alloc (Obj.cells #[.int .i64 S.sp, .int .i64 S.lo, .int .i64 S.hi, .int .i64 S.fa] 38)).alloc (Obj.cells #[.int .i64 lo, .int .i64 hi] 36)) = wA at *
  have HSZ := Lib.hid hsz
  have HV := Lib.hid hv1
  have K1 := Lib.hid k1
  have K2 := Lib.hid k2
  have K3 := Lib.hid k3
  clear hsz hv1 k1 k2 k3
  refine (far_any _ _ _ HV.out).mono ?_
  rintro e w1 ⟨rfl, hb1⟩
  have c1 := block_cell ((hb1.block w.heap.size (by have := HSZ.out; omega)).trans K1.out)
  have c2 := block_cell ((hb1.block (w.heap.size + 1) (by have := HSZ.out; omega)).trans K2.out)
  have c3 := block_cell ((hb1.block (w.heap.size + 1 + 1) (by have := HSZ.out; omega)).trans K3.out)
  go_wp2_with fail
  · refine (works_any _).mono ?_
    rintro e w2 ⟨rfl, hb2⟩
    go_wp2
    go_ret
    exact ⟨rfl, hbA.trans ((hb1.trans (hb2.mono hb1.size)).mono hbA.size)⟩
  · refine (fastest_any E S _ _ _ (HV.out.below hb1 (Nat.le_refl _))).mono ?_
    rintro e w2 ⟨rfl, hb2⟩
    rw [H1.out]
    have hb12 := hb1.trans (hb2.mono hb1.size)
    clear c1 c2 c3
    have c1 := block_cell ((hb12.block w.heap.size (by have := HSZ.out; omega)).trans K1.out)
    have c2 := block_cell ((hb12.block (w.heap.size + 1) (by have := HSZ.out; omega)).trans K2.out)
    have c3 := block_cell ((hb12.block (w.heap.size + 1 + 1) (by have := HSZ.out; omega)).trans K3.out)
    go_wp2_with fail
    refine (rfastest_any E S _ _ _ (HV.out.below hb12 (Nat.le_refl _))).mono ?_
    rintro e w3 ⟨rfl, hb3⟩
    rw [H1.out]
    have hb13 := hb12.trans (hb3.mono hb12.size)
    clear c1 c2 c3
    have c1 := block_cell ((hb13.block w.heap.size (by have := HSZ.out; omega)).trans K1.out)
    have c2 := block_cell ((hb13.block (w.heap.size + 1) (by have := HSZ.out; omega)).trans K2.out)
    have c3 := block_cell ((hb13.block (w.heap.size + 1 + 1) (by have := HSZ.out; omega)).trans K3.out)
    go_wp2_with fail
    refine (legal_any E S _ _ _ _ (HV.out.below hb13 (Nat.le_refl _))).mono ?_
    rintro e w4 ⟨rfl, hb4⟩
    rw [H2.out]
    have hb14 := hb13.trans (hb4.mono hb13.size)
    clear c1 c2 c3
    have c1 := block_cell ((hb14.block w.heap.size (by have := HSZ.out; omega)).trans K1.out)
    have c2 := block_cell ((hb14.block (w.heap.size + 1) (by have := HSZ.out; omega)).trans K2.out)
    have c3 := block_cell ((hb14.block (w.heap.size + 1 + 1) (by have := HSZ.out; omega)).trans K3.out)
    go_wp2_with fail
    refine (rlegal_any E S _ _ _ _ (HV.out.below hb14 (Nat.le_refl _))).mono ?_
    rintro e w5 ⟨rfl, hb5⟩
    rw [H2.out]
    have hb15 := hb14.trans (hb5.mono hb14.size)
    clear c1 c2 c3
    go_wp2_with (go_at_call 16; refine (works_any _).mono ?_; rintro e w6 ⟨rfl, hb6⟩)
    all_goals
      go_ret
      exact ⟨rfl, hbA.trans ((hb15.trans (hb6.mono hb15.size)).mono hbA.size)⟩

end Go.Proofs.Ytpoenjnpfodfpaa
