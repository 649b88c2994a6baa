/- Walks of layer 1 (drive): Legal of both. -/
import Derived.Test.YtpoenjnpfodfpaaRx
import Derived.Test.YtpoenjnpfodfpaaHq
namespace Go.Proofs.Ytpoenjnpfodfpaa
open Go.RowKit

structure LegV where
  n : Int
  q : Bool
  f : Int
abbrev legV (D : LegV) : Value := .tuple #[.int .i64 D.n, .bool D.q, .int .i64 D.f]

def legR (E : Esc) (S : Stp) (lo hi : Int) : LegV :=
  if checkStopM E S = 0 then
    (if (0 ≤ hi ∧ hi ≤ 10000000) ∧ (0 ≤ lo ∧ lo ≤ hi) then
      (if pathM E S true (restN E S true) = 0 then
        (if wayTo E S true (restN E S true) ≤ hi then
          (if lo ≤ wayTo E S false (restN E S false) then (if holdsM E S = true then ⟨0, true, 0⟩ else ⟨4, false, 0⟩) else ⟨3, false, 0⟩)
        else ⟨2, false, 0⟩)
      else ⟨1, false, 0⟩)
    else ⟨0, false, 1⟩)
  else ⟨0, false, checkStopM E S⟩

theorem legAt {wB : World} {n : Nat} {cE cS cL : Array Value} {tE tS tL : TypeId} (k1 : wB.heap[n]? = some (.cells cE tE (0, 0))) (k2 : wB.heap[n + 1]? = some (.cells cS tS (0, 0))) (k3 : wB.heap[n + 1 + 1]? = some (.cells cL tL (0, 0))) :
    ∀ w', Below wB.heap.size wB w' → ((w'.cell? ⟨n, 0, none⟩ = cE[0]? ∧ w'.cell? ⟨n, 1, none⟩ = cE[1]? ∧ w'.cell? ⟨n, 2, none⟩ = cE[2]? ∧ w'.cell? ⟨n, 3, none⟩ = cE[3]? ∧ w'.cell? ⟨n, 4, none⟩ = cE[4]? ∧ w'.cell? ⟨n, 5, none⟩ = cE[5]?) ∧
      (w'.cell? ⟨n + 1, 0, none⟩ = cS[0]? ∧ w'.cell? ⟨n + 1, 1, none⟩ = cS[1]? ∧ w'.cell? ⟨n + 1, 2, none⟩ = cS[2]? ∧ w'.cell? ⟨n + 1, 3, none⟩ = cS[3]?) ∧ w'.cell? ⟨n + 1 + 1, 0, none⟩ = cL[0]?) ∧ Below wB.heap.size wB w' := by
  intro w' h
  have k1' := (h.block n (lt_of_block k1)).trans k1
  have k2' := (h.block (n + 1) (lt_of_block k2)).trans k2
  have k3' := (h.block (n + 1 + 1) (lt_of_block k3)).trans k3
  exact ⟨⟨⟨block_cell k1' 0, block_cell k1' 1, block_cell k1' 2, block_cell k1' 3, block_cell k1' 4, block_cell k1' 5⟩, ⟨block_cell k2' 0, block_cell k2' 1, block_cell k2' 2, block_cell k2' 3⟩, block_cell k3' 0⟩, h⟩

set_option maxRecDepth 100000 in
set_option maxHeartbeats 8000000 in
theorem legal_any (E : Esc) (S : Stp) (v : Value) (lo hi : Int) (w : World) (hv : BrAt w v E.bs) :
    Calls Try.prog 36 #[escV E v, stpV S, .agg #[.int .i64 lo, .int .i64 hi]] w fun e w' => e = .returned (legV (legR E S lo hi)) ∧ Below w.heap.size w w' := by
  have hbA := (((Below.refl w.heap.size w).alloc (Nat.le_refl _) (Obj.cells #[.bool E.up, .int .i64 E.em, .int .i64 E.pu, .int .i64 E.dr, .int .i64 E.mo, v] 24)).alloc (by simp) (Obj.cells #[.int .i64 S.sp, .int .i64 S.lo, .int .i64 S.hi, .int .i64 S.fa] 38)).alloc (by simp; omega) (Obj.cells #[.int .i64 lo, .int .i64 hi] 36)
  have k1 := block_alloc (block_alloc (block_new w (Obj.cells #[.bool E.up, .int .i64 E.em, .int .i64 E.pu, .int .i64 E.dr, .int .i64 E.mo, v] 24) w.heap.size rfl) (Obj.cells #[.int .i64 S.sp, .int .i64 S.lo, .int .i64 S.hi, .int .i64 S.fa] 38)) (Obj.cells #[.int .i64 lo, .int .i64 hi] 36)
  have k2 := block_alloc (block_new (w.alloc (Obj.cells #[.bool E.up, .int .i64 E.em, .int .i64 E.pu, .int .i64 E.dr, .int .i64 E.mo, v] 24)) (Obj.cells #[.int .i64 S.sp, .int .i64 S.lo, .int .i64 S.hi, .int .i64 S.fa] 38) (w.heap.size + 1) (by simp only [size_alloc])) (Obj.cells #[.int .i64 lo, .int .i64 hi] 36)
  have k3 := block_new ((w.alloc (Obj.cells #[.bool E.up, .int .i64 E.em, .int .i64 E.pu, .int .i64 E.dr, .int .i64 E.mo, v] 24)).alloc (Obj.cells #[.int .i64 S.sp, .int .i64 S.lo, .int .i64 S.hi, .int .i64 S.fa] 38)) (Obj.cells #[.int .i64 lo, .int .i64 hi] 36) (w.heap.size + 1 + 1) (by simp only [size_alloc])
  have hsz : (((w.alloc (Obj.cells #[.bool E.up, .int .i64 E.em, .int .i64 E.pu, .int .i64 E.dr, .int .i64 E.mo, v] 24)).alloc (Obj.cells #[.int .i64 S.sp, .int .i64 S.lo, .int .i64 S.hi, .int .i64 S.fa] 38)).alloc (Obj.cells #[.int .i64 lo, .int .i64 hi] 36)).heap.size = w.heap.size + 3 := by simp only [size_alloc]
  have hv1 := hv.below hbA (Nat.le_refl _)
  obtain ⟨a, cap, rfl, hn, hcap, hc⟩ := hv
  clear hc
  by_cases hf : checkStopM E S = 0
  · obtain ⟨hE, hS⟩ := checkStopM_num hf
    have Hf := Lib.hid hf
    by_cases hl1 : 0 ≤ hi ∧ hi ≤ 10000000
    · have HL1 := Lib.hid (show (decide (0 ≤ hi) && decide (hi ≤ 10000000)) = true by simpa using hl1)
      by_cases hl2 : 0 ≤ lo ∧ lo ≤ hi
      · have HL2 := Lib.hid (show (decide (0 ≤ lo) && decide (lo ≤ hi)) = true by simpa using hl2)
        by_cases hr : pathM E S true (restN E S true) = 0
        · have Hrb := Lib.hid (show (pathM E S true (restN E S true) == 0) = true by simpa using hr)
          by_cases hh : wayTo E S true (restN E S true) ≤ hi
          · by_cases hw : lo ≤ wayTo E S false (restN E S false)
            · cases hq : holdsM E S
              all_goals
                have HR := Lib.hid (show legR E S lo hi = _ by unfold legR; rw [if_pos hf, if_pos ⟨hl1, hl2⟩, if_pos hr, if_pos hh, if_pos hw, hq])
                have HQ := Lib.hid hq
                clear hf hr hq
                go_enter Try.func36, Try.ntmps36
                go_wp2_with fail
                generalize (((w.alloc (Obj.cells #[.bool E.up, .int .i64 E.em, .int .i64 E.pu, .int .i64 E.dr, .int .i64 E.mo, .slice a E.bs.length cap] 24)).alloc (Obj.cells #[.int .i64 S.sp, .int .i64 S.lo, .int .i64 S.hi, .int .i64 S.fa] 38)).alloc (Obj.cells #[.int .i64 lo, .int .i64 hi] 36)) = wA at *
                have HSZ := Lib.hid hsz
                have HV := Lib.hid hv1
                have K1 := Lib.hid k1
                have K2 := Lib.hid k2
                have K3 := Lib.hid k3
                clear hsz hv1 k1 k2 k3
                refine (checkStop_any _ _ _ _ HV.out).mono ?_
                rintro e w1 ⟨rfl, hb1⟩
                rw [Hf.out]
                have c1 := block_cell ((hb1.block w.heap.size (by have := HSZ.out; omega)).trans K1.out)
                have c2 := block_cell ((hb1.block (w.heap.size + 1) (by have := HSZ.out; omega)).trans K2.out)
                have c3 := block_cell ((hb1.block (w.heap.size + 1 + 1) (by have := HSZ.out; omega)).trans K3.out)
                go_wp2_with (first | (go_at_call_of 45 (Value.int .i64 10000000); refine (within_is _ _ _ _ _ HL1.out).mono ?_; rintro e w' ⟨rfl, rfl⟩) | (go_at_call 45; refine (within_is _ _ _ _ _ HL2.out).mono ?_; rintro e w' ⟨rfl, rfl⟩) | fail)
                refine (roll_any E S _ true _ (HV.out.below hb1 (Nat.le_refl _)) hE hS).mono ?_
                rintro e w2 ⟨al, cl, rfl, _, hb2⟩
                rw [Hrb.out]
                have hb12 := hb1.trans (hb2.mono hb1.size)
                clear c1 c2 c3
                have c1 := block_cell ((hb12.block w.heap.size (by have := HSZ.out; omega)).trans K1.out)
                have c2 := block_cell ((hb12.block (w.heap.size + 1) (by have := HSZ.out; omega)).trans K2.out)
                have c3 := block_cell ((hb12.block (w.heap.size + 1 + 1) (by have := HSZ.out; omega)).trans K3.out)
                have z1 : w.heap.size < w2.heap.size := by have := HSZ.out; have := hb12.size; omega
                have z2 : w.heap.size + 1 < w2.heap.size := by have := HSZ.out; have := hb12.size; omega
                have z3 : w.heap.size + 1 + 1 < w2.heap.size := by have := HSZ.out; have := hb12.size; omega
                go_wp2_with fail
                have hb13 := hb12.trans ((Below.refl w2.heap.size w2).alloc (Nat.le_refl _) (Obj.cells #[.slice al (restN E S true) cl, .int .i64 (wayTo E S true (restN E S true)), .bool true] 85) |>.mono hb12.size)
                generalize w2.alloc (Obj.cells #[.slice al (restN E S true) cl, .int .i64 (wayTo E S true (restN E S true)), .bool true] 85) = wB at *
                have hfld := rideField1
                have DD := legAt ((hb13.block w.heap.size (by have := HSZ.out; omega)).trans K1.out) ((hb13.block (w.heap.size + 1) (by have := HSZ.out; omega)).trans K2.out) ((hb13.block (w.heap.size + 1 + 1) (by have := HSZ.out; omega)).trans K3.out)
                have HVB := Lib.hid (HV.out.below hb13 (Nat.le_refl _))
                have hbB := hbA.trans (hb13.mono hbA.size)
                clear c1 c2 c3 z1 z2 z3 hb12 hb1 hb2 hb13
                go_region_held3 (fun w' => ((w'.cell? ⟨w.heap.size, 0, none⟩ = some (.bool E.up) ∧ w'.cell? ⟨w.heap.size, 1, none⟩ = some (.int .i64 E.em) ∧ w'.cell? ⟨w.heap.size, 2, none⟩ = some (.int .i64 E.pu) ∧ w'.cell? ⟨w.heap.size, 3, none⟩ = some (.int .i64 E.dr) ∧ w'.cell? ⟨w.heap.size, 4, none⟩ = some (.int .i64 E.mo) ∧ w'.cell? ⟨w.heap.size, 5, none⟩ = some (.slice a E.bs.length cap)) ∧ (w'.cell? ⟨w.heap.size + 1, 0, none⟩ = some (.int .i64 S.sp) ∧ w'.cell? ⟨w.heap.size + 1, 1, none⟩ = some (.int .i64 S.lo) ∧ w'.cell? ⟨w.heap.size + 1, 2, none⟩ = some (.int .i64 S.hi) ∧ w'.cell? ⟨w.heap.size + 1, 3, none⟩ = some (.int .i64 S.fa)) ∧ w'.cell? ⟨w.heap.size + 1 + 1, 0, none⟩ = some (.int .i64 lo)) ∧ Below wB.heap.size wB w') (first | exact DD _ (Below.drew (Below.refl _ _)) | exact DD _ hB1 | fail)
                  (first | (go_at_call 59; have hB0 := And.right ‹_ ∧ Below wB.heap.size wB _›; refine (roll_any E S _ false _ (HVB.out.below hB0 (Nat.le_refl _)) hE hS).mono ?_; rintro e w3 ⟨al3, cl3, rfl, _, hb3⟩; have hB1 := hB0.trans (hb3.mono hB0.size)))
                have hB2 := And.right ‹_ ∧ Below wB.heap.size wB _›
                go_wp2_with fail
                refine (holds_any E S _ _ (HVB.out.below hB2 (Nat.le_refl _)) hE hS.fa0 hS.fa7 (by have h1 := hS.lo0; have h2 := hS.lohi; omega) hS.hi1).mono ?_
                rintro e w4 ⟨rfl, hb4⟩
                rw [HQ.out]
                have hBz := hbB.trans ((hB2.trans (hb4.mono hB2.size)).mono hbB.size)
                clear DD
                go_wp2
                refine bodyPost_ret (v := legV (legR E S lo hi)) ?_ rfl ⟨rfl, hBz⟩
                rw [HR.out]
                simp [results, Try.results36, go_sem]
            · have HR := Lib.hid (show legR E S lo hi = ⟨3, false, 0⟩ by unfold legR; rw [if_pos hf, if_pos ⟨hl1, hl2⟩, if_pos hr, if_pos hh, if_neg hw])
              clear hf hr
              go_enter Try.func36, Try.ntmps36
              go_wp2_with fail
              generalize (((w.alloc (Obj.cells #[.bool E.up, .int .i64 E.em, .int .i64 E.pu, .int .i64 E.dr, .int .i64 E.mo, .slice a E.bs.length cap] 24)).alloc (Obj.cells #[.int .i64 S.sp, .int .i64 S.lo, .int .i64 S.hi, .int .i64 S.fa] 38)).alloc (Obj.cells #[.int .i64 lo, .int .i64 hi] 36)) = wA at *
              have HSZ := Lib.hid hsz
              have HV := Lib.hid hv1
              have K1 := Lib.hid k1
              have K2 := Lib.hid k2
              have K3 := Lib.hid k3
              clear hsz hv1 k1 k2 k3
              refine (checkStop_any _ _ _ _ HV.out).mono ?_
              rintro e w1 ⟨rfl, hb1⟩
              rw [Hf.out]
              have c1 := block_cell ((hb1.block w.heap.size (by have := HSZ.out; omega)).trans K1.out)
              have c2 := block_cell ((hb1.block (w.heap.size + 1) (by have := HSZ.out; omega)).trans K2.out)
              have c3 := block_cell ((hb1.block (w.heap.size + 1 + 1) (by have := HSZ.out; omega)).trans K3.out)
              go_wp2_with (first | (go_at_call_of 45 (Value.int .i64 10000000); refine (within_is _ _ _ _ _ HL1.out).mono ?_; rintro e w' ⟨rfl, rfl⟩) | (go_at_call 45; refine (within_is _ _ _ _ _ HL2.out).mono ?_; rintro e w' ⟨rfl, rfl⟩) | fail)
              refine (roll_any E S _ true _ (HV.out.below hb1 (Nat.le_refl _)) hE hS).mono ?_
              rintro e w2 ⟨al, cl, rfl, _, hb2⟩
              rw [Hrb.out]
              have hb12 := hb1.trans (hb2.mono hb1.size)
              clear c1 c2 c3
              have c1 := block_cell ((hb12.block w.heap.size (by have := HSZ.out; omega)).trans K1.out)
              have c2 := block_cell ((hb12.block (w.heap.size + 1) (by have := HSZ.out; omega)).trans K2.out)
              have c3 := block_cell ((hb12.block (w.heap.size + 1 + 1) (by have := HSZ.out; omega)).trans K3.out)
              have z1 : w.heap.size < w2.heap.size := by have := HSZ.out; have := hb12.size; omega
              have z2 : w.heap.size + 1 < w2.heap.size := by have := HSZ.out; have := hb12.size; omega
              have z3 : w.heap.size + 1 + 1 < w2.heap.size := by have := HSZ.out; have := hb12.size; omega
              go_wp2_with fail
              have hb13 := hb12.trans ((Below.refl w2.heap.size w2).alloc (Nat.le_refl _) (Obj.cells #[.slice al (restN E S true) cl, .int .i64 (wayTo E S true (restN E S true)), .bool true] 85) |>.mono hb12.size)
              generalize w2.alloc (Obj.cells #[.slice al (restN E S true) cl, .int .i64 (wayTo E S true (restN E S true)), .bool true] 85) = wB at *
              have hfld := rideField1
              have DD := legAt ((hb13.block w.heap.size (by have := HSZ.out; omega)).trans K1.out) ((hb13.block (w.heap.size + 1) (by have := HSZ.out; omega)).trans K2.out) ((hb13.block (w.heap.size + 1 + 1) (by have := HSZ.out; omega)).trans K3.out)
              have HVB := Lib.hid (HV.out.below hb13 (Nat.le_refl _))
              have hbB := hbA.trans (hb13.mono hbA.size)
              clear c1 c2 c3 z1 z2 z3 hb12 hb1 hb2 hb13
              go_region_held3 (fun w' => ((w'.cell? ⟨w.heap.size, 0, none⟩ = some (.bool E.up) ∧ w'.cell? ⟨w.heap.size, 1, none⟩ = some (.int .i64 E.em) ∧ w'.cell? ⟨w.heap.size, 2, none⟩ = some (.int .i64 E.pu) ∧ w'.cell? ⟨w.heap.size, 3, none⟩ = some (.int .i64 E.dr) ∧ w'.cell? ⟨w.heap.size, 4, none⟩ = some (.int .i64 E.mo) ∧ w'.cell? ⟨w.heap.size, 5, none⟩ = some (.slice a E.bs.length cap)) ∧ (w'.cell? ⟨w.heap.size + 1, 0, none⟩ = some (.int .i64 S.sp) ∧ w'.cell? ⟨w.heap.size + 1, 1, none⟩ = some (.int .i64 S.lo) ∧ w'.cell? ⟨w.heap.size + 1, 2, none⟩ = some (.int .i64 S.hi) ∧ w'.cell? ⟨w.heap.size + 1, 3, none⟩ = some (.int .i64 S.fa)) ∧ w'.cell? ⟨w.heap.size + 1 + 1, 0, none⟩ = some (.int .i64 lo)) ∧ Below wB.heap.size wB w') (first | exact DD _ (Below.drew (Below.refl _ _)) | exact DD _ hB1 | fail)
                (first | (go_at_call 59; have hB0 := And.right ‹_ ∧ Below wB.heap.size wB _›; refine (roll_any E S _ false _ (HVB.out.below hB0 (Nat.le_refl _)) hE hS).mono ?_; rintro e w3 ⟨al3, cl3, rfl, _, hb3⟩; have hB1 := hB0.trans (hb3.mono hB0.size)))
              have hB2 := And.right ‹_ ∧ Below wB.heap.size wB _›
              have hBz := hbB.trans (hB2.mono hbB.size)
              clear DD
              go_wp2
              refine bodyPost_ret (v := legV (legR E S lo hi)) ?_ rfl ⟨rfl, hBz⟩
              rw [HR.out]
              simp [results, Try.results36, go_sem]
          · have HR := Lib.hid (show legR E S lo hi = ⟨2, false, 0⟩ by unfold legR; rw [if_pos hf, if_pos ⟨hl1, hl2⟩, if_pos hr, if_neg hh])
            clear hf hr
            go_enter Try.func36, Try.ntmps36
            go_wp2_with fail
            generalize (((w.alloc (Obj.cells #[.bool E.up, .int .i64 E.em, .int .i64 E.pu, .int .i64 E.dr, .int .i64 E.mo, .slice a E.bs.length cap] 24)).alloc (Obj.cells #[.int .i64 S.sp, .int .i64 S.lo, .int .i64 S.hi, .int .i64 S.fa] 38)).alloc (Obj.cells #[.int .i64 lo, .int .i64 hi] 36)) = wA at *
            have HSZ := Lib.hid hsz
            have HV := Lib.hid hv1
            have K1 := Lib.hid k1
            have K2 := Lib.hid k2
            have K3 := Lib.hid k3
            clear hsz hv1 k1 k2 k3
            refine (checkStop_any _ _ _ _ HV.out).mono ?_
            rintro e w1 ⟨rfl, hb1⟩
            rw [Hf.out]
            have c1 := block_cell ((hb1.block w.heap.size (by have := HSZ.out; omega)).trans K1.out)
            have c2 := block_cell ((hb1.block (w.heap.size + 1) (by have := HSZ.out; omega)).trans K2.out)
            have c3 := block_cell ((hb1.block (w.heap.size + 1 + 1) (by have := HSZ.out; omega)).trans K3.out)
            go_wp2_with (first | (go_at_call_of 45 (Value.int .i64 10000000); refine (within_is _ _ _ _ _ HL1.out).mono ?_; rintro e w' ⟨rfl, rfl⟩) | (go_at_call 45; refine (within_is _ _ _ _ _ HL2.out).mono ?_; rintro e w' ⟨rfl, rfl⟩) | fail)
            refine (roll_any E S _ true _ (HV.out.below hb1 (Nat.le_refl _)) hE hS).mono ?_
            rintro e w2 ⟨al, cl, rfl, _, hb2⟩
            rw [Hrb.out]
            have hb12 := hb1.trans (hb2.mono hb1.size)
            clear c1 c2 c3
            have c1 := block_cell ((hb12.block w.heap.size (by have := HSZ.out; omega)).trans K1.out)
            have c2 := block_cell ((hb12.block (w.heap.size + 1) (by have := HSZ.out; omega)).trans K2.out)
            have c3 := block_cell ((hb12.block (w.heap.size + 1 + 1) (by have := HSZ.out; omega)).trans K3.out)
            have z1 : w.heap.size < w2.heap.size := by have := HSZ.out; have := hb12.size; omega
            have z2 : w.heap.size + 1 < w2.heap.size := by have := HSZ.out; have := hb12.size; omega
            have z3 : w.heap.size + 1 + 1 < w2.heap.size := by have := HSZ.out; have := hb12.size; omega
            have hBz := (hbA.trans (hb12.mono hbA.size)).alloc (by have := hbA.size; have := hb12.size; omega) (Obj.cells #[.slice al (restN E S true) cl, .int .i64 (wayTo E S true (restN E S true)), .bool true] 85)
            go_wp2
            refine bodyPost_ret (v := legV (legR E S lo hi)) ?_ rfl ⟨rfl, hBz⟩
            rw [HR.out]
            simp [results, Try.results36, go_sem]
        · have Hrb := Lib.hid (show (pathM E S true (restN E S true) == 0) = false by simpa using hr)
          have HR := Lib.hid (show legR E S lo hi = ⟨1, false, 0⟩ by unfold legR; rw [if_pos hf, if_pos ⟨hl1, hl2⟩, if_neg hr])
          clear hf hr
          go_enter Try.func36, Try.ntmps36
          go_wp2_with fail
          generalize (((w.alloc (Obj.cells #[.bool E.up, .int .i64 E.em, .int .i64 E.pu, .int .i64 E.dr, .int .i64 E.mo, .slice a E.bs.length cap] 24)).alloc (Obj.cells #[.int .i64 S.sp, .int .i64 S.lo, .int .i64 S.hi, .int .i64 S.fa] 38)).alloc (Obj.cells #[.int .i64 lo, .int .i64 hi] 36)) = wA at *
          have HSZ := Lib.hid hsz
          have HV := Lib.hid hv1
          have K1 := Lib.hid k1
          have K2 := Lib.hid k2
          have K3 := Lib.hid k3
          clear hsz hv1 k1 k2 k3
          refine (checkStop_any _ _ _ _ HV.out).mono ?_
          rintro e w1 ⟨rfl, hb1⟩
          rw [Hf.out]
          have c1 := block_cell ((hb1.block w.heap.size (by have := HSZ.out; omega)).trans K1.out)
          have c2 := block_cell ((hb1.block (w.heap.size + 1) (by have := HSZ.out; omega)).trans K2.out)
          have c3 := block_cell ((hb1.block (w.heap.size + 1 + 1) (by have := HSZ.out; omega)).trans K3.out)
          go_wp2_with (first | (go_at_call_of 45 (Value.int .i64 10000000); refine (within_is _ _ _ _ _ HL1.out).mono ?_; rintro e w' ⟨rfl, rfl⟩) | (go_at_call 45; refine (within_is _ _ _ _ _ HL2.out).mono ?_; rintro e w' ⟨rfl, rfl⟩) | fail)
          refine (roll_any E S _ true _ (HV.out.below hb1 (Nat.le_refl _)) hE hS).mono ?_
          rintro e w2 ⟨al, cl, rfl, _, hb2⟩
          rw [Hrb.out]
          have hb12 := hb1.trans (hb2.mono hb1.size)
          clear c1 c2 c3
          have hBz := (hbA.trans (hb12.mono hbA.size)).alloc (by have := hbA.size; have := hb12.size; omega) (Obj.cells #[.slice al (restN E S true) cl, .int .i64 (wayTo E S true (restN E S true)), .bool false] 85)
          go_wp2
          refine bodyPost_ret (v := legV (legR E S lo hi)) ?_ rfl ⟨rfl, hBz⟩
          rw [HR.out]
          simp [results, Try.results36, go_sem]
      · have HL2 := Lib.hid (show (decide (0 ≤ lo) && decide (lo ≤ hi)) = false by simp; omega)
        have HR := Lib.hid (show legR E S lo hi = ⟨0, false, 1⟩ by unfold legR; rw [if_pos hf, if_neg (fun h => hl2 h.2)])
        clear hf
        go_enter Try.func36, Try.ntmps36
        go_wp2_with fail
        generalize (((w.alloc (Obj.cells #[.bool E.up, .int .i64 E.em, .int .i64 E.pu, .int .i64 E.dr, .int .i64 E.mo, .slice a E.bs.length cap] 24)).alloc (Obj.cells #[.int .i64 S.sp, .int .i64 S.lo, .int .i64 S.hi, .int .i64 S.fa] 38)).alloc (Obj.cells #[.int .i64 lo, .int .i64 hi] 36)) = wA at *
        have HSZ := Lib.hid hsz
        have HV := Lib.hid hv1
        have K1 := Lib.hid k1
        have K2 := Lib.hid k2
        have K3 := Lib.hid k3
        clear hsz hv1 k1 k2 k3
        refine (checkStop_any _ _ _ _ HV.out).mono ?_
        rintro e w1 ⟨rfl, hb1⟩
        rw [Hf.out]
        have c1 := block_cell ((hb1.block w.heap.size (by have := HSZ.out; omega)).trans K1.out)
        have c2 := block_cell ((hb1.block (w.heap.size + 1) (by have := HSZ.out; omega)).trans K2.out)
        have c3 := block_cell ((hb1.block (w.heap.size + 1 + 1) (by have := HSZ.out; omega)).trans K3.out)
        go_wp2_with (first | (go_at_call_of 45 (Value.int .i64 10000000); refine (within_is _ _ _ _ _ HL1.out).mono ?_; rintro e w' ⟨rfl, rfl⟩) | (go_at_call 45; refine (within_is _ _ _ _ _ HL2.out).mono ?_; rintro e w' ⟨rfl, rfl⟩) | fail)
        refine bodyPost_ret (v := legV (legR E S lo hi)) ?_ rfl ⟨rfl, hbA.trans (hb1.mono hbA.size)⟩
        rw [HR.out]
        simp [results, Try.results36, go_sem]
    · have HL1 := Lib.hid (show (decide (0 ≤ hi) && decide (hi ≤ 10000000)) = false by simp; omega)
      have HR := Lib.hid (show legR E S lo hi = ⟨0, false, 1⟩ by unfold legR; rw [if_pos hf, if_neg (fun h => hl1 h.1)])
      clear hf
      go_enter Try.func36, Try.ntmps36
      go_wp2_with fail
      generalize (((w.alloc (Obj.cells #[.bool E.up, .int .i64 E.em, .int .i64 E.pu, .int .i64 E.dr, .int .i64 E.mo, .slice a E.bs.length cap] 24)).alloc (Obj.cells #[.int .i64 S.sp, .int .i64 S.lo, .int .i64 S.hi, .int .i64 S.fa] 38)).alloc (Obj.cells #[.int .i64 lo, .int .i64 hi] 36)) = wA at *
      have HSZ := Lib.hid hsz
      have HV := Lib.hid hv1
      have K1 := Lib.hid k1
      have K2 := Lib.hid k2
      have K3 := Lib.hid k3
      clear hsz hv1 k1 k2 k3
      refine (checkStop_any _ _ _ _ HV.out).mono ?_
      rintro e w1 ⟨rfl, hb1⟩
      rw [Hf.out]
      have c1 := block_cell ((hb1.block w.heap.size (by have := HSZ.out; omega)).trans K1.out)
      have c2 := block_cell ((hb1.block (w.heap.size + 1) (by have := HSZ.out; omega)).trans K2.out)
      have c3 := block_cell ((hb1.block (w.heap.size + 1 + 1) (by have := HSZ.out; omega)).trans K3.out)
      go_wp2_with (first | (go_at_call 45; refine (within_is _ _ _ _ _ HL1.out).mono ?_; rintro e w' ⟨rfl, rfl⟩) | fail)
      refine bodyPost_ret (v := legV (legR E S lo hi)) ?_ rfl ⟨rfl, hbA.trans (hb1.mono hbA.size)⟩
      rw [HR.out]
      simp [results, Try.results36, go_sem]
  · have HR := Lib.hid (show legR E S lo hi = ⟨0, false, checkStopM E S⟩ by unfold legR; rw [if_neg hf])
    have h0 : (checkStopM E S == 0) = false := by simpa using hf
    clear hf
    go_enter Try.func36, Try.ntmps36
    go_wp2_with fail
    generalize (((w.alloc (Obj.cells #[.bool E.up, .int .i64 E.em, .int .i64 E.pu, .int .i64 E.dr, .int .i64 E.mo, .slice a E.bs.length cap] 24)).alloc (Obj.cells #[.int .i64 S.sp, .int .i64 S.lo, .int .i64 S.hi, .int .i64 S.fa] 38)).alloc (Obj.cells #[.int .i64 lo, .int .i64 hi] 36)) = wA at *
    have HSZ := Lib.hid hsz
    have HV := Lib.hid hv1
    have K1 := Lib.hid k1
    have K2 := Lib.hid k2
    have K3 := Lib.hid k3
    clear hsz hv1 k1 k2 k3
    refine (checkStop_any _ _ _ _ HV.out).mono ?_
    rintro e w1 ⟨rfl, hb1⟩
    go_wp2
    refine bodyPost_ret (v := legV (legR E S lo hi)) ?_ rfl ⟨rfl, hbA.trans (hb1.mono hbA.size)⟩
    rw [HR.out]
    simp [results, Try.results36, go_sem]

end Go.Proofs.Ytpoenjnpfodfpaa
