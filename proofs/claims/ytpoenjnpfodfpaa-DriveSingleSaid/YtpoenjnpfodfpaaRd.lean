/- Walks of layer 1 (drive): the specification's Back, Holds, Distance, Witness. -/
import Derived.Test.YtpoenjnpfodfpaaEe
import Derived.Test.YtpoenjnpfodfpaaDb
namespace Go.Proofs.Ytpoenjnpfodfpaa
open Go.RowKit

theorem spdTo_len (E : Esc) (S : Stp) (most : Bool) (n : Nat) : (spdTo E S most n).length = n := by simp [spdTo]
theorem loadsTo_len (E : Esc) (S : Stp) (most : Bool) (n : Nat) : (loadsTo E S most n).length = n := by simp [loadsTo]
theorem spdTo_at (E : Esc) (S : Stp) (most : Bool) {n t : Nat} (h : t < n) : (spdTo E S most n).getD t 0 = pathM E S most (t + 1) := by
  simp [spdTo, List.getD_eq_getElem?_getD, h]
theorem spdTo_small {E : Esc} {S : Stp} (hE : E.ok = true) (hS : S.Num) (most : Bool) : Small (spdTo E S most 100) := by
  intro i hi
  rw [spdTo_len] at hi
  rw [spdTo_at E S most hi]
  have := pathM_bd hE hS most (i + 1)
  omega
theorem seq_path (E : Esc) (S : Stp) (most : Bool) (i : Nat) (h : i ≤ 100) : seqOf S.sp (spdTo E S most 100) i = pathM E S most i :=
  seqOf_map (u := pathM E S most) (sp := S.sp) rfl i h

theorem wayTo_wayG (E : Esc) (S : Stp) (most : Bool) : ∀ n, wayTo E S most n = wayG (pathM E S most) n := by
  intro n
  induction n with
  | zero => rfl
  | succ n ih => simp only [wayTo, wayG, ih]

theorem restAux_spec (E : Esc) (S : Stp) (most : Bool) : ∀ f k, k + f = 100 → (∀ i, i < k → pathM E S most i ≠ 0) → restAux E S most f k ≤ 100 ∧ (∀ i, i < restAux E S most f k → pathM E S most i ≠ 0) ∧ (restAux E S most f k < 100 → pathM E S most (restAux E S most f k) = 0) := by
  intro f
  induction f with
  | zero => intro k h1 h2; simp only [restAux]; exact ⟨by omega, h2, fun h => by omega⟩
  | succ f ih =>
    intro k h1 h2
    simp only [restAux]
    by_cases h : pathM E S most k = 0
    · rw [if_pos h]; exact ⟨by omega, h2, fun _ => h⟩
    · rw [if_neg h]
      exact ih (k + 1) (by omega) (fun i hi => by
        by_cases hik : i = k
        · rw [hik]; exact h
        · exact h2 i (by omega))

theorem restN_spec (E : Esc) (S : Stp) (most : Bool) : restN E S most ≤ 100 ∧ (∀ i, i < restN E S most → pathM E S most i ≠ 0) ∧ (restN E S most < 100 → pathM E S most (restN E S most) = 0) :=
  restAux_spec E S most 100 0 rfl (fun i hi => by omega)

theorem restN_restG (E : Esc) (S : Stp) (most : Bool) : restG (pathM E S most) 100 = restN E S most := by
  obtain ⟨h1, h2, h3⟩ := restN_spec E S most
  exact restG_eq h1 h2 h3

theorem rest_path {E : Esc} {S : Stp} (hE : E.ok = true) (hS : S.Num) (most : Bool) (v : Value) (w : World) (h : InAt w v (spdTo E S most 100)) :
    Calls Try.prog 42 #[.int .i64 S.sp, v] w fun e w' => e = .returned (restV (wayTo E S most (restN E S most)) (restN E S most) (pathM E S most (restN E S most) == 0)) ∧ w = w' := by
  refine (rest_any S.sp v _ w h (spdTo_small hE hS most) (by rw [spdTo_len]; omega)).mono ?_
  rintro e w' ⟨rfl, rfl⟩
  have e1 : restG (seqOf S.sp (spdTo E S most 100)) (spdTo E S most 100).length = restN E S most := by
    rw [spdTo_len, restG_congr (seq_path E S most), restN_restG]
  have hr := (restN_spec E S most).1
  rw [e1, seq_path E S most _ hr, wayG_congr (restN E S most) (fun i hi => seq_path E S most i (by omega)), wayTo_wayG]
  exact ⟨rfl, rfl⟩

theorem behind_path {E : Esc} {S : Stp} (hE : E.ok = true) (hS : S.Num) (v : Value) (w : World) (h : InAt w v (spdTo E S false 100)) :
    Calls Try.prog 43 #[v] w fun e w' => e = .returned (.int .i64 (backTo E S 100)) ∧ w = w' := by
  refine (behind_any v _ w h (spdTo_small hE hS false) (by rw [spdTo_len]; omega)).mono ?_
  rintro e w' ⟨rfl, rfl⟩
  refine ⟨?_, rfl⟩
  rw [spdTo_len, backTo_behG]
  apply ret_int
  have : ∀ n, n ≤ 100 → behG (seqOf 0 (spdTo E S false 100)) n = behG (pathM E S false) n := by
    intro n
    induction n with
    | zero => intro _; rfl
    | succ n ih =>
      intro hn
      simp only [behG]
      rw [ih (by omega), seqOf_succ, spdTo_at E S false (by omega)]
  exact this 100 (Nat.le_refl _)

theorem grip20 {E : Esc} {S : Stp} (hE : E.ok = true) : gripM E S 20 = heldM E S := by
  unfold gripM heldM
  apply forceTo_congr
  intro k hk
  have := (Esc.ok_brake hE hk).2.2.2
  unfold gripB
  have h : decide ((E.bs.getD k (0, 0)).2 ≤ 20) = true := by rw [decide_eq_true_eq]; omega
  rw [h, Bool.and_true]

/-- The last speed of a path, in memory. -/
theorem last_path {E : Esc} {S : Stp} {most : Bool} {w : World} {v : Value} (h : InAt w v (spdTo E S most 100)) : ∃ b off cap, v = .slice (some ⟨b, off, none⟩) 100 cap ∧ cap ≤ 9223372036854775807 ∧ w.cell? ⟨b, off + 99, none⟩ = some (.int .i64 (pathM E S most 100)) := by
  obtain ⟨a, cap, rfl, n1, m1, hc⟩ := h
  rw [spdTo_len] at *
  obtain ⟨b, off, rfl, _, hc⟩ := hc (by omega)
  refine ⟨b, off, cap, rfl, m1, ?_⟩
  have := hc 99 (by omega)
  rwa [spdTo_at E S most (by omega)] at this

set_option maxRecDepth 100000 in
set_option maxHeartbeats 2000000 in
theorem rback_any (E : Esc) (S : Stp) (v : Value) (w : World) (hv : BrAt w v E.bs) :
    Calls Try.prog 31 #[escV E v, stpV S] w fun e w' => e = .returned (pairV (backM E S)) ∧ Below w.heap.size w w' := by
  have hbA := ((Below.refl w.heap.size w).alloc (Nat.le_refl _) (Obj.cells #[.bool E.up, .int .i64 E.em, .int .i64 E.pu, .int .i64 E.dr, .int .i64 E.mo, v] 24)).alloc (by simp) (Obj.cells #[.int .i64 S.sp, .int .i64 S.lo, .int .i64 S.hi, .int .i64 S.fa] 38)
  have k1 := block_alloc (block_new w (Obj.cells #[.bool E.up, .int .i64 E.em, .int .i64 E.pu, .int .i64 E.dr, .int .i64 E.mo, v] 24) w.heap.size rfl) (Obj.cells #[.int .i64 S.sp, .int .i64 S.lo, .int .i64 S.hi, .int .i64 S.fa] 38)
  have k2 := block_new (w.alloc (Obj.cells #[.bool E.up, .int .i64 E.em, .int .i64 E.pu, .int .i64 E.dr, .int .i64 E.mo, v] 24)) (Obj.cells #[.int .i64 S.sp, .int .i64 S.lo, .int .i64 S.hi, .int .i64 S.fa] 38) (w.heap.size + 1) (by simp only [size_alloc])
  have hsz : ((w.alloc (Obj.cells #[.bool E.up, .int .i64 E.em, .int .i64 E.pu, .int .i64 E.dr, .int .i64 E.mo, v] 24)).alloc (Obj.cells #[.int .i64 S.sp, .int .i64 S.lo, .int .i64 S.hi, .int .i64 S.fa] 38)).heap.size = w.heap.size + 2 := by simp only [size_alloc]
  have hv1 := hv.below hbA (Nat.le_refl _)
  obtain ⟨a, cap, rfl, hn, hcap, hc⟩ := hv
  clear hc
  by_cases hf : checkStopM E S = 0
  · obtain ⟨hE, hS⟩ := checkStopM_num hf
    have Hf := Lib.hid hf
    clear hf
    by_cases hr : 0 ≤ pathM E S false 100
    all_goals
      have Hr := Lib.hid hr
      go_enter Try.func31, Try.ntmps31
      go_wp2_with fail
      generalize ((w.alloc (Obj.cells #[.bool E.up, .int .i64 E.em, .int .i64 E.pu, .int .i64 E.dr, .int .i64 E.mo, .slice a E.bs.length cap] 24)).alloc (Obj.cells #[.int .i64 S.sp, .int .i64 S.lo, .int .i64 S.hi, .int .i64 S.fa] 38)) = wA at *
      have HSZ := Lib.hid hsz
      have HV := Lib.hid hv1
      have K1 := Lib.hid k1
      have K2 := Lib.hid k2
      clear hsz hv1 k1 k2
      refine (rcheckStop_any _ _ _ _ HV.out).mono ?_
      rintro e w1 ⟨rfl, hb1⟩
      rw [Hf.out]
      have c1 := block_cell ((hb1.block w.heap.size (by have := HSZ.out; omega)).trans K1.out)
      have c2 := block_cell ((hb1.block (w.heap.size + 1) (by have := HSZ.out; omega)).trans K2.out)
      go_wp2_with fail
      refine (path_any E S _ false _ (HV.out.below hb1 (Nat.le_refl _)) hE hS).mono ?_
      rintro e w2 ⟨v1, v2, rfl, hi1, _, hb2⟩
      have hb12 := hb1.trans (hb2.mono hb1.size)
      have HI := Lib.hid hi1
      obtain ⟨b, off, cap1, rfl, m1, hc⟩ := last_path hi1
      clear c1 c2 hi1
      go_wp2_with fail
      first
        | (refine (behind_path hE hS _ _ HI.out).mono ?_
           rintro e w3 ⟨rfl, rfl⟩
           go_wp2
           go_ret2
           refine ⟨?_, hbA.trans (hb12.mono hbA.size)⟩
           unfold backM
           rw [if_pos Hf.out, if_pos Hr.out]
           rfl)
        | (go_ret2
           refine ⟨?_, hbA.trans (hb12.mono hbA.size)⟩
           unfold backM
           rw [if_pos Hf.out, if_neg (by have := Hr.out; omega)]
           rfl)
  · have Hf := Lib.hid hf
    have h0 : (checkStopM E S == 0) = false := by simpa using hf
    clear hf
    go_enter Try.func31, Try.ntmps31
    go_wp2_with fail
    generalize ((w.alloc (Obj.cells #[.bool E.up, .int .i64 E.em, .int .i64 E.pu, .int .i64 E.dr, .int .i64 E.mo, .slice a E.bs.length cap] 24)).alloc (Obj.cells #[.int .i64 S.sp, .int .i64 S.lo, .int .i64 S.hi, .int .i64 S.fa] 38)) = wA at *
    have HSZ := Lib.hid hsz
    have HV := Lib.hid hv1
    have K1 := Lib.hid k1
    have K2 := Lib.hid k2
    clear hsz hv1 k1 k2
    refine (rcheckStop_any _ _ _ _ HV.out).mono ?_
    rintro e w1 ⟨rfl, hb1⟩
    go_wp2
    go_ret2
    refine ⟨?_, hbA.trans (hb1.mono hbA.size)⟩
    unfold backM
    rw [if_neg Hf.out]
    rfl

set_option maxHeartbeats 2000000 in
theorem rholds_any (E : Esc) (S : Stp) (v : Value) (w : World) (hv : BrAt w v E.bs) :
    Calls Try.prog 33 #[escV E v, stpV S] w fun e w' => e = .returned (bpairV (holdsRM E S)) ∧ Below w.heap.size w w' := by
  have hbA := ((Below.refl w.heap.size w).alloc (Nat.le_refl _) (Obj.cells #[.bool E.up, .int .i64 E.em, .int .i64 E.pu, .int .i64 E.dr, .int .i64 E.mo, v] 24)).alloc (by simp) (Obj.cells #[.int .i64 S.sp, .int .i64 S.lo, .int .i64 S.hi, .int .i64 S.fa] 38)
  have k1 := block_alloc (block_new w (Obj.cells #[.bool E.up, .int .i64 E.em, .int .i64 E.pu, .int .i64 E.dr, .int .i64 E.mo, v] 24) w.heap.size rfl) (Obj.cells #[.int .i64 S.sp, .int .i64 S.lo, .int .i64 S.hi, .int .i64 S.fa] 38)
  have k2 := block_new (w.alloc (Obj.cells #[.bool E.up, .int .i64 E.em, .int .i64 E.pu, .int .i64 E.dr, .int .i64 E.mo, v] 24)) (Obj.cells #[.int .i64 S.sp, .int .i64 S.lo, .int .i64 S.hi, .int .i64 S.fa] 38) (w.heap.size + 1) (by simp only [size_alloc])
  have hsz : ((w.alloc (Obj.cells #[.bool E.up, .int .i64 E.em, .int .i64 E.pu, .int .i64 E.dr, .int .i64 E.mo, v] 24)).alloc (Obj.cells #[.int .i64 S.sp, .int .i64 S.lo, .int .i64 S.hi, .int .i64 S.fa] 38)).heap.size = w.heap.size + 2 := by simp only [size_alloc]
  have hv1 := hv.below hbA (Nat.le_refl _)
  obtain ⟨a, cap, rfl, hn, hcap, hc⟩ := hv
  clear hc
  by_cases hf : checkStopM E S = 0
  · obtain ⟨hE, hS⟩ := checkStopM_num hf
    have Hf := Lib.hid hf
    clear hf
    have hN := Esc.ok_num hE
    obtain ⟨m1, m2⟩ := hN.mul (load := S.hi) (by have h1 := hS.lo0; have h2 := hS.lohi; omega) hS.hi1
    obtain ⟨e1, e2, p1, p2, d1, d2, mo1, mo2⟩ := hN
    obtain ⟨g1, g2⟩ := forceTo_bd3 hE (gripB E S 20)
    have g1 : 0 ≤ gripM E S 20 := g1
    have g2 : gripM E S 20 ≤ 30000000 := g2
    have HG := Lib.hid (grip20 (S := S) hE)
    go_enter Try.func33, Try.ntmps33
    go_wp2_with fail
    generalize ((w.alloc (Obj.cells #[.bool E.up, .int .i64 E.em, .int .i64 E.pu, .int .i64 E.dr, .int .i64 E.mo, .slice a E.bs.length cap] 24)).alloc (Obj.cells #[.int .i64 S.sp, .int .i64 S.lo, .int .i64 S.hi, .int .i64 S.fa] 38)) = wA at *
    have HSZ := Lib.hid hsz
    have HV := Lib.hid hv1
    have K1 := Lib.hid k1
    have K2 := Lib.hid k2
    clear hsz hv1 k1 k2
    refine (rcheckStop_any _ _ _ _ HV.out).mono ?_
    rintro e w1 ⟨rfl, hb1⟩
    rw [Hf.out]
    have c1 := block_cell ((hb1.block w.heap.size (by have := HSZ.out; omega)).trans K1.out)
    have c2 := block_cell ((hb1.block (w.heap.size + 1) (by have := HSZ.out; omega)).trans K2.out)
    have b1 := bw_cells (B := w1.heap.size) ((hb1.block w.heap.size (by have := HSZ.out; omega)).trans K1.out) (by have := HSZ.out; have := hb1.size; omega)
    have b2 := bw_cells (B := w1.heap.size) ((hb1.block (w.heap.size + 1) (by have := HSZ.out; omega)).trans K2.out) (by have := HSZ.out; have := hb1.size; omega)
    have ws1 : IntKind.i64.wrap (E.pu * S.hi) = E.pu * S.hi := IntWalk.i64_in _ (by omega)
    have ws2 : IntKind.i64.wrap (E.dr + gripM E S 20) = E.dr + gripM E S 20 := IntWalk.i64_in _ (by clear ws1; omega)
    go_wp2_with fail
    refine wp_region_below (by kernel_rfl) (by kernel_rfl) (Below.refl w1.heap.size w1) ?_
    repeat (refine wpQuiet_step (fun K hK => ?_); go_simp; first | (refine hK _ ?_; clear hK K) | (apply Exists.intro; refine ⟨fun _ => ?_, hK _ ?_⟩; ((go_at_call 58; exact bw_call (Nat.le_refl _) (rgrip_any E S _ 20 _ ((HV.out.below hb1 (Nat.le_refl _)).below (BW.b _) (Nat.le_refl _)) hE hS.fa0 hS.fa7))); clear hK K))
    refine wpQuiet_nil ?_
    intro wq hwq0
    have hwq := bw_out hwq0
    clear hwq0
    go_wp2
    go_ret2
    refine ⟨?_, hbA.trans ((hb1.trans (hwq.mono hb1.size)).mono hbA.size)⟩
    unfold holdsRM holdsM
    rw [if_pos Hf.out, ← HG.out]
    rfl
  · have Hf := Lib.hid hf
    have h0 : (checkStopM E S == 0) = false := by simpa using hf
    clear hf
    go_enter Try.func33, Try.ntmps33
    go_wp2_with fail
    generalize ((w.alloc (Obj.cells #[.bool E.up, .int .i64 E.em, .int .i64 E.pu, .int .i64 E.dr, .int .i64 E.mo, .slice a E.bs.length cap] 24)).alloc (Obj.cells #[.int .i64 S.sp, .int .i64 S.lo, .int .i64 S.hi, .int .i64 S.fa] 38)) = wA at *
    have HSZ := Lib.hid hsz
    have HV := Lib.hid hv1
    have K1 := Lib.hid k1
    have K2 := Lib.hid k2
    clear hsz hv1 k1 k2
    refine (rcheckStop_any _ _ _ _ HV.out).mono ?_
    rintro e w1 ⟨rfl, hb1⟩
    go_wp2
    go_ret2
    refine ⟨?_, hbA.trans (hb1.mono hbA.size)⟩
    unfold holdsRM
    rw [if_neg Hf.out]
    rfl

end Go.Proofs.Ytpoenjnpfodfpaa
