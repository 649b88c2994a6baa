/- Walks of layer 1 (drive): the specification's Fastest. -/
import Derived.Test.YtpoenjnpfodfpaaFa
namespace Go.Proofs.Ytpoenjnpfodfpaa
open Go.RowKit

set_option maxRecDepth 100000 in
set_option maxHeartbeats 4000000 in
theorem rfastest_any (E : Esc) (S : Stp) (v : Value) (limit : Int) (w : World) (hv : BrAt w v E.bs) :
    Calls Try.prog 35 #[escV E v, stpV S, .int .i64 limit] w fun e w' => e = .returned (pairV (fastR E S limit)) ∧ Below w.heap.size w w' := by
  have hbA := ((Below.refl w.heap.size w).alloc (Nat.le_refl _) (Obj.cells #[.bool E.up, .int .i64 E.em, .int .i64 E.pu, .int .i64 E.dr, .int .i64 E.mo, v] 24)).alloc (by simp) (Obj.cells #[.int .i64 S.sp, .int .i64 S.lo, .int .i64 S.hi, .int .i64 S.fa] 38)
  have k1 := block_alloc (block_new w (Obj.cells #[.bool E.up, .int .i64 E.em, .int .i64 E.pu, .int .i64 E.dr, .int .i64 E.mo, v] 24) w.heap.size rfl) (Obj.cells #[.int .i64 S.sp, .int .i64 S.lo, .int .i64 S.hi, .int .i64 S.fa] 38)
  have k2 := block_new (w.alloc (Obj.cells #[.bool E.up, .int .i64 E.em, .int .i64 E.pu, .int .i64 E.dr, .int .i64 E.mo, v] 24)) (Obj.cells #[.int .i64 S.sp, .int .i64 S.lo, .int .i64 S.hi, .int .i64 S.fa] 38) (w.heap.size + 1) (by simp only [size_alloc])
  have hsz : ((w.alloc (Obj.cells #[.bool E.up, .int .i64 E.em, .int .i64 E.pu, .int .i64 E.dr, .int .i64 E.mo, v] 24)).alloc (Obj.cells #[.int .i64 S.sp, .int .i64 S.lo, .int .i64 S.hi, .int .i64 S.fa] 38)).heap.size = w.heap.size + 2 := by simp only [size_alloc]
  have hv1 := hv.below hbA (Nat.le_refl _)
  obtain ⟨a, cap, rfl, hn, hcap, hc⟩ := hv
  clear hc
  by_cases hf : checkStopM E S = 0
  · obtain ⟨hE, hS⟩ := checkStopM_num hf
    have Hf := Lib.hid hf
    have HC := Lib.hid (fun v h0 h1 => @check_at E S hf v h0 h1)
    clear hf
    cases hq : (decide (0 ≤ limit) && decide (limit ≤ 10000000))
    · have HQ := Lib.hid hq
      have HR := Lib.hid (fastR_arg (limit := limit) Hf.out (by rw [Bool.and_eq_false_iff, decide_eq_false_iff_not, decide_eq_false_iff_not] at hq; omega))
      clear hq
      go_enter Try.func35, Try.ntmps35
      go_wp2_with fail
      generalize ((w.alloc (Obj.cells #[.bool E.up, .int .i64 E.em, .int .i64 E.pu, .int .i64 E.dr, .int .i64 E.mo, .slice a E.bs.length cap] 24)).alloc (Obj.cells #[.int .i64 S.sp, .int .i64 S.lo, .int .i64 S.hi, .int .i64 S.fa] 38)) = wA at *
      have HSZ := Lib.hid hsz
      have HV := Lib.hid hv1
      have K1 := Lib.hid k1
      have K2 := Lib.hid k2
      clear hsz hv1 k1 k2
      refine (rcheckStop_any _ _ _ _ HV.out).mono ?_
      rintro e w1 ⟨rfl, hb1⟩
      rw [Hf.out]
      have c1 := block_cell ((hb1.block w.heap.size (by have := HSZ.out; omega)).trans K1.out)
      have c2 := block_cell ((hb1.block (w.heap.size + 1) (by have := HSZ.out; omega)).trans K2.out)
      go_wp2_with (go_at_call 47; refine (rwithq _ _ _ _ _ HQ.out).mono ?_; rintro e w' ⟨rfl, rfl⟩)
      go_ret2
      refine ⟨by rw [HR.out]; rfl, hbA.trans (hb1.mono hbA.size)⟩
    · have HQ := Lib.hid hq
      have hl : 0 ≤ limit ∧ limit ≤ 10000000 := by rw [Bool.and_eq_true, decide_eq_true_eq, decide_eq_true_eq] at hq; exact hq
      have HR := Lib.hid (fastR_ok Hf.out hl)
      have HF := Lib.hid (fun r => @fastN_eq E S limit r)
      clear hq hl
      go_enter Try.func35, Try.ntmps35
      go_wp2_with fail
      generalize ((w.alloc (Obj.cells #[.bool E.up, .int .i64 E.em, .int .i64 E.pu, .int .i64 E.dr, .int .i64 E.mo, .slice a E.bs.length cap] 24)).alloc (Obj.cells #[.int .i64 S.sp, .int .i64 S.lo, .int .i64 S.hi, .int .i64 S.fa] 38)) = wA at *
      have HSZ := Lib.hid hsz
      have HV := Lib.hid hv1
      have K1 := Lib.hid k1
      have K2 := Lib.hid k2
      clear hsz hv1 k1 k2
      refine (rcheckStop_any _ _ _ _ HV.out).mono ?_
      rintro e w1 ⟨rfl, hb1⟩
      rw [Hf.out]
      have c1 := block_cell ((hb1.block w.heap.size (by have := HSZ.out; omega)).trans K1.out)
      have c2 := block_cell ((hb1.block (w.heap.size + 1) (by have := HSZ.out; omega)).trans K2.out)
      go_wp2_with (first | (go_at_call 47; refine (rwithq _ _ _ _ _ HQ.out).mono ?_; rintro e w' ⟨rfl, rfl⟩) | fail)
      clear c1 c2
      go_loopw [9, 10] (fun b x wr => ∃ k : Nat, k ≤ 1000 ∧ b = .int .i64 k ∧ x = .int .i64 (k + 1) ∧ Below wA.heap.size wA wr ∧ Hid (∀ i : Nat, i < k → swB E (S.at (i + 1)) limit = true)) (fun _ x _ => 1001 - (intOf x).toNat)
      case atStart => exact ⟨0, by omega, rfl, rfl, hb1, fun i hi => by omega⟩
      case round =>
        obtain ⟨k, hk, rfl, rfl, hb, hall⟩ := hrel
        have HZ := Lib.hid hb.size
        have c1 := block_cell ((hb.block w.heap.size (by have := HSZ.out; omega)).trans K1.out)
        have c2 := block_cell ((hb.block (w.heap.size + 1) (by have := HSZ.out; omega)).trans K2.out)
        have z1 : w.heap.size < wr.heap.size := by have := HSZ.out; have := HZ.out; omega
        have z2 : w.heap.size + 1 < wr.heap.size := by have := HSZ.out; have := HZ.out; omega
        by_cases hlt : k < 1000
        · go_wp2_with fail
          have hbs := hb.alloc hb.size (Obj.cells #[.int .i64 (k + 1), .int .i64 S.lo, .int .i64 S.hi, .int .i64 S.fa] 38)
          refine (rdistance_any E (S.at (k + 1)) _ _ (HV.out.below hbs (Nat.le_refl _))).mono ?_
          rintro e w3 ⟨rfl, hb3⟩
          have hsw := dist_sw (HC.out (k + 1) (by omega) (by omega)) limit
          obtain ⟨⟨D1, D2, D3, D4, F⟩, hd⟩ : ∃ D, distM E (S.at (k + 1)) = D := ⟨_, rfl⟩
          rw [hd] at hsw ⊢
          dsimp only at hsw
          have hb4 := ((hbs.trans (hb3.mono hbs.size)).alloc (by have := hbs.size; have := hb3.size; omega) (Obj.cells #[.int .i64 D1, .int .i64 D2] 36)).alloc (by have := hbs.size; have := hb3.size; simp; omega) (Obj.cells #[.int .i64 D3, .int .i64 D4] 36)
          clear c1 c2 z1 z2 hd
          cases hq : swB E (S.at (k + 1)) limit
          · rw [hq] at hsw
            have HE := Lib.hid (HF.out k hk hall.out (fun _ => hq))
            have HSW := Lib.hid hsw
            clear hsw hq
            by_cases hF : F = 0
            · subst hF
              have hD : ¬ D2 ≤ limit := by
                intro h
                have := HSW.out
                simp [h] at this
              go_wp2
              go_ret2
              refine ⟨by rw [HR.out, HE.out]; rfl, hbA.trans (hb4.mono hbA.size)⟩
            · have hFb : (F == 0) = false := by simpa using hF
              go_wp2
              go_ret2
              refine ⟨by rw [HR.out, HE.out]; rfl, hbA.trans (hb4.mono hbA.size)⟩
          · rw [hq] at hsw
            have hsw' : F = 0 ∧ D2 ≤ limit := by
              have := hsw.symm
              simpa using this
            obtain ⟨rfl, hD⟩ := hsw'
            have HQ' := Lib.hid hq
            clear hsw hq
            go_wp2
            go_roundw
            case rel => exact ⟨k + 1, by omega, by go_num, by go_num, hb4, fun i hi => by
              by_cases hik : i = k
              · rw [hik]; exact HQ'.out
              · exact hall.out i (by omega)⟩
            case measure => simp [intOf]; omega
        · have hk' : k = 1000 := by omega
          subst hk'
          have HE := Lib.hid (HF.out 1000 hk hall.out (fun h => by omega))
          go_wp2
          go_ret2
          refine ⟨by rw [HR.out, HE.out]; rfl, hbA.trans (hb.mono hbA.size)⟩
  · have HR := Lib.hid (fastR_bad (limit := limit) hf)
    have h0 : (checkStopM E S == 0) = false := by simpa using hf
    clear hf
    go_enter Try.func35, Try.ntmps35
    go_wp2_with fail
    generalize ((w.alloc (Obj.cells #[.bool E.up, .int .i64 E.em, .int .i64 E.pu, .int .i64 E.dr, .int .i64 E.mo, .slice a E.bs.length cap] 24)).alloc (Obj.cells #[.int .i64 S.sp, .int .i64 S.lo, .int .i64 S.hi, .int .i64 S.fa] 38)) = wA at *
    have HSZ := Lib.hid hsz
    have HV := Lib.hid hv1
    have K1 := Lib.hid k1
    have K2 := Lib.hid k2
    clear hsz hv1 k1 k2
    refine (rcheckStop_any _ _ _ _ HV.out).mono ?_
    rintro e w1 ⟨rfl, hb1⟩
    go_wp2
    go_ret2
    refine ⟨by rw [HR.out]; rfl, hbA.trans (hb1.mono hbA.size)⟩

end Go.Proofs.Ytpoenjnpfodfpaa
