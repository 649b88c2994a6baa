/- Walks of layer 1 (drive): checkStop. -/
import Derived.Test.YtpoenjnpfodfpaaDf
import Derived.Test.YtpoenjnpfodfpaaDn
namespace Go.Proofs.Ytpoenjnpfodfpaa
open Go.RowKit

theorem within_is (q : Bool) (n lo hi : Int) (w : World) (h : (decide (lo ≤ n) && decide (n ≤ hi)) = q) :
    Calls Try.prog 45 #[.int .i64 n, .int .i64 lo, .int .i64 hi] w fun e w' => e = .returned (.bool q) ∧ w' = w := by
  subst h
  exact (within_any n lo hi w).mono fun _ _ ⟨h1, h2⟩ => ⟨h1, h2.symm⟩

theorem pow_wrap {n : Nat} (h : n ≤ 3) : wrap64 (wrap64 ((2 : Int) ^ n) - 1) = 2 ^ n - 1 := by
  have hn : n = 0 ∨ n = 1 ∨ n = 2 ∨ n = 3 := by omega
  rcases hn with rfl | rfl | rfl | rfl <;> simp [wrap64]

set_option maxHeartbeats 1000000 in
theorem checkStop_any (E : Esc) (S : Stp) (v : Value) (w : World) (hv : BrAt w v E.bs) :
    Calls Try.prog 54 #[escV E v, stpV S] w fun e w' => e = .returned (.int .i64 (checkStopM E S)) ∧ Below w.heap.size w w' := by
  have hb0 := ((Below.refl w.heap.size w).alloc (Nat.le_refl _) (Obj.cells #[.bool E.up, .int .i64 E.em, .int .i64 E.pu, .int .i64 E.dr, .int .i64 E.mo, v] 24)).alloc (by simp) (Obj.cells #[.int .i64 S.sp, .int .i64 S.lo, .int .i64 S.hi, .int .i64 S.fa] 38)
  have hv1 := hv.below hb0 (Nat.le_refl _)
  obtain ⟨a, cap, rfl, hn, hcap, hc⟩ := hv
  clear hc
  have HV := Lib.hid hv1
  have HB0 := Lib.hid hb0
  clear hv1 hb0
  by_cases hE : E.ok = true
  · have hlen := Esc.ok_len hE
    have hck : checkM E = 0 := by simp [checkM, hE]
    have Hck := Lib.hid hck
    have HE := Lib.hid hE
    clear hck hE
    by_cases hl : (0 ≤ S.hi ∧ S.hi ≤ 100000) ∧ (0 ≤ S.lo ∧ S.lo ≤ S.hi)
    · obtain ⟨⟨l1, l2⟩, l3, l4⟩ := hl
      by_cases hs : 0 ≤ S.sp ∧ S.sp ≤ 1000
      · have hs' : (decide (0 ≤ S.sp) && decide (S.sp ≤ 1000)) = true := by simp; omega
        have HS := Lib.hid hs'
        clear hs'
        obtain ⟨s1, s2⟩ := hs
        cases hq : (decide (0 ≤ S.fa) && decide (S.fa ≤ wrap64 (wrap64 (2 ^ E.bs.length) - 1)))
        · have HF := Lib.hid hq
          clear hq
          go_enter Try.func54, Try.ntmps54
          go_wp2_with fail
          refine (check_any _ _ _ HV.out).mono ?_
          rintro e w1 ⟨rfl, hb1⟩
          rw [Hck.out]
          obtain ⟨hcl, hfz⟩ := bcell hb1
          go_wp2_with (go_at_call 45; refine (within_is true _ _ _ _ (by simp; omega)).mono ?_; rintro e w' ⟨rfl, rfl⟩)
          go_quiet ((first | (go_at_call_of 45 (Value.int .i64 1000); exact Calls.quiet_of_same (within_is true _ _ _ _ HS.out)) | (go_at_call 45; exact Calls.quiet_of_same (within_is false _ _ _ _ HF.out))))
          go_wp2
          go_ret
          refine ⟨ret_int ?_, below_drewN (HB0.out.trans (hb1.mono HB0.out.size)) _⟩
          unfold checkStopM
          rw [if_pos HE.out, if_neg]
          intro h
          have hf := HF.out
          rw [pow_wrap hlen] at hf
          simp only [Stp.ok, Bool.and_eq_true] at h
          rw [h.2.1, h.2.2] at hf
          cases hf
        · have HF := Lib.hid hq
          clear hq
          go_enter Try.func54, Try.ntmps54
          go_wp2_with fail
          refine (check_any _ _ _ HV.out).mono ?_
          rintro e w1 ⟨rfl, hb1⟩
          rw [Hck.out]
          obtain ⟨hcl, hfz⟩ := bcell hb1
          go_wp2_with (go_at_call 45; refine (within_is true _ _ _ _ (by simp; omega)).mono ?_; rintro e w' ⟨rfl, rfl⟩)
          go_quiet ((first | (go_at_call_of 45 (Value.int .i64 1000); exact Calls.quiet_of_same (within_is true _ _ _ _ HS.out)) | (go_at_call 45; exact Calls.quiet_of_same (within_is true _ _ _ _ HF.out))))
          go_wp2
          go_ret
          refine ⟨ret_int ?_, below_drewN (HB0.out.trans (hb1.mono HB0.out.size)) _⟩
          unfold checkStopM
          rw [if_pos HE.out, if_pos]
          have hf := HF.out
          rw [pow_wrap hlen, Bool.and_eq_true, decide_eq_true_eq, decide_eq_true_eq] at hf
          simp only [Stp.ok, Bool.and_eq_true, decide_eq_true_eq]
          exact ⟨⟨⟨⟨l1, l2⟩, l3, l4⟩, s1, s2⟩, hf⟩
      · have hs' : (decide (0 ≤ S.sp) && decide (S.sp ≤ 1000)) = false := by simp; omega
        have HS := Lib.hid hs'
        have Hs := Lib.hid hs
        clear hs' hs
        go_enter Try.func54, Try.ntmps54
        go_wp2_with fail
        refine (check_any _ _ _ HV.out).mono ?_
        rintro e w1 ⟨rfl, hb1⟩
        rw [Hck.out]
        obtain ⟨hcl, hfz⟩ := bcell hb1
        go_wp2_with (go_at_call 45; refine (within_is true _ _ _ _ (by simp; omega)).mono ?_; rintro e w' ⟨rfl, rfl⟩)
        go_quiet ((go_at_call 45; exact Calls.quiet_of_same (within_is false _ _ _ _ HS.out)))
        go_wp2
        go_ret
        refine ⟨ret_int ?_, below_drewN (HB0.out.trans (hb1.mono HB0.out.size)) _⟩
        unfold checkStopM
        rw [if_pos HE.out, if_neg]
        intro h
        have := Stp.ok_num hlen h
        exact Hs.out ⟨this.sp0, this.sp1⟩
    · have Hl := Lib.hid hl
      by_cases hh : 0 ≤ S.hi ∧ S.hi ≤ 100000
      · have h1 : (decide (0 ≤ S.hi) && decide (S.hi ≤ 100000)) = true := by simp; omega
        have h2 : (decide (0 ≤ S.lo) && decide (S.lo ≤ S.hi)) = false := by simp; omega
        have H1 := Lib.hid h1
        have H2 := Lib.hid h2
        clear h1 h2 hl hh
        go_enter Try.func54, Try.ntmps54
        go_wp2_with fail
        refine (check_any _ _ _ HV.out).mono ?_
        rintro e w1 ⟨rfl, hb1⟩
        rw [Hck.out]
        obtain ⟨hcl, hfz⟩ := bcell hb1
        go_wp2_with (first | (go_at_call_of 45 (Value.int .i64 100000); refine (within_is true _ _ _ _ H1.out).mono ?_; rintro e w' ⟨rfl, rfl⟩) | (go_at_call 45; refine (within_is false _ _ _ _ H2.out).mono ?_; rintro e w' ⟨rfl, rfl⟩))
        go_quiet (fail)
        go_wp2
        go_ret
        refine ⟨ret_int ?_, below_drewN (HB0.out.trans (hb1.mono HB0.out.size)) _⟩
        unfold checkStopM
        rw [if_pos HE.out, if_neg]
        intro h
        have := Stp.ok_num hlen h
        exact Hl.out ⟨⟨by have h1 := this.lo0; have h2 := this.lohi; omega, this.hi1⟩, this.lo0, this.lohi⟩
      · have h1 : (decide (0 ≤ S.hi) && decide (S.hi ≤ 100000)) = false := by simp; omega
        have H1 := Lib.hid h1
        clear h1 hl hh
        go_enter Try.func54, Try.ntmps54
        go_wp2_with fail
        refine (check_any _ _ _ HV.out).mono ?_
        rintro e w1 ⟨rfl, hb1⟩
        rw [Hck.out]
        obtain ⟨hcl, hfz⟩ := bcell hb1
        go_wp2_with (go_at_call 45; refine (within_is false _ _ _ _ H1.out).mono ?_; rintro e w' ⟨rfl, rfl⟩)
        go_quiet (fail)
        go_wp2
        go_ret
        refine ⟨ret_int ?_, below_drewN (HB0.out.trans (hb1.mono HB0.out.size)) _⟩
        unfold checkStopM
        rw [if_pos HE.out, if_neg]
        intro h
        have := Stp.ok_num hlen h
        exact Hl.out ⟨⟨by have h1 := this.lo0; have h2 := this.lohi; omega, this.hi1⟩, this.lo0, this.lohi⟩
  · have hck : checkM E = 10 := by simp [checkM, hE]
    have Hck := Lib.hid hck
    have HE := Lib.hid hE
    clear hck hE
    go_enter Try.func54, Try.ntmps54
    go_wp2_with fail
    refine (check_any _ _ _ HV.out).mono ?_
    rintro e w1 ⟨rfl, hb1⟩
    rw [Hck.out]
    obtain ⟨hcl, hfz⟩ := bcell hb1
    go_wp2
    go_ret
    refine ⟨ret_int ?_, HB0.out.trans (hb1.mono HB0.out.size)⟩
    unfold checkStopM
    rw [if_neg HE.out]
end Go.Proofs.Ytpoenjnpfodfpaa
