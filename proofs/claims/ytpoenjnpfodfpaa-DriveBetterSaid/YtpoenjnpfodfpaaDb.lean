/- Walks of layer 1 (drive): Back, Holds. -/
import Derived.Test.YtpoenjnpfodfpaaDe
import Derived.Test.YtpoenjnpfodfpaaDk
import Derived.Test.YtpoenjnpfodfpaaDd
import Derived.Test.YtpoenjnpfodfpaaDp
namespace Go.Proofs.Ytpoenjnpfodfpaa
open Go.RowKit

def backM (E : Esc) (S : Stp) : Pair :=
  if checkStopM E S = 0 then (if 0 ≤ pathM E S false 100 then ⟨backTo E S 100, 0⟩ else ⟨0, 12⟩) else ⟨0, checkStopM E S⟩

set_option maxHeartbeats 2000000 in
theorem back_any (E : Esc) (S : Stp) (v : Value) (w : World) (hv : BrAt w v E.bs) :
    Calls Try.prog 30 #[escV E v, stpV S] w fun e w' => e = .returned (pairV (backM E S)) ∧ Below w.heap.size w w' := by
  have hb0 := ((Below.refl w.heap.size w).alloc (Nat.le_refl _) (Obj.cells #[.bool E.up, .int .i64 E.em, .int .i64 E.pu, .int .i64 E.dr, .int .i64 E.mo, v] 24)).alloc (by simp) (Obj.cells #[.int .i64 S.sp, .int .i64 S.lo, .int .i64 S.hi, .int .i64 S.fa] 38)
  have hv1 := hv.below hb0 (Nat.le_refl _)
  obtain ⟨a, cap, rfl, hn, hcap, hc⟩ := hv
  clear hc
  have HV := Lib.hid hv1
  have HB0 := Lib.hid hb0
  clear hv1 hb0
  by_cases hf : checkStopM E S = 0
  · obtain ⟨hE, hS⟩ := checkStopM_num hf
    have Hf := Lib.hid hf
    clear hf
    by_cases hr : 0 ≤ pathM E S false 100
    · have Hr := Lib.hid hr
      have hd : decide (0 ≤ pathM E S false 100) = true := by simpa using hr
      have Hd := Lib.hid hd
      clear hr hd
      go_enter Try.func30, Try.ntmps30
      go_wp2_with fail
      refine (checkStop_any _ _ _ _ HV.out).mono ?_
      rintro e w1 ⟨rfl, hb1⟩
      rw [Hf.out]
      obtain ⟨hcl, hfz⟩ := bcell hb1
      go_wp2_with fail
      refine (runBack_any E S _ _ (HV.out.below hb1 (Nat.le_refl _)) hE hS).mono ?_
      rintro e w2 ⟨rfl, hb2⟩
      rw [Hd.out]
      have hb12 := hb1.trans (hb2.mono hb1.size)
      clear hcl hfz
      go_wp2
      go_ret2
      refine ⟨?_, HB0.out.trans (hb12.mono HB0.out.size)⟩
      unfold backM
      rw [if_pos Hf.out, if_pos Hr.out]
      rfl
    · have Hr := Lib.hid hr
      have hd : decide (0 ≤ pathM E S false 100) = false := by simpa using hr
      have Hd := Lib.hid hd
      clear hr hd
      go_enter Try.func30, Try.ntmps30
      go_wp2_with fail
      refine (checkStop_any _ _ _ _ HV.out).mono ?_
      rintro e w1 ⟨rfl, hb1⟩
      rw [Hf.out]
      obtain ⟨hcl, hfz⟩ := bcell hb1
      go_wp2_with fail
      refine (runBack_any E S _ _ (HV.out.below hb1 (Nat.le_refl _)) hE hS).mono ?_
      rintro e w2 ⟨rfl, hb2⟩
      rw [Hd.out]
      have hb12 := hb1.trans (hb2.mono hb1.size)
      clear hcl hfz
      go_wp2
      go_ret2
      refine ⟨?_, HB0.out.trans (hb12.mono HB0.out.size)⟩
      unfold backM
      rw [if_pos Hf.out, if_neg (by have := Hr.out; omega)]
      rfl
  · have Hf := Lib.hid hf
    have h0 : (checkStopM E S == 0) = false := by simpa using hf
    clear hf
    go_enter Try.func30, Try.ntmps30
    go_wp2_with fail
    refine (checkStop_any _ _ _ _ HV.out).mono ?_
    rintro e w1 ⟨rfl, hb1⟩
    go_wp2
    go_ret2
    refine ⟨?_, HB0.out.trans (hb1.mono HB0.out.size)⟩
    unfold backM
    rw [if_neg Hf.out]
    rfl

structure BPair where
  q : Bool
  f : Int
abbrev bpairV (D : BPair) : Value := .tuple #[.bool D.q, .int .i64 D.f]
def holdsRM (E : Esc) (S : Stp) : BPair := if checkStopM E S = 0 then ⟨holdsM E S, 0⟩ else ⟨false, checkStopM E S⟩

set_option maxHeartbeats 2000000 in
theorem holdsR_any (E : Esc) (S : Stp) (v : Value) (w : World) (hv : BrAt w v E.bs) :
    Calls Try.prog 32 #[escV E v, stpV S] w fun e w' => e = .returned (bpairV (holdsRM E S)) ∧ Below w.heap.size w w' := by
  have hb0 := ((Below.refl w.heap.size w).alloc (Nat.le_refl _) (Obj.cells #[.bool E.up, .int .i64 E.em, .int .i64 E.pu, .int .i64 E.dr, .int .i64 E.mo, v] 24)).alloc (by simp) (Obj.cells #[.int .i64 S.sp, .int .i64 S.lo, .int .i64 S.hi, .int .i64 S.fa] 38)
  have hv1 := hv.below hb0 (Nat.le_refl _)
  obtain ⟨a, cap, rfl, hn, hcap, hc⟩ := hv
  clear hc
  have HV := Lib.hid hv1
  have HB0 := Lib.hid hb0
  clear hv1 hb0
  by_cases hf : checkStopM E S = 0
  · obtain ⟨hE, hS⟩ := checkStopM_num hf
    have Hf := Lib.hid hf
    clear hf
    go_enter Try.func32, Try.ntmps32
    go_wp2_with fail
    refine (checkStop_any _ _ _ _ HV.out).mono ?_
    rintro e w1 ⟨rfl, hb1⟩
    rw [Hf.out]
    obtain ⟨hcl, hfz⟩ := bcell hb1
    go_wp2_with fail
    refine (holds_any E S _ _ (HV.out.below hb1 (Nat.le_refl _)) hE hS.fa0 hS.fa7 (by have h1 := hS.lo0; have h2 := hS.lohi; omega) hS.hi1).mono ?_
    rintro e w2 ⟨rfl, hb2⟩
    have hb12 := hb1.trans (hb2.mono hb1.size)
    clear hcl hfz
    go_wp2
    go_ret2
    refine ⟨?_, HB0.out.trans (hb12.mono HB0.out.size)⟩
    unfold holdsRM
    rw [if_pos Hf.out]
    rfl
  · have Hf := Lib.hid hf
    have h0 : (checkStopM E S == 0) = false := by simpa using hf
    clear hf
    go_enter Try.func32, Try.ntmps32
    go_wp2_with fail
    refine (checkStop_any _ _ _ _ HV.out).mono ?_
    rintro e w1 ⟨rfl, hb1⟩
    go_wp2
    go_ret2
    refine ⟨?_, HB0.out.trans (hb1.mono HB0.out.size)⟩
    unfold holdsRM
    rw [if_neg Hf.out]
    rfl

end Go.Proofs.Ytpoenjnpfodfpaa
