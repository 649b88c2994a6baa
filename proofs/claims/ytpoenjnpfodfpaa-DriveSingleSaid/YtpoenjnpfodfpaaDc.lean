/- Walks of layer 1 (drive): Check. -/
import Derived.Test.YtpoenjnpfodfpaaDx
namespace Go.Proofs.Ytpoenjnpfodfpaa
open Go.RowKit

set_option maxHeartbeats 1000000 in
theorem check_any (E : Esc) (v : Value) (w : World) (hv : BrAt w v E.bs) :
    Calls Try.prog 21 #[escV E v] w fun e w' => e = .returned (.int .i64 (checkM E)) ∧ Below w.heap.size w w' := by
  have hb0 := (Below.refl w.heap.size w).alloc (Nat.le_refl _) (Obj.cells #[.bool E.up, .int .i64 E.em, .int .i64 E.pu, .int .i64 E.dr, .int .i64 E.mo, v] 24)
  have hv1 := hv.below hb0 (Nat.le_refl _)
  obtain ⟨a, cap, rfl, hn, hcap, hc⟩ := hv
  clear hc
  go_enter Try.func21, Try.ntmps21
  go_wp2_with (first | (go_at_call 45; refine (within_any _ _ _ _).mono ?_; rintro e w' ⟨rfl, rfl⟩) | (go_at_call 53; refine (containsBrake_any _ _ _ hv1).mono ?_; rintro e w' ⟨rfl, hb⟩))
  all_goals go_ret
  · refine ⟨ret_int (check_no ?_), hb0.trans (hb.mono hb0.size)⟩
    rintro ⟨h, h'⟩
    rename_i ho
    rcases ho with ho | ho
    · omega
    · rw [h'] at ho; cases ho
  · refine ⟨ret_int (check_yes ‹_› ‹_› ‹_› ‹_› ‹_› (by rename_i ho; exact ho.2)), hb0.trans (hb.mono hb0.size)⟩
  all_goals exact ⟨ret_int (check_no (fun h => by omega)), hb0⟩

end Go.Proofs.Ytpoenjnpfodfpaa
