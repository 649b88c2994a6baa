/- Walks of the statements' own helpers: Example, works, Far. -/
import Derived.Test.YtpoenjnpfodfpaaDb
import Derived.Deep.RegionHeld3
namespace Go.Proofs.Ytpoenjnpfodfpaa
open Go.RowKit

def exampleE : Esc := ⟨true, 1000, 20, 2000, 20000, [(12000, 1), (16000, 3)]⟩

/-- What Example leaves: the escalator, and its brakes in new memory. -/
def ExRes (w : World) (e : Ending) (w' : World) : Prop := ∃ v, e = .returned (escV exampleE v) ∧ BrAt w' v exampleE.bs ∧ Below w.heap.size w w'

set_option maxHeartbeats 400000 in
theorem example_any (w : World) : Calls Try.prog 44 #[] w (ExRes w) := by
  go_enter Try.func44, Try.ntmps44
  go_wp2
  refine bodyPost_ret (v := escV exampleE (.slice (some ⟨w.heap.size + 1, 0, none⟩) 2 2)) (by simp [results, Try.results44, go_sem, exampleE]) rfl ?_
  refine ⟨_, rfl, ⟨_, _, rfl, Nat.le_refl _, by decide, fun _ => ⟨_, _, rfl, by simp, ?_⟩⟩, ?_⟩
  · intro i hi
    have hi' : i = 0 ∨ i = 1 := by have : i < 2 := hi; omega
    rcases hi' with rfl | rfl
    · constructor
      · simp [exampleE]
      · simp [exampleE]
    · constructor <;> simp [exampleE]
  · exact ((Below.refl _ _).alloc (Nat.le_refl _) _).alloc (by simp) _

set_option maxHeartbeats 400000 in
theorem far_any (E : Esc) (v : Value) (w : World) (hv : BrAt w v E.bs) : Calls Try.prog 15 #[escV E v] w fun e w' => e = .returned (.bool (decide (10 < E.bs.length))) ∧ Below w.heap.size w w' := by
  obtain ⟨a, cap, rfl, hn, hcap, hc⟩ := hv
  clear hc
  go_enter Try.func15, Try.ntmps15
  go_wp2
  go_ret
  refine ⟨ret_bool ?_, (Below.refl _ _).alloc (Nat.le_refl _) _⟩
  simp
  omega

end Go.Proofs.Ytpoenjnpfodfpaa
