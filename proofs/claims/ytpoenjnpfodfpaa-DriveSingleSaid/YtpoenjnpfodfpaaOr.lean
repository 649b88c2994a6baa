/- How the argument One reads. -/
import Derived.Test.YtpoenjnpfodfpaaOq
namespace Go.Proofs.Ytpoenjnpfodfpaa
open Go.ChangeShapes Go.WideShapes Go.ChangeAt Go.RowKit Go.Deep

theorem cellsOne : Try.prog.cellsOf 72 = 4 := by kernel_rfl

section
variable {H : Type} {enc : TypeId × Value → H} {W : World} {d : DataW H} {ps : List MemPlace}

theorem bounds_cells {fuel : Nat} {cs : List Value} {x : DataW H × List MemPlace} (h : DataW.trod enc Try.prog W 0 (fun _ => true) true fuel 56 cs = some x) : ∃ a b : Int, cs = [.int .i64 a, .int .i64 b] := by
  obtain ⟨n, hl, hx⟩ := field_of Try.underlying56 h
  rw [cellsBounds] at hl
  obtain ⟨y0, h0⟩ : ∃ y, DataW.trod enc Try.prog W 0 (fun _ => true) true n 3 ((cs.drop 0).take (Try.prog.cellsOf 3)) = some y := hx 0 _ rfl
  obtain ⟨y1, h1⟩ : ∃ y, DataW.trod enc Try.prog W 0 (fun _ => true) true n 3 ((cs.drop 1).take (Try.prog.cellsOf 3)) = some y := hx 1 _ rfl
  rw [cells3] at h0 h1
  obtain ⟨a, e0⟩ := int_at Try.underlying3 h0
  obtain ⟨b, e1⟩ := int_at Try.underlying3 h1
  obtain ⟨c0, c1, rfl⟩ := list2 hl
  simp at e0 e1
  subst e0 e1
  exact ⟨a, b, rfl⟩

theorem one_of {v : Value} (hv : Value.okWide Try.prog W .any 0 72 v) (h : DataW.Trod enc Try.prog W 0 (fun _ => true) true 72 v d ps) : ∃ (br : Int) (lv : Value) (xs : List Int) (wy bk : Int), v = .agg #[.int .i64 br, lv, .int .i64 wy, .int .i64 bk] ∧ InAt W lv xs := by
  obtain ⟨cs, rfl, _⟩ := okWide_struct Try.underlying72 hv
  obtain ⟨fuel, hf⟩ := h
  obtain ⟨n, hl, hx⟩ := field_of Try.underlying72 hf
  obtain ⟨l⟩ := cs
  simp only [Value.cells] at hl hx
  rw [cellsOne] at hl
  obtain ⟨y0, h0⟩ : ∃ y, DataW.trod enc Try.prog W 0 (fun _ => true) true n 3 ((l.drop 0).take (Try.prog.cellsOf 3)) = some y := hx 0 _ rfl
  obtain ⟨y1, h1⟩ : ∃ y, DataW.trod enc Try.prog W 0 (fun _ => true) true n 39 ((l.drop 1).take (Try.prog.cellsOf 39)) = some y := hx 1 _ rfl
  obtain ⟨y2, h2⟩ : ∃ y, DataW.trod enc Try.prog W 0 (fun _ => true) true n 56 ((l.drop 2).take (Try.prog.cellsOf 56)) = some y := hx 2 _ rfl
  rw [cells3] at h0
  rw [cellsInts] at h1
  rw [cellsBounds] at h2
  obtain ⟨br, e0⟩ := int_at Try.underlying3 h0
  obtain ⟨wy, bk, e2⟩ := bounds_cells h2
  match l, hl with
  | [c0, c1, c2, c3], _ =>
    simp at e0 e2
    obtain ⟨e2, e2'⟩ := e2
    subst e0 e2 e2'
    obtain ⟨xs, hi⟩ := ints_cells (by simpa using h1)
    exact ⟨br, c1, xs, wy, bk, rfl, hi⟩
end

end Go.Proofs.Ytpoenjnpfodfpaa
