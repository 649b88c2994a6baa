/- How the argument Better reads. -/
import Derived.Test.YtpoenjnpfodfpaaOq
import Derived.Test.YtpoenjnpfodfpaaHt
namespace Go.Proofs.Ytpoenjnpfodfpaa
open Go.ChangeShapes Go.WideShapes Go.ChangeAt Go.RowKit Go.Deep

theorem cellsBetter : Try.prog.cellsOf 68 = 7 := by kernel_rfl

section
variable {H : Type} {enc : TypeId × Value → H} {W : World} {d : DataW H} {ps : List MemPlace}

theorem better_of {v : Value} (hv : Value.okWide Try.prog W .any 0 68 v) (h : DataW.Trod enc Try.prog W 0 (fun _ => true) true 68 v d ps) : ∃ X : Bet, v = betV X := by
  obtain ⟨cs, rfl, _⟩ := okWide_struct Try.underlying68 hv
  obtain ⟨fuel, hf⟩ := h
  obtain ⟨n, hl, hx⟩ := field_of Try.underlying68 hf
  obtain ⟨l⟩ := cs
  simp only [Value.cells] at hl hx
  rw [cellsBetter] at hl
  obtain ⟨y0, h0⟩ : ∃ y, DataW.trod enc Try.prog W 0 (fun _ => true) true n 3 ((l.drop 0).take (Try.prog.cellsOf 3)) = some y := hx 0 _ rfl
  obtain ⟨y1, h1⟩ : ∃ y, DataW.trod enc Try.prog W 0 (fun _ => true) true n 3 ((l.drop 1).take (Try.prog.cellsOf 3)) = some y := hx 1 _ rfl
  obtain ⟨y2, h2⟩ : ∃ y, DataW.trod enc Try.prog W 0 (fun _ => true) true n 3 ((l.drop 2).take (Try.prog.cellsOf 3)) = some y := hx 2 _ rfl
  obtain ⟨y3, h3⟩ : ∃ y, DataW.trod enc Try.prog W 0 (fun _ => true) true n 3 ((l.drop 3).take (Try.prog.cellsOf 3)) = some y := hx 3 _ rfl
  obtain ⟨y4, h4⟩ : ∃ y, DataW.trod enc Try.prog W 0 (fun _ => true) true n 3 ((l.drop 4).take (Try.prog.cellsOf 3)) = some y := hx 4 _ rfl
  obtain ⟨y5, h5⟩ : ∃ y, DataW.trod enc Try.prog W 0 (fun _ => true) true n 36 ((l.drop 5).take (Try.prog.cellsOf 36)) = some y := hx 5 _ rfl
  rw [cells3] at h0 h1 h2 h3 h4
  rw [cellsSpan] at h5
  obtain ⟨br, e0⟩ := int_at Try.underlying3 h0
  obtain ⟨fo, e1⟩ := int_at Try.underlying3 h1
  obtain ⟨de, e2⟩ := int_at Try.underlying3 h2
  obtain ⟨me, e3⟩ := int_at Try.underlying3 h3
  obtain ⟨sl, e4⟩ := int_at Try.underlying3 h4
  obtain ⟨lo, hi, e5⟩ := span_cells h5
  match l, hl with
  | [c0, c1, c2, c3, c4, c5, c6], _ =>
    simp at e0 e1 e2 e3 e4 e5
    obtain ⟨e5, e5'⟩ := e5
    subst e0 e1 e2 e3 e4 e5 e5'
    exact ⟨⟨br, fo, de, me, sl, lo, hi⟩, rfl⟩
end

end Go.Proofs.Ytpoenjnpfodfpaa
