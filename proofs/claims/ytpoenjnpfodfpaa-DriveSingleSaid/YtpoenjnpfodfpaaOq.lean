/- How the arguments of the statements read: stops, slices of ints, pairs of ints. -/
import Derived.Test.YtpoenjnpfodfpaaOp
import Derived.Test.YtpoenjnpfodfpaaIa
namespace Go.Proofs.Ytpoenjnpfodfpaa
open Go.ChangeShapes Go.WideShapes Go.ChangeAt Go.RowKit Go.Deep

theorem cellsStop : Try.prog.cellsOf 38 = 4 := by kernel_rfl
theorem cellsSpan : Try.prog.cellsOf 36 = 2 := by kernel_rfl
theorem cellsBounds : Try.prog.cellsOf 56 = 2 := by kernel_rfl
theorem cellsInts : Try.prog.cellsOf 39 = 1 := by kernel_rfl

section
variable {H : Type} {enc : TypeId × Value → H} {W : World} {d : DataW H} {ps : List MemPlace}

theorem span_cells {fuel : Nat} {cs : List Value} {x : DataW H × List MemPlace} (h : DataW.trod enc Try.prog W 0 (fun _ => true) true fuel 36 cs = some x) : ∃ a b : Int, cs = [.int .i64 a, .int .i64 b] := by
  obtain ⟨n, hl, hx⟩ := field_of Try.underlying36 h
  rw [cellsSpan] at hl
  obtain ⟨y0, h0⟩ : ∃ y, DataW.trod enc Try.prog W 0 (fun _ => true) true n 3 ((cs.drop 0).take (Try.prog.cellsOf 3)) = some y := hx 0 _ rfl
  obtain ⟨y1, h1⟩ : ∃ y, DataW.trod enc Try.prog W 0 (fun _ => true) true n 3 ((cs.drop 1).take (Try.prog.cellsOf 3)) = some y := hx 1 _ rfl
  rw [cells3] at h0 h1
  obtain ⟨a, e0⟩ := int_at Try.underlying3 h0
  obtain ⟨b, e1⟩ := int_at Try.underlying3 h1
  obtain ⟨c0, c1, rfl⟩ := list2 hl
  simp at e0 e1
  subst e0 e1
  exact ⟨a, b, rfl⟩

theorem span_of {v : Value} (hv : Value.okWide Try.prog W .any 0 36 v) (h : DataW.Trod enc Try.prog W 0 (fun _ => true) true 36 v d ps) : ∃ a b : Int, v = .agg #[.int .i64 a, .int .i64 b] := by
  obtain ⟨cs, rfl, _⟩ := okWide_struct Try.underlying36 hv
  obtain ⟨fuel, hf⟩ := h
  obtain ⟨l⟩ := cs
  obtain ⟨a, b, e⟩ := span_cells hf
  simp only [Value.cells] at e
  subst e
  exact ⟨a, b, rfl⟩

theorem bounds_of {v : Value} (hv : Value.okWide Try.prog W .any 0 56 v) (h : DataW.Trod enc Try.prog W 0 (fun _ => true) true 56 v d ps) : ∃ a b : Int, v = .agg #[.int .i64 a, .int .i64 b] := by
  obtain ⟨cs, rfl, _⟩ := okWide_struct Try.underlying56 hv
  obtain ⟨fuel, hf⟩ := h
  obtain ⟨l⟩ := cs
  obtain ⟨n, hl, hx⟩ := field_of Try.underlying56 hf
  simp only [Value.cells] at hl hx
  rw [cellsBounds] at hl
  obtain ⟨y0, h0⟩ : ∃ y, DataW.trod enc Try.prog W 0 (fun _ => true) true n 3 ((l.drop 0).take (Try.prog.cellsOf 3)) = some y := hx 0 _ rfl
  obtain ⟨y1, h1⟩ : ∃ y, DataW.trod enc Try.prog W 0 (fun _ => true) true n 3 ((l.drop 1).take (Try.prog.cellsOf 3)) = some y := hx 1 _ rfl
  rw [cells3] at h0 h1
  obtain ⟨a, e0⟩ := int_at Try.underlying3 h0
  obtain ⟨b, e1⟩ := int_at Try.underlying3 h1
  obtain ⟨c0, c1, rfl⟩ := list2 hl
  simp at e0 e1
  subst e0 e1
  exact ⟨a, b, rfl⟩

theorem stp_of {v : Value} (hv : Value.okWide Try.prog W .any 0 38 v) (h : DataW.Trod enc Try.prog W 0 (fun _ => true) true 38 v d ps) : ∃ S : Stp, v = stpV S := by
  obtain ⟨cs, rfl, _⟩ := okWide_struct Try.underlying38 hv
  obtain ⟨fuel, hf⟩ := h
  obtain ⟨n, hl, hx⟩ := field_of Try.underlying38 hf
  obtain ⟨l⟩ := cs
  simp only [Value.cells] at hl hx
  rw [cellsStop] at hl
  obtain ⟨y0, h0⟩ : ∃ y, DataW.trod enc Try.prog W 0 (fun _ => true) true n 3 ((l.drop 0).take (Try.prog.cellsOf 3)) = some y := hx 0 _ rfl
  obtain ⟨y1, h1⟩ : ∃ y, DataW.trod enc Try.prog W 0 (fun _ => true) true n 36 ((l.drop 1).take (Try.prog.cellsOf 36)) = some y := hx 1 _ rfl
  obtain ⟨y2, h2⟩ : ∃ y, DataW.trod enc Try.prog W 0 (fun _ => true) true n 3 ((l.drop 3).take (Try.prog.cellsOf 3)) = some y := hx 2 _ rfl
  rw [cells3] at h0 h2
  rw [cellsSpan] at h1
  obtain ⟨sp, e0⟩ := int_at Try.underlying3 h0
  obtain ⟨lo, hi, e1⟩ := span_cells h1
  obtain ⟨fa, e2⟩ := int_at Try.underlying3 h2
  match l, hl with
  | [c0, c1, c2, c3], _ =>
    simp at e0 e1 e2
    obtain ⟨e1, e1'⟩ := e1
    subst e0 e1 e1' e2
    exact ⟨⟨sp, lo, hi, fa⟩, rfl⟩

theorem ints_cells {fuel : Nat} {v : Value} {x : DataW H × List MemPlace} (h : DataW.trod enc Try.prog W 0 (fun _ => true) true fuel 39 [v] = some x) : ∃ xs, InAt W v xs := by
  rcases open_slice Try.underlying39 h with ⟨h0, _⟩ | ⟨a, len, cap, m, n, D, Pl, hcs, _, hl, hcap, hm, _, hel⟩
  · simp only [List.cons.injEq, and_true] at h0
    subst h0
    exact ⟨[], InAt.nil W⟩
  · simp only [List.cons.injEq, and_true] at hcs
    subst hcs
    simp only [if_true] at hm
    subst hm
    have key : ∀ i, i < len → ∃ q : Int, W.cell? (a.add i) = some (.int .i64 q) := by
      intro i hi
      obtain ⟨cs, hc, ht⟩ := hel i (by omega)
      rw [cells3, Nat.mul_one] at hc
      obtain ⟨_, hlen, hat⟩ := World.cells?_some hc
      obtain ⟨f, e0⟩ := int_at Try.underlying3 ht
      subst e0
      refine ⟨f, ?_⟩
      have := hat 0 (by omega)
      simpa [Addr.add] using this
    obtain ⟨g, hg⟩ := choose_lt key
    refine ⟨(List.range len).map g, some a, m, by simp, by simpa using hl, by unfold maxLen at hcap; omega, fun hpos => ?_⟩
    have hpos' : 0 < len := by simpa using hpos
    obtain ⟨b, off, spot⟩ := a
    have h00 := hg 0 hpos'
    have hspot : spot = none := by simpa [Addr.add] using World.cell?_spot h00
    subst hspot
    have hb : b < W.heap.size := by
      have := cell_lt h00
      rw [add_plain] at this
      exact this
    refine ⟨b, off, rfl, hb, fun i hi => ?_⟩
    have hi' : i < len := by simpa using hi
    have e : ((List.range len).map g).getD i 0 = g i := by simp [List.getD_eq_getElem?_getD, hi']
    rw [e]
    have c1 := hg i hi'
    rw [add_plain] at c1
    exact c1

theorem ints_of {v : Value} (hv : Value.okWide Try.prog W .any 0 39 v) (h : DataW.Trod enc Try.prog W 0 (fun _ => true) true 39 v d ps) : ∃ xs, InAt W v xs := by
  obtain ⟨a, len, cap, rfl⟩ := okWide_slice Try.underlying39 hv
  obtain ⟨fuel, hf⟩ := h
  exact ints_cells (by simpa [Value.cells] using hf)

theorem int_of {v : Value} (hv : Value.okWide Try.prog W .any 0 3 v) (_h : DataW.Trod enc Try.prog W 0 (fun _ => true) true 3 v d ps) : ∃ n : Int, v = .int .i64 n :=
  okWide_int Try.underlying3 hv

end

end Go.Proofs.Ytpoenjnpfodfpaa
