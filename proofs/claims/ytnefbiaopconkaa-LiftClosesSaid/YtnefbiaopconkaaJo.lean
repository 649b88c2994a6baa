/- How the arguments of layer 5's statements read. -/
import Derived.Test.YtnefbiaopconkaaGo
import Derived.Test.YtnefbiaopconkaaJi
namespace Go.Proofs.Ytnefbiaopconkaa
open Go.ChangeShapes Go.WideShapes Go.ChangeAt Go.RowKit Go.Deep
set_option maxRecDepth 100000

theorem cells_int : Try.prog.cellsOf 3 = 1 := by kernel_rfl
theorem cells_ints : Try.prog.cellsOf 22 = 1 := by kernel_rfl
abbrev i3L (s : Int × Int × Int) : List Value := [.int .i64 s.1, .int .i64 s.2.1, .int .i64 s.2.2]
abbrev spnL (s : Spn) : List Value := [.int .i64 s.lo, .int .i64 s.hi]
abbrev dorL (s : Dor) : List Value := [.int .i64 s.wide, .int .i64 s.wait]
abbrev spsL (s : Spn × Spn) : List Value := [.int .i64 s.1.lo, .int .i64 s.1.hi, .int .i64 s.2.lo, .int .i64 s.2.hi]

section
variable {H : Type} {enc : TypeId × Value → H} {W : World} {d : DataW H} {ps : List MemPlace}

theorem cells_span : Try.prog.cellsOf 37 = 2 := by kernel_rfl
theorem span_cells {fuel : Nat} {cs : List Value} {x : DataW H × List MemPlace} (h : DataW.trod enc Try.prog W 0 (fun _ => true) true fuel 37 cs = some x) : ∃ a : Spn, cs = spnL a := by
  obtain ⟨n, hl, parts, _, hx⟩ := fieldOf Try.underlying37 h
  rw [cells_span] at hl
  obtain ⟨y0, h0, _⟩ : ∃ y, DataW.trod enc Try.prog W 0 (fun _ => true) true n 3 ((cs.drop 0).take (Try.prog.cellsOf 3)) = some y ∧ parts[0]? = some y.1 := hx 0 _ rfl
  rw [cells_int] at h0
  obtain ⟨x0, e0⟩ := intAt Try.underlying3 h0
  obtain ⟨y1, h1, _⟩ : ∃ y, DataW.trod enc Try.prog W 0 (fun _ => true) true n 3 ((cs.drop 1).take (Try.prog.cellsOf 3)) = some y ∧ parts[1]? = some y.1 := hx 1 _ rfl
  rw [cells_int] at h1
  obtain ⟨x1, e1⟩ := intAt Try.underlying3 h1
  match cs, hl with
  | [c0, c1], _ =>
    simp at e0 e1
    subst e0 e1
    exact ⟨⟨x0, x1⟩, rfl⟩

theorem cells_door : Try.prog.cellsOf 58 = 2 := by kernel_rfl
theorem door_cells {fuel : Nat} {cs : List Value} {x : DataW H × List MemPlace} (h : DataW.trod enc Try.prog W 0 (fun _ => true) true fuel 58 cs = some x) : ∃ a : Dor, cs = dorL a := by
  obtain ⟨n, hl, parts, _, hx⟩ := fieldOf Try.underlying58 h
  rw [cells_door] at hl
  obtain ⟨y0, h0, _⟩ : ∃ y, DataW.trod enc Try.prog W 0 (fun _ => true) true n 3 ((cs.drop 0).take (Try.prog.cellsOf 3)) = some y ∧ parts[0]? = some y.1 := hx 0 _ rfl
  rw [cells_int] at h0
  obtain ⟨x0, e0⟩ := intAt Try.underlying3 h0
  obtain ⟨y1, h1, _⟩ : ∃ y, DataW.trod enc Try.prog W 0 (fun _ => true) true n 3 ((cs.drop 1).take (Try.prog.cellsOf 3)) = some y ∧ parts[1]? = some y.1 := hx 1 _ rfl
  rw [cells_int] at h1
  obtain ⟨x1, e1⟩ := intAt Try.underlying3 h1
  match cs, hl with
  | [c0, c1], _ =>
    simp at e0 e1
    subst e0 e1
    exact ⟨⟨x0, x1⟩, rfl⟩

theorem cells_place : Try.prog.cellsOf 26 = 3 := by kernel_rfl
theorem place_cells {fuel : Nat} {cs : List Value} {x : DataW H × List MemPlace} (h : DataW.trod enc Try.prog W 0 (fun _ => true) true fuel 26 cs = some x) : ∃ a : (Int × Int × Int), cs = i3L a := by
  obtain ⟨n, hl, parts, _, hx⟩ := fieldOf Try.underlying26 h
  rw [cells_place] at hl
  obtain ⟨y0, h0, _⟩ : ∃ y, DataW.trod enc Try.prog W 0 (fun _ => true) true n 3 ((cs.drop 0).take (Try.prog.cellsOf 3)) = some y ∧ parts[0]? = some y.1 := hx 0 _ rfl
  rw [cells_int] at h0
  obtain ⟨x0, e0⟩ := intAt Try.underlying3 h0
  obtain ⟨y1, h1, _⟩ : ∃ y, DataW.trod enc Try.prog W 0 (fun _ => true) true n 3 ((cs.drop 1).take (Try.prog.cellsOf 3)) = some y ∧ parts[1]? = some y.1 := hx 1 _ rfl
  rw [cells_int] at h1
  obtain ⟨x1, e1⟩ := intAt Try.underlying3 h1
  obtain ⟨y2, h2, _⟩ : ∃ y, DataW.trod enc Try.prog W 0 (fun _ => true) true n 3 ((cs.drop 2).take (Try.prog.cellsOf 3)) = some y ∧ parts[2]? = some y.1 := hx 2 _ rfl
  rw [cells_int] at h2
  obtain ⟨x2, e2⟩ := intAt Try.underlying3 h2
  match cs, hl with
  | [c0, c1, c2], _ =>
    simp at e0 e1 e2
    subst e0 e1 e2
    exact ⟨(x0, x1, x2), rfl⟩

theorem cells_change : Try.prog.cellsOf 45 = 3 := by kernel_rfl
theorem change_cells {fuel : Nat} {cs : List Value} {x : DataW H × List MemPlace} (h : DataW.trod enc Try.prog W 0 (fun _ => true) true fuel 45 cs = some x) : ∃ a : (Int × Int × Int), cs = i3L a := by
  obtain ⟨n, hl, parts, _, hx⟩ := fieldOf Try.underlying45 h
  rw [cells_change] at hl
  obtain ⟨y0, h0, _⟩ : ∃ y, DataW.trod enc Try.prog W 0 (fun _ => true) true n 3 ((cs.drop 0).take (Try.prog.cellsOf 3)) = some y ∧ parts[0]? = some y.1 := hx 0 _ rfl
  rw [cells_int] at h0
  obtain ⟨x0, e0⟩ := intAt Try.underlying3 h0
  obtain ⟨y1, h1, _⟩ : ∃ y, DataW.trod enc Try.prog W 0 (fun _ => true) true n 3 ((cs.drop 1).take (Try.prog.cellsOf 3)) = some y ∧ parts[1]? = some y.1 := hx 1 _ rfl
  rw [cells_int] at h1
  obtain ⟨x1, e1⟩ := intAt Try.underlying3 h1
  obtain ⟨y2, h2, _⟩ : ∃ y, DataW.trod enc Try.prog W 0 (fun _ => true) true n 3 ((cs.drop 2).take (Try.prog.cellsOf 3)) = some y ∧ parts[2]? = some y.1 := hx 2 _ rfl
  rw [cells_int] at h2
  obtain ⟨x2, e2⟩ := intAt Try.underlying3 h2
  match cs, hl with
  | [c0, c1, c2], _ =>
    simp at e0 e1 e2
    subst e0 e1 e2
    exact ⟨(x0, x1, x2), rfl⟩

theorem cells_way : Try.prog.cellsOf 52 = 3 := by kernel_rfl
theorem way_cells {fuel : Nat} {cs : List Value} {x : DataW H × List MemPlace} (h : DataW.trod enc Try.prog W 0 (fun _ => true) true fuel 52 cs = some x) : ∃ a : (Int × Int × Int), cs = i3L a := by
  obtain ⟨n, hl, parts, _, hx⟩ := fieldOf Try.underlying52 h
  rw [cells_way] at hl
  obtain ⟨y0, h0, _⟩ : ∃ y, DataW.trod enc Try.prog W 0 (fun _ => true) true n 3 ((cs.drop 0).take (Try.prog.cellsOf 3)) = some y ∧ parts[0]? = some y.1 := hx 0 _ rfl
  rw [cells_int] at h0
  obtain ⟨x0, e0⟩ := intAt Try.underlying3 h0
  obtain ⟨y1, h1, _⟩ : ∃ y, DataW.trod enc Try.prog W 0 (fun _ => true) true n 3 ((cs.drop 1).take (Try.prog.cellsOf 3)) = some y ∧ parts[1]? = some y.1 := hx 1 _ rfl
  rw [cells_int] at h1
  obtain ⟨x1, e1⟩ := intAt Try.underlying3 h1
  obtain ⟨y2, h2, _⟩ : ∃ y, DataW.trod enc Try.prog W 0 (fun _ => true) true n 3 ((cs.drop 2).take (Try.prog.cellsOf 3)) = some y ∧ parts[2]? = some y.1 := hx 2 _ rfl
  rw [cells_int] at h2
  obtain ⟨x2, e2⟩ := intAt Try.underlying3 h2
  match cs, hl with
  | [c0, c1, c2], _ =>
    simp at e0 e1 e2
    subst e0 e1 e2
    exact ⟨(x0, x1, x2), rfl⟩

theorem cells_spans : Try.prog.cellsOf 39 = 4 := by kernel_rfl
theorem spans_cells {fuel : Nat} {cs : List Value} {x : DataW H × List MemPlace} (h : DataW.trod enc Try.prog W 0 (fun _ => true) true fuel 39 cs = some x) : ∃ a : (Spn × Spn), cs = spsL a := by
  obtain ⟨n, hl, parts, _, hx⟩ := fieldOf Try.underlying39 h
  rw [cells_spans] at hl
  obtain ⟨y0, h0, _⟩ : ∃ y, DataW.trod enc Try.prog W 0 (fun _ => true) true n 37 ((cs.drop 0).take (Try.prog.cellsOf 37)) = some y ∧ parts[0]? = some y.1 := hx 0 _ rfl
  rw [cells_span] at h0
  obtain ⟨⟨x0a, x0b⟩, e0⟩ := span_cells h0
  obtain ⟨y1, h1, _⟩ : ∃ y, DataW.trod enc Try.prog W 0 (fun _ => true) true n 37 ((cs.drop 2).take (Try.prog.cellsOf 37)) = some y ∧ parts[1]? = some y.1 := hx 1 _ rfl
  rw [cells_span] at h1
  obtain ⟨⟨x1a, x1b⟩, e1⟩ := span_cells h1
  match cs, hl with
  | [c0, c1, c2, c3], _ =>
    simp at e0 e1
    obtain ⟨e0, e0'⟩ := e0
    obtain ⟨e1, e1'⟩ := e1
    subst e0 e0' e1 e1'
    exact ⟨(⟨x0a, x0b⟩, ⟨x1a, x1b⟩), rfl⟩

theorem intsl_cells {fuel : Nat} {v : Value} {x : DataW H × List MemPlace} (h : DataW.trod enc Try.prog W 0 (fun _ => true) true fuel 22 [v] = some x) : ∃ xs, InAt W v xs ∧ SlShape x.1 xs.length :=
  intsOf Try.underlying22 Try.underlying3 cells_int h

theorem ints_of {v : Value} (hv : Value.okWide Try.prog W .any 0 22 v) (h : DataW.Trod enc Try.prog W 0 (fun _ => true) true 22 v d ps) : ∃ xs, InAt W v xs ∧ SlShape d xs.length := by
  obtain ⟨a, n, c, rfl⟩ := okWide_slice Try.underlying22 hv
  obtain ⟨fuel, hf⟩ := h
  exact intsl_cells hf

theorem num_of {v : Value} (hv : Value.okWide Try.prog W .any 0 3 v) (h : DataW.Trod enc Try.prog W 0 (fun _ => true) true 3 v d ps) : ∃ n : Int, v = .int .i64 n := by
  obtain ⟨fuel, hf⟩ := h
  obtain ⟨n, rfl, _⟩ := okWide_int Try.underlying3 hv
  exact ⟨n, rfl⟩

theorem span_of {v : Value} (hv : Value.okWide Try.prog W .any 0 37 v) (h : DataW.Trod enc Try.prog W 0 (fun _ => true) true 37 v d ps) : ∃ s : Spn, v = spnV s := by
  obtain ⟨cs, rfl, _⟩ := okWide_struct Try.underlying37 hv
  obtain ⟨fuel, hf⟩ := h
  obtain ⟨l⟩ := cs
  obtain ⟨s, e⟩ := span_cells hf
  simp only [Value.cells] at e
  subst e
  exact ⟨s, rfl⟩

theorem door_of {v : Value} (hv : Value.okWide Try.prog W .any 0 58 v) (h : DataW.Trod enc Try.prog W 0 (fun _ => true) true 58 v d ps) : ∃ s : Dor, v = dorV s := by
  obtain ⟨cs, rfl, _⟩ := okWide_struct Try.underlying58 hv
  obtain ⟨fuel, hf⟩ := h
  obtain ⟨l⟩ := cs
  obtain ⟨s, e⟩ := door_cells hf
  simp only [Value.cells] at e
  subst e
  exact ⟨s, rfl⟩

theorem place_of {v : Value} (hv : Value.okWide Try.prog W .any 0 26 v) (h : DataW.Trod enc Try.prog W 0 (fun _ => true) true 26 v d ps) : ∃ a b c : Int, v = .agg #[.int .i64 a, .int .i64 b, .int .i64 c] := by
  obtain ⟨cs, rfl, _⟩ := okWide_struct Try.underlying26 hv
  obtain ⟨fuel, hf⟩ := h
  obtain ⟨l⟩ := cs
  obtain ⟨⟨a, b, c⟩, e⟩ := place_cells hf
  simp only [Value.cells] at e
  subst e
  exact ⟨a, b, c, rfl⟩

theorem change_of {v : Value} (hv : Value.okWide Try.prog W .any 0 45 v) (h : DataW.Trod enc Try.prog W 0 (fun _ => true) true 45 v d ps) : ∃ a b c : Int, v = .agg #[.int .i64 a, .int .i64 b, .int .i64 c] := by
  obtain ⟨cs, rfl, _⟩ := okWide_struct Try.underlying45 hv
  obtain ⟨fuel, hf⟩ := h
  obtain ⟨l⟩ := cs
  obtain ⟨⟨a, b, c⟩, e⟩ := change_cells hf
  simp only [Value.cells] at e
  subst e
  exact ⟨a, b, c, rfl⟩

theorem way_of {v : Value} (hv : Value.okWide Try.prog W .any 0 52 v) (h : DataW.Trod enc Try.prog W 0 (fun _ => true) true 52 v d ps) : ∃ a b c : Int, v = .agg #[.int .i64 a, .int .i64 b, .int .i64 c] := by
  obtain ⟨cs, rfl, _⟩ := okWide_struct Try.underlying52 hv
  obtain ⟨fuel, hf⟩ := h
  obtain ⟨l⟩ := cs
  obtain ⟨⟨a, b, c⟩, e⟩ := way_cells hf
  simp only [Value.cells] at e
  subst e
  exact ⟨a, b, c, rfl⟩

theorem spans_of {v : Value} (hv : Value.okWide Try.prog W .any 0 39 v) (h : DataW.Trod enc Try.prog W 0 (fun _ => true) true 39 v d ps) : ∃ a b : Spn, v = .agg #[.int .i64 a.lo, .int .i64 a.hi, .int .i64 b.lo, .int .i64 b.hi] := by
  obtain ⟨cs, rfl, _⟩ := okWide_struct Try.underlying39 hv
  obtain ⟨fuel, hf⟩ := h
  obtain ⟨l⟩ := cs
  obtain ⟨⟨a, b⟩, e⟩ := spans_cells hf
  simp only [Value.cells] at e
  subst e
  exact ⟨a, b, rfl⟩

theorem cells_lift : Try.prog.cellsOf 24 = 12 := by kernel_rfl
theorem lift_cells {fuel : Nat} {cs : List Value} {x : DataW H × List MemPlace} (h : DataW.trod enc Try.prog W 0 (fun _ => true) true fuel 24 cs = some x) : ∃ (L : Lif) (fv : Value), cs = [.int .i64 L.car, .int .i64 L.cou, .int .i64 L.rat, .int .i64 L.rop, fv, .int .i64 L.num, .int .i64 L.den, .int .i64 L.spd, .int .i64 L.acc, .int .i64 L.ovr, .int .i64 L.sti, .int .i64 L.lev] ∧ InAt W fv L.fl := by
  obtain ⟨n, hl, parts, _, hx⟩ := fieldOf Try.underlying24 h
  rw [cells_lift] at hl
  obtain ⟨y0, h0, _⟩ : ∃ y, DataW.trod enc Try.prog W 0 (fun _ => true) true n 3 ((cs.drop 0).take (Try.prog.cellsOf 3)) = some y ∧ parts[0]? = some y.1 := hx 0 _ rfl
  rw [cells_int] at h0
  obtain ⟨x0, e0⟩ := intAt Try.underlying3 h0
  obtain ⟨y1, h1, _⟩ : ∃ y, DataW.trod enc Try.prog W 0 (fun _ => true) true n 3 ((cs.drop 1).take (Try.prog.cellsOf 3)) = some y ∧ parts[1]? = some y.1 := hx 1 _ rfl
  rw [cells_int] at h1
  obtain ⟨x1, e1⟩ := intAt Try.underlying3 h1
  obtain ⟨y2, h2, _⟩ : ∃ y, DataW.trod enc Try.prog W 0 (fun _ => true) true n 3 ((cs.drop 2).take (Try.prog.cellsOf 3)) = some y ∧ parts[2]? = some y.1 := hx 2 _ rfl
  rw [cells_int] at h2
  obtain ⟨x2, e2⟩ := intAt Try.underlying3 h2
  obtain ⟨y3, h3, _⟩ : ∃ y, DataW.trod enc Try.prog W 0 (fun _ => true) true n 3 ((cs.drop 3).take (Try.prog.cellsOf 3)) = some y ∧ parts[3]? = some y.1 := hx 3 _ rfl
  rw [cells_int] at h3
  obtain ⟨x3, e3⟩ := intAt Try.underlying3 h3
  obtain ⟨y4, h4, _⟩ : ∃ y, DataW.trod enc Try.prog W 0 (fun _ => true) true n 22 ((cs.drop 4).take (Try.prog.cellsOf 22)) = some y ∧ parts[4]? = some y.1 := hx 4 _ rfl
  rw [cells_ints] at h4
  obtain ⟨y5, h5, _⟩ : ∃ y, DataW.trod enc Try.prog W 0 (fun _ => true) true n 3 ((cs.drop 5).take (Try.prog.cellsOf 3)) = some y ∧ parts[5]? = some y.1 := hx 5 _ rfl
  rw [cells_int] at h5
  obtain ⟨x5, e5⟩ := intAt Try.underlying3 h5
  obtain ⟨y6, h6, _⟩ : ∃ y, DataW.trod enc Try.prog W 0 (fun _ => true) true n 3 ((cs.drop 6).take (Try.prog.cellsOf 3)) = some y ∧ parts[6]? = some y.1 := hx 6 _ rfl
  rw [cells_int] at h6
  obtain ⟨x6, e6⟩ := intAt Try.underlying3 h6
  obtain ⟨y7, h7, _⟩ : ∃ y, DataW.trod enc Try.prog W 0 (fun _ => true) true n 3 ((cs.drop 7).take (Try.prog.cellsOf 3)) = some y ∧ parts[7]? = some y.1 := hx 7 _ rfl
  rw [cells_int] at h7
  obtain ⟨x7, e7⟩ := intAt Try.underlying3 h7
  obtain ⟨y8, h8, _⟩ : ∃ y, DataW.trod enc Try.prog W 0 (fun _ => true) true n 3 ((cs.drop 8).take (Try.prog.cellsOf 3)) = some y ∧ parts[8]? = some y.1 := hx 8 _ rfl
  rw [cells_int] at h8
  obtain ⟨x8, e8⟩ := intAt Try.underlying3 h8
  obtain ⟨y9, h9, _⟩ : ∃ y, DataW.trod enc Try.prog W 0 (fun _ => true) true n 3 ((cs.drop 9).take (Try.prog.cellsOf 3)) = some y ∧ parts[9]? = some y.1 := hx 9 _ rfl
  rw [cells_int] at h9
  obtain ⟨x9, e9⟩ := intAt Try.underlying3 h9
  obtain ⟨y10, h10, _⟩ : ∃ y, DataW.trod enc Try.prog W 0 (fun _ => true) true n 3 ((cs.drop 10).take (Try.prog.cellsOf 3)) = some y ∧ parts[10]? = some y.1 := hx 10 _ rfl
  rw [cells_int] at h10
  obtain ⟨x10, e10⟩ := intAt Try.underlying3 h10
  obtain ⟨y11, h11, _⟩ : ∃ y, DataW.trod enc Try.prog W 0 (fun _ => true) true n 3 ((cs.drop 11).take (Try.prog.cellsOf 3)) = some y ∧ parts[11]? = some y.1 := hx 11 _ rfl
  rw [cells_int] at h11
  obtain ⟨x11, e11⟩ := intAt Try.underlying3 h11
  match cs, hl with
  | [c0, c1, c2, c3, c4, c5, c6, c7, c8, c9, c10, c11], _ =>
    simp at e0 e1 e2 e3 e5 e6 e7 e8 e9 e10 e11
    subst e0 e1 e2 e3 e5 e6 e7 e8 e9 e10 e11
    obtain ⟨xs, hxs, _⟩ := intsl_cells (v := c4) (by simpa using h4)
    exact ⟨⟨x0, x1, x2, x3, xs, x5, x6, x7, x8, x9, x10, x11⟩, c4, rfl, hxs⟩

theorem lift_of {v : Value} (hv : Value.okWide Try.prog W .any 0 24 v) (h : DataW.Trod enc Try.prog W 0 (fun _ => true) true 24 v d ps) : ∃ (L : Lif) (fv : Value), v = lifV L fv ∧ InAt W fv L.fl := by
  obtain ⟨cs, rfl, _⟩ := okWide_struct Try.underlying24 hv
  obtain ⟨fuel, hf⟩ := h
  obtain ⟨l⟩ := cs
  obtain ⟨L, fv, e, hc⟩ := lift_cells hf
  simp only [Value.cells] at e
  subst e
  exact ⟨L, fv, rfl, hc⟩

end

end Go.Proofs.Ytnefbiaopconkaa
