/- How the arguments of layer 3's statements read. -/
import Derived.Test.YtbkhfmigaehgaaaGo
import Derived.Test.YtbkhfmigaehgaaaCq
namespace Go.Proofs.Ytbkhfmigaehgaaa
open Go.ChangeShapes Go.WideShapes Go.ChangeAt Go.RowKit Go.Deep
set_option maxRecDepth 100000

theorem cells_int : Try.prog.cellsOf 3 = 1 := by kernel_rfl
theorem cells_ints : Try.prog.cellsOf 22 = 1 := by kernel_rfl
theorem cells_wires : Try.prog.cellsOf 23 = 1 := by kernel_rfl
theorem cells_wire : Try.prog.cellsOf 122 = 2 := by kernel_rfl
theorem cells_circuit : Try.prog.cellsOf 25 = 3 := by kernel_rfl
theorem cells_state : Try.prog.cellsOf 27 = 3 := by kernel_rfl
theorem cells_trial : Try.prog.cellsOf 138 = 2 := by kernel_rfl
theorem cells_nights : Try.prog.cellsOf 50 = 1 := by kernel_rfl
theorem cells_rota : Try.prog.cellsOf 52 = 2 := by kernel_rfl

instance : Inhabited Tri := ⟨Tri.zero⟩

section
variable {H : Type} {enc : TypeId × Value → H} {W : World} {d : DataW H} {ps : List MemPlace}

theorem intsl_cells {fuel : Nat} {v : Value} {x : DataW H × List MemPlace} (h : DataW.trod enc Try.prog W 0 (fun _ => true) true fuel 22 [v] = some x) : ∃ xs, InAt W v xs ∧ SlShape x.1 xs.length :=
  intsOf Try.underlying22 Try.underlying3 cells_int h

theorem ints_of {v : Value} (hv : Value.okWide Try.prog W .any 0 22 v) (h : DataW.Trod enc Try.prog W 0 (fun _ => true) true 22 v d ps) : ∃ xs, InAt W v xs ∧ SlShape d xs.length := by
  obtain ⟨a, n, c, rfl⟩ := okWide_slice Try.underlying22 hv
  obtain ⟨fuel, hf⟩ := h
  exact intsl_cells hf

theorem num_of {v : Value} (hv : Value.okWide Try.prog W .any 0 3 v) (h : DataW.Trod enc Try.prog W 0 (fun _ => true) true 3 v d ps) : ∃ n : Int, v = .int .i64 n := by
  obtain ⟨fuel, hf⟩ := h
  obtain ⟨n, rfl, _⟩ := okWide_int Try.underlying3 hv
  exact ⟨n, rfl⟩

/-! ### wires -/
abbrev WirA (W : World) : Type := { p : Int × Value × List Int // InAt W p.2.1 p.2.2 }
instance (W : World) : Inhabited (WirA W) := ⟨⟨(0, .slice none 0 0, []), InAt.nil W⟩⟩
def wirL (W : World) (p : WirA W) : List Value := [.int .i64 p.1.1, p.1.2.1]

theorem wire_cells {fuel : Nat} {cs : List Value} {x : DataW H × List MemPlace} (h : DataW.trod enc Try.prog W 0 (fun _ => true) true fuel 122 cs = some x) : ∃ a : WirA W, cs = wirL W a := by
  obtain ⟨n, hl, parts, _, hx⟩ := fieldOf Try.underlying122 h
  rw [cells_wire] at hl
  obtain ⟨y0, h0, _⟩ : ∃ y, DataW.trod enc Try.prog W 0 (fun _ => true) true n 3 ((cs.drop 0).take (Try.prog.cellsOf 3)) = some y ∧ parts[0]? = some y.1 := hx 0 _ rfl
  rw [cells_int] at h0
  obtain ⟨x0, e0⟩ := intAt Try.underlying3 h0
  obtain ⟨y1, h1, _⟩ : ∃ y, DataW.trod enc Try.prog W 0 (fun _ => true) true n 22 ((cs.drop 1).take (Try.prog.cellsOf 22)) = some y ∧ parts[1]? = some y.1 := hx 1 _ rfl
  rw [cells_ints] at h1
  match cs, hl with
  | [c0, c1], _ =>
    simp at e0
    subst e0
    obtain ⟨xs, hxs, _⟩ := intsl_cells (v := c1) (by simpa using h1)
    exact ⟨⟨(x0, c1, xs), hxs⟩, rfl⟩

theorem wires_cells {fuel : Nat} {v : Value} {x : DataW H × List MemPlace} (h : DataW.trod enc Try.prog W 0 (fun _ => true) true fuel 23 [v] = some x) : ∃ ws, WsAt W v ws := by
  obtain ⟨xs, ⟨a, cap, hv, h1, h2, h3⟩, _⟩ := elemsOf (f := wirL W) Try.underlying23 cells_wire (by decide) (fun _ => rfl) (fun _ _ _ h => wire_cells h) h
  refine ⟨xs.map fun p => ⟨p.1.1, p.1.2.2⟩, a, cap, by rw [List.length_map]; exact hv, by rw [List.length_map]; exact h1, h2, fun hp => ?_⟩
  rw [List.length_map] at hp
  obtain ⟨b, off, e, hb, hc⟩ := h3 hp
  refine ⟨b, off, e, hb, fun i hi => ?_⟩
  rw [List.length_map] at hi
  have hx : xs[i]? = some xs[i] := List.getElem?_eq_getElem hi
  have hg : (xs.map fun p => (⟨p.1.1, p.1.2.2⟩ : Wir)).getD i Wir.zero = ⟨xs[i].1.1, xs[i].1.2.2⟩ := by
    rw [List.getD_eq_getElem?_getD, List.getElem?_map, hx]; rfl
  rw [hg]
  exact ⟨hc i _ hx 0 _ rfl, _, hc i _ hx 1 _ rfl, xs[i].2⟩

theorem circuit_cells {fuel : Nat} {cs : List Value} {x : DataW H × List MemPlace} (h : DataW.trod enc Try.prog W 0 (fun _ => true) true fuel 25 cs = some x) : ∃ (c : Cir) (sv wv : Value), cs = [.int .i64 c.hz, sv, wv] ∧ CirAt W sv wv c := by
  obtain ⟨n, hl, parts, _, hx⟩ := fieldOf Try.underlying25 h
  rw [cells_circuit] at hl
  obtain ⟨y0, h0, _⟩ : ∃ y, DataW.trod enc Try.prog W 0 (fun _ => true) true n 3 ((cs.drop 0).take (Try.prog.cellsOf 3)) = some y ∧ parts[0]? = some y.1 := hx 0 _ rfl
  rw [cells_int] at h0
  obtain ⟨x0, e0⟩ := intAt Try.underlying3 h0
  obtain ⟨y1, h1, _⟩ : ∃ y, DataW.trod enc Try.prog W 0 (fun _ => true) true n 22 ((cs.drop 1).take (Try.prog.cellsOf 22)) = some y ∧ parts[1]? = some y.1 := hx 1 _ rfl
  rw [cells_ints] at h1
  obtain ⟨y2, h2, _⟩ : ∃ y, DataW.trod enc Try.prog W 0 (fun _ => true) true n 23 ((cs.drop 2).take (Try.prog.cellsOf 23)) = some y ∧ parts[2]? = some y.1 := hx 2 _ rfl
  rw [cells_wires] at h2
  match cs, hl with
  | [c0, c1, c2], _ =>
    simp at e0
    subst e0
    obtain ⟨xs, hxs, _⟩ := intsl_cells (v := c1) (by simpa using h1)
    obtain ⟨ws, hws⟩ := wires_cells (v := c2) (by simpa using h2)
    exact ⟨⟨x0, xs, ws⟩, c1, c2, rfl, hxs, hws⟩

theorem cir_of {v : Value} (hv : Value.okWide Try.prog W .any 0 25 v) (h : DataW.Trod enc Try.prog W 0 (fun _ => true) true 25 v d ps) : ∃ (c : Cir) (sv wv : Value), v = cirV c sv wv ∧ CirAt W sv wv c := by
  obtain ⟨cs, rfl, _⟩ := okWide_struct Try.underlying25 hv
  obtain ⟨fuel, hf⟩ := h
  obtain ⟨l⟩ := cs
  obtain ⟨c, sv, wv, e, hc⟩ := circuit_cells hf
  simp only [Value.cells] at e
  subst e
  exact ⟨c, sv, wv, rfl, hc⟩

theorem sta_of {v : Value} (hv : Value.okWide Try.prog W .any 0 27 v) (h : DataW.Trod enc Try.prog W 0 (fun _ => true) true 27 v d ps) : ∃ a b e : Int, v = .agg #[.int .i64 a, .int .i64 b, .int .i64 e] := by
  obtain ⟨cs, rfl, _⟩ := okWide_struct Try.underlying27 hv
  obtain ⟨fuel, hf⟩ := h
  obtain ⟨l⟩ := cs
  obtain ⟨n, hl, parts, _, hx⟩ := fieldOf Try.underlying27 hf
  simp only [Value.cells] at hl hx
  rw [cells_state] at hl
  obtain ⟨y0, h0, _⟩ : ∃ y, DataW.trod enc Try.prog W 0 (fun _ => true) true n 3 ((l.drop 0).take (Try.prog.cellsOf 3)) = some y ∧ parts[0]? = some y.1 := hx 0 _ rfl
  rw [cells_int] at h0
  obtain ⟨x0, e0⟩ := intAt Try.underlying3 h0
  obtain ⟨y1, h1, _⟩ : ∃ y, DataW.trod enc Try.prog W 0 (fun _ => true) true n 3 ((l.drop 1).take (Try.prog.cellsOf 3)) = some y ∧ parts[1]? = some y.1 := hx 1 _ rfl
  rw [cells_int] at h1
  obtain ⟨x1, e1⟩ := intAt Try.underlying3 h1
  obtain ⟨y2, h2, _⟩ : ∃ y, DataW.trod enc Try.prog W 0 (fun _ => true) true n 3 ((l.drop 2).take (Try.prog.cellsOf 3)) = some y ∧ parts[2]? = some y.1 := hx 2 _ rfl
  rw [cells_int] at h2
  obtain ⟨x2, e2⟩ := intAt Try.underlying3 h2
  match l, hl with
  | [c0, c1, c2], _ =>
    simp at e0 e1 e2
    subst e0 e1 e2
    exact ⟨x0, x1, x2, rfl⟩

end

end Go.Proofs.Ytbkhfmigaehgaaa
