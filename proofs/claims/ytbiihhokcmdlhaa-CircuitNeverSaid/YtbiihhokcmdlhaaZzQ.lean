import Derived.Test.YtbiihhokcmdlhaaZzP
/- Texts of one seat, merged: Cx Cz Yh -/
/- How the arguments of layer 3's statements read. -/
namespace Go.Proofs.Ytbiihhokcmdlhaa
open Go.ChangeShapes Go.WideShapes Go.ChangeAt Go.RowKit Go.Deep
set_option maxRecDepth 100000

theorem cells_int : Try.prog.cellsOf 3 = 1 := by kernel_rfl
theorem cells_ints : Try.prog.cellsOf 22 = 1 := by kernel_rfl
theorem cells_wires : Try.prog.cellsOf 23 = 1 := by kernel_rfl
theorem cells_wire : Try.prog.cellsOf 122 = 2 := by kernel_rfl
theorem cells_circuit : Try.prog.cellsOf 25 = 3 := by kernel_rfl
theorem cells_state : Try.prog.cellsOf 27 = 3 := by kernel_rfl
theorem cells_trial : Try.prog.cellsOf 138 = 2 := by kernel_rfl
theorem cells_nights : Try.prog.cellsOf 50 = 1 := by kernel_rfl
theorem cells_rota : Try.prog.cellsOf 52 = 2 := by kernel_rfl

instance : Inhabited Tri := ⟨Tri.zero⟩

section
variable {H : Type} {enc : TypeId × Value → H} {W : World} {d : DataW H} {ps : List MemPlace}

theorem intsl_cells {fuel : Nat} {v : Value} {x : DataW H × List MemPlace} (h : DataW.trod enc Try.prog W 0 (fun _ => true) true fuel 22 [v] = some x) : ∃ xs, InAt W v xs ∧ SlShape x.1 xs.length :=
  intsOf Try.underlying22 Try.underlying3 cells_int h

theorem ints_of {v : Value} (hv : Value.okWide Try.prog W .any 0 22 v) (h : DataW.Trod enc Try.prog W 0 (fun _ => true) true 22 v d ps) : ∃ xs, InAt W v xs ∧ SlShape d xs.length := by
  obtain ⟨a, n, c, rfl⟩ := okWide_slice Try.underlying22 hv
  obtain ⟨fuel, hf⟩ := h
  exact intsl_cells hf

theorem num_of {v : Value} (hv : Value.okWide Try.prog W .any 0 3 v) (h : DataW.Trod enc Try.prog W 0 (fun _ => true) true 3 v d ps) : ∃ n : Int, v = .int .i64 n := by
  obtain ⟨fuel, hf⟩ := h
  obtain ⟨n, rfl, _⟩ := okWide_int Try.underlying3 hv
  exact ⟨n, rfl⟩

/-! ### wires -/
abbrev WirA (W : World) : Type := { p : Int × Value × List Int // InAt W p.2.1 p.2.2 }
instance (W : World) : Inhabited (WirA W) := ⟨⟨(0, .slice none 0 0, []), InAt.nil W⟩⟩
def wirL (W : World) (p : WirA W) : List Value := [.int .i64 p.1.1, p.1.2.1]

theorem wire_cells {fuel : Nat} {cs : List Value} {x : DataW H × List MemPlace} (h : DataW.trod enc Try.prog W 0 (fun _ => true) true fuel 122 cs = some x) : ∃ a : WirA W, cs = wirL W a := by
  obtain ⟨n, hl, parts, _, hx⟩ := fieldOf Try.underlying122 h
  rw [cells_wire] at hl
  obtain ⟨y0, h0, _⟩ : ∃ y, DataW.trod enc Try.prog W 0 (fun _ => true) true n 3 ((cs.drop 0).take (Try.prog.cellsOf 3)) = some y ∧ parts[0]? = some y.1 := hx 0 _ rfl
  rw [cells_int] at h0
  obtain ⟨x0, e0⟩ := intAt Try.underlying3 h0
  obtain ⟨y1, h1, _⟩ : ∃ y, DataW.trod enc Try.prog W 0 (fun _ => true) true n 22 ((cs.drop 1).take (Try.prog.cellsOf 22)) = some y ∧ parts[1]? = some y.1 := hx 1 _ rfl
  rw [cells_ints] at h1
  match cs, hl with
  | [c0, c1], _ =>
    simp at e0
    subst e0
    obtain ⟨xs, hxs, _⟩ := intsl_cells (v := c1) (by simpa using h1)
    exact ⟨⟨(x0, c1, xs), hxs⟩, rfl⟩

theorem wires_cells {fuel : Nat} {v : Value} {x : DataW H × List MemPlace} (h : DataW.trod enc Try.prog W 0 (fun _ => true) true fuel 23 [v] = some x) : ∃ ws, WsAt W v ws := by
  obtain ⟨xs, ⟨a, cap, hv, h1, h2, h3⟩, _⟩ := elemsOf (f := wirL W) Try.underlying23 cells_wire (by decide) (fun _ => rfl) (fun _ _ _ h => wire_cells h) h
  refine ⟨xs.map fun p => ⟨p.1.1, p.1.2.2⟩, a, cap, by rw [List.length_map]; exact hv, by rw [List.length_map]; exact h1, h2, fun hp => ?_⟩
  rw [List.length_map] at hp
  obtain ⟨b, off, e, hb, hc⟩ := h3 hp
  refine ⟨b, off, e, hb, fun i hi => ?_⟩
  rw [List.length_map] at hi
  have hx : xs[i]? = some xs[i] := List.getElem?_eq_getElem hi
  have hg : (xs.map fun p => (⟨p.1.1, p.1.2.2⟩ : Wir)).getD i Wir.zero = ⟨xs[i].1.1, xs[i].1.2.2⟩ := by
    rw [List.getD_eq_getElem?_getD, List.getElem?_map, hx]; rfl
  rw [hg]
  exact ⟨hc i _ hx 0 _ rfl, _, hc i _ hx 1 _ rfl, xs[i].2⟩

theorem circuit_cells {fuel : Nat} {cs : List Value} {x : DataW H × List MemPlace} (h : DataW.trod enc Try.prog W 0 (fun _ => true) true fuel 25 cs = some x) : ∃ (c : Cir) (sv wv : Value), cs = [.int .i64 c.hz, sv, wv] ∧ CirAt W sv wv c := by
  obtain ⟨n, hl, parts, _, hx⟩ := fieldOf Try.underlying25 h
  rw [cells_circuit] at hl
  obtain ⟨y0, h0, _⟩ : ∃ y, DataW.trod enc Try.prog W 0 (fun _ => true) true n 3 ((cs.drop 0).take (Try.prog.cellsOf 3)) = some y ∧ parts[0]? = some y.1 := hx 0 _ rfl
  rw [cells_int] at h0
  obtain ⟨x0, e0⟩ := intAt Try.underlying3 h0
  obtain ⟨y1, h1, _⟩ : ∃ y, DataW.trod enc Try.prog W 0 (fun _ => true) true n 22 ((cs.drop 1).take (Try.prog.cellsOf 22)) = some y ∧ parts[1]? = some y.1 := hx 1 _ rfl
  rw [cells_ints] at h1
  obtain ⟨y2, h2, _⟩ : ∃ y, DataW.trod enc Try.prog W 0 (fun _ => true) true n 23 ((cs.drop 2).take (Try.prog.cellsOf 23)) = some y ∧ parts[2]? = some y.1 := hx 2 _ rfl
  rw [cells_wires] at h2
  match cs, hl with
  | [c0, c1, c2], _ =>
    simp at e0
    subst e0
    obtain ⟨xs, hxs, _⟩ := intsl_cells (v := c1) (by simpa using h1)
    obtain ⟨ws, hws⟩ := wires_cells (v := c2) (by simpa using h2)
    exact ⟨⟨x0, xs, ws⟩, c1, c2, rfl, hxs, hws⟩

theorem cir_of {v : Value} (hv : Value.okWide Try.prog W .any 0 25 v) (h : DataW.Trod enc Try.prog W 0 (fun _ => true) true 25 v d ps) : ∃ (c : Cir) (sv wv : Value), v = cirV c sv wv ∧ CirAt W sv wv c := by
  obtain ⟨cs, rfl, _⟩ := okWide_struct Try.underlying25 hv
  obtain ⟨fuel, hf⟩ := h
  obtain ⟨l⟩ := cs
  obtain ⟨c, sv, wv, e, hc⟩ := circuit_cells hf
  simp only [Value.cells] at e
  subst e
  exact ⟨c, sv, wv, rfl, hc⟩

theorem sta_of {v : Value} (hv : Value.okWide Try.prog W .any 0 27 v) (h : DataW.Trod enc Try.prog W 0 (fun _ => true) true 27 v d ps) : ∃ a b e : Int, v = .agg #[.int .i64 a, .int .i64 b, .int .i64 e] := by
  obtain ⟨cs, rfl, _⟩ := okWide_struct Try.underlying27 hv
  obtain ⟨fuel, hf⟩ := h
  obtain ⟨l⟩ := cs
  obtain ⟨n, hl, parts, _, hx⟩ := fieldOf Try.underlying27 hf
  simp only [Value.cells] at hl hx
  rw [cells_state] at hl
  obtain ⟨y0, h0, _⟩ : ∃ y, DataW.trod enc Try.prog W 0 (fun _ => true) true n 3 ((l.drop 0).take (Try.prog.cellsOf 3)) = some y ∧ parts[0]? = some y.1 := hx 0 _ rfl
  rw [cells_int] at h0
  obtain ⟨x0, e0⟩ := intAt Try.underlying3 h0
  obtain ⟨y1, h1, _⟩ : ∃ y, DataW.trod enc Try.prog W 0 (fun _ => true) true n 3 ((l.drop 1).take (Try.prog.cellsOf 3)) = some y ∧ parts[1]? = some y.1 := hx 1 _ rfl
  rw [cells_int] at h1
  obtain ⟨x1, e1⟩ := intAt Try.underlying3 h1
  obtain ⟨y2, h2, _⟩ : ∃ y, DataW.trod enc Try.prog W 0 (fun _ => true) true n 3 ((l.drop 2).take (Try.prog.cellsOf 3)) = some y ∧ parts[2]? = some y.1 := hx 2 _ rfl
  rw [cells_int] at h2
  obtain ⟨x2, e2⟩ := intAt Try.underlying3 h2
  match l, hl with
  | [c0, c1, c2], _ =>
    simp at e0 e1 e2
    subst e0 e1 e2
    exact ⟨x0, x1, x2, rfl⟩

end

end Go.Proofs.Ytbiihhokcmdlhaa

/- How trials and rotas read, as arguments of layer 3's statements. -/
namespace Go.Proofs.Ytbiihhokcmdlhaa
open Go.ChangeShapes Go.WideShapes Go.ChangeAt Go.RowKit Go.Deep
set_option maxRecDepth 100000

section
variable {H : Type} {enc : TypeId × Value → H} {W : World} {d : DataW H} {ps : List MemPlace}

theorem tri_cells {fuel : Nat} {cs : List Value} {x : DataW H × List MemPlace} (h : DataW.trod enc Try.prog W 0 (fun _ => true) true fuel 138 cs = some x) : ∃ t : Tri, cs = triL t := by
  obtain ⟨n, hl, parts, _, hx⟩ := fieldOf Try.underlying138 h
  rw [cells_trial] at hl
  obtain ⟨y0, h0, _⟩ : ∃ y, DataW.trod enc Try.prog W 0 (fun _ => true) true n 3 ((cs.drop 0).take (Try.prog.cellsOf 3)) = some y ∧ parts[0]? = some y.1 := hx 0 _ rfl
  rw [cells_int] at h0
  obtain ⟨x0, e0⟩ := intAt Try.underlying3 h0
  obtain ⟨y1, h1, _⟩ : ∃ y, DataW.trod enc Try.prog W 0 (fun _ => true) true n 3 ((cs.drop 1).take (Try.prog.cellsOf 3)) = some y ∧ parts[1]? = some y.1 := hx 1 _ rfl
  rw [cells_int] at h1
  obtain ⟨x1, e1⟩ := intAt Try.underlying3 h1
  match cs, hl with
  | [c0, c1], _ =>
    simp at e0 e1
    subst e0 e1
    exact ⟨⟨x0, x1⟩, rfl⟩

theorem trisl_cells {fuel : Nat} {v : Value} {x : DataW H × List MemPlace} (h : DataW.trod enc Try.prog W 0 (fun _ => true) true fuel 46 [v] = some x) : ∃ xs, TrAt W v xs ∧ SlShape x.1 xs.length :=
  elemsOf Try.underlying46 cells_trial (by decide) (fun _ => rfl) (fun _ _ _ h => tri_cells h) h

theorem tris_of {v : Value} (hv : Value.okWide Try.prog W .any 0 46 v) (h : DataW.Trod enc Try.prog W 0 (fun _ => true) true 46 v d ps) : ∃ xs, TrAt W v xs ∧ SlShape d xs.length := by
  obtain ⟨a, n, c, rfl⟩ := okWide_slice Try.underlying46 hv
  obtain ⟨fuel, hf⟩ := h
  exact trisl_cells hf

/-! ### nights -/
abbrev IntA (W : World) : Type := { p : Value × List Int // InAt W p.1 p.2 }
instance (W : World) : Inhabited (IntA W) := ⟨⟨(.slice none 0 0, []), InAt.nil W⟩⟩
def intaL (W : World) (p : IntA W) : List Value := [p.1.1]

theorem night_cells {fuel : Nat} {cs : List Value} {x : DataW H × List MemPlace} (h : DataW.trod enc Try.prog W 0 (fun _ => true) true fuel 22 cs = some x) : ∃ a : IntA W, cs = intaL W a := by
  have hl : cs.length = 1 := by
    cases fuel with
    | zero => simp [DataW.trod] at h
    | succ n =>
      match cs, h with
      | [], h => simp [DataW.trod, Try.underlying22] at h
      | [c], _ => rfl
      | c :: c' :: r, h => simp [DataW.trod, Try.underlying22] at h
  match cs, hl with
  | [c0], _ =>
    obtain ⟨xs, hxs, _⟩ := intsl_cells (v := c0) h
    exact ⟨⟨(c0, xs), hxs⟩, rfl⟩

theorem nights_cells {fuel : Nat} {v : Value} {x : DataW H × List MemPlace} (h : DataW.trod enc Try.prog W 0 (fun _ => true) true fuel 50 [v] = some x) : ∃ ns, NsAt W v ns := by
  obtain ⟨xs, ⟨a, cap, hv, h1, h2, h3⟩, _⟩ := elemsOf (f := intaL W) Try.underlying50 cells_ints (by decide) (fun _ => rfl) (fun _ _ _ h => night_cells h) h
  refine ⟨xs.map fun p => p.1.2, a, cap, by rw [List.length_map]; exact hv, by rw [List.length_map]; exact h1, h2, fun hp => ?_⟩
  rw [List.length_map] at hp
  obtain ⟨b, off, e, hb, hc⟩ := h3 hp
  refine ⟨b, off, e, hb, fun i hi => ?_⟩
  rw [List.length_map] at hi
  have hx : xs[i]? = some xs[i] := List.getElem?_eq_getElem hi
  have hg : (xs.map fun p => p.1.2).getD i [] = xs[i].1.2 := by
    rw [List.getD_eq_getElem?_getD, List.getElem?_map, hx]; rfl
  rw [hg]
  have := hc i _ hx 0 _ rfl
  exact ⟨_, by simpa using this, xs[i].2⟩

theorem rota_cells {fuel : Nat} {cs : List Value} {x : DataW H × List MemPlace} (h : DataW.trod enc Try.prog W 0 (fun _ => true) true fuel 52 cs = some x) : ∃ (r : Rot) (nv : Value), cs = [nv, .int .i64 r.gap] ∧ NsAt W nv r.nights := by
  obtain ⟨n, hl, parts, _, hx⟩ := fieldOf Try.underlying52 h
  rw [cells_rota] at hl
  obtain ⟨y0, h0, _⟩ : ∃ y, DataW.trod enc Try.prog W 0 (fun _ => true) true n 50 ((cs.drop 0).take (Try.prog.cellsOf 50)) = some y ∧ parts[0]? = some y.1 := hx 0 _ rfl
  rw [cells_nights] at h0
  obtain ⟨y1, h1, _⟩ : ∃ y, DataW.trod enc Try.prog W 0 (fun _ => true) true n 3 ((cs.drop 1).take (Try.prog.cellsOf 3)) = some y ∧ parts[1]? = some y.1 := hx 1 _ rfl
  rw [cells_int] at h1
  obtain ⟨x1, e1⟩ := intAt Try.underlying3 h1
  match cs, hl with
  | [c0, c1], _ =>
    simp at e1
    subst e1
    obtain ⟨ns, hns⟩ := nights_cells (v := c0) (by simpa using h0)
    exact ⟨⟨ns, x1⟩, c0, rfl, hns⟩

theorem rot_of {v : Value} (hv : Value.okWide Try.prog W .any 0 52 v) (h : DataW.Trod enc Try.prog W 0 (fun _ => true) true 52 v d ps) : ∃ (r : Rot) (nv : Value), v = rotV r nv ∧ NsAt W nv r.nights := by
  obtain ⟨cs, rfl, _⟩ := okWide_struct Try.underlying52 hv
  obtain ⟨fuel, hf⟩ := h
  obtain ⟨l⟩ := cs
  obtain ⟨r, nv, e, hr⟩ := rota_cells hf
  simp only [Value.cells] at e
  subst e
  exact ⟨r, nv, rfl, hr⟩

end

end Go.Proofs.Ytbiihhokcmdlhaa

/- How trials with a rota, and upsets, read as arguments of layer 3's statements. -/
namespace Go.Proofs.Ytbiihhokcmdlhaa
open Go.ChangeShapes Go.WideShapes Go.ChangeAt Go.RowKit Go.Deep
set_option maxRecDepth 100000

theorem cells_kept : Try.prog.cellsOf 62 = 3 := by kernel_rfl
theorem cells_trials : Try.prog.cellsOf 46 = 1 := by kernel_rfl
theorem cells_upset : Try.prog.cellsOf 79 = 3 := by kernel_rfl
instance : Inhabited Ups := ⟨Ups.zero⟩

section
variable {H : Type} {enc : TypeId × Value → H} {W : World} {d : DataW H} {ps : List MemPlace}

theorem kept_of {v : Value} (hv : Value.okWide Try.prog W .any 0 62 v) (h : DataW.Trod enc Try.prog W 0 (fun _ => true) true 62 v d ps) : ∃ (ts : List Tri) (tv : Value) (r : Rot) (nv : Value), v = .agg #[tv, nv, .int .i64 r.gap] ∧ TrAt W tv ts ∧ NsAt W nv r.nights := by
  obtain ⟨cs, rfl, _⟩ := okWide_struct Try.underlying62 hv
  obtain ⟨fuel, hf⟩ := h
  obtain ⟨l⟩ := cs
  obtain ⟨n, hl, parts, _, hx⟩ := fieldOf Try.underlying62 hf
  simp only [Value.cells] at hl hx
  rw [cells_kept] at hl
  obtain ⟨y0, h0, _⟩ : ∃ y, DataW.trod enc Try.prog W 0 (fun _ => true) true n 46 ((l.drop 0).take (Try.prog.cellsOf 46)) = some y ∧ parts[0]? = some y.1 := hx 0 _ rfl
  rw [cells_trials] at h0
  obtain ⟨y1, h1, _⟩ : ∃ y, DataW.trod enc Try.prog W 0 (fun _ => true) true n 52 ((l.drop 1).take (Try.prog.cellsOf 52)) = some y ∧ parts[1]? = some y.1 := hx 1 _ rfl
  rw [cells_rota] at h1
  match l, hl with
  | [c0, c1, c2], _ =>
    obtain ⟨ts, hts, _⟩ := trisl_cells (v := c0) (by simpa using h0)
    obtain ⟨r, nv, e, hr⟩ := rota_cells (cs := [c1, c2]) (by simpa using h1)
    injection e with e1 e2
    injection e2 with e2
    subst e1 e2
    exact ⟨ts, c0, r, c1, rfl, hts, hr⟩

theorem up_cells {fuel : Nat} {cs : List Value} {x : DataW H × List MemPlace} (h : DataW.trod enc Try.prog W 0 (fun _ => true) true fuel 79 cs = some x) : ∃ t : Ups, cs = upL t := by
  obtain ⟨n, hl, parts, _, hx⟩ := fieldOf Try.underlying79 h
  rw [cells_upset] at hl
  obtain ⟨y0, h0, _⟩ : ∃ y, DataW.trod enc Try.prog W 0 (fun _ => true) true n 3 ((cs.drop 0).take (Try.prog.cellsOf 3)) = some y ∧ parts[0]? = some y.1 := hx 0 _ rfl
  rw [cells_int] at h0
  obtain ⟨x0, e0⟩ := intAt Try.underlying3 h0
  obtain ⟨y1, h1, _⟩ : ∃ y, DataW.trod enc Try.prog W 0 (fun _ => true) true n 3 ((cs.drop 1).take (Try.prog.cellsOf 3)) = some y ∧ parts[1]? = some y.1 := hx 1 _ rfl
  rw [cells_int] at h1
  obtain ⟨x1, e1⟩ := intAt Try.underlying3 h1
  obtain ⟨y2, h2, _⟩ : ∃ y, DataW.trod enc Try.prog W 0 (fun _ => true) true n 3 ((cs.drop 2).take (Try.prog.cellsOf 3)) = some y ∧ parts[2]? = some y.1 := hx 2 _ rfl
  rw [cells_int] at h2
  obtain ⟨x2, e2⟩ := intAt Try.underlying3 h2
  match cs, hl with
  | [c0, c1, c2], _ =>
    simp at e0 e1 e2
    subst e0 e1 e2
    exact ⟨⟨x0, x1, x2⟩, rfl⟩

theorem ups_of {v : Value} (hv : Value.okWide Try.prog W .any 0 63 v) (h : DataW.Trod enc Try.prog W 0 (fun _ => true) true 63 v d ps) : ∃ xs, UpAt W v xs ∧ SlShape d xs.length := by
  obtain ⟨a, n, c, rfl⟩ := okWide_slice Try.underlying63 hv
  obtain ⟨fuel, hf⟩ := h
  exact elemsOf Try.underlying63 cells_upset (by decide) (fun _ => rfl) (fun _ _ _ h => up_cells h) hf

end

end Go.Proofs.Ytbiihhokcmdlhaa
