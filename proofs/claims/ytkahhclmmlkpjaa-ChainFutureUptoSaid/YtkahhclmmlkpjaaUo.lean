/- How the arguments of layer 2's statements read. -/
import Derived.Test.YtkahhclmmlkpjaaGo
import Derived.Test.YtkahhclmmlkpjaaQw
namespace Go.Proofs.Ytkahhclmmlkpjaa
open Go.ChangeShapes Go.WideShapes Go.ChangeAt Go.RowKit Go.Deep
set_option maxRecDepth 100000

theorem cells_int : Try.prog.cellsOf 3 = 1 := by kernel_rfl
theorem cells_bool : Try.prog.cellsOf 4 = 1 := by kernel_rfl
theorem cells_ints : Try.prog.cellsOf 44 = 1 := by kernel_rfl
theorem cells_gaus : Try.prog.cellsOf 24 = 1 := by kernel_rfl
theorem cells_uses : Try.prog.cellsOf 55 = 1 := by kernel_rfl
theorem cells_spans : Try.prog.cellsOf 32 = 1 := by kernel_rfl
instance : Inhabited Gau := ⟨Gau.zero⟩
instance : Inhabited Us := ⟨Us.zero⟩
abbrev chnL (c : Chn) : List Value := [.int .i64 c.n, .int .i64 c.pi, .int .i64 c.li]

abbrev cloL (s : Int × Int × Int × Int × Int) : List Value := [.int .i64 s.1, .int .i64 s.2.1, .int .i64 s.2.2.1, .int .i64 s.2.2.2.1, .int .i64 s.2.2.2.2]
abbrev strL (s : Int × Int × Int) : List Value := [.int .i64 s.1, .int .i64 s.2.1, .int .i64 s.2.2]

section
variable {H : Type} {enc : TypeId × Value → H} {W : World} {d : DataW H} {ps : List MemPlace}

theorem cells_span : Try.prog.cellsOf 37 = 2 := by kernel_rfl
theorem span_cells {fuel : Nat} {cs : List Value} {x : DataW H × List MemPlace} (h : DataW.trod enc Try.prog W 0 (fun _ => true) true fuel 37 cs = some x) : ∃ a : Spn, cs = spnL a := by
  obtain ⟨n, hl, parts, _, hx⟩ := fieldOf Try.underlying37 h
  rw [cells_span] at hl
  obtain ⟨y0, h0, _⟩ : ∃ y, DataW.trod enc Try.prog W 0 (fun _ => true) true n 3 ((cs.drop 0).take (Try.prog.cellsOf 3)) = some y ∧ parts[0]? = some y.1 := hx 0 _ rfl
  rw [cells_int] at h0
  obtain ⟨x0, e0⟩ := intAt Try.underlying3 h0
  obtain ⟨y1, h1, _⟩ : ∃ y, DataW.trod enc Try.prog W 0 (fun _ => true) true n 3 ((cs.drop 1).take (Try.prog.cellsOf 3)) = some y ∧ parts[1]? = some y.1 := hx 1 _ rfl
  rw [cells_int] at h1
  obtain ⟨x1, e1⟩ := intAt Try.underlying3 h1
  match cs, hl with
  | [c0, c1], _ =>
    simp at e0 e1
    subst e0 e1
    exact ⟨(x0, x1), rfl⟩

theorem cells_gau : Try.prog.cellsOf 74 = 4 := by kernel_rfl
theorem gau_cells {fuel : Nat} {cs : List Value} {x : DataW H × List MemPlace} (h : DataW.trod enc Try.prog W 0 (fun _ => true) true fuel 74 cs = some x) : ∃ a : Gau, cs = gauL a := by
  obtain ⟨n, hl, parts, _, hx⟩ := fieldOf Try.underlying74 h
  rw [cells_gau] at hl
  obtain ⟨y0, h0, _⟩ : ∃ y, DataW.trod enc Try.prog W 0 (fun _ => true) true n 3 ((cs.drop 0).take (Try.prog.cellsOf 3)) = some y ∧ parts[0]? = some y.1 := hx 0 _ rfl
  rw [cells_int] at h0
  obtain ⟨x0, e0⟩ := intAt Try.underlying3 h0
  obtain ⟨y1, h1, _⟩ : ∃ y, DataW.trod enc Try.prog W 0 (fun _ => true) true n 3 ((cs.drop 1).take (Try.prog.cellsOf 3)) = some y ∧ parts[1]? = some y.1 := hx 1 _ rfl
  rw [cells_int] at h1
  obtain ⟨x1, e1⟩ := intAt Try.underlying3 h1
  obtain ⟨y2, h2, _⟩ : ∃ y, DataW.trod enc Try.prog W 0 (fun _ => true) true n 37 ((cs.drop 2).take (Try.prog.cellsOf 37)) = some y ∧ parts[2]? = some y.1 := hx 2 _ rfl
  rw [cells_span] at h2
  obtain ⟨⟨x2a, x2b⟩, e2⟩ := span_cells h2
  match cs, hl with
  | [c0, c1, c2, c3], _ =>
    simp at e0 e1 e2
    obtain ⟨e2, e2'⟩ := e2
    subst e0 e1 e2 e2'
    exact ⟨⟨x0, x1, x2a, x2b⟩, rfl⟩

theorem cells_use : Try.prog.cellsOf 89 = 6 := by kernel_rfl
theorem use_cells {fuel : Nat} {cs : List Value} {x : DataW H × List MemPlace} (h : DataW.trod enc Try.prog W 0 (fun _ => true) true fuel 89 cs = some x) : ∃ a : Us, cs = usL a := by
  obtain ⟨n, hl, parts, _, hx⟩ := fieldOf Try.underlying89 h
  rw [cells_use] at hl
  obtain ⟨y0, h0, _⟩ : ∃ y, DataW.trod enc Try.prog W 0 (fun _ => true) true n 3 ((cs.drop 0).take (Try.prog.cellsOf 3)) = some y ∧ parts[0]? = some y.1 := hx 0 _ rfl
  rw [cells_int] at h0
  obtain ⟨x0, e0⟩ := intAt Try.underlying3 h0
  obtain ⟨y1, h1, _⟩ : ∃ y, DataW.trod enc Try.prog W 0 (fun _ => true) true n 3 ((cs.drop 1).take (Try.prog.cellsOf 3)) = some y ∧ parts[1]? = some y.1 := hx 1 _ rfl
  rw [cells_int] at h1
  obtain ⟨x1, e1⟩ := intAt Try.underlying3 h1
  obtain ⟨y2, h2, _⟩ : ∃ y, DataW.trod enc Try.prog W 0 (fun _ => true) true n 3 ((cs.drop 2).take (Try.prog.cellsOf 3)) = some y ∧ parts[2]? = some y.1 := hx 2 _ rfl
  rw [cells_int] at h2
  obtain ⟨x2, e2⟩ := intAt Try.underlying3 h2
  obtain ⟨y3, h3, _⟩ : ∃ y, DataW.trod enc Try.prog W 0 (fun _ => true) true n 4 ((cs.drop 3).take (Try.prog.cellsOf 4)) = some y ∧ parts[3]? = some y.1 := hx 3 _ rfl
  rw [cells_bool] at h3
  obtain ⟨x3, e3⟩ := boolAt Try.underlying4 h3
  obtain ⟨y4, h4, _⟩ : ∃ y, DataW.trod enc Try.prog W 0 (fun _ => true) true n 37 ((cs.drop 4).take (Try.prog.cellsOf 37)) = some y ∧ parts[4]? = some y.1 := hx 4 _ rfl
  rw [cells_span] at h4
  obtain ⟨⟨x4a, x4b⟩, e4⟩ := span_cells h4
  match cs, hl with
  | [c0, c1, c2, c3, c4, c5], _ =>
    simp at e0 e1 e2 e3 e4
    obtain ⟨e4, e4'⟩ := e4
    subst e0 e1 e2 e3 e4 e4'
    exact ⟨⟨x0, x1, x2, x3, x4a, x4b⟩, rfl⟩

theorem cells_chn : Try.prog.cellsOf 23 = 3 := by kernel_rfl
theorem chn_cells {fuel : Nat} {cs : List Value} {x : DataW H × List MemPlace} (h : DataW.trod enc Try.prog W 0 (fun _ => true) true fuel 23 cs = some x) : ∃ a : Chn, cs = chnL a := by
  obtain ⟨n, hl, parts, _, hx⟩ := fieldOf Try.underlying23 h
  rw [cells_chn] at hl
  obtain ⟨y0, h0, _⟩ : ∃ y, DataW.trod enc Try.prog W 0 (fun _ => true) true n 3 ((cs.drop 0).take (Try.prog.cellsOf 3)) = some y ∧ parts[0]? = some y.1 := hx 0 _ rfl
  rw [cells_int] at h0
  obtain ⟨x0, e0⟩ := intAt Try.underlying3 h0
  obtain ⟨y1, h1, _⟩ : ∃ y, DataW.trod enc Try.prog W 0 (fun _ => true) true n 3 ((cs.drop 1).take (Try.prog.cellsOf 3)) = some y ∧ parts[1]? = some y.1 := hx 1 _ rfl
  rw [cells_int] at h1
  obtain ⟨x1, e1⟩ := intAt Try.underlying3 h1
  obtain ⟨y2, h2, _⟩ : ∃ y, DataW.trod enc Try.prog W 0 (fun _ => true) true n 3 ((cs.drop 2).take (Try.prog.cellsOf 3)) = some y ∧ parts[2]? = some y.1 := hx 2 _ rfl
  rw [cells_int] at h2
  obtain ⟨x2, e2⟩ := intAt Try.underlying3 h2
  match cs, hl with
  | [c0, c1, c2], _ =>
    simp at e0 e1 e2
    subst e0 e1 e2
    exact ⟨⟨x0, x1, x2⟩, rfl⟩

theorem cells_str : Try.prog.cellsOf 26 = 3 := by kernel_rfl
theorem str_cells {fuel : Nat} {cs : List Value} {x : DataW H × List MemPlace} (h : DataW.trod enc Try.prog W 0 (fun _ => true) true fuel 26 cs = some x) : ∃ a : (Int × Int × Int), cs = strL a := by
  obtain ⟨n, hl, parts, _, hx⟩ := fieldOf Try.underlying26 h
  rw [cells_str] at hl
  obtain ⟨y0, h0, _⟩ : ∃ y, DataW.trod enc Try.prog W 0 (fun _ => true) true n 3 ((cs.drop 0).take (Try.prog.cellsOf 3)) = some y ∧ parts[0]? = some y.1 := hx 0 _ rfl
  rw [cells_int] at h0
  obtain ⟨x0, e0⟩ := intAt Try.underlying3 h0
  obtain ⟨y1, h1, _⟩ : ∃ y, DataW.trod enc Try.prog W 0 (fun _ => true) true n 3 ((cs.drop 1).take (Try.prog.cellsOf 3)) = some y ∧ parts[1]? = some y.1 := hx 1 _ rfl
  rw [cells_int] at h1
  obtain ⟨x1, e1⟩ := intAt Try.underlying3 h1
  obtain ⟨y2, h2, _⟩ : ∃ y, DataW.trod enc Try.prog W 0 (fun _ => true) true n 3 ((cs.drop 2).take (Try.prog.cellsOf 3)) = some y ∧ parts[2]? = some y.1 := hx 2 _ rfl
  rw [cells_int] at h2
  obtain ⟨x2, e2⟩ := intAt Try.underlying3 h2
  match cs, hl with
  | [c0, c1, c2], _ =>
    simp at e0 e1 e2
    subst e0 e1 e2
    exact ⟨(x0, x1, x2), rfl⟩

theorem uses_cells {fuel : Nat} {v : Value} {x : DataW H × List MemPlace} (h : DataW.trod enc Try.prog W 0 (fun _ => true) true fuel 55 [v] = some x) : ∃ xs, UsAt W v xs ∧ SlShape x.1 xs.length :=
  elemsOf Try.underlying55 cells_use (by decide) (fun _ => rfl) (fun _ _ _ h => use_cells h) h
theorem gaus_cells {fuel : Nat} {v : Value} {x : DataW H × List MemPlace} (h : DataW.trod enc Try.prog W 0 (fun _ => true) true fuel 24 [v] = some x) : ∃ xs, GaAt W v xs ∧ SlShape x.1 xs.length :=
  elemsOf Try.underlying24 cells_gau (by decide) (fun _ => rfl) (fun _ _ _ h => gau_cells h) h
theorem spans_cells {fuel : Nat} {v : Value} {x : DataW H × List MemPlace} (h : DataW.trod enc Try.prog W 0 (fun _ => true) true fuel 32 [v] = some x) : ∃ xs, SpAt W v xs ∧ SlShape x.1 xs.length :=
  elemsOf Try.underlying32 cells_span (by decide) (fun _ => rfl) (fun _ _ _ h => span_cells h) h
theorem intsl_cells {fuel : Nat} {v : Value} {x : DataW H × List MemPlace} (h : DataW.trod enc Try.prog W 0 (fun _ => true) true fuel 44 [v] = some x) : ∃ xs, InAt W v xs ∧ SlShape x.1 xs.length :=
  intsOf Try.underlying44 Try.underlying3 cells_int h

theorem uses_of {v : Value} (hv : Value.okWide Try.prog W .any 0 55 v) (h : DataW.Trod enc Try.prog W 0 (fun _ => true) true 55 v d ps) : ∃ xs, UsAt W v xs ∧ SlShape d xs.length := by
  obtain ⟨a, n, c, rfl⟩ := okWide_slice Try.underlying55 hv
  obtain ⟨fuel, hf⟩ := h
  exact uses_cells hf
theorem gaus_of {v : Value} (hv : Value.okWide Try.prog W .any 0 24 v) (h : DataW.Trod enc Try.prog W 0 (fun _ => true) true 24 v d ps) : ∃ xs, GaAt W v xs ∧ SlShape d xs.length := by
  obtain ⟨a, n, c, rfl⟩ := okWide_slice Try.underlying24 hv
  obtain ⟨fuel, hf⟩ := h
  exact gaus_cells hf
theorem ints_of {v : Value} (hv : Value.okWide Try.prog W .any 0 44 v) (h : DataW.Trod enc Try.prog W 0 (fun _ => true) true 44 v d ps) : ∃ xs, InAt W v xs ∧ SlShape d xs.length := by
  obtain ⟨a, n, c, rfl⟩ := okWide_slice Try.underlying44 hv
  obtain ⟨fuel, hf⟩ := h
  exact intsl_cells hf
theorem chn_of {v : Value} (hv : Value.okWide Try.prog W .any 0 23 v) (h : DataW.Trod enc Try.prog W 0 (fun _ => true) true 23 v d ps) : ∃ c : Chn, v = chnV c := by
  obtain ⟨cs, rfl, _⟩ := okWide_struct Try.underlying23 hv
  obtain ⟨fuel, hf⟩ := h
  obtain ⟨l⟩ := cs
  obtain ⟨c, e⟩ := chn_cells hf
  simp only [Value.cells] at e
  subst e
  exact ⟨c, rfl⟩
theorem str_of {v : Value} (hv : Value.okWide Try.prog W .any 0 26 v) (h : DataW.Trod enc Try.prog W 0 (fun _ => true) true 26 v d ps) : ∃ a b m : Int, v = .agg #[.int .i64 a, .int .i64 b, .int .i64 m] := by
  obtain ⟨cs, rfl, _⟩ := okWide_struct Try.underlying26 hv
  obtain ⟨fuel, hf⟩ := h
  obtain ⟨l⟩ := cs
  obtain ⟨⟨a, b, m⟩, e⟩ := str_cells hf
  simp only [Value.cells] at e
  subst e
  exact ⟨a, b, m, rfl⟩
theorem gau_of {v : Value} (hv : Value.okWide Try.prog W .any 0 74 v) (h : DataW.Trod enc Try.prog W 0 (fun _ => true) true 74 v d ps) : ∃ g : Gau, v = gauV g := by
  obtain ⟨cs, rfl, _⟩ := okWide_struct Try.underlying74 hv
  obtain ⟨fuel, hf⟩ := h
  obtain ⟨l⟩ := cs
  obtain ⟨c, e⟩ := gau_cells hf
  simp only [Value.cells] at e
  subst e
  exact ⟨c, rfl⟩

theorem cells_prt : Try.prog.cellsOf 54 = 4 := by kernel_rfl
theorem prt_of {v : Value} (hv : Value.okWide Try.prog W .any 0 54 v) (h : DataW.Trod enc Try.prog W 0 (fun _ => true) true 54 v d ps) :
    ∃ (P : Prt) (bv : Value), v = prtV P bv ∧ SpAt W bv P.rs ∧ ∃ parts d', d = .agg parts ∧ parts[0]? = some d' ∧ SlShape d' P.rs.length := by
  obtain ⟨cs, rfl, _⟩ := okWide_struct Try.underlying54 hv
  obtain ⟨fuel, hf⟩ := h
  obtain ⟨n, hl, parts, hd, hx⟩ := fieldOf Try.underlying54 hf
  obtain ⟨l⟩ := cs
  simp only [Value.cells] at hl hx
  rw [cells_prt] at hl
  obtain ⟨y0, h0, p0⟩ : ∃ y, DataW.trod enc Try.prog W 0 (fun _ => true) true n 32 ((l.drop 0).take (Try.prog.cellsOf 32)) = some y ∧ parts[0]? = some y.1 := hx 0 _ rfl
  obtain ⟨y1, h1, _⟩ : ∃ y, DataW.trod enc Try.prog W 0 (fun _ => true) true n 3 ((l.drop 1).take (Try.prog.cellsOf 3)) = some y ∧ parts[1]? = some y.1 := hx 1 _ rfl
  obtain ⟨y2, h2, _⟩ : ∃ y, DataW.trod enc Try.prog W 0 (fun _ => true) true n 3 ((l.drop 2).take (Try.prog.cellsOf 3)) = some y ∧ parts[2]? = some y.1 := hx 2 _ rfl
  obtain ⟨y3, h3, _⟩ : ∃ y, DataW.trod enc Try.prog W 0 (fun _ => true) true n 3 ((l.drop 3).take (Try.prog.cellsOf 3)) = some y ∧ parts[3]? = some y.1 := hx 3 _ rfl
  rw [cells_spans] at h0
  rw [cells_int] at h1 h2 h3
  obtain ⟨wo, e1⟩ := intAt Try.underlying3 h1
  obtain ⟨tu, e2⟩ := intAt Try.underlying3 h2
  obtain ⟨ag, e3⟩ := intAt Try.underlying3 h3
  match l, hl with
  | [c0, c1, c2, c3], _ =>
    simp at e1 e2 e3
    subst e1 e2 e3
    obtain ⟨rs, hr, hs⟩ := spans_cells (by simpa using h0)
    exact ⟨⟨rs, wo, tu, ag⟩, c0, rfl, hr, parts, _, hd, p0, hs⟩

theorem cells_side : Try.prog.cellsOf 50 = 4 := by kernel_rfl
theorem side_of {v : Value} (hv : Value.okWide Try.prog W .any 0 50 v) (h : DataW.Trod enc Try.prog W 0 (fun _ => true) true 50 v d ps) :
    ∃ (c : Chn) (gv : Value) (xs : List Gau), v = .agg #[.int .i64 c.n, .int .i64 c.pi, .int .i64 c.li, gv] ∧ GaAt W gv xs ∧ ∃ parts d', d = .agg parts ∧ parts[1]? = some d' ∧ SlShape d' xs.length := by
  obtain ⟨cs, rfl, _⟩ := okWide_struct Try.underlying50 hv
  obtain ⟨fuel, hf⟩ := h
  obtain ⟨n, hl, parts, hd, hx⟩ := fieldOf Try.underlying50 hf
  obtain ⟨l⟩ := cs
  simp only [Value.cells] at hl hx
  rw [cells_side] at hl
  obtain ⟨y0, h0, _⟩ : ∃ y, DataW.trod enc Try.prog W 0 (fun _ => true) true n 23 ((l.drop 0).take (Try.prog.cellsOf 23)) = some y ∧ parts[0]? = some y.1 := hx 0 _ rfl
  obtain ⟨y1, h1, p1⟩ : ∃ y, DataW.trod enc Try.prog W 0 (fun _ => true) true n 24 ((l.drop 3).take (Try.prog.cellsOf 24)) = some y ∧ parts[1]? = some y.1 := hx 1 _ rfl
  rw [cells_chn] at h0
  rw [cells_gaus] at h1
  obtain ⟨c, e0⟩ := chn_cells h0
  match l, hl with
  | [c0, c1, c2, c3], _ =>
    simp at e0
    obtain ⟨rfl, rfl, rfl⟩ := e0
    obtain ⟨xs, hr, hs⟩ := gaus_cells (by simpa using h1)
    exact ⟨c, c3, xs, rfl, hr, parts, _, hd, p1, hs⟩

theorem cells_further : Try.prog.cellsOf 66 = 3 := by kernel_rfl
theorem further_of {v : Value} (hv : Value.okWide Try.prog W .any 0 66 v) (h : DataW.Trod enc Try.prog W 0 (fun _ => true) true 66 v d ps) :
    ∃ (pv : Value) (xs : List Us) (a b : Int), v = .agg #[pv, .int .i64 a, .int .i64 b] ∧ UsAt W pv xs ∧ ∃ parts d', d = .agg parts ∧ parts[0]? = some d' ∧ SlShape d' xs.length := by
  obtain ⟨cs, rfl, _⟩ := okWide_struct Try.underlying66 hv
  obtain ⟨fuel, hf⟩ := h
  obtain ⟨n, hl, parts, hd, hx⟩ := fieldOf Try.underlying66 hf
  obtain ⟨l⟩ := cs
  simp only [Value.cells] at hl hx
  rw [cells_further] at hl
  obtain ⟨y0, h0, p0⟩ : ∃ y, DataW.trod enc Try.prog W 0 (fun _ => true) true n 55 ((l.drop 0).take (Try.prog.cellsOf 55)) = some y ∧ parts[0]? = some y.1 := hx 0 _ rfl
  obtain ⟨y1, h1, _⟩ : ∃ y, DataW.trod enc Try.prog W 0 (fun _ => true) true n 3 ((l.drop 1).take (Try.prog.cellsOf 3)) = some y ∧ parts[1]? = some y.1 := hx 1 _ rfl
  obtain ⟨y2, h2, _⟩ : ∃ y, DataW.trod enc Try.prog W 0 (fun _ => true) true n 3 ((l.drop 2).take (Try.prog.cellsOf 3)) = some y ∧ parts[2]? = some y.1 := hx 2 _ rfl
  rw [cells_uses] at h0
  rw [cells_int] at h1 h2
  obtain ⟨a, e1⟩ := intAt Try.underlying3 h1
  obtain ⟨b, e2⟩ := intAt Try.underlying3 h2
  match l, hl with
  | [c0, c1, c2], _ =>
    simp at e1 e2
    subst e1 e2
    obtain ⟨xs, hr, hs⟩ := uses_cells (by simpa using h0)
    exact ⟨c0, xs, a, b, rfl, hr, parts, _, hd, p0, hs⟩

theorem cells_planned : Try.prog.cellsOf 84 = 2 := by kernel_rfl
theorem planned_of {v : Value} (hv : Value.okWide Try.prog W .any 0 84 v) (h : DataW.Trod enc Try.prog W 0 (fun _ => true) true 84 v d ps) :
    ∃ (pv wv : Value) (xs : List Us) (ws : List Int), v = .agg #[pv, wv] ∧ UsAt W pv xs ∧ InAt W wv ws ∧ ∃ parts d', d = .agg parts ∧ parts[0]? = some d' ∧ SlShape d' xs.length := by
  obtain ⟨cs, rfl, _⟩ := okWide_struct Try.underlying84 hv
  obtain ⟨fuel, hf⟩ := h
  obtain ⟨n, hl, parts, hd, hx⟩ := fieldOf Try.underlying84 hf
  obtain ⟨l⟩ := cs
  simp only [Value.cells] at hl hx
  rw [cells_planned] at hl
  obtain ⟨y0, h0, p0⟩ : ∃ y, DataW.trod enc Try.prog W 0 (fun _ => true) true n 55 ((l.drop 0).take (Try.prog.cellsOf 55)) = some y ∧ parts[0]? = some y.1 := hx 0 _ rfl
  obtain ⟨y1, h1, _⟩ : ∃ y, DataW.trod enc Try.prog W 0 (fun _ => true) true n 44 ((l.drop 1).take (Try.prog.cellsOf 44)) = some y ∧ parts[1]? = some y.1 := hx 1 _ rfl
  rw [cells_uses] at h0
  rw [cells_ints] at h1
  match l, hl with
  | [c0, c1], _ =>
    obtain ⟨xs, hr, hs⟩ := uses_cells (by simpa using h0)
    obtain ⟨ws, hw, _⟩ := intsl_cells (by simpa using h1)
    exact ⟨c0, c1, xs, ws, rfl, hr, hw, parts, _, hd, p0, hs⟩

theorem cells_lens : Try.prog.cellsOf 79 = 3 := by kernel_rfl
theorem lens_of {v : Value} (hv : Value.okWide Try.prog W .any 0 79 v) (h : DataW.Trod enc Try.prog W 0 (fun _ => true) true 79 v d ps) :
    ∃ (av bv : Value) (xs ys : List Int) (e : Int), v = .agg #[av, bv, .int .i64 e] ∧ InAt W av xs ∧ InAt W bv ys := by
  obtain ⟨cs, rfl, _⟩ := okWide_struct Try.underlying79 hv
  obtain ⟨fuel, hf⟩ := h
  obtain ⟨n, hl, parts, hd, hx⟩ := fieldOf Try.underlying79 hf
  obtain ⟨l⟩ := cs
  simp only [Value.cells] at hl hx
  rw [cells_lens] at hl
  obtain ⟨y0, h0, _⟩ : ∃ y, DataW.trod enc Try.prog W 0 (fun _ => true) true n 44 ((l.drop 0).take (Try.prog.cellsOf 44)) = some y ∧ parts[0]? = some y.1 := hx 0 _ rfl
  obtain ⟨y1, h1, _⟩ : ∃ y, DataW.trod enc Try.prog W 0 (fun _ => true) true n 44 ((l.drop 1).take (Try.prog.cellsOf 44)) = some y ∧ parts[1]? = some y.1 := hx 1 _ rfl
  obtain ⟨y2, h2, _⟩ : ∃ y, DataW.trod enc Try.prog W 0 (fun _ => true) true n 3 ((l.drop 2).take (Try.prog.cellsOf 3)) = some y ∧ parts[2]? = some y.1 := hx 2 _ rfl
  rw [cells_ints] at h0 h1
  rw [cells_int] at h2
  obtain ⟨e, e2⟩ := intAt Try.underlying3 h2
  match l, hl with
  | [c0, c1, c2], _ =>
    simp at e2
    subst e2
    obtain ⟨xs, hr, _⟩ := intsl_cells (by simpa using h0)
    obtain ⟨ys, hs, _⟩ := intsl_cells (by simpa using h1)
    exact ⟨c0, c1, xs, ys, e, rfl, hr, hs⟩

theorem cells_clo : Try.prog.cellsOf 87 = 5 := by kernel_rfl
theorem clo_cells {fuel : Nat} {cs : List Value} {x : DataW H × List MemPlace} (h : DataW.trod enc Try.prog W 0 (fun _ => true) true fuel 87 cs = some x) : ∃ a : (Int × Int × Int × Int × Int), cs = cloL a := by
  obtain ⟨n, hl, parts, _, hx⟩ := fieldOf Try.underlying87 h
  rw [cells_clo] at hl
  obtain ⟨y0, h0, _⟩ : ∃ y, DataW.trod enc Try.prog W 0 (fun _ => true) true n 3 ((cs.drop 0).take (Try.prog.cellsOf 3)) = some y ∧ parts[0]? = some y.1 := hx 0 _ rfl
  rw [cells_int] at h0
  obtain ⟨x0, e0⟩ := intAt Try.underlying3 h0
  obtain ⟨y1, h1, _⟩ : ∃ y, DataW.trod enc Try.prog W 0 (fun _ => true) true n 37 ((cs.drop 1).take (Try.prog.cellsOf 37)) = some y ∧ parts[1]? = some y.1 := hx 1 _ rfl
  rw [cells_span] at h1
  obtain ⟨⟨x1a, x1b⟩, e1⟩ := span_cells h1
  obtain ⟨y2, h2, _⟩ : ∃ y, DataW.trod enc Try.prog W 0 (fun _ => true) true n 3 ((cs.drop 3).take (Try.prog.cellsOf 3)) = some y ∧ parts[2]? = some y.1 := hx 2 _ rfl
  rw [cells_int] at h2
  obtain ⟨x2, e2⟩ := intAt Try.underlying3 h2
  obtain ⟨y3, h3, _⟩ : ∃ y, DataW.trod enc Try.prog W 0 (fun _ => true) true n 3 ((cs.drop 4).take (Try.prog.cellsOf 3)) = some y ∧ parts[3]? = some y.1 := hx 3 _ rfl
  rw [cells_int] at h3
  obtain ⟨x3, e3⟩ := intAt Try.underlying3 h3
  match cs, hl with
  | [c0, c1, c2, c3, c4], _ =>
    simp at e0 e1 e2 e3
    obtain ⟨e1, e1'⟩ := e1
    subst e0 e1 e1' e2 e3
    exact ⟨(x0, x1a, x1b, x2, x3), rfl⟩

theorem clo_of {v : Value} (hv : Value.okWide Try.prog W .any 0 87 v) (h : DataW.Trod enc Try.prog W 0 (fun _ => true) true 87 v d ps) : ∃ a lo hi c dd : Int, v = .agg #[.int .i64 a, .int .i64 lo, .int .i64 hi, .int .i64 c, .int .i64 dd] := by
  obtain ⟨cs, rfl, _⟩ := okWide_struct Try.underlying87 hv
  obtain ⟨fuel, hf⟩ := h
  obtain ⟨l⟩ := cs
  obtain ⟨⟨a, lo, hi, c, dd⟩, e⟩ := clo_cells hf
  simp only [Value.cells] at e
  subst e
  exact ⟨a, lo, hi, c, dd, rfl⟩

theorem num_of {v : Value} (hv : Value.okWide Try.prog W .any 0 3 v) (h : DataW.Trod enc Try.prog W 0 (fun _ => true) true 3 v d ps) : ∃ n : Int, v = .int .i64 n := by
  obtain ⟨n, rfl, _⟩ := open_int Try.underlying3 hv h
  exact ⟨n, rfl⟩
end

end Go.Proofs.Ytkahhclmmlkpjaa
