import Derived.Test.YtbiihhokcmdlhaaZzL
/- Texts of one seat, merged: Cx Cz Nf Ng -/
/- How the arguments of layer 3's statements read. -/
namespace Go.Proofs.Ytbiihhokcmdlhaa
open Go.ChangeShapes Go.WideShapes Go.ChangeAt Go.RowKit Go.Deep
set_option maxRecDepth 100000

theorem cells_int : Try.prog.cellsOf 3 = 1 := by kernel_rfl
theorem cells_ints : Try.prog.cellsOf 22 = 1 := by kernel_rfl
theorem cells_wires : Try.prog.cellsOf 23 = 1 := by kernel_rfl
theorem cells_wire : Try.prog.cellsOf 122 = 2 := by kernel_rfl
theorem cells_circuit : Try.prog.cellsOf 25 = 3 := by kernel_rfl
theorem cells_state : Try.prog.cellsOf 27 = 3 := by kernel_rfl
theorem cells_trial : Try.prog.cellsOf 138 = 2 := by kernel_rfl
theorem cells_nights : Try.prog.cellsOf 50 = 1 := by kernel_rfl
theorem cells_rota : Try.prog.cellsOf 52 = 2 := by kernel_rfl

instance : Inhabited Tri := ⟨Tri.zero⟩

section
variable {H : Type} {enc : TypeId × Value → H} {W : World} {d : DataW H} {ps : List MemPlace}

theorem intsl_cells {fuel : Nat} {v : Value} {x : DataW H × List MemPlace} (h : DataW.trod enc Try.prog W 0 (fun _ => true) true fuel 22 [v] = some x) : ∃ xs, InAt W v xs ∧ SlShape x.1 xs.length :=
  intsOf Try.underlying22 Try.underlying3 cells_int h

theorem ints_of {v : Value} (hv : Value.okWide Try.prog W .any 0 22 v) (h : DataW.Trod enc Try.prog W 0 (fun _ => true) true 22 v d ps) : ∃ xs, InAt W v xs ∧ SlShape d xs.length := by
  obtain ⟨a, n, c, rfl⟩ := okWide_slice Try.underlying22 hv
  obtain ⟨fuel, hf⟩ := h
  exact intsl_cells hf

theorem num_of {v : Value} (hv : Value.okWide Try.prog W .any 0 3 v) (h : DataW.Trod enc Try.prog W 0 (fun _ => true) true 3 v d ps) : ∃ n : Int, v = .int .i64 n := by
  obtain ⟨fuel, hf⟩ := h
  obtain ⟨n, rfl, _⟩ := okWide_int Try.underlying3 hv
  exact ⟨n, rfl⟩

/-! ### wires -/
abbrev WirA (W : World) : Type := { p : Int × Value × List Int // InAt W p.2.1 p.2.2 }
instance (W : World) : Inhabited (WirA W) := ⟨⟨(0, .slice none 0 0, []), InAt.nil W⟩⟩
def wirL (W : World) (p : WirA W) : List Value := [.int .i64 p.1.1, p.1.2.1]

theorem wire_cells {fuel : Nat} {cs : List Value} {x : DataW H × List MemPlace} (h : DataW.trod enc Try.prog W 0 (fun _ => true) true fuel 122 cs = some x) : ∃ a : WirA W, cs = wirL W a := by
  obtain ⟨n, hl, parts, _, hx⟩ := fieldOf Try.underlying122 h
  rw [cells_wire] at hl
  obtain ⟨y0, h0, _⟩ : ∃ y, DataW.trod enc Try.prog W 0 (fun _ => true) true n 3 ((cs.drop 0).take (Try.prog.cellsOf 3)) = some y ∧ parts[0]? = some y.1 := hx 0 _ rfl
  rw [cells_int] at h0
  obtain ⟨x0, e0⟩ := intAt Try.underlying3 h0
  obtain ⟨y1, h1, _⟩ : ∃ y, DataW.trod enc Try.prog W 0 (fun _ => true) true n 22 ((cs.drop 1).take (Try.prog.cellsOf 22)) = some y ∧ parts[1]? = some y.1 := hx 1 _ rfl
  rw [cells_ints] at h1
  match cs, hl with
  | [c0, c1], _ =>
    simp at e0
    subst e0
    obtain ⟨xs, hxs, _⟩ := intsl_cells (v := c1) (by simpa using h1)
    exact ⟨⟨(x0, c1, xs), hxs⟩, rfl⟩

theorem wires_cells {fuel : Nat} {v : Value} {x : DataW H × List MemPlace} (h : DataW.trod enc Try.prog W 0 (fun _ => true) true fuel 23 [v] = some x) : ∃ ws, WsAt W v ws := by
  obtain ⟨xs, ⟨a, cap, hv, h1, h2, h3⟩, _⟩ := elemsOf (f := wirL W) Try.underlying23 cells_wire (by decide) (fun _ => rfl) (fun _ _ _ h => wire_cells h) h
  refine ⟨xs.map fun p => ⟨p.1.1, p.1.2.2⟩, a, cap, by rw [List.length_map]; exact hv, by rw [List.length_map]; exact h1, h2, fun hp => ?_⟩
  rw [List.length_map] at hp
  obtain ⟨b, off, e, hb, hc⟩ := h3 hp
  refine ⟨b, off, e, hb, fun i hi => ?_⟩
  rw [List.length_map] at hi
  have hx : xs[i]? = some xs[i] := List.getElem?_eq_getElem hi
  have hg : (xs.map fun p => (⟨p.1.1, p.1.2.2⟩ : Wir)).getD i Wir.zero = ⟨xs[i].1.1, xs[i].1.2.2⟩ := by
    rw [List.getD_eq_getElem?_getD, List.getElem?_map, hx]; rfl
  rw [hg]
  exact ⟨hc i _ hx 0 _ rfl, _, hc i _ hx 1 _ rfl, xs[i].2⟩

theorem circuit_cells {fuel : Nat} {cs : List Value} {x : DataW H × List MemPlace} (h : DataW.trod enc Try.prog W 0 (fun _ => true) true fuel 25 cs = some x) : ∃ (c : Cir) (sv wv : Value), cs = [.int .i64 c.hz, sv, wv] ∧ CirAt W sv wv c := by
  obtain ⟨n, hl, parts, _, hx⟩ := fieldOf Try.underlying25 h
  rw [cells_circuit] at hl
  obtain ⟨y0, h0, _⟩ : ∃ y, DataW.trod enc Try.prog W 0 (fun _ => true) true n 3 ((cs.drop 0).take (Try.prog.cellsOf 3)) = some y ∧ parts[0]? = some y.1 := hx 0 _ rfl
  rw [cells_int] at h0
  obtain ⟨x0, e0⟩ := intAt Try.underlying3 h0
  obtain ⟨y1, h1, _⟩ : ∃ y, DataW.trod enc Try.prog W 0 (fun _ => true) true n 22 ((cs.drop 1).take (Try.prog.cellsOf 22)) = some y ∧ parts[1]? = some y.1 := hx 1 _ rfl
  rw [cells_ints] at h1
  obtain ⟨y2, h2, _⟩ : ∃ y, DataW.trod enc Try.prog W 0 (fun _ => true) true n 23 ((cs.drop 2).take (Try.prog.cellsOf 23)) = some y ∧ parts[2]? = some y.1 := hx 2 _ rfl
  rw [cells_wires] at h2
  match cs, hl with
  | [c0, c1, c2], _ =>
    simp at e0
    subst e0
    obtain ⟨xs, hxs, _⟩ := intsl_cells (v := c1) (by simpa using h1)
    obtain ⟨ws, hws⟩ := wires_cells (v := c2) (by simpa using h2)
    exact ⟨⟨x0, xs, ws⟩, c1, c2, rfl, hxs, hws⟩

theorem cir_of {v : Value} (hv : Value.okWide Try.prog W .any 0 25 v) (h : DataW.Trod enc Try.prog W 0 (fun _ => true) true 25 v d ps) : ∃ (c : Cir) (sv wv : Value), v = cirV c sv wv ∧ CirAt W sv wv c := by
  obtain ⟨cs, rfl, _⟩ := okWide_struct Try.underlying25 hv
  obtain ⟨fuel, hf⟩ := h
  obtain ⟨l⟩ := cs
  obtain ⟨c, sv, wv, e, hc⟩ := circuit_cells hf
  simp only [Value.cells] at e
  subst e
  exact ⟨c, sv, wv, rfl, hc⟩

theorem sta_of {v : Value} (hv : Value.okWide Try.prog W .any 0 27 v) (h : DataW.Trod enc Try.prog W 0 (fun _ => true) true 27 v d ps) : ∃ a b e : Int, v = .agg #[.int .i64 a, .int .i64 b, .int .i64 e] := by
  obtain ⟨cs, rfl, _⟩ := okWide_struct Try.underlying27 hv
  obtain ⟨fuel, hf⟩ := h
  obtain ⟨l⟩ := cs
  obtain ⟨n, hl, parts, _, hx⟩ := fieldOf Try.underlying27 hf
  simp only [Value.cells] at hl hx
  rw [cells_state] at hl
  obtain ⟨y0, h0, _⟩ : ∃ y, DataW.trod enc Try.prog W 0 (fun _ => true) true n 3 ((l.drop 0).take (Try.prog.cellsOf 3)) = some y ∧ parts[0]? = some y.1 := hx 0 _ rfl
  rw [cells_int] at h0
  obtain ⟨x0, e0⟩ := intAt Try.underlying3 h0
  obtain ⟨y1, h1, _⟩ : ∃ y, DataW.trod enc Try.prog W 0 (fun _ => true) true n 3 ((l.drop 1).take (Try.prog.cellsOf 3)) = some y ∧ parts[1]? = some y.1 := hx 1 _ rfl
  rw [cells_int] at h1
  obtain ⟨x1, e1⟩ := intAt Try.underlying3 h1
  obtain ⟨y2, h2, _⟩ : ∃ y, DataW.trod enc Try.prog W 0 (fun _ => true) true n 3 ((l.drop 2).take (Try.prog.cellsOf 3)) = some y ∧ parts[2]? = some y.1 := hx 2 _ rfl
  rw [cells_int] at h2
  obtain ⟨x2, e2⟩ := intAt Try.underlying3 h2
  match l, hl with
  | [c0, c1, c2], _ =>
    simp at e0 e1 e2
    subst e0 e1 e2
    exact ⟨x0, x1, x2, rfl⟩

end

end Go.Proofs.Ytbiihhokcmdlhaa

/- How trials and rotas read, as arguments of layer 3's statements. -/
namespace Go.Proofs.Ytbiihhokcmdlhaa
open Go.ChangeShapes Go.WideShapes Go.ChangeAt Go.RowKit Go.Deep
set_option maxRecDepth 100000

section
variable {H : Type} {enc : TypeId × Value → H} {W : World} {d : DataW H} {ps : List MemPlace}

theorem tri_cells {fuel : Nat} {cs : List Value} {x : DataW H × List MemPlace} (h : DataW.trod enc Try.prog W 0 (fun _ => true) true fuel 138 cs = some x) : ∃ t : Tri, cs = triL t := by
  obtain ⟨n, hl, parts, _, hx⟩ := fieldOf Try.underlying138 h
  rw [cells_trial] at hl
  obtain ⟨y0, h0, _⟩ : ∃ y, DataW.trod enc Try.prog W 0 (fun _ => true) true n 3 ((cs.drop 0).take (Try.prog.cellsOf 3)) = some y ∧ parts[0]? = some y.1 := hx 0 _ rfl
  rw [cells_int] at h0
  obtain ⟨x0, e0⟩ := intAt Try.underlying3 h0
  obtain ⟨y1, h1, _⟩ : ∃ y, DataW.trod enc Try.prog W 0 (fun _ => true) true n 3 ((cs.drop 1).take (Try.prog.cellsOf 3)) = some y ∧ parts[1]? = some y.1 := hx 1 _ rfl
  rw [cells_int] at h1
  obtain ⟨x1, e1⟩ := intAt Try.underlying3 h1
  match cs, hl with
  | [c0, c1], _ =>
    simp at e0 e1
    subst e0 e1
    exact ⟨⟨x0, x1⟩, rfl⟩

theorem trisl_cells {fuel : Nat} {v : Value} {x : DataW H × List MemPlace} (h : DataW.trod enc Try.prog W 0 (fun _ => true) true fuel 46 [v] = some x) : ∃ xs, TrAt W v xs ∧ SlShape x.1 xs.length :=
  elemsOf Try.underlying46 cells_trial (by decide) (fun _ => rfl) (fun _ _ _ h => tri_cells h) h

theorem tris_of {v : Value} (hv : Value.okWide Try.prog W .any 0 46 v) (h : DataW.Trod enc Try.prog W 0 (fun _ => true) true 46 v d ps) : ∃ xs, TrAt W v xs ∧ SlShape d xs.length := by
  obtain ⟨a, n, c, rfl⟩ := okWide_slice Try.underlying46 hv
  obtain ⟨fuel, hf⟩ := h
  exact trisl_cells hf

/-! ### nights -/
abbrev IntA (W : World) : Type := { p : Value × List Int // InAt W p.1 p.2 }
instance (W : World) : Inhabited (IntA W) := ⟨⟨(.slice none 0 0, []), InAt.nil W⟩⟩
def intaL (W : World) (p : IntA W) : List Value := [p.1.1]

theorem night_cells {fuel : Nat} {cs : List Value} {x : DataW H × List MemPlace} (h : DataW.trod enc Try.prog W 0 (fun _ => true) true fuel 22 cs = some x) : ∃ a : IntA W, cs = intaL W a := by
  have hl : cs.length = 1 := by
    cases fuel with
    | zero => simp [DataW.trod] at h
    | succ n =>
      match cs, h with
      | [], h => simp [DataW.trod, Try.underlying22] at h
      | [c], _ => rfl
      | c :: c' :: r, h => simp [DataW.trod, Try.underlying22] at h
  match cs, hl with
  | [c0], _ =>
    obtain ⟨xs, hxs, _⟩ := intsl_cells (v := c0) h
    exact ⟨⟨(c0, xs), hxs⟩, rfl⟩

theorem nights_cells {fuel : Nat} {v : Value} {x : DataW H × List MemPlace} (h : DataW.trod enc Try.prog W 0 (fun _ => true) true fuel 50 [v] = some x) : ∃ ns, NsAt W v ns := by
  obtain ⟨xs, ⟨a, cap, hv, h1, h2, h3⟩, _⟩ := elemsOf (f := intaL W) Try.underlying50 cells_ints (by decide) (fun _ => rfl) (fun _ _ _ h => night_cells h) h
  refine ⟨xs.map fun p => p.1.2, a, cap, by rw [List.length_map]; exact hv, by rw [List.length_map]; exact h1, h2, fun hp => ?_⟩
  rw [List.length_map] at hp
  obtain ⟨b, off, e, hb, hc⟩ := h3 hp
  refine ⟨b, off, e, hb, fun i hi => ?_⟩
  rw [List.length_map] at hi
  have hx : xs[i]? = some xs[i] := List.getElem?_eq_getElem hi
  have hg : (xs.map fun p => p.1.2).getD i [] = xs[i].1.2 := by
    rw [List.getD_eq_getElem?_getD, List.getElem?_map, hx]; rfl
  rw [hg]
  have := hc i _ hx 0 _ rfl
  exact ⟨_, by simpa using this, xs[i].2⟩

theorem rota_cells {fuel : Nat} {cs : List Value} {x : DataW H × List MemPlace} (h : DataW.trod enc Try.prog W 0 (fun _ => true) true fuel 52 cs = some x) : ∃ (r : Rot) (nv : Value), cs = [nv, .int .i64 r.gap] ∧ NsAt W nv r.nights := by
  obtain ⟨n, hl, parts, _, hx⟩ := fieldOf Try.underlying52 h
  rw [cells_rota] at hl
  obtain ⟨y0, h0, _⟩ : ∃ y, DataW.trod enc Try.prog W 0 (fun _ => true) true n 50 ((cs.drop 0).take (Try.prog.cellsOf 50)) = some y ∧ parts[0]? = some y.1 := hx 0 _ rfl
  rw [cells_nights] at h0
  obtain ⟨y1, h1, _⟩ : ∃ y, DataW.trod enc Try.prog W 0 (fun _ => true) true n 3 ((cs.drop 1).take (Try.prog.cellsOf 3)) = some y ∧ parts[1]? = some y.1 := hx 1 _ rfl
  rw [cells_int] at h1
  obtain ⟨x1, e1⟩ := intAt Try.underlying3 h1
  match cs, hl with
  | [c0, c1], _ =>
    simp at e1
    subst e1
    obtain ⟨ns, hns⟩ := nights_cells (v := c0) (by simpa using h0)
    exact ⟨⟨ns, x1⟩, c0, rfl, hns⟩

theorem rot_of {v : Value} (hv : Value.okWide Try.prog W .any 0 52 v) (h : DataW.Trod enc Try.prog W 0 (fun _ => true) true 52 v d ps) : ∃ (r : Rot) (nv : Value), v = rotV r nv ∧ NsAt W nv r.nights := by
  obtain ⟨cs, rfl, _⟩ := okWide_struct Try.underlying52 hv
  obtain ⟨fuel, hf⟩ := h
  obtain ⟨l⟩ := cs
  obtain ⟨r, nv, e, hr⟩ := rota_cells hf
  simp only [Value.cells] at e
  subst e
  exact ⟨r, nv, rfl, hr⟩

end

end Go.Proofs.Ytbiihhokcmdlhaa

/- Walks of layer 3 (circuit): members, upTo, isBefore of the program, and what it takes from cmp and slices. -/
namespace Go.Proofs.Ytbiihhokcmdlhaa
open Go.RowKit

def cmpI (a b : Int) : Int := if a < b then -1 else if b < a then 1 else 0

set_option maxRecDepth 100000 in
set_option maxHeartbeats 1000000 in
theorem isNaN_any (a : Int) (w : World) : Calls Try.prog 169 #[.int .i64 a] w fun e w' => e = .returned (.bool false) ∧ w = w' := by
  go_enter Try.func169, Try.ntmps169
  go_wp2_with fail
  go_ret
  exact ⟨ret_bool (by simp), rfl⟩

set_option maxRecDepth 100000 in
set_option maxHeartbeats 1000000 in
theorem compare_any (a b : Int) (w : World) : Calls Try.prog 151 #[.int .i64 a, .int .i64 b] w fun e w' => e = .returned (.int .i64 (cmpI a b)) ∧ w = w' := by
  by_cases h1 : a < b
  · have HR := Lib.hid (show cmpI a b = -1 by unfold cmpI; rw [if_pos h1])
    go_enter Try.func151, Try.ntmps151
    go_wp2_with (go_at_call 169; refine (isNaN_any _ _).mono ?_; rintro e w1 ⟨rfl, rfl⟩)
    go_ret
    exact ⟨ret_int HR.out.symm, rfl⟩
  · by_cases h2 : b < a
    · have HR := Lib.hid (show cmpI a b = 1 by unfold cmpI; rw [if_neg h1, if_pos h2])
      go_enter Try.func151, Try.ntmps151
      go_wp2_with (go_at_call 169; refine (isNaN_any _ _).mono ?_; rintro e w1 ⟨rfl, rfl⟩)
      go_ret
      exact ⟨ret_int HR.out.symm, rfl⟩
    · have HR := Lib.hid (show cmpI a b = 0 by unfold cmpI; rw [if_neg h1, if_neg h2])
      go_enter Try.func151, Try.ntmps151
      go_wp2_with (go_at_call 169; refine (isNaN_any _ _).mono ?_; rintro e w1 ⟨rfl, rfl⟩)
      go_ret
      exact ⟨ret_int HR.out.symm, rfl⟩

theorem compare_is (r a b : Int) (w : World) (h : cmpI a b = r) : Calls Try.prog 151 #[.int .i64 a, .int .i64 b] w fun e w' => e = .returned (.int .i64 r) ∧ w = w' := by
  subst h
  exact compare_any a b w

/-- The first that is not 0. -/
def orI : List Int → Int
  | [] => 0
  | a :: l => if a = 0 then orI l else a

theorem orI_drop {l : List Int} {j : Nat} (h : j < l.length) : orI (l.drop j) = if l.getD j 0 = 0 then orI (l.drop (j + 1)) else l.getD j 0 := by
  rw [List.drop_eq_getElem_cons h, orI, List.getD_eq_getElem?_getD, List.getElem?_eq_getElem h]; rfl

set_option maxRecDepth 100000 in
set_option maxHeartbeats 1000000 in
theorem or_any (l : List Int) (v : Value) (w : World) (hv : InAt w v l) : Calls Try.prog 150 #[v] w fun e w' => e = .returned (.int .i64 (orI l)) ∧ w = w' := by
  obtain ⟨a, cap, rfl, h1, h2, hc⟩ := hv
  have HC := Lib.hid hc
  clear hc
  go_enter Try.func150, Try.ntmps150
  go_wp2_with fail
  go_loop [8] (fun i => ∃ j : Nat, j ≤ l.length ∧ i = .int .i64 j ∧ Hid (orI l = orI (l.drop j))) (fun i => l.length - (intOf i).toNat)
  case atStart => exact ⟨0, Nat.zero_le _, rfl, Lib.hid rfl⟩
  case round =>
    obtain ⟨j, hj, rfl, hI⟩ := hrel
    by_cases hlt : j < l.length
    · obtain ⟨b, off, rfl, hbl, hc⟩ := HC.out (by omega)
      have g1 := hc j hlt
      have HO := Lib.hid (orI_drop hlt)
      have j1 : (0 : Int) ≤ j := by omega
      have j2 : (j : Int) < l.length := by omega
      generalize l.getD j 0 = q at *
      clear hc
      by_cases h0 : q = 0
      · have HN := Lib.hid (show orI l = orI (l.drop (j + 1)) by rw [hI.out, HO.out, if_pos h0])
        subst h0
        go_wp2_with fail
        go_round
        case rel => exact ⟨j + 1, hlt, by go_num, HN⟩
        case measure => simp [intOf]; omega
      · have HN := Lib.hid (show orI l = q by rw [hI.out, HO.out, if_neg h0])
        have hqb : (q == 0) = false := by simpa using h0
        have hqc : (q != 0) = true := by simpa using h0
        go_wp2_with fail
        go_ret
        exact ⟨ret_int HN.out.symm, rfl⟩
    · have HN := Lib.hid (show orI l = 0 by rw [hI.out, List.drop_eq_nil_of_le (by omega)]; rfl)
      go_wp2_with fail
      go_ret
      exact ⟨ret_int HN.out.symm, rfl⟩

theorem cmpL_drop {L M : List Nat} {j : Nat} (h1 : j < L.length) (h2 : j < M.length) : cmpL (L.drop j) (M.drop j) = if L.getD j 0 < M.getD j 0 then -1 else if M.getD j 0 < L.getD j 0 then 1 else cmpL (L.drop (j + 1)) (M.drop (j + 1)) := by
  rw [List.drop_eq_getElem_cons h1, List.drop_eq_getElem_cons h2, cmpL, List.getD_eq_getElem?_getD, List.getElem?_eq_getElem h1, List.getD_eq_getElem?_getD, List.getElem?_eq_getElem h2]; rfl

theorem cmpL_more {L M : List Nat} {j : Nat} (h1 : j < L.length) (h2 : M.length ≤ j) : cmpL (L.drop j) (M.drop j) = 1 := by
  rw [List.drop_eq_getElem_cons h1, List.drop_eq_nil_of_le h2]; rfl

theorem cmpL_less {L M : List Nat} {j : Nat} (h1 : L.length ≤ j) (h2 : j < M.length) : cmpL (L.drop j) (M.drop j) = -1 := by
  rw [List.drop_eq_nil_of_le h1, List.drop_eq_getElem_cons h2]; rfl

theorem cmpL_same {L M : List Nat} {j : Nat} (h1 : L.length ≤ j) (h2 : M.length ≤ j) : cmpL (L.drop j) (M.drop j) = 0 := by
  rw [List.drop_eq_nil_of_le h1, List.drop_eq_nil_of_le h2]; rfl

set_option maxRecDepth 100000 in
set_option maxHeartbeats 2000000 in
theorem scompare_any (L M : List Nat) (v v2 : Value) (w : World) (hv : InAt w v (natL L)) (hv2 : InAt w v2 (natL M)) :
    Calls Try.prog 152 #[v, v2] w fun e w' => e = .returned (.int .i64 (cmpL L M)) ∧ w = w' := by
  obtain ⟨a, cap, rfl, h1, h2, hc⟩ := hv
  obtain ⟨a2, cap2, rfl, h3, h4, hc2⟩ := hv2
  have HC := Lib.hid hc
  have HC2 := Lib.hid hc2
  rw [natL_len] at h1 h3
  rw [natL_len, natL_len]
  clear hc hc2
  go_enter Try.func152, Try.ntmps152
  go_wp2_with fail
  go_loop [11] (fun i => ∃ j : Nat, j ≤ L.length ∧ j ≤ M.length ∧ i = .int .i64 j ∧ Hid (cmpL L M = cmpL (L.drop j) (M.drop j))) (fun i => L.length - (intOf i).toNat)
  case atStart => exact ⟨0, Nat.zero_le _, Nat.zero_le _, rfl, Lib.hid rfl⟩
  case round =>
    obtain ⟨j, hj, hjm, rfl, hI⟩ := hrel
    by_cases hlt : j < L.length
    · obtain ⟨b, off, rfl, hbl, hc⟩ := HC.out (by rw [natL_len]; omega)
      have g1 := hc j (by rw [natL_len]; exact hlt)
      rw [natL_getD] at g1
      have j1 : (0 : Int) ≤ j := by omega
      have j2 : (j : Int) < L.length := by omega
      clear hc
      by_cases hlm : j < M.length
      · obtain ⟨b2, off2, rfl, hbl2, hc2⟩ := HC2.out (by rw [natL_len]; omega)
        have g2 := hc2 j (by rw [natL_len]; exact hlm)
        rw [natL_getD] at g2
        have j3 : (j : Int) < M.length := by omega
        have HO := Lib.hid (cmpL_drop hlt hlm)
        generalize L.getD j 0 = x at *
        generalize M.getD j 0 = y at *
        clear hc2
        by_cases hxy : x < y
        · have HN := Lib.hid (show cmpL L M = -1 by rw [hI.out, HO.out, if_pos hxy])
          have hcm : cmpI x y = -1 := by unfold cmpI; rw [if_pos (by omega)]
          go_wp2_with fail
          refine (compare_is _ _ _ _ hcm).mono ?_
          rintro e w1 ⟨rfl, rfl⟩
          go_wp2_with fail
          go_ret
          exact ⟨ret_int HN.out.symm, rfl⟩
        · by_cases hyx : y < x
          · have HN := Lib.hid (show cmpL L M = 1 by rw [hI.out, HO.out, if_neg hxy, if_pos hyx])
            have hcm : cmpI x y = 1 := by unfold cmpI; rw [if_neg (by omega), if_pos (by omega)]
            go_wp2_with fail
            refine (compare_is _ _ _ _ hcm).mono ?_
            rintro e w1 ⟨rfl, rfl⟩
            go_wp2_with fail
            go_ret
            exact ⟨ret_int HN.out.symm, rfl⟩
          · have HN := Lib.hid (show cmpL L M = cmpL (L.drop (j + 1)) (M.drop (j + 1)) by rw [hI.out, HO.out, if_neg hxy, if_neg hyx])
            have hcm : cmpI x y = 0 := by unfold cmpI; rw [if_neg (by omega), if_neg (by omega)]
            go_wp2_with fail
            refine (compare_is _ _ _ _ hcm).mono ?_
            rintro e w1 ⟨rfl, rfl⟩
            go_wp2_with fail
            go_round
            case rel => exact ⟨j + 1, hlt, hlm, by go_num, HN⟩
            case measure => simp [intOf]; omega
      · have HN := Lib.hid (show cmpL L M = 1 by rw [hI.out, cmpL_more hlt (by omega)])
        go_wp2_with fail
        go_ret
        exact ⟨ret_int HN.out.symm, rfl⟩
    · by_cases hlm : L.length < M.length
      · have HN := Lib.hid (show cmpL L M = -1 by rw [hI.out, cmpL_less (by omega) (by omega)])
        have hl2 : (L.length : Int) < M.length := by omega
        go_wp2_with fail
        go_ret
        exact ⟨ret_int HN.out.symm, rfl⟩
      · have HN := Lib.hid (show cmpL L M = 0 by rw [hI.out, cmpL_same (by omega) (by omega)])
        have hl2 : ¬ (L.length : Int) < M.length := by omega
        go_wp2_with fail
        go_ret
        exact ⟨ret_int HN.out.symm, rfl⟩

theorem before_val (L M : List Nat) : decide (orI [cmpI L.length M.length, cmpL L M] < 0) = befB L M := by
  unfold befB cmpI orI orI orI
  by_cases h1 : L.length < M.length
  · have : (L.length : Int) < M.length := by omega
    rw [if_pos this, decide_eq_true h1]; rfl
  · by_cases h2 : M.length < L.length
    · have h3 : ¬ (L.length : Int) < M.length := by omega
      have h4 : (M.length : Int) < L.length := by omega
      have h5 : ¬ L.length = M.length := by omega
      rw [if_neg h3, if_pos h4, decide_eq_false h1, decide_eq_false h5]; rfl
    · have h3 : ¬ (L.length : Int) < M.length := by omega
      have h4 : ¬ (M.length : Int) < L.length := by omega
      have h5 : L.length = M.length := by omega
      rw [if_neg h3, if_neg h4, decide_eq_false h1, decide_eq_true h5]
      simp only [Bool.false_or, Bool.true_and]
      by_cases h6 : cmpL L M = 0
      · simp [h6]
      · simp [h6]

set_option maxRecDepth 100000 in
set_option maxHeartbeats 2000000 in
theorem before_any (L M : List Nat) (v v2 : Value) (w : World) (hv : InAt w v (natL L)) (hv2 : InAt w v2 (natL M)) :
    Calls Try.prog 101 #[v, v2] w fun e w' => e = .returned (.bool (befB L M)) ∧ Below w.heap.size w w' := by
  have HV := Lib.hid hv
  have HV2 := Lib.hid hv2
  obtain ⟨a, cap, rfl, h1, h2, _⟩ := hv
  obtain ⟨a2, cap2, rfl, h3, h4, _⟩ := hv2
  rw [natL_len] at HV HV2 h1 h3
  rw [natL_len, natL_len]
  have HR := Lib.hid (before_val L M)
  go_enter Try.func101, Try.ntmps101
  go_wp2_with fail
  refine (compare_any _ _ _).mono ?_
  rintro e w1 ⟨rfl, rfl⟩
  generalize cmpI L.length M.length = x at *
  go_wp2_with fail
  refine (scompare_any L M _ _ _ HV.out HV2.out).mono ?_
  rintro e w1 ⟨rfl, rfl⟩
  generalize cmpL L M = y at *
  go_wp2_with fail
  have HB := Lib.hid ((Below.refl w.heap.size w).alloc (Nat.le_refl _) (.cells #[.int .i64 x, .int .i64 y] 3))
  refine (or_any [x, y] _ _ (in_block (xs := [x, y]) (block_new _ _ _ rfl) (by simp))).mono ?_
  rintro e w1 ⟨rfl, rfl⟩
  generalize orI [x, y] = z at *
  go_wp2_with fail
  go_ret
  exact ⟨ret_bool HR.out, HB.out⟩

/-! ### members, upTo -/
set_option maxRecDepth 100000 in
set_option maxHeartbeats 1000000 in
theorem members1_any (s k gs : Nat) (w : World) (hs : s < 1048576) (hk : k ≤ 60) (k1 : w.heap[gs]? = some (.cells #[.int .i64 s] 3)) :
    Calls Try.prog 147 #[.int .i64 k, .pointer (some ⟨gs, 0, none⟩)] w fun e w' => e = .returned (.bool (s.testBit k)) ∧ Below w.heap.size w w' := by
  have c0 := block_cell k1
  have hs2 : s < 4611686018427387904 := by omega
  go_enter Try.func147, Try.ntmps147
  go_wp2_with fail
  refine (chas_any s k _ hs2 hk).mono ?_
  rintro e w1 ⟨rfl, rfl⟩
  go_wp2_with fail
  go_ret
  exact ⟨rfl, Below.refl _ _⟩

theorem enters_members1 : Enters 147 := fun _ _ => by kernel_rfl

set_option maxRecDepth 100000 in
set_option maxHeartbeats 1000000 in
theorem members_any (s n : Nat) (w : World) (hs : s < 1048576) (hn : n ≤ 20) :
    Calls Try.prog 91 #[.int .i64 s, .int .i64 n] w (ListRes (natL (memM s n)) w) := by
  have HB := Lib.hid ((Below.refl w.heap.size w).alloc (Nat.le_refl _) (.cells #[.int .i64 s] 3))
  have K0 := Lib.hid (block_new w (.cells #[.int .i64 s] 3) w.heap.size rfl)
  go_enter Try.func91, Try.ntmps91
  go_wp2_with fail
  generalize w.alloc (.cells #[.int .i64 s] 3) = wA at *
  refine (those_any _ #[] #[.pointer (some ⟨w.heap.size, 0, none⟩)] n (fun k => s.testBit k) _ (by omega) enters_members1 (fun k w1 hk hb1 => ?_)).mono ?_
  · exact members1_any s k _ w1 hs (by omega) (keepZ K0.out hb1)
  rintro e w1 ⟨v, rfl, hin, hb⟩
  have HI := Lib.hid hin
  obtain ⟨va, vcap, rfl, _⟩ := hin
  go_wp2_with fail
  go_ret
  exact ⟨_, rfl, HI.out, HB.out.trans (hb.mono HB.out.size)⟩

set_option maxRecDepth 100000 in
set_option maxHeartbeats 1000000 in
theorem upTo1_any (k : Nat) (w : World) :
    Calls Try.prog 149 #[.int .i64 k] w fun e w' => e = .returned (.bool true) ∧ Below w.heap.size w w' := by
  go_enter Try.func149, Try.ntmps149
  go_wp2_with fail
  go_ret
  exact ⟨rfl, Below.refl _ _⟩

theorem enters_upTo1 : Enters 149 := fun _ _ => by kernel_rfl

theorem filter_all (n : Nat) : (List.range n).filter (fun _ => true) = List.range n := List.filter_eq_self.2 (fun _ _ => rfl)

set_option maxRecDepth 100000 in
set_option maxHeartbeats 1000000 in
theorem upTo_any (n : Nat) (w : World) (hn : n ≤ 20) :
    Calls Try.prog 97 #[.int .i64 n] w (ListRes (natL (memM (2 ^ n - 1) n)) w) := by
  go_enter Try.func97, Try.ntmps97
  go_wp2_with fail
  refine (those_any _ #[] #[] n (fun _ => true) _ (by omega) enters_upTo1 (fun k w1 hk hb1 => upTo1_any k w1)).mono ?_
  rintro e w1 ⟨v, rfl, hin, hb⟩
  have HI := Lib.hid (show InAt w1 v (natL (memM (2 ^ n - 1) n)) by rw [memM_all, ← filter_all]; exact hin)
  obtain ⟨va, vcap, rfl, _⟩ := hin
  go_wp2_with fail
  go_ret
  exact ⟨_, rfl, HI.out, hb⟩

end Go.Proofs.Ytbiihhokcmdlhaa

/- Walks of layer 3 (circuit): Shows, Blind, Fewest of the program. -/
namespace Go.Proofs.Ytbiihhokcmdlhaa
open Go.RowKit

/-! ### what both return -/
def trialE (c : Cir) (l : List Tri) (t : Int) : Int := if chkT c l = 0 then (if decide (0 ≤ t ∧ t ≤ (l.length : Int) - 1) = true then 0 else 1) else chkT c l
def showsR (c : Cir) (l : List Tri) (t : Int) : List Int := if trialE c l t = 0 then natL (memM (shownM c (l.getD t.toNat Tri.zero)) c.sw.length) else []
def seenM (c : Cir) (l : List Tri) : Nat := unionTo (setsM c l) (2 ^ l.length - 1) l.length
def blindM (c : Cir) (l : List Tri) : List Nat := (List.range c.sw.length).filter fun k => !(seenM c l).testBit k
def blindR (c : Cir) (l : List Tri) : List Int := if chkT c l = 0 then natL (blindM c l) else []
def fewestM (c : Cir) (l : List Tri) : Nat := fewM (setsM c l) l.length (2 ^ l.length)
def fewestR (c : Cir) (l : List Tri) : List Int := if chkT c l = 0 then natL (memM (fewestM c l) l.length) else []

theorem sub_wrap {n : Nat} (h : n ≤ 20) : IntKind.i64.wrap ((n : Int) - 1) = (n : Int) - 1 := IntWalk.i64_in _ (by omega)

set_option maxRecDepth 100000 in
set_option maxHeartbeats 4000000 in
theorem cshows_any (c : Cir) (l : List Tri) (t : Int) (sv wv v : Value) (w : World) (hv : CirAt w sv wv c) (hl : TrAt w v l) :
    Calls Try.prog 34 #[cirV c sv wv, v, .int .i64 t] w (ListErr (showsR c l t) (trialE c l t) w) := by
  have HB := Lib.hid ((Below.refl w.heap.size w).alloc (Nat.le_refl _) (cirO c sv wv))
  have K0 := Lib.hid (block_new w (cirO c sv wv) w.heap.size rfl)
  have HV := Lib.hid (hv.below HB.out (Nat.le_refl _))
  have HT := Lib.hid (hl.below HB.out (Nat.le_refl _))
  obtain ⟨⟨sa, scap, rfl, _⟩, _⟩ := hv
  obtain ⟨ta, tcap, rfl, _, m2, _⟩ := hl
  have m3 : (l.length : Int) ≤ 9223372036854775807 := by omega
  by_cases ht : chkT c l = 0
  · have HTV := Lib.hid (tval ht)
    have l12 := (tval ht).n
    have s12 := (tval ht).cv.s2
    have HC := Lib.hid ht
    cases hw : decide (0 ≤ t ∧ t ≤ (l.length : Int) - 1)
    · have HE := Lib.hid (show trialE c l t = 1 by unfold trialE; rw [if_pos ht, hw]; rfl)
      have HR := Lib.hid (show showsR c l t = [] by unfold showsR; rw [HE.out]; rfl)
      have HW := Lib.hid hw
      clear ht hw
      go_enter Try.func34, Try.ntmps34
      go_wp2_with fail
      generalize w.alloc (cirO c (.slice sa c.sw.length scap) wv) = wA at *
      refine (ccheckT_any c l _ _ _ _ HV.out HT.out).mono ?_
      rintro e w1 ⟨rfl, hb1⟩
      rw [HC.out]
      go_wp2_with fail
      refine (cwithin_is _ t 0 _ _ HW.out).mono ?_
      rintro e w2 ⟨rfl, rfl⟩
      go_wp2_with fail
      go_ret2
      exact ⟨.slice none 0 0, by rw [HE.out]; rfl, by rw [HR.out]; exact InAt.nil _, HB.out.trans (hb1.mono HB.out.size)⟩
    · have HE := Lib.hid (show trialE c l t = 0 by unfold trialE; rw [if_pos ht, hw]; rfl)
      have HW := Lib.hid hw
      simp only [decide_eq_true_eq] at hw
      obtain ⟨k, rfl⟩ : ∃ k : Nat, t = k := ⟨t.toNat, by omega⟩
      have hk : k < l.length := by omega
      have HR := Lib.hid (show showsR c l k = natL (memM (shownM c (l.getD k Tri.zero)) c.sw.length) by unfold showsR; rw [HE.out, Int.toNat_natCast]; rfl)
      have HTK := Lib.hid (HTV.out.t _ (getD_mem hk Tri.zero))
      clear ht hw
      go_enter Try.func34, Try.ntmps34
      go_wp2_with fail
      generalize w.alloc (cirO c (.slice sa c.sw.length scap) wv) = wA at *
      refine (ccheckT_any c l _ _ _ _ HV.out HT.out).mono ?_
      rintro e w1 ⟨rfl, hb1⟩
      rw [HC.out]
      have HB1 := Lib.hid hb1
      clear hb1
      go_wp2_with fail
      refine (cwithin_is _ _ 0 _ _ HW.out).mono ?_
      rintro e w2 ⟨rfl, rfl⟩
      obtain ⟨_, _, e1, _, _, hcc⟩ := HT.out
      injection e1 with e1 e2 e3
      subst e1
      obtain ⟨tb, toff, rfl, hbl, hcc⟩ := hcc (by omega)
      have k1 : (0 : Int) ≤ k := by omega
      have k2 : (k : Int) < l.length := by omega
      have hx := shown_lt c (l.getD k Tri.zero) HTV.out.cv
      have D : ∀ w', Below wA.heap.size wA w' → ((w'.cell? ⟨w.heap.size, 0, none⟩ = some (.int .i64 c.hz) ∧ w'.cell? ⟨w.heap.size, 1, none⟩ = some (.slice sa c.sw.length scap) ∧ w'.cell? ⟨w.heap.size, 2, none⟩ = some wv) ∧ (w'.cell? ⟨tb, toff + k * 2, none⟩ = some (.int .i64 (l.getD k Tri.zero).hz) ∧ w'.cell? ⟨tb, toff + k * 2 + 1, none⟩ = some (.int .i64 (l.getD k Tri.zero).wire))) ∧ Below wA.heap.size wA w' := by
        intro w' h
        obtain ⟨g1, g2⟩ := tr_at h hbl hcc hk
        have c0 := block_cell (keepZ K0.out h)
        exact ⟨⟨⟨c0 0, c0 1, c0 2⟩, g1, g2⟩, h⟩
      generalize l.getD k Tri.zero = T at *
      clear hcc e2 e3
      go_upto_region 6 with fail
      go_region_held3 (fun w' => ((w'.cell? ⟨w.heap.size, 0, none⟩ = some (.int .i64 c.hz) ∧ w'.cell? ⟨w.heap.size, 1, none⟩ = some (.slice sa c.sw.length scap) ∧ w'.cell? ⟨w.heap.size, 2, none⟩ = some wv) ∧ (w'.cell? ⟨tb, toff + k * 2, none⟩ = some (.int .i64 T.hz) ∧ w'.cell? ⟨tb, toff + k * 2 + 1, none⟩ = some (.int .i64 T.wire))) ∧ Below wA.heap.size wA w')
        (first | (with_reducible exact D _ (Below.drew HB1.out)) | (with_reducible exact D _ hB2) | (with_reducible exact D _ hB1) | fail)
        (first | (go_at_call 92; have hB0 := And.right ‹_ ∧ Below wA.heap.size wA _›; refine (shown_any c T _ wv _ (HV.out.below hB0 (Nat.le_refl _)) HTV.out.cv HTK.out).mono ?_; rintro e w3 ⟨rfl, hb3⟩; have hB1 := hB0.trans (hb3.mono hB0.size)) | (go_at_call 91; refine (members_any _ _ _ (by omega) (by omega)).mono ?_; rintro e w4 ⟨v4, rfl, hin4, hb4⟩; have hI4 := Lib.hid hin4; have hB2 := hB1.trans (hb4.mono hB1.size)))
      all_goals
        go_wp2_with fail
        go_ret2
        exact ⟨_, by rw [HE.out]; rfl, by rw [HR.out]; exact hI4.out, HB.out.trans ((And.right ‹_ ∧ Below wA.heap.size wA _›).mono HB.out.size)⟩
  · have HE := Lib.hid (show chkT c l = trialE c l t by unfold trialE; rw [if_neg ht])
    have HR := Lib.hid (show showsR c l t = [] by unfold showsR; rw [if_neg (by rw [← HE.out]; exact ht)])
    have hqb : (chkT c l == 0) = false := by simpa using ht
    have hqc : (chkT c l != 0) = true := by simpa using ht
    clear ht
    go_enter Try.func34, Try.ntmps34
    go_wp2_with fail
    generalize w.alloc (cirO c (.slice sa c.sw.length scap) wv) = wA at *
    refine (ccheckT_any c l _ _ _ _ HV.out HT.out).mono ?_
    rintro e w1 ⟨rfl, hb1⟩
    generalize chkT c l = m at *
    go_wp2
    go_ret2
    exact ⟨.slice none 0 0, by rw [HE.out]; rfl, by rw [HR.out]; exact InAt.nil _, HB.out.trans (hb1.mono HB.out.size)⟩

end Go.Proofs.Ytbiihhokcmdlhaa
