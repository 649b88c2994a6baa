import Derived.WalkKit
import Derived.OneCell
import Derived.Below
import Derived.Test.YtbiihhokcmdlhaaRows
import Derived.WalkSpells
import Derived.WalkLawsBesides
import Derived.Lib.Hide
import Derived.BigQuiet
import Derived.Deep.QuietTactic
import Derived.Deep.DeepFit
/- Texts of one seat, merged: Ge Gs Gw Cm Cn Cw Bq -/
/- General small lemmas on worlds, used by the walks of every layer. -/
namespace Go.Proofs.Ytbiihhokcmdlhaa
open Go.RowKit

theorem cell_alloc_old {w : World} {o : Obj} {p : Addr} (h : p.block < w.heap.size) : (w.alloc o).cell? p = w.cell? p := by
  unfold World.cell?
  rw [Below.heap_alloc w o p.block h]

theorem cell_alloc_new (w : World) (cs : Array Value) (T : TypeId) (fr : Nat × Nat) (n o : Nat) (hn : n = w.heap.size) : (w.alloc (.cells cs T fr)).cell? ⟨n, o, none⟩ = cs[o]? := by
  subst hn
  unfold World.cell?
  show (match (w.heap.push (.cells cs T fr))[w.heap.size]? with | some (.cells c _ _) => if (none : Option Nat).isSome then none else c[o]? | _ => none) = _
  rw [Array.getElem?_push, if_pos rfl]
  rfl

theorem size_alloc (w : World) (o : Obj) : (w.alloc o).heap.size = w.heap.size + 1 := by
  show (w.heap.push o).size = _
  rw [Array.size_push]

/-- An owned row stays owned where its block stays. -/
theorem ownsRow_of_heap {w w' : World} {base : Nat} {e : TypeId} {size : Nat} {v : Value} {n : Nat} {xs : List Value} (h : w.ownsRow base e size v n xs) (hh : ∀ g o, base ≤ g → w.heap[g]? = some o → w'.heap[g]? = some o) : w'.ownsRow base e size v n xs := by
  obtain ⟨h1, h2⟩ := h
  refine ⟨h1, ?_⟩
  rcases h2 with h2 | ⟨g, cap, cur, hv, hb, hg, hr⟩
  · exact .inl h2
  · exact .inr ⟨g, cap, cur, hv, hb, hh g _ hb hg, hr⟩

theorem ownsRow_below {w w' : World} {base : Nat} {e : TypeId} {size : Nat} {v : Value} {n : Nat} {xs : List Value} (h : w.ownsRow base e size v n xs) (hb : Below w.heap.size w w') : w'.ownsRow base e size v n xs :=
  ownsRow_of_heap h fun g o _ hg => by
    rw [hb.block g (by have := (Array.getElem?_eq_some_iff.1 hg).1; omega)]; exact hg

theorem ownsRow_setCell {w : World} {base : Nat} {e : TypeId} {size : Nat} {v : Value} {n : Nat} {xs : List Value} (h : w.ownsRow base e size v n xs) {p : Addr} (hp : p.block < base) (u : Value) : (w.setCell p u).ownsRow base e size v n xs :=
  ownsRow_of_heap h fun g o hb hg => by
    rw [Below.heap_setCell w p u g (by omega)]; exact hg

theorem ownsRow_shape {w : World} {base : Nat} {e : TypeId} {size : Nat} {v : Value} {n : Nat} {xs : List Value} (h : w.ownsRow base e size v n xs) : ∃ a c, v = .slice a n c ∧ (∀ k, v.ownBlock = some k → base ≤ k) := by
  obtain ⟨_, h2⟩ := h
  rcases h2 with ⟨rfl, rfl⟩ | ⟨g, cap, cur, rfl, hb, _⟩
  · exact ⟨none, 0, rfl, fun k h => by cases h⟩
  · exact ⟨_, _, rfl, fun k h => by cases h; exact hb⟩

/-- Behind a law that ends in 'grownBy' on a row from base on: below base all is as it was. -/
theorem below_grown {w w' : World} {v : Value} {base : Nat} (hg : w.grownBy w' v.ownBlock) (hv : ∀ k, v.ownBlock = some k → base ≤ k) (hb : base ≤ w.heap.size) : Below base w w' :=
  (Below.refl base w).grown hg hb hv

theorem block_cell {w : World} {b : Nat} {cs : Array Value} {t : TypeId} (h : w.heap[b]? = some (.cells cs t (0, 0))) (o : Nat) : w.cell? ⟨b, o, none⟩ = cs[o]? := by simp [World.cell?, h]
theorem block_free {w : World} {b : Nat} {cs : Array Value} {t : TypeId} (h : w.heap[b]? = some (.cells cs t (0, 0))) (o : Nat) : w.frozen? ⟨b, o, none⟩ = false := by simp [World.frozen?, h]
theorem block_set {w : World} {b : Nat} {cs : Array Value} {t : TypeId} (h : w.heap[b]? = some (.cells cs t (0, 0))) (o : Nat) (u : Value) : (w.setCell ⟨b, o, none⟩ u).heap[b]? = some (.cells (cs.setIfInBounds o u) t (0, 0)) := by
  have hlt := lt_of_block h
  have h' : w.heap[b] = .cells cs t (0, 0) := by simpa [Array.getElem?_eq_getElem hlt] using h
  show (w.heap.modify b _)[b]? = _
  rw [Array.getElem?_eq_getElem (by simpa using hlt), Array.getElem_modify_self, h']
  rfl
theorem block_set_other {w : World} {b : Nat} {x : Option Obj} (h : w.heap[b]? = x) {p : Addr} (hp : b ≠ p.block) (u : Value) : (w.setCell p u).heap[b]? = x := by
  rw [Below.heap_setCell w p u b hp]; exact h
theorem block_alloc {w : World} {b : Nat} {x : Obj} (h : w.heap[b]? = some x) (o : Obj) : (w.alloc o).heap[b]? = some x := by
  rw [Below.heap_alloc w o b (lt_of_block h)]; exact h
theorem block_new (w : World) (o : Obj) (b : Nat) (hb : b = w.heap.size) : (w.alloc o).heap[b]? = some o := by
  subst hb
  show (w.heap.push o)[w.heap.size]? = _
  rw [Array.getElem?_push, if_pos rfl]

theorem ownsRow_mono {w : World} {base base' : Nat} {e : TypeId} {size : Nat} {v : Value} {n : Nat} {xs : List Value} (h : w.ownsRow base e size v n xs) (hb : base' ≤ base) : w.ownsRow base' e size v n xs := by
  obtain ⟨h1, h2⟩ := h
  refine ⟨h1, ?_⟩
  rcases h2 with h2 | ⟨g, cap, cur, hv, hg, hr⟩
  · exact .inl h2
  · exact .inr ⟨g, cap, cur, hv, Nat.le_trans hb hg, hr⟩

theorem cell_lt {w : World} {a : Addr} {v : Value} (h : w.cell? a = some v) : a.block < w.heap.size := by
  unfold World.cell? at h
  rcases Nat.lt_or_ge a.block w.heap.size with h' | h'
  · exact h'
  · rw [Array.getElem?_eq_none h'] at h; cases h

end Go.Proofs.Ytbiihhokcmdlhaa

/- Slices whose elements are of m cells each, at whatever type: what every layer uses. -/
namespace Go.Proofs.Ytbiihhokcmdlhaa
open Go.RowKit

/-- The value v is a slice of the elements xs, each laid out by f in m cells. -/
def ElAt {α : Type} (m : Nat) (f : α → List Value) (w : World) (v : Value) (xs : List α) : Prop :=
  ∃ a cap, v = .slice a xs.length cap ∧ xs.length ≤ cap ∧ cap ≤ 9223372036854775807 ∧
    (0 < xs.length → ∃ b off, a = some ⟨b, off, none⟩ ∧ b < w.heap.size ∧
      ∀ i x, xs[i]? = some x → ∀ j u, (f x)[j]? = some u → w.cell? ⟨b, off + i * m + j, none⟩ = some u)

theorem getD_get? {α : Type} {xs : List α} {i : Nat} (hi : i < xs.length) (d : α) : xs[i]? = some (xs.getD i d) := by
  rw [List.getD_eq_getElem?_getD, List.getElem?_eq_getElem hi]; rfl

theorem getD_mem {α : Type} {xs : List α} {i : Nat} (hi : i < xs.length) (d : α) : xs.getD i d ∈ xs := List.mem_of_getElem? (getD_get? hi d)

section
variable {α : Type} {m : Nat} {f : α → List Value}

theorem ElAt.below {w w' : World} {B : Nat} {v : Value} {xs : List α} (h : ElAt m f w v xs) (hb : Below B w w') (hB : w.heap.size ≤ B) : ElAt m f w' v xs := by
  obtain ⟨a, cap, rfl, h1, h2, h3⟩ := h
  refine ⟨a, cap, rfl, h1, h2, fun h => ?_⟩
  obtain ⟨b, off, rfl, hlt, hc⟩ := h3 h
  exact ⟨b, off, rfl, Nat.lt_of_lt_of_le hlt hb.size, fun i x hx j u hu => (hb.cell (p := ⟨b, off + i * m + j, none⟩) (by show b < B; omega)).trans (hc i x hx j u hu)⟩

theorem ElAt.nil (w : World) : ElAt m f w (.slice none 0 0) [] := ⟨none, 0, rfl, Nat.le_refl _, by decide, fun h => absurd h (by simp)⟩

/-- The elements' cells one after the other. -/
theorem flat_at (hf : ∀ x, (f x).length = m) : ∀ (xs : List α) (i : Nat) (x : α), xs[i]? = some x → ∀ j u, (f x)[j]? = some u → (xs.flatMap f)[i * m + j]? = some u
  | [], i, x, hx, _, _, _ => by simp at hx
  | y :: ys, 0, x, hx, j, u, hu => by
    simp only [List.getElem?_cons_zero, Option.some.injEq] at hx
    subst hx
    have hj : j < (f y).length := (List.getElem?_eq_some_iff.1 hu).1
    rw [List.flatMap_cons, Nat.zero_mul, Nat.zero_add, List.getElem?_append_left hj]
    exact hu
  | y :: ys, i + 1, x, hx, j, u, hu => by
    simp only [List.getElem?_cons_succ] at hx
    have e : (i + 1) * m + j = (f y).length + (i * m + j) := by rw [hf, Nat.succ_mul]; omega
    rw [List.flatMap_cons, e, List.getElem?_append_right (by omega), Nat.add_sub_cancel_left]
    exact flat_at hf ys i x hx j u hu

theorem flat_len (hf : ∀ x, (f x).length = m) (xs : List α) : (xs.flatMap f).length = xs.length * m := by
  induction xs with
  | nil => simp
  | cons x xs ih => rw [List.flatMap_cons, List.length_append, hf, ih, List.length_cons, Nat.succ_mul]; omega

theorem ElAt.of_own (hf : ∀ x, (f x).length = m) {w : World} {base : Nat} {e : TypeId} {v : Value} {xs : List α} (h : w.ownsRow base e m v xs.length (xs.flatMap f)) : ElAt m f w v xs := by
  obtain ⟨hl, h2⟩ := h
  rcases h2 with ⟨rfl, h0⟩ | ⟨g, cap, cur, rfl, hb, hg, hn, hcap, hcs, htake⟩
  · have : xs = [] := List.eq_nil_of_length_eq_zero h0
    subst this
    exact ElAt.nil w
  · refine ⟨_, cap, rfl, hn, by unfold maxLen at hcap; omega, fun _ => ⟨g, 0, rfl, lt_of_block hg, fun i x hx j u hu => ?_⟩⟩
    have e1 := flat_at hf xs i x hx j u hu
    have hi : i * m + j < xs.length * m := by
      have h1 := (List.getElem?_eq_some_iff.1 e1).1
      rw [flat_len hf] at h1
      exact h1
    rw [← htake, List.getElem?_take_of_lt hi, Array.getElem?_toList] at e1
    rw [Nat.zero_add, block_cell hg]
    exact e1

/-- The cells of a slice's elements, as an append wants them. -/
theorem ElAt.news (hf : ∀ x, (f x).length = m) {w : World} {b off n cap : Nat} {xs : List α} (h : ElAt m f w (.slice (some ⟨b, off, none⟩) n cap) xs) (hp : 0 < xs.length) :
    ∀ j u, (xs.flatMap f)[j]? = some u → w.cell? ((⟨b, off, none⟩ : Addr).add j) = some u := by
  obtain ⟨a', cap', e, _, _, hc⟩ := h
  injection e with e1 e2 e3
  obtain ⟨b', off', e4, _, hc⟩ := hc hp
  rw [← e1] at e4
  injection e4 with e5
  injection e5 with e6 e7 e8
  subst e6; subst e7
  intro j u hu
  have hj := (List.getElem?_eq_some_iff.1 hu).1
  rw [flat_len hf] at hj
  have hm : 0 < m := by
    rcases Nat.eq_zero_or_pos m with h0 | h0
    · rw [h0, Nat.mul_zero] at hj; omega
    · exact h0
  have hi : j / m < xs.length := Nat.div_lt_of_lt_mul (by rw [Nat.mul_comm]; exact hj)
  have hx : xs[j / m]? = some xs[j / m] := List.getElem?_eq_getElem hi
  have hjm : j % m < (f xs[j / m]).length := by rw [hf]; exact Nat.mod_lt _ hm
  have hu' : (f xs[j / m])[j % m]? = some u := by
    have h1 := flat_at hf xs (j / m) _ hx (j % m) ((f xs[j / m])[j % m]) (List.getElem?_eq_getElem hjm)
    rw [show j / m * m + j % m = j by rw [Nat.mul_comm]; exact Nat.div_add_mod j m] at h1
    rw [hu] at h1
    rw [List.getElem?_eq_getElem hjm]
    exact h1.symm
  have h2 := hc (j / m) _ hx (j % m) u hu'
  rw [show off + j / m * m + j % m = off + j by rw [Nat.add_assoc, Nat.mul_comm, Nat.div_add_mod]] at h2
  have e9 : (⟨b, off, none⟩ : Addr).add j = ⟨b, off + j, none⟩ := by unfold Addr.add; split <;> simp_all
  rw [e9]
  exact h2

theorem ElAt.len {w w' : World} {v : Value} {xs ys : List α} (h : ElAt m f w v xs) (h' : ElAt m f w' v ys) : xs.length = ys.length := by
  obtain ⟨a, cap, rfl, _⟩ := h
  obtain ⟨a', cap', e, _⟩ := h'
  injection e

end

/-- The ints of a slice value lie in memory. -/
def InAt (w : World) (v : Value) (xs : List Int) : Prop :=
  ∃ a cap, v = .slice a xs.length cap ∧ xs.length ≤ cap ∧ cap ≤ 9223372036854775807 ∧
    (0 < xs.length → ∃ b off, a = some ⟨b, off, none⟩ ∧ b < w.heap.size ∧ ∀ i, i < xs.length → w.cell? ⟨b, off + i, none⟩ = some (.int .i64 (xs.getD i 0)))

theorem InAt.below {w w' : World} {B : Nat} {v : Value} {xs : List Int} (h : InAt w v xs) (hb : Below B w w') (hB : w.heap.size ≤ B) : InAt w' v xs := by
  obtain ⟨a, cap, rfl, h1, h2, h3⟩ := h
  refine ⟨a, cap, rfl, h1, h2, fun h => ?_⟩
  obtain ⟨b, off, rfl, hlt, hc⟩ := h3 h
  exact ⟨b, off, rfl, Nat.lt_of_lt_of_le hlt hb.size, fun i hi => (hb.cell (p := ⟨b, off + i, none⟩) (by show b < B; omega)).trans (hc i hi)⟩

theorem InAt.nil (w : World) : InAt w (.slice none 0 0) [] := ⟨none, 0, rfl, Nat.le_refl _, by decide, fun h => absurd h (by simp)⟩

theorem InAt.of_own {w : World} {base : Nat} {e : TypeId} {v : Value} {n : Nat} {xs : List Int} (h : w.ownsRow base e 1 v n (xs.map (Value.int .i64))) : InAt w v xs := by
  obtain ⟨hl, h2⟩ := h
  simp only [List.length_map, Nat.mul_one] at hl
  rcases h2 with ⟨rfl, rfl⟩ | ⟨g, cap, cur, rfl, hb, hg, hn, hcap, hcs, htake⟩
  · have : xs = [] := List.eq_nil_of_length_eq_zero hl
    subst this
    exact InAt.nil w
  · subst hl
    refine ⟨_, cap, rfl, hn, by unfold maxLen at hcap; omega, fun _ => ⟨g, 0, rfl, lt_of_block hg, fun i hi => ?_⟩⟩
    rw [Nat.zero_add, block_cell hg]
    have h1 : (cur.toList.take (xs.length * 1))[i]? = (xs.map (Value.int .i64))[i]? := by rw [htake]
    rw [List.getElem?_take_of_lt (by omega), List.getElem?_map, List.getElem?_eq_getElem hi] at h1
    rw [← Array.getElem?_toList, h1, List.getD_eq_getElem?_getD, List.getElem?_eq_getElem hi]
    rfl

theorem InAt.len {w w' : World} {v : Value} {xs ys : List Int} (h : InAt w v xs) (h' : InAt w' v ys) : xs.length = ys.length := by
  obtain ⟨a, cap, rfl, _⟩ := h
  obtain ⟨a', cap', e, _⟩ := h'
  injection e

end Go.Proofs.Ytbiihhokcmdlhaa

/- What the walks of every layer use. -/
namespace Go.Proofs.Ytbiihhokcmdlhaa
open Go.RowKit

theorem ret_int {k : IntKind} {a b : Int} (h : a = b) : Ending.returned (.int k a) = .returned (.int k b) := by rw [h]
theorem ret_bool {a b : Bool} (h : a = b) : Ending.returned (.bool a) = .returned (.bool b) := by rw [h]

theorem any_false_of {α : Type} {d : α} {p : α → Bool} {l : List α} (h : ∀ i, i < l.length → p (l.getD i d) = false) : l.any p = false := by
  rw [List.any_eq_false]
  intro x hx
  obtain ⟨i, hi, rfl⟩ := List.getElem_of_mem hx
  have := h i hi
  rw [List.getD_eq_getElem?_getD, List.getElem?_eq_getElem hi] at this
  simpa using this

theorem any_true_of {α : Type} {d : α} {p : α → Bool} {l : List α} {i : Nat} (hi : i < l.length) (h : p (l.getD i d) = true) : l.any p = true := by
  rw [List.any_eq_true]
  rw [List.getD_eq_getElem?_getD, List.getElem?_eq_getElem hi] at h
  exact ⟨l[i], List.getElem_mem hi, h⟩

/-- The answer of an index function: not below 0 just if there is one. -/
def IdxRes (P : Bool) (w : World) (e : Ending) (w' : World) : Prop := ∃ r : Int, e = .returned (.int .i64 r) ∧ decide (0 ≤ r) = P ∧ Below w.heap.size w w'

end Go.Proofs.Ytbiihhokcmdlhaa

/- The plain mathematics of layer 3 (circuit): wires, sets, dangers, trials. Nothing here speaks of the program. -/
namespace Go.Proofs.Ytbiihhokcmdlhaa

structure Wir where
  kind : Int
  of : List Int

def Wir.zero : Wir := ⟨0, []⟩

structure Cir where
  hz : Int
  sw : List Int
  ws : List Wir

/-- Hazards that are present, switches that are stuck closed, and open. -/
structure Sta where
  hz : Nat
  cl : Nat
  op : Nat

def letsM (c : Cir) (s : Sta) (k : Nat) : Bool := !s.op.testBit k && (s.cl.testBit k || decide ((c.sw.getD k 0).toNat &&& s.hz = 0))

/-- Whether a wire conducts; the first number bounds the wires still to come. -/
def cond (c : Cir) (s : Sta) : Nat → Int → Bool
  | 0, _ => false
  | f + 1, i =>
    let w := c.ws.getD i.toNat Wir.zero
    if w.kind = 1 then letsM c s (w.of.getD 0 0).toNat else if w.kind = 2 then w.of.all (cond c s f) else w.of.any (cond c s f)

theorem cond_succ (c : Cir) (s : Sta) (f : Nat) (i : Int) : cond c s (f + 1) i =
    if (c.ws.getD i.toNat Wir.zero).kind = 1 then letsM c s ((c.ws.getD i.toNat Wir.zero).of.getD 0 0).toNat else
      if (c.ws.getD i.toNat Wir.zero).kind = 2 then (c.ws.getD i.toNat Wir.zero).of.all (cond c s f) else (c.ws.getD i.toNat Wir.zero).of.any (cond c s f) := rfl

/-- From low to high, and strictly ascending. -/
def ascB (hi : Int) : Int → List Int → Bool
  | _, [] => true
  | lo, n :: l => decide (lo ≤ n ∧ n ≤ hi) && ascB hi (n + 1) l

theorem ascB_mem {hi : Int} : ∀ {l : List Int} {lo : Int}, ascB hi lo l = true → ∀ n ∈ l, lo ≤ n ∧ n ≤ hi
  | [], _, _, n, hn => by cases hn
  | x :: l, lo, h, n, hn => by
    unfold ascB at h
    simp only [Bool.and_eq_true, decide_eq_true_eq] at h
    rcases List.mem_cons.1 hn with rfl | hn
    · exact h.1
    · have := ascB_mem h.2 n hn
      omega

/-- A wire is as in the table: n switches, m wires. -/
def wireB (n m : Int) (i : Int) (w : Wir) : Bool :=
  if w.kind = 1 then decide (w.of.length = 1) && decide (0 ≤ w.of.getD 0 0 ∧ w.of.getD 0 0 ≤ n - 1) else
  if w.kind = 2 ∨ w.kind = 3 then decide (1 ≤ w.of.length ∧ w.of.length ≤ 8) && ascB (m - 1) (i + 1) w.of else false

/-- How often a wire is in the others, the first k of them. -/
def usedTo (ws : List Wir) (j : Nat) : Nat → Nat
  | 0 => 0
  | k + 1 => usedTo ws j k + (if (ws.getD k Wir.zero).kind = 1 then 0 else (ws.getD k Wir.zero).of.countP fun x => x == (j : Int))

def setB (n : Int) (many : Nat) : Bool := decide (0 ≤ n ∧ n ≤ 2 ^ many - 1)

def sizesB (c : Cir) : Bool := decide (1 ≤ c.hz ∧ c.hz ≤ 8) && decide (1 ≤ c.sw.length ∧ c.sw.length ≤ 12) && decide (1 ≤ c.ws.length ∧ c.ws.length ≤ 24)
def switchesB (c : Cir) : Bool := c.sw.all fun n => setB n c.hz.toNat
def wiresB (c : Cir) : Bool := (List.range c.ws.length).all fun i => wireB c.sw.length c.ws.length i (c.ws.getD i Wir.zero)
def joinedB (c : Cir) : Bool := (List.range c.ws.length).all fun i => decide (i = 0) || decide (usedTo c.ws i c.ws.length = 1)
def validB (c : Cir) : Bool := sizesB c && switchesB c && wiresB c && joinedB c
def chkC (c : Cir) : Int := if validB c = true then 0 else 30

/-- What a valid circuit is. -/
structure CVal (c : Cir) : Prop where
  h1 : 1 ≤ c.hz
  h2 : c.hz ≤ 8
  s1 : 1 ≤ c.sw.length
  s2 : c.sw.length ≤ 12
  w1 : 1 ≤ c.ws.length
  w2 : c.ws.length ≤ 24
  sw : ∀ k, k < c.sw.length → 0 ≤ c.sw.getD k 0 ∧ c.sw.getD k 0 ≤ 2 ^ c.hz.toNat - 1
  ws : ∀ i, i < c.ws.length → wireB c.sw.length c.ws.length i (c.ws.getD i Wir.zero) = true

theorem cval {c : Cir} (h : validB c = true) : CVal c := by
  unfold validB sizesB switchesB wiresB at h
  simp only [Bool.and_eq_true, decide_eq_true_eq, List.all_eq_true] at h
  obtain ⟨⟨⟨⟨⟨⟨h1, h2⟩, s1, s2⟩, w1, w2⟩, hs⟩, hw⟩, _⟩ := h
  refine ⟨h1, h2, s1, s2, w1, w2, fun k hk => ?_, fun i hi => hw i (List.mem_range.2 hi)⟩
  have := hs (c.sw.getD k 0) (by rw [List.getD_eq_getElem?_getD, List.getElem?_eq_getElem hk]; exact List.getElem_mem hk)
  unfold setB at this
  simpa using this

theorem wire_one {n m i : Int} {w : Wir} (h : wireB n m i w = true) (hk : w.kind = 1) : w.of.length = 1 ∧ 0 ≤ w.of.getD 0 0 ∧ w.of.getD 0 0 ≤ n - 1 := by
  unfold wireB at h
  rw [if_pos hk] at h
  simpa using h

theorem wire_more {n m i : Int} {w : Wir} (h : wireB n m i w = true) (hk : ¬ w.kind = 1) : (w.kind = 2 ∨ w.kind = 3) ∧ 1 ≤ w.of.length ∧ w.of.length ≤ 8 ∧ ∀ x ∈ w.of, i < x ∧ x < m := by
  unfold wireB at h
  rw [if_neg hk] at h
  split at h
  · rename_i hk2
    simp only [Bool.and_eq_true, decide_eq_true_eq] at h
    refine ⟨hk2, h.1.1, h.1.2, fun x hx => ?_⟩
    have := ascB_mem h.2 x hx
    omega
  · cases h

/-! ### with more switches stuck closed a wire never conducts less -/
structure Sta.Le (s t : Sta) : Prop where
  hz : ∀ i, t.hz.testBit i = true → s.hz.testBit i = true
  cl : ∀ i, s.cl.testBit i = true → t.cl.testBit i = true
  op : ∀ i, t.op.testBit i = true → s.op.testBit i = true

theorem lets_mono {c : Cir} {s t : Sta} (h : s.Le t) {k : Nat} (hl : letsM c s k = true) : letsM c t k = true := by
  unfold letsM at hl ⊢
  simp only [Bool.and_eq_true, Bool.not_eq_true', Bool.or_eq_true, decide_eq_true_eq] at hl ⊢
  refine ⟨?_, hl.2.imp (h.cl k) fun h0 => ?_⟩
  · cases ht : t.op.testBit k
    · rfl
    · rw [h.op k ht] at hl; cases hl.1
  · apply Nat.eq_of_testBit_eq
    intro i
    have := congrArg (Nat.testBit · i) h0
    simp only [Nat.testBit_and, Nat.zero_testBit, Bool.and_eq_false_iff] at this ⊢
    refine this.imp id fun h1 => ?_
    cases ht : t.hz.testBit i
    · rfl
    · rw [h.hz i ht] at h1; cases h1

theorem cond_mono {c : Cir} {s t : Sta} (h : s.Le t) : ∀ (f : Nat) (i : Int), cond c s f i = true → cond c t f i = true
  | 0, _, hc => by cases hc
  | f + 1, i, hc => by
    rw [cond_succ] at hc ⊢
    split at hc
    · rename_i h1; rw [if_pos h1]; exact lets_mono h hc
    · rename_i h1; rw [if_neg h1]
      split at hc
      · rename_i h2; rw [if_pos h2]
        rw [List.all_eq_true] at hc ⊢
        exact fun x hx => cond_mono h f x (hc x hx)
      · rename_i h2; rw [if_neg h2]
        rw [List.any_eq_true] at hc ⊢
        obtain ⟨x, hx, hc⟩ := hc
        exact ⟨x, hx, cond_mono h f x hc⟩

attribute [irreducible] cond

/-! ### dangers -/
def passM (c : Cir) (hz cl : Nat) : Bool := cond c ⟨hz, cl, 0⟩ 24 0
def weakM (c : Cir) (cl : Nat) : List Nat := (List.range c.hz.toNat).filter fun h => passM c (2 ^ h) cl
def dangB (c : Cir) (cl : Nat) : Bool := (List.range c.hz.toNat).any fun h => passM c (2 ^ h) cl
def critM (c : Cir) : List Nat := (List.range c.sw.length).filter fun k => dangB c (2 ^ k)
def pairB (c : Cir) (i k : Nat) : Bool := decide (i < k) && !dangB c (2 ^ i) && !dangB c (2 ^ k) && dangB c (2 ^ i ||| 2 ^ k)
/-- The pairs with i, up to k; all pairs up to i. -/
def pairRow (c : Cir) (i : Nat) (k : Nat) : List (Nat × Nat) := ((List.range k).filter (pairB c i)).map fun k => (i, k)
def pairTo (c : Cir) : Nat → List (Nat × Nat)
  | 0 => []
  | i + 1 => pairTo c i ++ pairRow c i c.sw.length
def pairsM (c : Cir) : List (Nat × Nat) := pairTo c c.sw.length

theorem weak_dang (c : Cir) (cl : Nat) : (weakM c cl = []) ↔ dangB c cl = false := by
  unfold weakM dangB
  rw [List.filter_eq_nil_iff, List.any_eq_false]

theorem mem_pairTo {c : Cir} {a b : Nat} : ∀ n, (a, b) ∈ pairTo c n ↔ a < n ∧ b < c.sw.length ∧ pairB c a b = true
  | 0 => by simp [pairTo]
  | n + 1 => by
    simp only [pairTo, List.mem_append, mem_pairTo n, pairRow, List.mem_map, List.mem_filter, List.mem_range, Prod.mk.injEq]
    constructor
    · rintro (⟨h1, h2⟩ | ⟨k, ⟨h1, h2⟩, rfl, rfl⟩)
      · exact ⟨by omega, h2⟩
      · exact ⟨by omega, h1, h2⟩
    · rintro ⟨h1, h2, h3⟩
      by_cases e : a = n
      · subst e; exact Or.inr ⟨b, ⟨h2, h3⟩, rfl, rfl⟩
      · exact Or.inl ⟨by omega, h2, h3⟩

theorem pass_mono {c : Cir} {hz cl hz' cl' : Nat} (h1 : ∀ i, hz'.testBit i = true → hz.testBit i = true) (h2 : ∀ i, cl.testBit i = true → cl'.testBit i = true) (h : passM c hz cl = true) : passM c hz' cl' = true :=
  cond_mono ⟨h1, h2, fun i hi => by simp at hi⟩ 24 0 h

theorem dang_mono {c : Cir} {cl cl' : Nat} (h2 : ∀ i, cl.testBit i = true → cl'.testBit i = true) (h : dangB c cl = true) : dangB c cl' = true := by
  unfold dangB at h ⊢
  rw [List.any_eq_true] at h ⊢
  obtain ⟨x, hx, h⟩ := h
  exact ⟨x, hx, pass_mono (fun i hi => hi) h2 h⟩

theorem or_left (a b i : Nat) (h : a.testBit i = true) : (a ||| b).testBit i = true := by rw [Nat.testBit_or, h]; rfl
theorem or_right (a b i : Nat) (h : b.testBit i = true) : (a ||| b).testBit i = true := by rw [Nat.testBit_or, h]; simp

/-- Two switches are dangerous together exactly if one of them is critical, or both are a pair. -/
theorem two_dang {c : Cir} {a b : Nat} (hab : a < b) (hb : b < c.sw.length) : dangB c (2 ^ a ||| 2 ^ b) = true ↔ ((a, b) ∈ pairsM c ∨ a ∈ critM c ∨ b ∈ critM c) := by
  unfold pairsM critM
  rw [mem_pairTo]
  simp only [List.mem_filter, List.mem_range, pairB, Bool.and_eq_true, decide_eq_true_eq, Bool.not_eq_true']
  constructor
  · intro h
    cases h1 : dangB c (2 ^ a)
    · cases h2 : dangB c (2 ^ b)
      · exact Or.inl ⟨by omega, hb, ⟨⟨hab, rfl⟩, rfl⟩, h⟩
      · exact Or.inr (Or.inr ⟨hb, rfl⟩)
    · exact Or.inr (Or.inl ⟨by omega, rfl⟩)
  · rintro (⟨_, _, _, h⟩ | ⟨_, h⟩ | ⟨_, h⟩)
    · exact h
    · exact dang_mono (or_left _ _) h
    · exact dang_mono (or_right _ _) h

/-- A switch that is not critical, stuck alone, lets the machine run with no hazards present, at least one, whatever is stuck open. -/
theorem single_stop {c : Cir} (hc : critM c = []) {k : Nat} (hk : k < c.sw.length) {hz : Nat} (h0 : hz ≠ 0) (hh : hz < 2 ^ c.hz.toNat) (op : Nat) : cond c ⟨hz, 2 ^ k, op⟩ 24 0 = false := by
  cases hr : cond c ⟨hz, 2 ^ k, op⟩ 24 0
  · rfl
  · exfalso
    obtain ⟨i, hi⟩ := Nat.exists_testBit_of_ne_zero h0
    have hlt : i < c.hz.toNat := by
      apply Nat.lt_of_not_le
      intro hle
      have := Nat.testBit_lt_two_pow (Nat.lt_of_lt_of_le hh (Nat.pow_le_pow_right (by omega) hle))
      rw [this] at hi; cases hi
    have h1 : passM c (2 ^ i) (2 ^ k) = true := by
      unfold passM
      refine cond_mono (s := ⟨hz, 2 ^ k, op⟩) (t := ⟨2 ^ i, 2 ^ k, 0⟩) ⟨fun j hj => ?_, fun j hj => hj, fun j hj => by exact absurd hj (by simp)⟩ 24 0 hr
      rw [Nat.testBit_two_pow] at hj
      obtain rfl : i = j := by simpa using hj
      exact hi
    have h2 : dangB c (2 ^ k) = true := List.any_eq_true.2 ⟨i, List.mem_range.2 hlt, h1⟩
    have h3 : k ∈ critM c := List.mem_filter.2 ⟨List.mem_range.2 hk, h2⟩
    rw [hc] at h3
    cases h3

end Go.Proofs.Ytbiihhokcmdlhaa

/- The plain mathematics of layer 3 (circuit), second part: the least set, trials, rotas, plays. Nothing here speaks of the program. -/
namespace Go.Proofs.Ytbiihhokcmdlhaa

structure Tri where
  hz : Int
  wire : Int
def Tri.zero : Tri := ⟨0, 0⟩

/-- The number whose bits below n are as p says. -/
def bitsOf (p : Nat → Bool) : Nat → Nat
  | 0 => 0
  | k + 1 => if p k = true then bitsOf p k ||| 2 ^ k else bitsOf p k

theorem testBit_bitsOf {p : Nat → Bool} {i : Nat} : ∀ n, (bitsOf p n).testBit i = (decide (i < n) && p i)
  | 0 => by simp [bitsOf]
  | n + 1 => by
    unfold bitsOf
    split
    · rename_i h
      rw [Nat.testBit_or, testBit_bitsOf n, Nat.testBit_two_pow]
      by_cases e : n = i
      · subst e; simp [h]
      · have : decide (i < n + 1) = decide (i < n) := decide_eq_decide.2 (by omega)
        rw [this]; simp [e]
    · rename_i h
      rw [testBit_bitsOf n]
      by_cases e : n = i
      · subst e
        have : p n = false := by simpa using h
        simp [this]
      · have : decide (i < n + 1) = decide (i < n) := decide_eq_decide.2 (by omega)
        rw [this]

theorem bitsOf_lt (p : Nat → Bool) (n : Nat) : bitsOf p n < 2 ^ n := by
  apply Nat.lt_pow_two_of_testBit
  intro j hj
  rw [testBit_bitsOf]
  have h1 : ¬ j < n := by omega
  simp [h1]

def toldB (c : Cir) (t : Tri) (cl : Nat) : Bool := cond c ⟨t.hz.toNat, cl, 0⟩ 24 t.wire && !cond c ⟨t.hz.toNat, 0, 0⟩ 24 t.wire
def shownM (c : Cir) (t : Tri) : Nat := bitsOf (fun k => toldB c t (2 ^ k)) c.sw.length
def triB (c : Cir) (t : Tri) : Bool := setB t.hz c.hz.toNat && decide (0 ≤ t.wire ∧ t.wire ≤ (c.ws.length : Int) - 1)
def chkT (c : Cir) (l : List Tri) : Int := if validB c = false then 30 else if 12 < l.length then 2 else if l.all (triB c) = true then 0 else 31

/-- The union of the sets of a list whose numbers are listed. -/
def unionM (sets : List Nat) : List Int → Nat
  | [] => 0
  | k :: ks => sets.getD k.toNat 0 ||| unionM sets ks

theorem testBit_union {sets : List Nat} {i : Nat} : ∀ {ks : List Int}, (unionM sets ks).testBit i = ks.any fun k => (sets.getD k.toNat 0).testBit i
  | [] => by simp [unionM]
  | k :: ks => by rw [unionM, Nat.testBit_or, testBit_union, List.any_cons]

/-- The first number below n of which p says so; n, if there is none. -/
def fstB (p : Nat → Bool) : Nat → Nat
  | 0 => 0
  | n + 1 => if fstB p n < n then fstB p n else if p n = true then n else n + 1

theorem fstB_spec (p : Nat → Bool) : ∀ n, fstB p n ≤ n ∧ (∀ i, i < fstB p n → p i = false) ∧ (fstB p n < n → p (fstB p n) = true)
  | 0 => ⟨Nat.le_refl _, fun i hi => by simp [fstB] at hi, fun h => by simp [fstB] at h⟩
  | n + 1 => by
    obtain ⟨h1, h2, h3⟩ := fstB_spec p n
    unfold fstB
    split
    · rename_i h; exact ⟨by omega, h2, fun _ => h3 h⟩
    · rename_i h
      have e : fstB p n = n := by omega
      rw [e] at h2
      split
      · rename_i hp; exact ⟨by omega, h2, fun _ => hp⟩
      · rename_i hp
        refine ⟨Nat.le_refl _, fun i hi => ?_, fun h => by omega⟩
        by_cases hin : i = n
        · subst hin; simpa using hp
        · exact h2 i (by omega)

theorem fstB_eq {p : Nat → Bool} {n r : Nat} (h1 : r ≤ n) (h2 : ∀ i, i < r → p i = false) (h3 : r < n → p r = true) : fstB p n = r := by
  obtain ⟨g1, g2, g3⟩ := fstB_spec p n
  rcases Nat.lt_trichotomy (fstB p n) r with h | h | h
  · have := g3 (by omega); rw [h2 _ h] at this; cases this
  · exact h
  · have := h3 (by omega); rw [g2 _ h] at this; cases this

structure Rot where
  nights : List (List Int)
  gap : Int

def rotB (m : Int) (r : Rot) : Bool := decide (1 ≤ r.nights.length ∧ r.nights.length ≤ 60) && decide (1 ≤ r.gap ∧ r.gap ≤ 60) && r.nights.all (ascB (m - 1) 0)

def chkR (c : Cir) (l : List Tri) (r : Rot) : Int := if chkT c l = 0 then (if rotB l.length r = true then 0 else 32) else chkT c l

/-- A switch is tried from a night on, within so many nights of a round. -/
def triedB (round : List Nat) (gap sw from_ : Nat) : Bool := (List.range gap).any fun d => (round.getD ((from_ + d) % round.length) 0).testBit sw
/-- The first night from which on it is not; the first switch for which there is one. -/
def missN (round : List Nat) (gap sw : Nat) : Nat := fstB (fun n => !triedB round gap sw n) round.length
def missS (round : List Nat) (gap n : Nat) : Nat := fstB (fun k => decide (missN round gap k < round.length)) n

structure TrA where
  sw : Int
  night : Int
  ok : Bool
def triesM (round : List Nat) (gap n : Nat) : TrA := if missS round gap n < n then ⟨missS round gap n, missN round gap (missS round gap n), false⟩ else ⟨0, 0, true⟩

def setsM (c : Cir) (l : List Tri) : List Nat := l.map (shownM c)
def roundM (c : Cir) (l : List Tri) (r : Rot) : List Nat := r.nights.map (unionM (setsM c l))

theorem tries_ok {round : List Nat} {gap n : Nat} : (triesM round gap n).ok = true ↔ ∀ k, k < n → ∀ i, i < round.length → triedB round gap k i = true := by
  obtain ⟨h1, h2, h3⟩ := fstB_spec (fun k => decide (missN round gap k < round.length)) n
  unfold triesM
  constructor
  · intro h k hk i hi
    split at h
    · cases h
    · rename_i hm
      have e : missS round gap n = n := by have : missS round gap n ≤ n := h1; omega
      have hk2 := h2 k (by show k < missS round gap n; omega)
      obtain ⟨g1, g2, _⟩ := fstB_spec (fun n => !triedB round gap k n) round.length
      have hk3 : ¬ missN round gap k < round.length := by simpa using hk2
      have := g2 i (by show i < missN round gap k; omega)
      simpa using this
  · intro h
    rw [if_neg]
    intro hm
    have := h3 hm
    simp only [decide_eq_true_eq] at this
    obtain ⟨g1, g2, g3⟩ := fstB_spec (fun n => !triedB round gap (missS round gap n) n) round.length
    obtain ⟨f1, f2, f3⟩ := fstB_spec (fun m => !triedB round gap (missS round gap n) m) round.length
    have h5 := f3 this
    have h6 : triedB round gap (missS round gap n) (fstB (fun m => !triedB round gap (missS round gap n) m) round.length) = true := h _ hm _ this
    rw [h6] at h5
    cases h5

end Go.Proofs.Ytbiihhokcmdlhaa

/- Walks of layer 3 (circuit), the leaves: within, has, alone, isSet, those. -/
namespace Go.Proofs.Ytbiihhokcmdlhaa
open Go.RowKit

/-! ### bits of ints -/
theorem wrap_i64_in {n : Int} (h1 : -9223372036854775808 ≤ n) (h2 : n ≤ 9223372036854775807) : IntKind.i64.wrap n = n := by
  simp [IntKind.wrap, IntKind.bits, IntKind.signed]; omega

theorem ofInt_i64 (a : Nat) (ha : a < 18446744073709551616) : (BitVec.ofInt 64 (a : Int)).toNat = a := by
  rw [BitVec.ofInt_natCast, BitVec.toNat_ofNat]; exact Nat.mod_eq_of_lt (by omega)

theorem i64_and_nat (a b : Nat) (ha : a < 4611686018427387904) (hb : b < 4611686018427387904) : bits .and .i64 (a : Int) (b : Int) = ((a &&& b : Nat) : Int) := by
  have hx : a &&& b < 2 ^ 62 := Nat.and_lt_two_pow _ (by omega)
  show IntKind.i64.wrap ((BitVec.ofInt 64 (a : Int) &&& BitVec.ofInt 64 (b : Int)).toNat : Int) = _
  rw [BitVec.toNat_and, ofInt_i64 a (by omega), ofInt_i64 b (by omega)]
  exact wrap_i64_in (by omega) (by omega)

theorem i64_or_nat (a b : Nat) (ha : a < 4611686018427387904) (hb : b < 4611686018427387904) : bits .or .i64 (a : Int) (b : Int) = ((a ||| b : Nat) : Int) := by
  have hx : a ||| b < 2 ^ 62 := Nat.or_lt_two_pow (by omega) (by omega)
  show IntKind.i64.wrap ((BitVec.ofInt 64 (a : Int) ||| BitVec.ofInt 64 (b : Int)).toNat : Int) = _
  rw [BitVec.toNat_or, ofInt_i64 a (by omega), ofInt_i64 b (by omega)]
  exact wrap_i64_in (by omega) (by omega)

theorem bit_of_shift (s k : Nat) : ((s / 2 ^ k) &&& 1 = 1) ↔ s.testBit k = true := by
  rw [Nat.testBit_eq_decide_div_mod_eq, decide_eq_true_eq, Nat.and_one_is_mod]

theorem shr_nat (s k : Nat) : (s : Int) / 2 ^ k = ((s / 2 ^ k : Nat) : Int) := by simp

theorem and_one_bit {s k : Nat} (hs : s < 4611686018427387904) : (bits .and .i64 ((s : Int) / 2 ^ k) 1 == 1) = s.testBit k := by
  have h1 : s / 2 ^ k ≤ s := Nat.div_le_self _ _
  rw [shr_nat]
  have h2 := i64_and_nat (s / 2 ^ k) 1 (by omega) (by omega)
  rw [show ((1 : Nat) : Int) = 1 from rfl] at h2
  rw [h2]
  have h3 := bit_of_shift s k
  cases ht : s.testBit k
  · rw [ht] at h3
    simp only [Bool.false_eq_true, iff_false] at h3
    simp only [beq_eq_false_iff_ne, ne_eq]
    omega
  · rw [ht] at h3
    rw [h3.2 rfl]
    rfl

theorem pow_small {k : Nat} (h : k ≤ 60) : (2 : Nat) ^ k ≤ 1152921504606846976 := by
  have := Nat.pow_le_pow_right (show 0 < 2 by omega) h
  omega

theorem wrap64_pow {k : Nat} (h : k ≤ 60) : wrap64 ((2 : Int) ^ k) = ((2 ^ k : Nat) : Int) := by
  have := pow_small h
  rw [show ((2 : Int) ^ k) = ((2 ^ k : Nat) : Int) by simp]
  generalize (2 ^ k : Nat) = m at *
  exact IntWalk.wrap64_in _ ⟨by omega, by omega⟩

set_option maxHeartbeats 400000 in
theorem cwithin_any (n lo hi : Int) (w : World) :
    Calls Try.prog 75 #[.int .i64 n, .int .i64 lo, .int .i64 hi] w fun e w' => e = .returned (.bool (decide (lo ≤ n ∧ n ≤ hi))) ∧ w = w' := by
  go_enter Try.func75, Try.ntmps75
  go_wp2
  all_goals (go_ret; exact ⟨ret_bool (by simp; omega), rfl⟩)

theorem cwithin_is (q : Bool) (n lo hi : Int) (w : World) (h : decide (lo ≤ n ∧ n ≤ hi) = q) :
    Calls Try.prog 75 #[.int .i64 n, .int .i64 lo, .int .i64 hi] w fun e w' => e = .returned (.bool q) ∧ w = w' := by
  subst h
  exact cwithin_any n lo hi w

set_option maxHeartbeats 400000 in
theorem rwithin_any (n lo hi : Int) (w : World) :
    Calls Try.prog 80 #[.int .i64 n, .int .i64 lo, .int .i64 hi] w fun e w' => e = .returned (.bool (decide (lo ≤ n ∧ n ≤ hi))) ∧ w = w' := by
  go_enter Try.func80, Try.ntmps80
  go_wp2
  all_goals (go_ret; exact ⟨ret_bool (by simp; omega), rfl⟩)

theorem rwithin_is (q : Bool) (n lo hi : Int) (w : World) (h : decide (lo ≤ n ∧ n ≤ hi) = q) :
    Calls Try.prog 80 #[.int .i64 n, .int .i64 lo, .int .i64 hi] w fun e w' => e = .returned (.bool q) ∧ w = w' := by
  subst h
  exact rwithin_any n lo hi w

set_option maxHeartbeats 400000 in
theorem calone_any (k : Nat) (w : World) (hk : k ≤ 60) :
    Calls Try.prog 86 #[.int .i64 k] w fun e w' => e = .returned (.int .i64 ((2 ^ k : Nat) : Int)) ∧ w = w' := by
  have h0 : (0 : Int) ≤ k := by omega
  go_enter Try.func86, Try.ntmps86
  go_wp2
  go_ret
  exact ⟨ret_int (wrap64_pow hk), rfl⟩

set_option maxHeartbeats 400000 in
theorem chas_any (s k : Nat) (w : World) (hs : s < 4611686018427387904) (hk : k ≤ 60) :
    Calls Try.prog 99 #[.int .i64 s, .int .i64 k] w fun e w' => e = .returned (.bool (s.testBit k)) ∧ w = w' := by
  have h0 : (0 : Int) ≤ k := by omega
  go_enter Try.func99, Try.ntmps99
  go_wp2
  go_ret
  exact ⟨ret_bool (and_one_bit hs), rfl⟩

/-- The numbers of a list of natural ones. -/
def natL (l : List Nat) : List Int := l.map Int.ofNat

/-- A call of K enters it. -/
def Enters (K : Nat) : Prop := ∀ (args : Array Value) (w : World), (callFunc K args).run Try.prog w = .ok (.enter K args) w

/-- A list of numbers in new memory. -/
def ListRes (l : List Int) (w : World) (e : Ending) (w' : World) : Prop := ∃ v, e = .returned v ∧ InAt w' v l ∧ Below w.heap.size w w'

theorem infoInt : (Try.prog.info? 3).map (fun i => (i.zero, i.size, i.bytes)) = some (some (.int .i64 0), 1, 8) := by kernel_rfl

theorem one_cell (w : World) (x : Value) (t : TypeId) {g : Nat} (hg : g = w.heap.size) : ∀ j u, [x][j]? = some u → (w.alloc (.cells #[x] t)).cell? ((⟨g, 0, none⟩ : Addr).add j) = some u := by
  subst hg
  intro j u hj
  have h := cell_alloc_new w #[x] t (0, 0) w.heap.size j rfl
  have e9 : (⟨w.heap.size, 0, none⟩ : Addr).add j = ⟨w.heap.size, j, none⟩ := by unfold Addr.add; split <;> simp_all
  rw [e9, h]
  simpa using hj

theorem filter_no {p : Nat → Bool} {k : Nat} (h : p k = false) : (List.range (k + 1)).filter p = (List.range k).filter p := by
  rw [List.range_succ, List.filter_append]; simp [h]
theorem filter_yes {p : Nat → Bool} {k : Nat} (h : p k = true) : (List.range (k + 1)).filter p = (List.range k).filter p ++ [k] := by
  rw [List.range_succ, List.filter_append]; simp [h]
theorem filter_len (p : Nat → Bool) (k : Nat) : ((List.range k).filter p).length ≤ k := by
  have := List.length_filter_le p (List.range k)
  simpa using this

set_option maxRecDepth 100000 in
set_option maxHeartbeats 1000000 in
theorem those_any (K : Nat) (bs cs : Array Value) (n : Nat) (p : Nat → Bool) (w : World) (hn : n ≤ 100000) (hK : Enters K)
    (hg : ∀ (k : Nat) (w1 : World), k < n → Below w.heap.size w w1 → Calls Try.prog K (bs.push (.int .i64 k) ++ cs) w1 fun e w' => e = .returned (.bool (p k)) ∧ Below w1.heap.size w1 w') :
    Calls Try.prog 83 #[.int .i64 n, .func (.func K) bs cs] w (ListRes (natL ((List.range n).filter p)) w) := by
  have HG := Lib.hid hg
  have hk1 := hK
  unfold Enters at hk1
  clear hg hK
  go_enter Try.func83, Try.ntmps83
  go_wp2_with fail
  obtain ⟨i0, hi0, hz0, hz1, hz2⟩ := info_parts infoInt
  go_loopw [5, 8] (fun v x wr => ∃ k : Nat, k ≤ n ∧ x = .int .i64 k ∧ Below w.heap.size w wr ∧ Hid (wr.ownsRow w.heap.size 3 1 v ((List.range k).filter p).length ((natL ((List.range k).filter p)).map (Value.int .i64)))) (fun _ x _ => n - (intOf x).toNat)
  case atStart => exact ⟨0, Nat.zero_le _, rfl, Below.refl _ _, Lib.hid ⟨by simp [natL], Or.inl ⟨rfl, by simp⟩⟩⟩
  case round =>
    obtain ⟨k, hk, rfl, hb, ho⟩ := hrel
    by_cases hlt : k < n
    · go_wp2_with fail
      refine (HG.out k wr hlt hb).mono ?_
      rintro e w1 ⟨rfl, hb1⟩
      have hb2 := hb.trans (hb1.mono hb.size)
      have HO := Lib.hid (ownsRow_below ho.out hb1)
      obtain ⟨a, c, rfl, hown⟩ := ownsRow_shape ho.out
      have HOWN := Lib.hid hown
      clear hb hb1 ho hown
      have hsz := hb2.size
      cases hq : p k
      · have HQ := Lib.hid (filter_no hq)
        clear hq
        go_wp2_with fail
        go_roundw
        case rel => exact ⟨k + 1, hlt, by go_num, hb2, by rw [HQ.out]; exact HO⟩
        case measure => simp [intOf]; omega
      · have HQ := Lib.hid (filter_yes hq)
        clear hq
        have hle := filter_len p k
        generalize hL : (List.range k).filter p = L at *
        have HL := Lib.hid hL
        clear hL
        have hln : (natL L).length = L.length := by simp [natL]
        go_wp2_with (at_builtin; refine wpList_append_own _ rfl (.tmp 14) (.tmp 16) 22 rfl w.heap.size 3 i0 (.int .i64 0) 1 8 Try.underlying22 hi0 hz0 hz1 hz2 rfl (by decide) _ L.length ((natL L).map (Value.int .i64)) rfl ?c0 _ _ _ [.int .i64 k] rfl rfl ?c1 ?c2 ?c3 ?c4 ?c5 ?_)
        case c0 => exact World.ownsRow.alloc HO.out _
        case c1 => exact one_cell _ _ _ rfl
        case c2 => intro u hu; simp only [List.mem_cons, List.not_mem_nil, or_false] at hu; subst hu; rfl
        case c3 => unfold maxLen; omega
        case c4 => omega
        case c5 => exact Nat.le_trans hsz (by rw [size_alloc]; omega)
        intro v2 w4 hown2 hgrow _
        have hbX := below_grown hgrow HOWN.out (Nat.le_trans hsz (by rw [size_alloc]; omega))
        have HBX := Lib.hid (hb2.trans (((Below.refl _ _).alloc hsz _).trans hbX))
        have HN : Hid (w4.ownsRow w.heap.size 3 1 v2 (L ++ [k]).length ((natL (L ++ [k])).map (Value.int .i64))) := by
          have e1 : (L ++ [k]).length = L.length + 1 := by simp
          have e2 : (natL (L ++ [k])).map (Value.int .i64) = (natL L).map (Value.int .i64) ++ [.int .i64 k] := by simp [natL]
          rw [e1, e2]; exact hown2
        obtain ⟨r2, c2, rfl, _⟩ := ownsRow_shape hown2
        clear hown2 hgrow hbX hb2
        go_wp2
        go_roundw
        case rel => exact ⟨k + 1, hlt, by go_num, HBX.out, by rw [HQ.out]; exact HN⟩
        case measure => simp [intOf]; omega
    · obtain rfl : k = n := by omega
      have HO := ho
      obtain ⟨a, c, rfl, _⟩ := ownsRow_shape ho.out
      go_wp2_with fail
      go_ret
      exact ⟨_, rfl, InAt.of_own HO.out, hb⟩

end Go.Proofs.Ytbiihhokcmdlhaa

/- Regions that draw their order and hold calls that make memory: one walk in the order of the text, in the class of the worlds that are as W below block B. -/
namespace Go.Proofs.Ytbiihhokcmdlhaa
open Go.RowKit

/-- A world that is as W below block B. -/
structure BW (B : Nat) (W : World) where
  w : World
  b : Below B W w

instance bwNonempty (B : Nat) (W : World) : Nonempty (BW B W) := ⟨⟨W, Below.refl _ _⟩⟩

section
variable {P : Program} {B : Nat} {W : World}

theorem wp_region_below {id : Nat} {Q : Exit → Act → World → Prop} {a : Act} {w : World} {l : List Oper} (hm : P.follows .mixedOrders = true) (hB : Region.lexB .any l.toArray = true) (hw : Below B W w)
    (h : wpQuiet P l.toArray (fun w' => ∃ x : BW B W, w' = x.w) (fun a' => ∀ w', (∃ x : BW B W, w' = x.w) → Q .normal a' w') l a) : (Code.region id l.toArray true).wp P Q a w :=
  wp_region_quiet (C := fun w' => ∃ x : BW B W, w' = x.w) hm hB ⟨⟨_, hw.drew⟩, rfl⟩ (by simpa using h)

theorem bw_call {f : FuncId} {args : Array Value} {x : BW B W} {v : Value} (hB : B ≤ W.heap.size) (h : Calls P f args x.w fun e w' => e = .returned v ∧ Below x.w.heap.size x.w w') :
    Calls P f args x.w fun e w'' => e = .returned v ∧ ∃ y : BW B W, w'' = y.w :=
  h.mono fun _ w' ⟨he, hb⟩ => ⟨he, ⟨w', x.b.trans (hb.mono (Nat.le_trans hB x.b.size))⟩, rfl⟩

theorem bw_same {f : FuncId} {args : Array Value} {x : BW B W} {v : Value} (h : Calls P f args x.w fun e w' => e = .returned v ∧ x.w = w') :
    Calls P f args x.w fun e w'' => e = .returned v ∧ ∃ y : BW B W, w'' = y.w :=
  h.mono fun _ _ ⟨he, hb⟩ => ⟨he, x, hb.symm⟩

theorem bw_same' {f : FuncId} {args : Array Value} {x : BW B W} {v : Value} (h : Calls P f args x.w fun e w' => e = .returned v ∧ w' = x.w) :
    Calls P f args x.w fun e w'' => e = .returned v ∧ ∃ y : BW B W, w'' = y.w :=
  h.mono fun _ _ ⟨he, hb⟩ => ⟨he, x, hb⟩

/-- A call from a world that is as A below B: so is the world behind it. -/
theorem calls_big {f : FuncId} {args : Array Value} {A W' : World} {v : Ending} (hB : Below B A W') (hA : B ≤ A.heap.size) (h : Calls P f args W' fun e w' => e = v ∧ Below W'.heap.size W' w') : Calls P f args W' fun e w' => e = v ∧ Below B A w' :=
  h.mono fun _ _ ⟨he, hb⟩ => ⟨he, hB.trans (hb.mono (Nat.le_trans hA hB.size))⟩

theorem bw_out {w' : World} (h : ∃ x : BW B W, w' = x.w) : Below B W w' := by
  obtain ⟨x, rfl⟩ := h
  exact x.b

/-- The cells of a block that is known, in every world of the class. -/
theorem bw_cells {b : Nat} {cs : Array Value} {t : TypeId} (hk : W.heap[b]? = some (.cells cs t (0, 0))) (hb : b < B) : ∀ (x : BW B W) (o : Nat), x.w.cell? ⟨b, o, none⟩ = cs[o]? :=
  fun x o => block_cell ((x.b.block b hb).trans hk) o

theorem bw_cell {b o : Nat} {v : Value} (hk : W.cell? ⟨b, o, none⟩ = some v) (hb : b < B) : ∀ x : BW B W, x.w.cell? ⟨b, o, none⟩ = some v :=
  fun x => (x.b.cell (p := ⟨b, o, none⟩) hb).trans hk
end

end Go.Proofs.Ytbiihhokcmdlhaa
