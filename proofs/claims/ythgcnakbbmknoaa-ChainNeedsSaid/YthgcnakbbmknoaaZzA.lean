import Derived.WalkKit
import Derived.OneCell
import Derived.Below
import Derived.Test.YthgcnakbbmknoaaRows
import Derived.WalkSpells
import Derived.WalkLawsBesides
import Derived.Lib.Hide
import Derived.BigQuiet
import Derived.Deep.QuietTactic
import Derived.Deep.DeepFit
/- Texts of one seat, merged: Ge Gs Gw Km Kn Ko Kp Kw Qm Qn Qw -/
/- General small lemmas on worlds, used by the walks of every layer. -/
namespace Go.Proofs.Ythgcnakbbmknoaa
open Go.RowKit

theorem cell_alloc_old {w : World} {o : Obj} {p : Addr} (h : p.block < w.heap.size) : (w.alloc o).cell? p = w.cell? p := by
  unfold World.cell?
  rw [Below.heap_alloc w o p.block h]

theorem cell_alloc_new (w : World) (cs : Array Value) (T : TypeId) (fr : Nat × Nat) (n o : Nat) (hn : n = w.heap.size) : (w.alloc (.cells cs T fr)).cell? ⟨n, o, none⟩ = cs[o]? := by
  subst hn
  unfold World.cell?
  show (match (w.heap.push (.cells cs T fr))[w.heap.size]? with | some (.cells c _ _) => if (none : Option Nat).isSome then none else c[o]? | _ => none) = _
  rw [Array.getElem?_push, if_pos rfl]
  rfl

theorem size_alloc (w : World) (o : Obj) : (w.alloc o).heap.size = w.heap.size + 1 := by
  show (w.heap.push o).size = _
  rw [Array.size_push]

/-- An owned row stays owned where its block stays. -/
theorem ownsRow_of_heap {w w' : World} {base : Nat} {e : TypeId} {size : Nat} {v : Value} {n : Nat} {xs : List Value} (h : w.ownsRow base e size v n xs) (hh : ∀ g o, base ≤ g → w.heap[g]? = some o → w'.heap[g]? = some o) : w'.ownsRow base e size v n xs := by
  obtain ⟨h1, h2⟩ := h
  refine ⟨h1, ?_⟩
  rcases h2 with h2 | ⟨g, cap, cur, hv, hb, hg, hr⟩
  · exact .inl h2
  · exact .inr ⟨g, cap, cur, hv, hb, hh g _ hb hg, hr⟩

theorem ownsRow_below {w w' : World} {base : Nat} {e : TypeId} {size : Nat} {v : Value} {n : Nat} {xs : List Value} (h : w.ownsRow base e size v n xs) (hb : Below w.heap.size w w') : w'.ownsRow base e size v n xs :=
  ownsRow_of_heap h fun g o _ hg => by
    rw [hb.block g (by have := (Array.getElem?_eq_some_iff.1 hg).1; omega)]; exact hg

theorem ownsRow_setCell {w : World} {base : Nat} {e : TypeId} {size : Nat} {v : Value} {n : Nat} {xs : List Value} (h : w.ownsRow base e size v n xs) {p : Addr} (hp : p.block < base) (u : Value) : (w.setCell p u).ownsRow base e size v n xs :=
  ownsRow_of_heap h fun g o hb hg => by
    rw [Below.heap_setCell w p u g (by omega)]; exact hg

theorem ownsRow_shape {w : World} {base : Nat} {e : TypeId} {size : Nat} {v : Value} {n : Nat} {xs : List Value} (h : w.ownsRow base e size v n xs) : ∃ a c, v = .slice a n c ∧ (∀ k, v.ownBlock = some k → base ≤ k) := by
  obtain ⟨_, h2⟩ := h
  rcases h2 with ⟨rfl, rfl⟩ | ⟨g, cap, cur, rfl, hb, _⟩
  · exact ⟨none, 0, rfl, fun k h => by cases h⟩
  · exact ⟨_, _, rfl, fun k h => by cases h; exact hb⟩

/-- Behind a law that ends in 'grownBy' on a row from base on: below base all is as it was. -/
theorem below_grown {w w' : World} {v : Value} {base : Nat} (hg : w.grownBy w' v.ownBlock) (hv : ∀ k, v.ownBlock = some k → base ≤ k) (hb : base ≤ w.heap.size) : Below base w w' :=
  (Below.refl base w).grown hg hb hv

theorem block_cell {w : World} {b : Nat} {cs : Array Value} {t : TypeId} (h : w.heap[b]? = some (.cells cs t (0, 0))) (o : Nat) : w.cell? ⟨b, o, none⟩ = cs[o]? := by simp [World.cell?, h]
theorem block_free {w : World} {b : Nat} {cs : Array Value} {t : TypeId} (h : w.heap[b]? = some (.cells cs t (0, 0))) (o : Nat) : w.frozen? ⟨b, o, none⟩ = false := by simp [World.frozen?, h]
theorem block_set {w : World} {b : Nat} {cs : Array Value} {t : TypeId} (h : w.heap[b]? = some (.cells cs t (0, 0))) (o : Nat) (u : Value) : (w.setCell ⟨b, o, none⟩ u).heap[b]? = some (.cells (cs.setIfInBounds o u) t (0, 0)) := by
  have hlt := lt_of_block h
  have h' : w.heap[b] = .cells cs t (0, 0) := by simpa [Array.getElem?_eq_getElem hlt] using h
  show (w.heap.modify b _)[b]? = _
  rw [Array.getElem?_eq_getElem (by simpa using hlt), Array.getElem_modify_self, h']
  rfl
theorem block_set_other {w : World} {b : Nat} {x : Option Obj} (h : w.heap[b]? = x) {p : Addr} (hp : b ≠ p.block) (u : Value) : (w.setCell p u).heap[b]? = x := by
  rw [Below.heap_setCell w p u b hp]; exact h
theorem block_alloc {w : World} {b : Nat} {x : Obj} (h : w.heap[b]? = some x) (o : Obj) : (w.alloc o).heap[b]? = some x := by
  rw [Below.heap_alloc w o b (lt_of_block h)]; exact h
theorem block_new (w : World) (o : Obj) (b : Nat) (hb : b = w.heap.size) : (w.alloc o).heap[b]? = some o := by
  subst hb
  show (w.heap.push o)[w.heap.size]? = _
  rw [Array.getElem?_push, if_pos rfl]

theorem ownsRow_mono {w : World} {base base' : Nat} {e : TypeId} {size : Nat} {v : Value} {n : Nat} {xs : List Value} (h : w.ownsRow base e size v n xs) (hb : base' ≤ base) : w.ownsRow base' e size v n xs := by
  obtain ⟨h1, h2⟩ := h
  refine ⟨h1, ?_⟩
  rcases h2 with h2 | ⟨g, cap, cur, hv, hg, hr⟩
  · exact .inl h2
  · exact .inr ⟨g, cap, cur, hv, Nat.le_trans hb hg, hr⟩

theorem cell_lt {w : World} {a : Addr} {v : Value} (h : w.cell? a = some v) : a.block < w.heap.size := by
  unfold World.cell? at h
  rcases Nat.lt_or_ge a.block w.heap.size with h' | h'
  · exact h'
  · rw [Array.getElem?_eq_none h'] at h; cases h

end Go.Proofs.Ythgcnakbbmknoaa

/- Slices whose elements are of m cells each, at whatever type: what every layer uses. -/
namespace Go.Proofs.Ythgcnakbbmknoaa
open Go.RowKit

/-- The value v is a slice of the elements xs, each laid out by f in m cells. -/
def ElAt {α : Type} (m : Nat) (f : α → List Value) (w : World) (v : Value) (xs : List α) : Prop :=
  ∃ a cap, v = .slice a xs.length cap ∧ xs.length ≤ cap ∧ cap ≤ 9223372036854775807 ∧
    (0 < xs.length → ∃ b off, a = some ⟨b, off, none⟩ ∧ b < w.heap.size ∧
      ∀ i x, xs[i]? = some x → ∀ j u, (f x)[j]? = some u → w.cell? ⟨b, off + i * m + j, none⟩ = some u)

theorem getD_get? {α : Type} {xs : List α} {i : Nat} (hi : i < xs.length) (d : α) : xs[i]? = some (xs.getD i d) := by
  rw [List.getD_eq_getElem?_getD, List.getElem?_eq_getElem hi]; rfl

theorem getD_mem {α : Type} {xs : List α} {i : Nat} (hi : i < xs.length) (d : α) : xs.getD i d ∈ xs := List.mem_of_getElem? (getD_get? hi d)

section
variable {α : Type} {m : Nat} {f : α → List Value}

theorem ElAt.below {w w' : World} {B : Nat} {v : Value} {xs : List α} (h : ElAt m f w v xs) (hb : Below B w w') (hB : w.heap.size ≤ B) : ElAt m f w' v xs := by
  obtain ⟨a, cap, rfl, h1, h2, h3⟩ := h
  refine ⟨a, cap, rfl, h1, h2, fun h => ?_⟩
  obtain ⟨b, off, rfl, hlt, hc⟩ := h3 h
  exact ⟨b, off, rfl, Nat.lt_of_lt_of_le hlt hb.size, fun i x hx j u hu => (hb.cell (p := ⟨b, off + i * m + j, none⟩) (by show b < B; omega)).trans (hc i x hx j u hu)⟩

theorem ElAt.nil (w : World) : ElAt m f w (.slice none 0 0) [] := ⟨none, 0, rfl, Nat.le_refl _, by decide, fun h => absurd h (by simp)⟩

/-- The elements' cells one after the other. -/
theorem flat_at (hf : ∀ x, (f x).length = m) : ∀ (xs : List α) (i : Nat) (x : α), xs[i]? = some x → ∀ j u, (f x)[j]? = some u → (xs.flatMap f)[i * m + j]? = some u
  | [], i, x, hx, _, _, _ => by simp at hx
  | y :: ys, 0, x, hx, j, u, hu => by
    simp only [List.getElem?_cons_zero, Option.some.injEq] at hx
    subst hx
    have hj : j < (f y).length := (List.getElem?_eq_some_iff.1 hu).1
    rw [List.flatMap_cons, Nat.zero_mul, Nat.zero_add, List.getElem?_append_left hj]
    exact hu
  | y :: ys, i + 1, x, hx, j, u, hu => by
    simp only [List.getElem?_cons_succ] at hx
    have e : (i + 1) * m + j = (f y).length + (i * m + j) := by rw [hf, Nat.succ_mul]; omega
    rw [List.flatMap_cons, e, List.getElem?_append_right (by omega), Nat.add_sub_cancel_left]
    exact flat_at hf ys i x hx j u hu

theorem flat_len (hf : ∀ x, (f x).length = m) (xs : List α) : (xs.flatMap f).length = xs.length * m := by
  induction xs with
  | nil => simp
  | cons x xs ih => rw [List.flatMap_cons, List.length_append, hf, ih, List.length_cons, Nat.succ_mul]; omega

theorem ElAt.of_own (hf : ∀ x, (f x).length = m) {w : World} {base : Nat} {e : TypeId} {v : Value} {xs : List α} (h : w.ownsRow base e m v xs.length (xs.flatMap f)) : ElAt m f w v xs := by
  obtain ⟨hl, h2⟩ := h
  rcases h2 with ⟨rfl, h0⟩ | ⟨g, cap, cur, rfl, hb, hg, hn, hcap, hcs, htake⟩
  · have : xs = [] := List.eq_nil_of_length_eq_zero h0
    subst this
    exact ElAt.nil w
  · refine ⟨_, cap, rfl, hn, by unfold maxLen at hcap; omega, fun _ => ⟨g, 0, rfl, lt_of_block hg, fun i x hx j u hu => ?_⟩⟩
    have e1 := flat_at hf xs i x hx j u hu
    have hi : i * m + j < xs.length * m := by
      have h1 := (List.getElem?_eq_some_iff.1 e1).1
      rw [flat_len hf] at h1
      exact h1
    rw [← htake, List.getElem?_take_of_lt hi, Array.getElem?_toList] at e1
    rw [Nat.zero_add, block_cell hg]
    exact e1

/-- The cells of a slice's elements, as an append wants them. -/
theorem ElAt.news (hf : ∀ x, (f x).length = m) {w : World} {b off n cap : Nat} {xs : List α} (h : ElAt m f w (.slice (some ⟨b, off, none⟩) n cap) xs) (hp : 0 < xs.length) :
    ∀ j u, (xs.flatMap f)[j]? = some u → w.cell? ((⟨b, off, none⟩ : Addr).add j) = some u := by
  obtain ⟨a', cap', e, _, _, hc⟩ := h
  injection e with e1 e2 e3
  obtain ⟨b', off', e4, _, hc⟩ := hc hp
  rw [← e1] at e4
  injection e4 with e5
  injection e5 with e6 e7 e8
  subst e6; subst e7
  intro j u hu
  have hj := (List.getElem?_eq_some_iff.1 hu).1
  rw [flat_len hf] at hj
  have hm : 0 < m := by
    rcases Nat.eq_zero_or_pos m with h0 | h0
    · rw [h0, Nat.mul_zero] at hj; omega
    · exact h0
  have hi : j / m < xs.length := Nat.div_lt_of_lt_mul (by rw [Nat.mul_comm]; exact hj)
  have hx : xs[j / m]? = some xs[j / m] := List.getElem?_eq_getElem hi
  have hjm : j % m < (f xs[j / m]).length := by rw [hf]; exact Nat.mod_lt _ hm
  have hu' : (f xs[j / m])[j % m]? = some u := by
    have h1 := flat_at hf xs (j / m) _ hx (j % m) ((f xs[j / m])[j % m]) (List.getElem?_eq_getElem hjm)
    rw [show j / m * m + j % m = j by rw [Nat.mul_comm]; exact Nat.div_add_mod j m] at h1
    rw [hu] at h1
    rw [List.getElem?_eq_getElem hjm]
    exact h1.symm
  have h2 := hc (j / m) _ hx (j % m) u hu'
  rw [show off + j / m * m + j % m = off + j by rw [Nat.add_assoc, Nat.mul_comm, Nat.div_add_mod]] at h2
  have e9 : (⟨b, off, none⟩ : Addr).add j = ⟨b, off + j, none⟩ := by unfold Addr.add; split <;> simp_all
  rw [e9]
  exact h2

theorem ElAt.len {w w' : World} {v : Value} {xs ys : List α} (h : ElAt m f w v xs) (h' : ElAt m f w' v ys) : xs.length = ys.length := by
  obtain ⟨a, cap, rfl, _⟩ := h
  obtain ⟨a', cap', e, _⟩ := h'
  injection e

end

/-- The ints of a slice value lie in memory. -/
def InAt (w : World) (v : Value) (xs : List Int) : Prop :=
  ∃ a cap, v = .slice a xs.length cap ∧ xs.length ≤ cap ∧ cap ≤ 9223372036854775807 ∧
    (0 < xs.length → ∃ b off, a = some ⟨b, off, none⟩ ∧ b < w.heap.size ∧ ∀ i, i < xs.length → w.cell? ⟨b, off + i, none⟩ = some (.int .i64 (xs.getD i 0)))

theorem InAt.below {w w' : World} {B : Nat} {v : Value} {xs : List Int} (h : InAt w v xs) (hb : Below B w w') (hB : w.heap.size ≤ B) : InAt w' v xs := by
  obtain ⟨a, cap, rfl, h1, h2, h3⟩ := h
  refine ⟨a, cap, rfl, h1, h2, fun h => ?_⟩
  obtain ⟨b, off, rfl, hlt, hc⟩ := h3 h
  exact ⟨b, off, rfl, Nat.lt_of_lt_of_le hlt hb.size, fun i hi => (hb.cell (p := ⟨b, off + i, none⟩) (by show b < B; omega)).trans (hc i hi)⟩

theorem InAt.nil (w : World) : InAt w (.slice none 0 0) [] := ⟨none, 0, rfl, Nat.le_refl _, by decide, fun h => absurd h (by simp)⟩

theorem InAt.of_own {w : World} {base : Nat} {e : TypeId} {v : Value} {n : Nat} {xs : List Int} (h : w.ownsRow base e 1 v n (xs.map (Value.int .i64))) : InAt w v xs := by
  obtain ⟨hl, h2⟩ := h
  simp only [List.length_map, Nat.mul_one] at hl
  rcases h2 with ⟨rfl, rfl⟩ | ⟨g, cap, cur, rfl, hb, hg, hn, hcap, hcs, htake⟩
  · have : xs = [] := List.eq_nil_of_length_eq_zero hl
    subst this
    exact InAt.nil w
  · subst hl
    refine ⟨_, cap, rfl, hn, by unfold maxLen at hcap; omega, fun _ => ⟨g, 0, rfl, lt_of_block hg, fun i hi => ?_⟩⟩
    rw [Nat.zero_add, block_cell hg]
    have h1 : (cur.toList.take (xs.length * 1))[i]? = (xs.map (Value.int .i64))[i]? := by rw [htake]
    rw [List.getElem?_take_of_lt (by omega), List.getElem?_map, List.getElem?_eq_getElem hi] at h1
    rw [← Array.getElem?_toList, h1, List.getD_eq_getElem?_getD, List.getElem?_eq_getElem hi]
    rfl

theorem InAt.len {w w' : World} {v : Value} {xs ys : List Int} (h : InAt w v xs) (h' : InAt w' v ys) : xs.length = ys.length := by
  obtain ⟨a, cap, rfl, _⟩ := h
  obtain ⟨a', cap', e, _⟩ := h'
  injection e

end Go.Proofs.Ythgcnakbbmknoaa

/- What the walks of every layer use. -/
namespace Go.Proofs.Ythgcnakbbmknoaa
open Go.RowKit

theorem ret_int {k : IntKind} {a b : Int} (h : a = b) : Ending.returned (.int k a) = .returned (.int k b) := by rw [h]
theorem ret_bool {a b : Bool} (h : a = b) : Ending.returned (.bool a) = .returned (.bool b) := by rw [h]

theorem any_false_of {α : Type} {d : α} {p : α → Bool} {l : List α} (h : ∀ i, i < l.length → p (l.getD i d) = false) : l.any p = false := by
  rw [List.any_eq_false]
  intro x hx
  obtain ⟨i, hi, rfl⟩ := List.getElem_of_mem hx
  have := h i hi
  rw [List.getD_eq_getElem?_getD, List.getElem?_eq_getElem hi] at this
  simpa using this

theorem any_true_of {α : Type} {d : α} {p : α → Bool} {l : List α} {i : Nat} (hi : i < l.length) (h : p (l.getD i d) = true) : l.any p = true := by
  rw [List.any_eq_true]
  rw [List.getD_eq_getElem?_getD, List.getElem?_eq_getElem hi] at h
  exact ⟨l[i], List.getElem_mem hi, h⟩

/-- The answer of an index function: not below 0 just if there is one. -/
def IdxRes (P : Bool) (w : World) (e : Ending) (w' : World) : Prop := ∃ r : Int, e = .returned (.int .i64 r) ∧ decide (0 ≤ r) = P ∧ Below w.heap.size w w'

end Go.Proofs.Ythgcnakbbmknoaa

/- The plain mathematics of layer 2 (chain), first part: bounds of differences, and what follows from them. Nothing here speaks of the program. -/
namespace Go.Proofs.Ythgcnakbbmknoaa

/-- Bounds of differences: end k lies behind end i by at most 'M i k'. -/
abbrev Net := Nat → Nat → Int

/-- The places x of the ends 0 .. n keep all bounds. -/
def Sat (n : Nat) (M : Net) (x : Nat → Int) : Prop := ∀ i k, i ≤ n → k ≤ n → x k - x i ≤ M i k

/-- One round: by way of end b. -/
def rnd (M : Net) (b : Nat) : Net := fun i k => min (M i k) (M i b + M b k)

/-- In the midst of the round: the rows before i are done, and row i up to k. -/
def mid (M : Net) (b i k : Nat) : Net := fun i' k' => if i' < i ∨ (i' = i ∧ k' < k) then min (M i' k') (M i' b + M b k') else M i' k'

/-- The rounds 0 .. t - 1. -/
def fw (M : Net) : Nat → Net
  | 0 => M
  | t + 1 => rnd (fw M t) t

/-- No end lies before itself behind any of the rounds up to t. -/
def Good (n : Nat) (M : Net) (t : Nat) : Prop := ∀ u, u ≤ t → ∀ i, i ≤ n → 0 ≤ fw M u i i

theorem mid_start (M : Net) (b : Nat) : mid M b 0 0 = M := by
  funext i k; simp [mid]

theorem mid_row {n : Nat} {M : Net} {b : Nat} (i : Nat) : ∀ i' k', i' ≤ n → k' ≤ n → mid M b i (n + 1) i' k' = mid M b (i + 1) 0 i' k' := by
  intro i' k' h1 h2
  unfold mid
  by_cases h : i' < i ∨ (i' = i ∧ k' < n + 1)
  · rw [if_pos h, if_pos (by omega)]
  · rw [if_neg h, if_neg (by omega)]

theorem mid_end {n : Nat} {M : Net} {b : Nat} : ∀ i' k', i' ≤ n → k' ≤ n → mid M b (n + 1) 0 i' k' = rnd M b i' k' := by
  intro i' k' h1 h2
  unfold mid rnd
  rw [if_pos (by omega)]

/-- A step of the round: what is stored. -/
theorem mid_step {M : Net} {b i k : Nat} (hb : 0 ≤ M b b) : min (mid M b i k i k) (mid M b i k i b + mid M b i k b k) = rnd M b i k := by
  unfold mid rnd
  rw [if_neg (by omega)]
  have h1 : (if i < i ∨ (i = i ∧ b < k) then min (M i b) (M i b + M b b) else M i b) = M i b := by split <;> omega
  have h2 : (if b < i ∨ (b = i ∧ k < k) then min (M b k) (M b b + M b k) else M b k) = M b k := by split <;> omega
  rw [h1, h2]

theorem mid_next {M : Net} {b i k : Nat} : ∀ i' k', mid M b i (k + 1) i' k' = if i' = i ∧ k' = k then rnd M b i k else mid M b i k i' k' := by
  intro i' k'
  unfold mid rnd
  by_cases h : i' = i ∧ k' = k
  · obtain ⟨rfl, rfl⟩ := h
    rw [if_pos (by omega), if_pos ⟨rfl, rfl⟩]
  · rw [if_neg h]
    by_cases h2 : i' < i ∨ (i' = i ∧ k' < k)
    · rw [if_pos h2, if_pos (by omega)]
    · rw [if_neg h2, if_neg (by omega)]

/-! ### What the rounds keep -/
theorem fw_le (M : Net) (t i k : Nat) : fw M (t + 1) i k ≤ fw M t i k := by
  show min _ _ ≤ _
  omega

theorem fw_le0 (M : Net) (t i k : Nat) : fw M t i k ≤ M i k := by
  induction t with
  | zero => exact Int.le_refl _
  | succ t ih => exact Int.le_trans (fw_le M t i k) ih

theorem sat_rnd {n : Nat} {M : Net} {b : Nat} {x : Nat → Int} (hb : b ≤ n) : Sat n (rnd M b) x ↔ Sat n M x := by
  constructor
  · intro h i k hi hk
    have h1 := h i k hi hk
    unfold rnd at h1
    omega
  · intro h i k hi hk
    have h1 := h i k hi hk
    have h2 := h i b hi hb
    have h3 := h b k hb hk
    unfold rnd
    omega

theorem sat_fw {n : Nat} {M : Net} {x : Nat → Int} (t : Nat) (ht : t ≤ n + 1) : Sat n (fw M t) x ↔ Sat n M x := by
  induction t with
  | zero => exact Iff.rfl
  | succ t ih => exact (sat_rnd (by omega)).trans (ih (by omega))

/-- An end before itself: nothing keeps the bounds. -/
theorem no_sat {n : Nat} {M : Net} {t i : Nat} (ht : t ≤ n + 1) (hi : i ≤ n) (h : fw M t i i < 0) (x : Nat → Int) : ¬ Sat n M x := by
  intro hs
  have h1 := (sat_fw t ht).2 hs i i hi hi
  omega

theorem Good.mono {n : Nat} {M : Net} {t u : Nat} (h : Good n M t) (hu : u ≤ t) : Good n M u := fun v hv => h v (by omega)

theorem Good.next {n : Nat} {M : Net} {t : Nat} (h : Good n M t) (h1 : ∀ i, i ≤ n → 0 ≤ fw M (t + 1) i i) : Good n M (t + 1) := by
  intro u hu i hi
  rcases Nat.lt_or_ge u (t + 1) with h2 | h2
  · exact h u (by omega) i hi
  · obtain rfl : u = t + 1 := by omega
    exact h1 i hi

/-- Behind the rounds each bound is at most the sum by way of any end that was gone through. -/
theorem good_closed {n : Nat} {M : Net} {t : Nat} (ht : t ≤ n + 1) (h : Good n M t) : ∀ i k b, i ≤ n → k ≤ n → b < t → fw M t i k ≤ fw M t i b + fw M t b k := by
  induction t with
  | zero => intro i k b _ _ hb; omega
  | succ t ih =>
    intro i k b hi hk hb
    have ih' := ih (by omega) (h.mono (by omega))
    have hd : 0 ≤ fw M t t t := h t (by omega) t (by omega)
    show rnd (fw M t) t i k ≤ rnd (fw M t) t i b + rnd (fw M t) t b k
    unfold rnd
    rcases Nat.lt_or_ge b t with hbt | hbt
    · have a1 := ih' i k b hi hk hbt
      have a2 := ih' t k b (by omega) hk hbt
      have a3 := ih' i t b hi (by omega) hbt
      have a4 := ih' t t b (by omega) (by omega) hbt
      omega
    · obtain rfl : b = t := by omega
      omega

/-- The bounds are closed: no way is shorter, and each end lies at itself. -/
structure Closed (n : Nat) (R : Net) : Prop where
  way : ∀ i b k, i ≤ n → b ≤ n → k ≤ n → R i k ≤ R i b + R b k
  self : ∀ i, i ≤ n → R i i = 0

theorem closed_fw {n : Nat} {M : Net} (h0 : ∀ i, i ≤ n → M i i = 0) (h : Good n M (n + 1)) : Closed n (fw M (n + 1)) := by
  refine ⟨fun i b k hi hb hk => good_closed (Nat.le_refl _) h i k b hi hk (by omega), fun i hi => ?_⟩
  have h1 := h (n + 1) (Nat.le_refl _) i hi
  have h2 := fw_le0 M (n + 1) i i
  rw [h0 i hi] at h2
  omega

/-- From one end on, all at their farthest: the bounds are kept. -/
theorem Closed.far {n : Nat} {R : Net} (h : Closed n R) {i : Nat} (hi : i ≤ n) : Sat n R (fun k => R i k) := by
  intro a b ha hb
  have := h.way i a b hi ha hb
  show R i b - R i a ≤ R a b
  omega

/-- Toward one end, all at their nearest. -/
theorem Closed.near {n : Nat} {R : Net} (h : Closed n R) {i : Nat} (hi : i ≤ n) : Sat n R (fun k => - R k i) := by
  intro a b ha hb
  have := h.way a b i ha hb hi
  show - R b i - - R a i ≤ R a b
  omega

theorem good_of_sat {n : Nat} {M : Net} {x : Nat → Int} (hs : Sat n M x) : Good n M (n + 1) := by
  intro u hu i hi
  have h1 := (sat_fw u hu).2 hs i i hi hi
  omega

theorem good_iff {n : Nat} {M : Net} (h0 : ∀ i, i ≤ n → M i i = 0) : Good n M (n + 1) ↔ ∃ x, Sat n M x := by
  constructor
  · intro h
    exact ⟨_, (sat_fw (n + 1) (Nat.le_refl _)).1 ((closed_fw h0 h).far (Nat.zero_le _))⟩
  · rintro ⟨x, hx⟩
    exact good_of_sat hx

/-- Closed bounds are told by what keeps them. -/
theorem closed_le {n : Nat} {R S : Net} (hR : Closed n R) (h : ∀ x, Sat n R x → Sat n S x) {i k : Nat} (hi : i ≤ n) (hk : k ≤ n) : R i k ≤ S i k := by
  have h1 := h _ (hR.far hi) i k hi hk
  have h2 := hR.self i hi
  simp only [h2] at h1
  omega

theorem closed_eq {n : Nat} {R S : Net} (hR : Closed n R) (hS : Closed n S) (h : ∀ x, Sat n R x ↔ Sat n S x) {i k : Nat} (hi : i ≤ n) (hk : k ≤ n) : R i k = S i k :=
  Int.le_antisymm (closed_le hR (fun x => (h x).1) hi hk) (closed_le hS (fun x => (h x).2) hi hk)

/-- Two starts that are kept by the same places: the same end. -/
theorem fw_eq {n : Nat} {M L : Net} (h0 : ∀ i, i ≤ n → M i i = 0) (h0' : ∀ i, i ≤ n → L i i = 0) (h : ∀ x, Sat n M x ↔ Sat n L x) :
    (Good n M (n + 1) ↔ Good n L (n + 1)) ∧ (Good n M (n + 1) → ∀ i k, i ≤ n → k ≤ n → fw M (n + 1) i k = fw L (n + 1) i k) := by
  have hg : Good n M (n + 1) ↔ Good n L (n + 1) := by
    rw [good_iff h0, good_iff h0']
    exact ⟨fun ⟨x, hx⟩ => ⟨x, (h x).1 hx⟩, fun ⟨x, hx⟩ => ⟨x, (h x).2 hx⟩⟩
  refine ⟨hg, fun h1 i k hi hk => closed_eq (closed_fw h0 h1) (closed_fw h0' (hg.1 h1)) (fun x => ?_) hi hk⟩
  exact (sat_fw (n + 1) (Nat.le_refl _)).trans ((h x).trans (sat_fw (n + 1) (Nat.le_refl _)).symm)

/-! ### No number grows without bound -/
theorem fw_low {n : Nat} {M : Net} {B : Int} (hB : 0 ≤ B) (h : ∀ i k, i ≤ n → k ≤ n → -B ≤ M i k) (t : Nat) (ht : t ≤ n + 1) : ∀ i k, i ≤ n → k ≤ n → -(2 ^ t * B) ≤ fw M t i k := by
  induction t with
  | zero => intro i k hi hk; have := h i k hi hk; simp only [fw]; omega
  | succ t ih =>
    intro i k hi hk
    have a1 := ih (by omega) i k hi hk
    have a2 := ih (by omega) i t hi (by omega)
    have a3 := ih (by omega) t k (by omega) hk
    have a4 : (0 : Int) ≤ 2 ^ t * B := Int.mul_nonneg (Int.pow_nonneg (by omega)) hB
    have a5 : (2 : Int) ^ (t + 1) * B = 2 * (2 ^ t * B) := by rw [Int.pow_succ, Int.mul_comm (2 ^ t) 2, Int.mul_assoc]
    rw [a5]
    show _ ≤ min _ _
    omega

theorem pow_le25 {t : Nat} (ht : t ≤ 25) : (2 : Int) ^ t ≤ 2 ^ 25 := by
  have h : (2 : Nat) ^ t ≤ 2 ^ 25 := Nat.pow_le_pow_right (by omega) ht
  have h2 : ((2 ^ t : Nat) : Int) ≤ ((2 ^ 25 : Nat) : Int) := Int.ofNat_le.2 h
  simpa using h2

/-- With at most 24 links all numbers are small. -/
theorem fw_small {n : Nat} {M : Net} (hn : n ≤ 24) (h : ∀ i k, i ≤ n → k ≤ n → -10000000 ≤ M i k ∧ M i k ≤ 1099511627776) (t : Nat) (ht : t ≤ n + 1) : ∀ i k, i ≤ n → k ≤ n → -335544320000000 ≤ fw M t i k ∧ fw M t i k ≤ 1099511627776 := by
  intro i k hi hk
  have h1 := fw_low (B := 10000000) (by omega) (fun i k hi hk => (h i k hi hk).1) t ht i k hi hk
  have h2 := pow_le25 (t := t) (by omega)
  have h3 := fw_le0 M t i k
  have h4 := (h i k hi hk).2
  have h5 : (2 : Int) ^ t * 10000000 ≤ 2 ^ 25 * 10000000 := Int.mul_le_mul_of_nonneg_right h2 (by omega)
  have h6 : (2 : Int) ^ 25 * 10000000 = 335544320000000 := by decide
  omega

end Go.Proofs.Ythgcnakbbmknoaa

/- The plain mathematics of layer 2 (chain), second part: chains, gauges, what they ask of the ends. Nothing here speaks of the program. -/
namespace Go.Proofs.Ythgcnakbbmknoaa

structure Chn where
  n : Int
  pi : Int
  li : Int

structure Gau where
  a : Int
  b : Int
  lo : Int
  hi : Int

def chainBad (c : Chn) : Bool := !decide (1 ≤ c.n ∧ c.n ≤ 24) || !decide (1 ≤ c.li ∧ c.li ≤ 100000) || !decide (1 ≤ c.pi ∧ c.pi ≤ c.li)
def spanBad (m lo hi : Int) : Bool := !decide (0 ≤ hi ∧ hi ≤ m) || !decide (0 ≤ lo ∧ lo ≤ hi)
def gauBad (N : Int) (g : Gau) : Bool := !decide (1 ≤ g.b ∧ g.b ≤ N) || !decide (0 ≤ g.a ∧ g.a ≤ g.b - 1) || spanBad 10000000 g.lo g.hi
def chkM (c : Chn) (l : List Gau) : Int := if chainBad c = true then 20 else if 40 < l.length then 2 else if l.any (gauBad c.n) = true then 21 else 0

/-- A chain that is as it should be. -/
structure COk (c : Chn) : Prop where
  n1 : 1 ≤ c.n
  n2 : c.n ≤ 24
  l1 : 1 ≤ c.li
  l2 : c.li ≤ 100000
  p1 : 1 ≤ c.pi
  p2 : c.pi ≤ c.li

/-- A gauge of a chain with N links; it may be over no link, if it says so. -/
structure GOk (N : Int) (g : Gau) : Prop where
  a0 : 0 ≤ g.a
  ab : g.a ≤ g.b
  bn : g.b ≤ N
  lo0 : 0 ≤ g.lo
  lh : g.lo ≤ g.hi
  h0 : g.hi ≤ 10000000
  none : g.a = g.b → g.lo = 0

theorem cok_of {c : Chn} (h : chainBad c = false) : COk c := by
  simp [chainBad] at h
  exact ⟨by omega, by omega, by omega, by omega, by omega, by omega⟩

theorem gok_of {N : Int} {g : Gau} (h : gauBad N g = false) : GOk N g ∧ g.a < g.b := by
  simp [gauBad, spanBad] at h
  exact ⟨⟨by omega, by omega, by omega, by omega, by omega, by omega, by omega⟩, by omega⟩

theorem chk_ok {c : Chn} {l : List Gau} (h : chkM c l = 0) : COk c ∧ l.length ≤ 40 ∧ (∀ g ∈ l, GOk c.n g ∧ g.a < g.b) := by
  unfold chkM at h
  split at h
  · omega
  · rename_i h1
    split at h
    · omega
    · rename_i h2
      split at h
      · omega
      · rename_i h3
        refine ⟨cok_of (by simpa using h1), by omega, fun g hg => gok_of ?_⟩
        cases hq : gauBad c.n g
        · rfl
        · exact absurd (List.any_eq_true.2 ⟨g, hg, hq⟩) (by simpa using h3)

/-! ### The nets -/
def prog0 (c : Chn) : Net := fun i k => if i < k then ((k : Int) - i) * c.li else ((k : Int) - i) * c.pi
def spec0 (c : Chn) : Net := fun i k => if i = k then 0 else if k = i + 1 then c.li else if i = k + 1 then -c.pi else 1099511627776
def up (M : Net) (i k : Nat) (v : Int) : Net := fun i' k' => if i' = i ∧ k' = k then min (M i k) v else M i' k'
def addG (M : Net) (g : Gau) : Net := up (up M g.a.toNat g.b.toNat g.hi) g.b.toNat g.a.toNat (-g.lo)
def addGs (M : Net) (l : List Gau) : Net := l.foldl addG M

/-- The places x of the ends are possible. -/
def Ends (c : Chn) (l : List Gau) (x : Nat → Int) : Prop :=
  (∀ i, i < c.n.toNat → c.pi ≤ x (i + 1) - x i ∧ x (i + 1) - x i ≤ c.li) ∧ ∀ g ∈ l, g.lo ≤ x g.b.toNat - x g.a.toNat ∧ x g.b.toNat - x g.a.toNat ≤ g.hi

theorem sat_up {n : Nat} {M : Net} {i k : Nat} {v : Int} {x : Nat → Int} (hi : i ≤ n) (hk : k ≤ n) : Sat n (up M i k v) x ↔ Sat n M x ∧ x k - x i ≤ v := by
  constructor
  · intro h
    constructor
    · intro a b ha hb
      have h1 := h a b ha hb
      unfold up at h1
      split at h1
      · rename_i he; obtain ⟨rfl, rfl⟩ := he; omega
      · exact h1
    · have h1 := h i k hi hk
      unfold up at h1
      rw [if_pos ⟨rfl, rfl⟩] at h1
      omega
  · rintro ⟨h, hv⟩ a b ha hb
    have h1 := h a b ha hb
    unfold up
    split
    · rename_i he; obtain ⟨rfl, rfl⟩ := he; omega
    · exact h1

theorem sat_addGs {N : Int} {x : Nat → Int} : ∀ (l : List Gau) (M : Net), (∀ g ∈ l, GOk N g) →
    (Sat N.toNat (addGs M l) x ↔ Sat N.toNat M x ∧ ∀ g ∈ l, g.lo ≤ x g.b.toNat - x g.a.toNat ∧ x g.b.toNat - x g.a.toNat ≤ g.hi)
  | [], M, _ => by simp [addGs]
  | g :: l, M, h => by
    have hg := h g (List.mem_cons_self ..)
    have a0 := hg.a0
    have ab := hg.ab
    have bn := hg.bn
    have e : addGs M (g :: l) = addGs (addG M g) l := rfl
    rw [e, sat_addGs l (addG M g) (fun g hg => h g (List.mem_cons_of_mem _ hg))]
    unfold addG
    rw [sat_up (by omega) (by omega), sat_up (by omega) (by omega)]
    simp only [List.forall_mem_cons]
    constructor
    · rintro ⟨⟨⟨h1, h2⟩, h3⟩, h4⟩
      exact ⟨h1, ⟨by omega, h2⟩, h4⟩
    · rintro ⟨h1, ⟨h3, h2⟩, h4⟩
      exact ⟨⟨⟨h1, h2⟩, by omega⟩, h4⟩

/-- A run of links that are each within their bounds. -/
theorem runs {c : Chn} {x : Nat → Int} {n : Nat} (h : ∀ i, i < n → c.pi ≤ x (i + 1) - x i ∧ x (i + 1) - x i ≤ c.li) (i : Nat) : ∀ d, i + d ≤ n → (d : Int) * c.pi ≤ x (i + d) - x i ∧ x (i + d) - x i ≤ (d : Int) * c.li
  | 0, _ => by simp
  | d + 1, hd => by
    have h1 := runs h i d (by omega)
    have h2 := h (i + d) (by omega)
    have e1 : ((d + 1 : Nat) : Int) * c.pi = d * c.pi + c.pi := by rw [Int.natCast_succ, Int.add_mul, Int.one_mul]
    have e2 : ((d + 1 : Nat) : Int) * c.li = d * c.li + c.li := by rw [Int.natCast_succ, Int.add_mul, Int.one_mul]
    rw [e1, e2, show i + (d + 1) = i + d + 1 by omega]
    omega

theorem sat_prog0 {c : Chn} {x : Nat → Int} {n : Nat} : Sat n (prog0 c) x ↔ ∀ i, i < n → c.pi ≤ x (i + 1) - x i ∧ x (i + 1) - x i ≤ c.li := by
  constructor
  · intro h i hi
    have h1 := h i (i + 1) (by omega) (by omega)
    have h2 := h (i + 1) i (by omega) (by omega)
    unfold prog0 at h1 h2
    rw [if_pos (by omega)] at h1
    rw [if_neg (by omega)] at h2
    have e1 : ((i + 1 : Nat) : Int) - i = 1 := by omega
    have e2 : (i : Int) - (i + 1 : Nat) = -1 := by omega
    rw [e1] at h1
    rw [e2] at h2
    omega
  · intro h i k hi hk
    unfold prog0
    split
    · rename_i hlt
      have h1 := (runs h i (k - i) (by omega)).2
      rw [show i + (k - i) = k by omega, Int.natCast_sub (by omega)] at h1
      exact h1
    · rename_i hle
      have h1 := (runs h k (i - k) (by omega)).1
      rw [show k + (i - k) = i by omega, Int.natCast_sub (by omega)] at h1
      have e : ((k : Int) - i) * c.pi = -(((i : Int) - k) * c.pi) := by rw [← Int.neg_mul]; congr 1; omega
      rw [e]
      omega

theorem sat_spec0 {c : Chn} (hc : COk c) {x : Nat → Int} {n : Nat} (hn : n ≤ 24) : Sat n (spec0 c) x ↔ ∀ i, i < n → c.pi ≤ x (i + 1) - x i ∧ x (i + 1) - x i ≤ c.li := by
  constructor
  · intro h i hi
    have h1 := h i (i + 1) (by omega) (by omega)
    have h2 := h (i + 1) i (by omega) (by omega)
    unfold spec0 at h1 h2
    rw [if_neg (by omega), if_pos rfl] at h1
    rw [if_neg (by omega), if_neg (by omega), if_pos rfl] at h2
    omega
  · intro h i k hi hk
    have hs := (sat_prog0 (n := n)).2 h i k hi hk
    have l1 := hc.l1
    have l2 := hc.l2
    have p1 := hc.p1
    unfold spec0
    split
    · rename_i e; subst e; omega
    · split
      · rename_i e; subst e; exact (h i (by omega)).2
      · split
        · rename_i e; subst e; have := (h k (by omega)).1; omega
        · unfold prog0 at hs
          split at hs
          · rename_i hlt
            have h1 : ((k : Int) - i) * c.li ≤ ((k : Int) - i) * 100000 := Int.mul_le_mul_of_nonneg_left l2 (by omega)
            omega
          · rename_i hle
            have h1 : ((k : Int) - i) * c.pi ≤ 0 := Int.mul_nonpos_of_nonpos_of_nonneg (by omega) (by omega)
            omega

/-! ### All numbers are small; each end lies at itself -/
structure NetOk (n : Nat) (M : Net) : Prop where
  self : ∀ i, i ≤ n → M i i = 0
  small : ∀ i k, i ≤ n → k ≤ n → -10000000 ≤ M i k ∧ M i k ≤ 1099511627776

theorem prog0_ok {c : Chn} (hc : COk c) {n : Nat} (hn : n ≤ 24) : NetOk n (prog0 c) := by
  have l1 := hc.l1
  have l2 := hc.l2
  have p1 := hc.p1
  have p2 := hc.p2
  refine ⟨fun i _ => by unfold prog0; simp, fun i k hi hk => ?_⟩
  unfold prog0
  split
  · rename_i h
    have h1 : ((k : Int) - i) * c.li ≤ ((k : Int) - i) * 100000 := Int.mul_le_mul_of_nonneg_left l2 (by omega)
    have h2 : 0 ≤ ((k : Int) - i) * c.li := Int.mul_nonneg (by omega) (by omega)
    omega
  · rename_i h
    have h1 : ((i : Int) - k) * c.pi ≤ ((i : Int) - k) * 100000 := Int.mul_le_mul_of_nonneg_left (by omega) (by omega)
    have h2 : 0 ≤ ((i : Int) - k) * c.pi := Int.mul_nonneg (by omega) (by omega)
    have e : ((k : Int) - i) * c.pi = -(((i : Int) - k) * c.pi) := by rw [← Int.neg_mul]; congr 1; omega
    rw [e]
    omega

theorem spec0_ok {c : Chn} (hc : COk c) {n : Nat} : NetOk n (spec0 c) := by
  have l1 := hc.l1
  have l2 := hc.l2
  have p1 := hc.p1
  have p2 := hc.p2
  refine ⟨fun i _ => by unfold spec0; simp, fun i k hi hk => ?_⟩
  unfold spec0
  split
  · omega
  · split
    · omega
    · split <;> omega

theorem up_ok {n : Nat} {M : Net} (h : NetOk n M) {i k : Nat} {v : Int} (hi : i ≤ n) (hk : k ≤ n) (h1 : -10000000 ≤ v) (h2 : v ≤ 1099511627776) (h3 : i = k → 0 ≤ v) : NetOk n (up M i k v) := by
  have hs := h.small i k hi hk
  refine ⟨fun j hj => ?_, fun a b ha hb => ?_⟩
  · unfold up
    split
    · rename_i he
      obtain ⟨rfl, rfl⟩ := he
      have := h.self j hj
      have := h3 rfl
      omega
    · exact h.self j hj
  · unfold up
    split
    · omega
    · exact h.small a b ha hb

theorem addG_ok {N : Int} {M : Net} (h : NetOk N.toNat M) {g : Gau} (hg : GOk N g) : NetOk N.toNat (addG M g) := by
  have a0 := hg.a0
  have ab := hg.ab
  have bn := hg.bn
  have lo0 := hg.lo0
  have lh := hg.lh
  have h0 := hg.h0
  have hn := hg.none
  unfold addG
  exact up_ok (up_ok h (by omega) (by omega) (by omega) (by omega) (by omega)) (by omega) (by omega) (by omega) (by omega) (fun he => by have := hn (by omega); omega)

theorem addGs_ok {N : Int} : ∀ (l : List Gau) {M : Net}, NetOk N.toNat M → (∀ g ∈ l, GOk N g) → NetOk N.toNat (addGs M l)
  | [], _, h, _ => h
  | g :: l, _, h, hl => addGs_ok l (addG_ok h (hl g (List.mem_cons_self ..))) (fun g hg => hl g (List.mem_cons_of_mem _ hg))

/-! ### What chain and gauges say -/
def netP (c : Chn) (l : List Gau) : Net := addGs (prog0 c) l
def netS (c : Chn) (l : List Gau) : Net := addGs (spec0 c) l
/-- Some lengths are possible. -/
def Agree (c : Chn) (l : List Gau) : Prop := ∃ x, Ends c l x
/-- How far end k may lie behind end i. -/
def RM (c : Chn) (l : List Gau) : Net := fw (netP c l) (c.n.toNat + 1)

theorem sat_netP {c : Chn} {l : List Gau} (hl : ∀ g ∈ l, GOk c.n g) (x : Nat → Int) : Sat c.n.toNat (netP c l) x ↔ Ends c l x := by
  unfold netP Ends
  rw [sat_addGs l _ hl, sat_prog0]

theorem sat_netS {c : Chn} {l : List Gau} (hc : COk c) (hl : ∀ g ∈ l, GOk c.n g) (x : Nat → Int) : Sat c.n.toNat (netS c l) x ↔ Ends c l x := by
  unfold netS Ends
  rw [sat_addGs l _ hl, sat_spec0 hc (by have := hc.n2; omega)]

theorem netP_ok {c : Chn} {l : List Gau} (hc : COk c) (hl : ∀ g ∈ l, GOk c.n g) : NetOk c.n.toNat (netP c l) := addGs_ok l (prog0_ok hc (by have := hc.n2; omega)) hl
theorem netS_ok {c : Chn} {l : List Gau} (hc : COk c) (hl : ∀ g ∈ l, GOk c.n g) : NetOk c.n.toNat (netS c l) := addGs_ok l (spec0_ok hc) hl

theorem goodP {c : Chn} {l : List Gau} (hc : COk c) (hl : ∀ g ∈ l, GOk c.n g) : Good c.n.toNat (netP c l) (c.n.toNat + 1) ↔ Agree c l := by
  rw [good_iff (netP_ok hc hl).self]
  exact ⟨fun ⟨x, hx⟩ => ⟨x, (sat_netP hl x).1 hx⟩, fun ⟨x, hx⟩ => ⟨x, (sat_netP hl x).2 hx⟩⟩

theorem goodS {c : Chn} {l : List Gau} (hc : COk c) (hl : ∀ g ∈ l, GOk c.n g) : Good c.n.toNat (netS c l) (c.n.toNat + 1) ↔ Agree c l := by
  rw [good_iff (netS_ok hc hl).self]
  exact ⟨fun ⟨x, hx⟩ => ⟨x, (sat_netS hc hl x).1 hx⟩, fun ⟨x, hx⟩ => ⟨x, (sat_netS hc hl x).2 hx⟩⟩

theorem fwS {c : Chn} {l : List Gau} (hc : COk c) (hl : ∀ g ∈ l, GOk c.n g) (h : Agree c l) {i k : Nat} (hi : i ≤ c.n.toNat) (hk : k ≤ c.n.toNat) : fw (netS c l) (c.n.toNat + 1) i k = RM c l i k :=
  ((fw_eq (netP_ok hc hl).self (netS_ok hc hl).self (fun x => (sat_netP hl x).trans (sat_netS hc hl x).symm)).2 ((goodP hc hl).2 h) i k hi hk).symm

theorem closedR {c : Chn} {l : List Gau} (hc : COk c) (hl : ∀ g ∈ l, GOk c.n g) (h : Agree c l) : Closed c.n.toNat (RM c l) := closed_fw (netP_ok hc hl).self ((goodP hc hl).2 h)

theorem sat_RM {c : Chn} {l : List Gau} (hl : ∀ g ∈ l, GOk c.n g) (x : Nat → Int) : Sat c.n.toNat (RM c l) x ↔ Ends c l x := (sat_fw _ (Nat.le_refl _)).trans (sat_netP hl x)

theorem RM_small {c : Chn} {l : List Gau} (hc : COk c) (hl : ∀ g ∈ l, GOk c.n g) {i k : Nat} (hi : i ≤ c.n.toNat) (hk : k ≤ c.n.toNat) : -335544320000000 ≤ RM c l i k ∧ RM c l i k ≤ 1099511627776 :=
  fw_small (by have := hc.n2; omega) (netP_ok hc hl).small _ (Nat.le_refl _) i k hi hk

end Go.Proofs.Ythgcnakbbmknoaa

/- The plain mathematics of layer 2 (chain), fourth part: runs, witnesses. Nothing here speaks of the program. -/
namespace Go.Proofs.Ythgcnakbbmknoaa

/-- All gauges are as they should be. -/
def GOks (c : Chn) (l : List Gau) : Prop := ∀ g ∈ l, GOk c.n g

theorem GOks.append {c : Chn} {l k : List Gau} (h : GOks c l) (h' : GOks c k) : GOks c (l ++ k) := fun g hg => by
  rcases List.mem_append.1 hg with h1 | h1
  · exact h g h1
  · exact h' g h1

theorem GOks.one {c : Chn} {g : Gau} (h : GOk c.n g) : GOks c [g] := fun g' hg => by
  rw [List.mem_singleton] at hg; rw [hg]; exact h

theorem ends_append {c : Chn} {l k : List Gau} {x : Nat → Int} : Ends c (l ++ k) x ↔ Ends c l x ∧ ∀ g ∈ k, g.lo ≤ x g.b.toNat - x g.a.toNat ∧ x g.b.toNat - x g.a.toNat ≤ g.hi := by
  unfold Ends
  simp only [List.mem_append]
  constructor
  · rintro ⟨h1, h2⟩
    exact ⟨⟨h1, fun g hg => h2 g (.inl hg)⟩, fun g hg => h2 g (.inr hg)⟩
  · rintro ⟨⟨h1, h2⟩, h3⟩
    refine ⟨h1, fun g hg => ?_⟩
    rcases hg with hg | hg
    · exact h2 g hg
    · exact h3 g hg

theorem Agree.less {c : Chn} {l k : List Gau} (h : Agree c (l ++ k)) : Agree c l := by
  obtain ⟨x, hx⟩ := h
  exact ⟨x, (ends_append.1 hx).1⟩

/-- A bound of a run by what is possible: it is kept, and it is reached. -/
theorem RM_max {c : Chn} {l : List Gau} (hc : COk c) (hl : GOks c l) (h : Agree c l) {i k : Nat} (hi : i ≤ c.n.toNat) (hk : k ≤ c.n.toNat) :
    (∀ x, Ends c l x → x k - x i ≤ RM c l i k) ∧ ∃ x, Ends c l x ∧ x k - x i = RM c l i k := by
  have R := closedR hc hl h
  refine ⟨fun x hx => (sat_RM hl x).2 hx i k hi hk, _, (sat_RM hl _).1 (R.far hi), ?_⟩
  show RM c l i k - RM c l i i = _
  rw [R.self i hi]; omega

theorem RM_eq {c : Chn} {l : List Gau} (hc : COk c) (hl : GOks c l) (h : Agree c l) {i k : Nat} (hi : i ≤ c.n.toNat) (hk : k ≤ c.n.toNat) {v : Int}
    (h1 : ∀ x, Ends c l x → x k - x i ≤ v) (h2 : ∃ x, Ends c l x ∧ x k - x i = v) : RM c l i k = v := by
  obtain ⟨a, x, hx, e⟩ := RM_max hc hl h hi hk
  obtain ⟨y, hy, e'⟩ := h2
  have := h1 x hx
  have := a y hy
  omega

/-- The same possible lengths: the same bounds. -/
theorem RM_same {c : Chn} {l k : List Gau} (hc : COk c) (hl : GOks c l) (hk : GOks c k) (h : ∀ x, Ends c l x ↔ Ends c k x) (ha : Agree c l) {i j : Nat} (hi : i ≤ c.n.toNat) (hj : j ≤ c.n.toNat) : RM c l i j = RM c k i j := by
  have ha' : Agree c k := by obtain ⟨x, hx⟩ := ha; exact ⟨x, (h x).1 hx⟩
  obtain ⟨a, x, hx, e⟩ := RM_max hc hk ha' hi hj
  exact RM_eq hc hl ha hi hj (fun y hy => a y ((h y).1 hy)) ⟨x, (h x).2 hx, e⟩

/-- With more gauges all bounds are narrower. -/
theorem RM_more {c : Chn} {l k : List Gau} (hc : COk c) (hl : GOks c l) (hk : GOks c k) (ha : Agree c (l ++ k)) {i j : Nat} (hi : i ≤ c.n.toNat) (hj : j ≤ c.n.toNat) : RM c (l ++ k) i j ≤ RM c l i j := by
  obtain ⟨a, _⟩ := RM_max hc hl ha.less hi hj
  obtain ⟨_, x, hx, e⟩ := RM_max hc (hl.append hk) ha hi hj
  have := a x (ends_append.1 hx).1
  omega

theorem run_pos {c : Chn} {l : List Gau} (hc : COk c) {x : Nat → Int} (hx : Ends c l x) {i k : Nat} (hik : i ≤ k) (hk : k ≤ c.n.toNat) : 0 ≤ x k - x i ∧ x k - x i ≤ ((k : Int) - i) * 100000 := by
  have h := runs hx.1 i (k - i) (by omega)
  rw [show i + (k - i) = k by omega, Int.natCast_sub hik] at h
  have p1 := hc.p1
  have l2 := hc.l2
  have h1 : 0 ≤ ((k : Int) - i) * c.pi := Int.mul_nonneg (by omega) (by omega)
  have h2 : ((k : Int) - i) * c.li ≤ ((k : Int) - i) * 100000 := Int.mul_le_mul_of_nonneg_left l2 (by omega)
  omega

/-- The least and the greatest length of a run. -/
def lowM (c : Chn) (l : List Gau) (i k : Nat) : Int := -RM c l k i
def highM (c : Chn) (l : List Gau) (i k : Nat) : Int := RM c l i k

theorem run_span {c : Chn} {l : List Gau} (hc : COk c) (hl : GOks c l) (h : Agree c l) {i k : Nat} (hik : i ≤ k) (hk : k ≤ c.n.toNat) :
    0 ≤ lowM c l i k ∧ lowM c l i k ≤ highM c l i k ∧ highM c l i k ≤ ((k : Int) - i) * 100000 := by
  obtain ⟨a1, x1, h1, e1⟩ := RM_max hc hl h (i := k) (k := i) hk (by omega)
  obtain ⟨a2, x2, h2, e2⟩ := RM_max hc hl h (i := i) (k := k) (by omega) hk
  have b1 := run_pos hc h1 hik hk
  have b2 := run_pos hc h2 hik hk
  have b3 := a1 x2 h2
  unfold lowM highM
  omega

theorem run_in {c : Chn} {l : List Gau} (_hc : COk c) (hl : GOks c l) {x : Nat → Int} (hx : Ends c l x) {i k : Nat} (hik : i ≤ k) (hk : k ≤ c.n.toNat) : lowM c l i k ≤ x k - x i ∧ x k - x i ≤ highM c l i k := by
  have h1 := (sat_RM hl x).2 hx i k (by omega) hk
  have h2 := (sat_RM hl x).2 hx k i hk (by omega)
  unfold lowM highM
  omega

/-- The run from a to b is of the length m. -/
def gEx (a b : Nat) (m : Int) : Gau := ⟨a, b, m, m⟩

theorem gEx_ok {c : Chn} {l : List Gau} (hc : COk c) (hl : GOks c l) (h : Agree c l) {a b : Nat} {m : Int} (hab : a ≤ b) (hb : b ≤ c.n.toNat) (h1 : lowM c l a b ≤ m) (h2 : m ≤ highM c l a b) : GOk c.n (gEx a b m) := by
  have r := run_span hc hl h hab hb
  have n1 := hc.n1
  have n2 := hc.n2
  refine ⟨by simp only [gEx]; omega, by simp only [gEx]; omega, by simp only [gEx]; omega, by simp only [gEx]; omega, by simp only [gEx]; omega, by simp only [gEx]; omega, ?_⟩
  simp only [gEx]
  intro e
  have e' : a = b := by omega
  subst e'
  omega

theorem gEx_ends {c : Chn} {l : List Gau} {a b : Nat} {m : Int} {x : Nat → Int} : Ends c (l ++ [gEx a b m]) x ↔ Ends c l x ∧ x b - x a = m := by
  rw [ends_append]
  simp only [List.mem_singleton, forall_eq, gEx, Int.toNat_natCast]
  constructor
  · rintro ⟨h1, h2⟩; exact ⟨h1, by omega⟩
  · rintro ⟨h1, h2⟩; exact ⟨h1, by omega⟩

theorem sat_min {n : Nat} {M : Net} {x y : Nat → Int} (hx : Sat n M x) (hy : Sat n M y) : Sat n M (fun k => min (x k) (y k)) := by
  intro i k hi hk
  have h1 := hx i k hi hk
  have h2 := hy i k hi hk
  show min (x k) (y k) - min (x i) (y i) ≤ _
  omega

theorem Sat.shift {n : Nat} {M : Net} {x : Nat → Int} (hx : Sat n M x) (d : Int) : Sat n M (fun k => d + x k) := by
  intro i k hi hk
  have h1 := hx i k hi hk
  show d + x k - (d + x i) ≤ _
  omega

/-- Each length of a run from one end of its span to the other one comes true. -/
theorem between {c : Chn} {l : List Gau} (hc : COk c) (hl : GOks c l) (h : Agree c l) {a b : Nat} {m : Int} (hab : a ≤ b) (hb : b ≤ c.n.toNat) (h1 : lowM c l a b ≤ m) (h2 : m ≤ highM c l a b) : Agree c (l ++ [gEx a b m]) := by
  have R := closedR hc hl h
  refine ⟨fun k => min (RM c l a k) (m + RM c l b k), gEx_ends.2 ⟨(sat_RM hl _).1 (sat_min (R.far (by omega)) ((R.far hb).shift m)), ?_⟩⟩
  have e1 := R.self a (by omega)
  have e2 := R.self b hb
  unfold lowM at h1
  unfold highM at h2
  show min (RM c l a b) (m + RM c l b b) - min (RM c l a a) (m + RM c l b a) = m
  rw [e1, e2]
  omega

/-! ### Witnesses -/
/-- All ends at their nearest to the joint. -/
def nearM (c : Chn) (l : List Gau) (k : Nat) : Int := lowM c l 0 k
def witM (c : Chn) (l : List Gau) : List Int := (List.range c.n.toNat).map fun i => nearM c l (i + 1) - nearM c l i

theorem near_ends {c : Chn} {l : List Gau} (hc : COk c) (hl : GOks c l) (h : Agree c l) : Ends c l (nearM c l) := (sat_RM hl _).1 ((closedR hc hl h).near (Nat.zero_le _))
theorem near_least {c : Chn} {l : List Gau} (hc : COk c) (hl : GOks c l) (h : Agree c l) {x : Nat → Int} (hx : Ends c l x) {k : Nat} (hk : k ≤ c.n.toNat) : nearM c l k - nearM c l 0 ≤ x k - x 0 := by
  have h1 := (run_in hc hl hx (Nat.zero_le k) hk).1
  have h2 : nearM c l 0 = 0 := by
    unfold nearM lowM
    rw [(closedR hc hl h).self 0 (Nat.zero_le _)]; rfl
  rw [h2]
  unfold nearM
  omega

/-- The links that have been chosen, one after the other, each as short as can be. -/
def chosen (c : Chn) (l : List Gau) : Nat → List Gau
  | 0 => l
  | i + 1 => chosen c l i ++ [gEx i (i + 1) (nearM c l (i + 1) - nearM c l i)]

theorem chosen_ends {c : Chn} {l : List Gau} {x : Nat → Int} : ∀ i, Ends c (chosen c l i) x ↔ Ends c l x ∧ ∀ j, j < i → x (j + 1) - x j = nearM c l (j + 1) - nearM c l j := by
  intro i
  induction i with
  | zero => simp [chosen]
  | succ i ih =>
    rw [chosen, gEx_ends, ih]
    constructor
    · rintro ⟨⟨h1, h2⟩, h3⟩
      refine ⟨h1, fun j hj => ?_⟩
      by_cases e : j = i
      · rw [e]; exact h3
      · exact h2 j (by omega)
    · rintro ⟨h1, h2⟩
      exact ⟨⟨h1, fun j hj => h2 j (by omega)⟩, h2 i (by omega)⟩

theorem chosen_agree {c : Chn} {l : List Gau} (hc : COk c) (hl : GOks c l) (h : Agree c l) (i : Nat) : Agree c (chosen c l i) := ⟨_, (chosen_ends i).2 ⟨near_ends hc hl h, fun _ _ => rfl⟩⟩

theorem near_link {c : Chn} {l : List Gau} (hc : COk c) (hl : GOks c l) (h : Agree c l) {i : Nat} (hi : i < c.n.toNat) : c.pi ≤ nearM c l (i + 1) - nearM c l i ∧ nearM c l (i + 1) - nearM c l i ≤ c.li := (near_ends hc hl h).1 i hi

theorem chosen_ok {c : Chn} {l : List Gau} (hc : COk c) (hl : GOks c l) (h : Agree c l) : ∀ i, i ≤ c.n.toNat → GOks c (chosen c l i) := by
  intro i
  induction i with
  | zero => intro _; exact hl
  | succ i ih =>
    intro hi
    refine GOks.append (ih (by omega)) (GOks.one ?_)
    have a := near_link hc hl h (i := i) (by omega)
    have p1 := hc.p1
    have l2 := hc.l2
    refine ⟨?_, ?_, ?_, ?_, ?_, ?_, ?_⟩ <;> simp only [gEx] <;> omega

/-- The next link: the least one by the gauges and by those that have been chosen. -/
theorem chosen_low {c : Chn} {l : List Gau} (hc : COk c) (hl : GOks c l) (h : Agree c l) {i : Nat} (hi : i < c.n.toNat) : lowM c (chosen c l i) i (i + 1) = nearM c l (i + 1) - nearM c l i := by
  have key : RM c (chosen c l i) (i + 1) i = -(nearM c l (i + 1) - nearM c l i) := by
    refine RM_eq hc (chosen_ok hc hl h i (by omega)) (chosen_agree hc hl h i) (by omega) (by omega) (fun x hx => ?_) ⟨nearM c l, (chosen_ends i).2 ⟨near_ends hc hl h, fun _ _ => rfl⟩, by omega⟩
    obtain ⟨h1, h2⟩ := (chosen_ends i).1 hx
    have h3 : ∀ j, j ≤ i → x j - x 0 = nearM c l j - nearM c l 0 := by
      intro j
      induction j with
      | zero => intro _; omega
      | succ j ih => intro hj; have := ih (by omega); have := h2 j (by omega); omega
    have h4 := h3 i (Nat.le_refl _)
    have h5 := near_least hc hl h h1 (k := i + 1) (by omega)
    omega
  unfold lowM
  rw [key]
  omega

theorem chosen_len (c : Chn) (l : List Gau) (i : Nat) : (chosen c l i).length = l.length + i := by
  induction i with
  | zero => rfl
  | succ i ih => rw [chosen, List.length_append, ih]; simp; omega

/-- A gauge over no link says nothing. -/
theorem none_same {c : Chn} {l : List Gau} {a : Nat} {x : Nat → Int} : Ends c (l ++ [gEx a a 0]) x ↔ Ends c l x := by
  rw [gEx_ends]
  constructor
  · exact fun h => h.1
  · exact fun h => ⟨h, by omega⟩

end Go.Proofs.Ythgcnakbbmknoaa

/- The plain mathematics of layer 2 (chain), sixth part: which gauges are needed; lengths and their ends. Nothing here speaks of the program. -/
namespace Go.Proofs.Ythgcnakbbmknoaa

def Gau.zero : Gau := ⟨0, 0, 0, 0⟩

theorem gau_getD_mem {l : List Gau} {i : Nat} (h : i < l.length) : l.getD i Gau.zero ∈ l := by
  rw [List.getD_eq_getElem?_getD, List.getElem?_eq_getElem h]; exact List.getElem_mem _

def upd (q : Nat → Bool) (i : Nat) (b : Bool) : Nat → Bool := fun j => if j = i then b else q j

theorem upd_self (q : Nat → Bool) (i : Nat) (b : Bool) : upd q i b i = b := by unfold upd; rw [if_pos rfl]
theorem upd_other {q : Nat → Bool} {i j : Nat} (b : Bool) (h : j ≠ i) : upd q i b j = q j := by unfold upd; rw [if_neg h]

/-- Those of the first k gauges of which q says so. -/
def selTo (l : List Gau) (q : Nat → Bool) : Nat → List Gau
  | 0 => []
  | k + 1 => selTo l q k ++ (if q k = true then [l.getD k Gau.zero] else [])

/-- The numbers below k of which q says so. -/
def idxTo (q : Nat → Bool) : Nat → List Nat
  | 0 => []
  | k + 1 => idxTo q k ++ (if q k = true then [k] else [])

theorem selTo_mem {l : List Gau} {q : Nat → Bool} {g : Gau} : ∀ {k : Nat}, g ∈ selTo l q k ↔ ∃ i, i < k ∧ q i = true ∧ g = l.getD i Gau.zero := by
  intro k
  induction k with
  | zero => simp [selTo]
  | succ k ih =>
    simp only [selTo, List.mem_append, ih]
    constructor
    · rintro (⟨i, h1, h2, h3⟩ | h)
      · exact ⟨i, by omega, h2, h3⟩
      · by_cases hq : q k = true
        · rw [if_pos hq, List.mem_singleton] at h
          exact ⟨k, by omega, hq, h⟩
        · rw [if_neg hq] at h; simp at h
    · rintro ⟨i, h1, h2, h3⟩
      by_cases e : i = k
      · subst e
        right
        rw [if_pos h2, List.mem_singleton]; exact h3
      · exact .inl ⟨i, by omega, h2, h3⟩

theorem selTo_congr {l : List Gau} {q q' : Nat → Bool} : ∀ k, (∀ i, i < k → q i = q' i) → selTo l q k = selTo l q' k := by
  intro k
  induction k with
  | zero => intro _; rfl
  | succ k ih => intro h; simp only [selTo]; rw [ih (fun i hi => h i (by omega)), h k (by omega)]

theorem selTo_all (l : List Gau) : ∀ k, k ≤ l.length → selTo l (fun _ => true) k = l.take k := by
  intro k
  induction k with
  | zero => intro _; simp [selTo]
  | succ k ih =>
    intro h
    simp only [selTo, if_true]
    rw [ih (by omega), List.take_add_one, List.getElem?_eq_getElem (by omega), List.getD_eq_getElem?_getD, List.getElem?_eq_getElem (by omega)]
    rfl

theorem idxTo_congr {q q' : Nat → Bool} : ∀ k, (∀ i, i < k → q i = q' i) → idxTo q k = idxTo q' k := by
  intro k
  induction k with
  | zero => intro _; rfl
  | succ k ih => intro h; simp only [idxTo]; rw [ih (fun i hi => h i (by omega)), h k (by omega)]

theorem idxTo_len (q : Nat → Bool) : ∀ k, (idxTo q k).length ≤ k := by
  intro k
  induction k with
  | zero => exact Nat.le_refl _
  | succ k ih => simp only [idxTo, List.length_append]; split <;> simp <;> omega

/-- Which gauges are left when those below i have been gone through. -/
def keepF (h : (Nat → Bool) → Bool) : Nat → Nat → Bool
  | 0 => fun _ => true
  | i + 1 => if h (upd (keepF h i) i false) = true then upd (keepF h i) i false else keepF h i

section
variable {h : (Nat → Bool) → Bool}

theorem keepF_ge : ∀ {i j : Nat}, i ≤ j → keepF h i j = true := by
  intro i
  induction i with
  | zero => intro j _; rfl
  | succ i ih =>
    intro j hj
    simp only [keepF]
    split
    · rw [upd_other _ (by omega)]; exact ih (by omega)
    · exact ih (by omega)

theorem keepF_step {i j : Nat} (hj : j ≠ i) : keepF h (i + 1) j = keepF h i j := by
  simp only [keepF]
  split
  · exact upd_other _ hj
  · rfl

theorem keepF_lt {j : Nat} : ∀ {i : Nat}, j < i → keepF h i j = keepF h (j + 1) j := by
  intro i
  induction i with
  | zero => intro h; omega
  | succ i ih =>
    intro hj
    by_cases e : j = i
    · rw [e]
    · rw [keepF_step e]; exact ih (by omega)

theorem keepF_less {i j : Nat} : ∀ {k : Nat}, i ≤ k → keepF h k j = true → keepF h i j = true := by
  intro k
  induction k with
  | zero => intro h1 h2; have : i = 0 := by omega
            rw [this]; exact h2
  | succ k ih =>
    intro h1 h2
    by_cases e : i = k + 1
    · rw [e]; exact h2
    · refine ih (by omega) ?_
      by_cases ej : j = k
      · exact keepF_ge (by omega)
      · rwa [keepF_step ej] at h2

theorem keepF_holds (h0 : h (fun _ => true) = true) : ∀ i, h (keepF h i) = true := by
  intro i
  induction i with
  | zero => exact h0
  | succ i ih =>
    simp only [keepF]
    split
    · assumption
    · exact ih

/-- None of those that are left can be spared. -/
theorem keepF_need (mono : ∀ q q' : Nat → Bool, (∀ j, q j = true → q' j = true) → h q = true → h q' = true) {n j : Nat} (hj : j < n) (hk : keepF h n j = true) : h (upd (keepF h n) j false) = false := by
  cases hq : h (upd (keepF h n) j false)
  · rfl
  · have h1 : h (upd (keepF h j) j false) = true := by
      refine mono _ _ (fun i hi => ?_) hq
      by_cases e : i = j
      · rw [e, upd_self] at hi; cases hi
      · rw [upd_other _ e] at hi ⊢
        exact keepF_less (by omega) hi
    rw [keepF_lt hj] at hk
    simp only [keepF] at hk
    rw [if_pos h1, upd_self] at hk
    cases hk
end

/-! ### What holds of gauges -/
instance (n : Nat) (M : Net) (t : Nat) : Decidable (Good n M t) := by unfold Good; infer_instance
def agreeB (c : Chn) (l : List Gau) : Bool := decide (Good c.n.toNat (netP c l) (c.n.toNat + 1))

theorem agreeB_iff {c : Chn} {l : List Gau} (hc : COk c) (hl : GOks c l) : agreeB c l = true ↔ Agree c l := by
  unfold agreeB
  rw [decide_eq_true_eq]
  exact goodP hc hl

/-- They do not agree; or, if that is asked, the run from a to b is at most m long. -/
def clashB (c : Chn) (l : List Gau) : Bool := !agreeB c l
def shortB (c : Chn) (a b : Nat) (m : Int) (l : List Gau) : Bool := !agreeB c l || decide (RM c l a b ≤ m)

theorem GOks.sel {c : Chn} {l : List Gau} (hl : GOks c l) (q : Nat → Bool) {k : Nat} (hk : k ≤ l.length) : GOks c (selTo l q k) := by
  intro g hg
  obtain ⟨i, h1, _, rfl⟩ := selTo_mem.1 hg
  exact hl _ (gau_getD_mem (by omega))

theorem ends_sel {c : Chn} {l : List Gau} {q q' : Nat → Bool} {k : Nat} {x : Nat → Int} (h : ∀ j, q j = true → q' j = true) (hx : Ends c (selTo l q' k) x) : Ends c (selTo l q k) x := by
  refine ⟨hx.1, fun g hg => hx.2 g ?_⟩
  obtain ⟨i, h1, h2, h3⟩ := selTo_mem.1 hg
  exact selTo_mem.2 ⟨i, h1, h _ h2, h3⟩

theorem clash_mono {c : Chn} {l : List Gau} (hc : COk c) (hl : GOks c l) (q q' : Nat → Bool) (h : ∀ j, q j = true → q' j = true) (hq : clashB c (selTo l q l.length) = true) : clashB c (selTo l q' l.length) = true := by
  unfold clashB at hq ⊢
  rw [Bool.not_eq_true'] at hq ⊢
  cases e : agreeB c (selTo l q' l.length)
  · rfl
  · obtain ⟨x, hx⟩ := (agreeB_iff hc (hl.sel q' (Nat.le_refl _))).1 e
    have := (agreeB_iff hc (hl.sel q (Nat.le_refl _))).2 ⟨x, ends_sel h hx⟩
    rw [hq] at this; cases this

theorem short_mono {c : Chn} {l : List Gau} (hc : COk c) (hl : GOks c l) {a b : Nat} {m : Int} (ha : a ≤ c.n.toNat) (hb : b ≤ c.n.toNat) (q q' : Nat → Bool) (h : ∀ j, q j = true → q' j = true) (hq : shortB c a b m (selTo l q l.length) = true) : shortB c a b m (selTo l q' l.length) = true := by
  unfold shortB at hq ⊢
  rw [Bool.or_eq_true, Bool.not_eq_true', decide_eq_true_eq] at hq ⊢
  cases e : agreeB c (selTo l q' l.length)
  · exact .inl rfl
  · right
    have a' := (agreeB_iff hc (hl.sel q' (Nat.le_refl _))).1 e
    obtain ⟨x, hx⟩ := a'
    have a1 := (agreeB_iff hc (hl.sel q (Nat.le_refl _))).2 ⟨x, ends_sel h hx⟩
    rcases hq with hq | hq
    · rw [hq] at a1; cases a1
    · obtain ⟨_, y, hy, ey⟩ := RM_max hc (hl.sel q' (Nat.le_refl _)) ⟨x, hx⟩ ha hb
      have := (RM_max hc (hl.sel q (Nat.le_refl _)) ⟨x, ends_sel h hx⟩ ha hb).1 y (ends_sel h hy)
      omega

/-! ### Lengths and their ends -/
/-- All links before the end k together. -/
def preM (xs : List Int) : Nat → Int
  | 0 => 0
  | k + 1 => preM xs k + xs.getD k 0

def PossM (c : Chn) (l : List Gau) (xs : List Int) : Prop :=
  xs.length = c.n.toNat ∧ (∀ i, i < xs.length → c.pi ≤ xs.getD i 0 ∧ xs.getD i 0 ≤ c.li) ∧ ∀ g ∈ l, g.lo ≤ preM xs g.b.toNat - preM xs g.a.toNat ∧ preM xs g.b.toNat - preM xs g.a.toNat ≤ g.hi

theorem poss_ends {c : Chn} {l : List Gau} {xs : List Int} (h : PossM c l xs) : Ends c l (preM xs) := by
  obtain ⟨h1, h2, h3⟩ := h
  refine ⟨fun i hi => ?_, h3⟩
  have := h2 i (by omega)
  simp only [preM]
  omega

theorem preM_diff (x : Nat → Int) (n : Nat) : ∀ k, k ≤ n → preM ((List.range n).map fun i => x (i + 1) - x i) k = x k - x 0 := by
  intro k
  induction k with
  | zero => intro _; simp [preM]
  | succ k ih =>
    intro h
    simp only [preM]
    rw [ih (by omega)]
    have e : ((List.range n).map fun i => x (i + 1) - x i).getD k 0 = x (k + 1) - x k := by
      rw [List.getD_eq_getElem?_getD, List.getElem?_map, List.getElem?_range (by omega)]; rfl
    rw [e]
    omega

theorem ends_poss {c : Chn} {l : List Gau} (hl : GOks c l) {x : Nat → Int} (h : Ends c l x) : PossM c l ((List.range c.n.toNat).map fun i => x (i + 1) - x i) := by
  refine ⟨by simp, fun i hi => ?_, fun g hg => ?_⟩
  · simp only [List.length_map, List.length_range] at hi
    have e : ((List.range c.n.toNat).map fun i => x (i + 1) - x i).getD i 0 = x (i + 1) - x i := by
      rw [List.getD_eq_getElem?_getD, List.getElem?_map, List.getElem?_range hi]; rfl
    rw [e]
    exact h.1 i hi
  · have g1 := hl g hg
    have a0 := g1.a0
    have ab := g1.ab
    have bn := g1.bn
    have h2 := h.2 g hg
    rw [preM_diff x _ _ (by omega), preM_diff x _ _ (by omega)]
    omega

end Go.Proofs.Ythgcnakbbmknoaa

/- Walks of layer 2 (chain), the leaves: within, isSpan, Check of both. -/
namespace Go.Proofs.Ythgcnakbbmknoaa
open Go.RowKit

abbrev chnV (c : Chn) : Value := .agg #[.int .i64 c.n, .int .i64 c.pi, .int .i64 c.li]
abbrev gauL (g : Gau) : List Value := [.int .i64 g.a, .int .i64 g.b, .int .i64 g.lo, .int .i64 g.hi]
abbrev gauV (g : Gau) : Value := .agg #[.int .i64 g.a, .int .i64 g.b, .int .i64 g.lo, .int .i64 g.hi]
abbrev GaAt (w : World) (v : Value) (l : List Gau) : Prop := ElAt 4 gauL w v l



theorem ga_at {w w' : World} {b off : Nat} {l : List Gau} {k : Nat} (hb : Below w.heap.size w w') (hbl : b < w.heap.size)
    (hc : ∀ i x, l[i]? = some x → ∀ j u, (gauL x)[j]? = some u → w.cell? ⟨b, off + i * 4 + j, none⟩ = some u) (hk : k < l.length) :
    w'.cell? ⟨b, off + k * 4, none⟩ = some (.int .i64 (l.getD k Gau.zero).a) ∧ w'.cell? ⟨b, off + k * 4 + 1, none⟩ = some (.int .i64 (l.getD k Gau.zero).b) ∧
      w'.cell? ⟨b, off + k * 4 + 2, none⟩ = some (.int .i64 (l.getD k Gau.zero).lo) ∧ w'.cell? ⟨b, off + k * 4 + 3, none⟩ = some (.int .i64 (l.getD k Gau.zero).hi) := by
  have h := hc k _ (getD_get? hk Gau.zero)
  exact ⟨(hb.cell hbl).trans (h 0 _ rfl), (hb.cell hbl).trans (h 1 _ rfl), (hb.cell hbl).trans (h 2 _ rfl), (hb.cell hbl).trans (h 3 _ rfl)⟩

set_option maxHeartbeats 400000 in
theorem kwithin_any (n lo hi : Int) (w : World) :
    Calls Try.prog 49 #[.int .i64 n, .int .i64 lo, .int .i64 hi] w fun e w' => e = .returned (.bool (decide (lo ≤ n ∧ n ≤ hi))) ∧ w = w' := by
  go_enter Try.func49, Try.ntmps49
  go_wp2
  all_goals (go_ret; exact ⟨ret_bool (by simp; omega), rfl⟩)

theorem kwithin_is (q : Bool) (n lo hi : Int) (w : World) (h : decide (lo ≤ n ∧ n ≤ hi) = q) :
    Calls Try.prog 49 #[.int .i64 n, .int .i64 lo, .int .i64 hi] w fun e w' => e = .returned (.bool q) ∧ w = w' := by
  subst h
  exact kwithin_any n lo hi w

set_option maxHeartbeats 400000 in
theorem rfrom_any (n lo hi : Int) (w : World) :
    Calls Try.prog 56 #[.int .i64 n, .int .i64 lo, .int .i64 hi] w fun e w' => e = .returned (.bool (decide (lo ≤ n ∧ n ≤ hi))) ∧ w = w' := by
  go_enter Try.func56, Try.ntmps56
  go_wp2
  all_goals (go_ret; exact ⟨ret_bool (by simp; omega), rfl⟩)

theorem rfrom_is (q : Bool) (n lo hi : Int) (w : World) (h : decide (lo ≤ n ∧ n ≤ hi) = q) :
    Calls Try.prog 56 #[.int .i64 n, .int .i64 lo, .int .i64 hi] w fun e w' => e = .returned (.bool q) ∧ w = w' := by
  subst h
  exact rfrom_any n lo hi w

set_option maxHeartbeats 400000 in
theorem isSpan_any (lo hi m : Int) (w : World) :
    Calls Try.prog 98 #[.agg #[.int .i64 lo, .int .i64 hi], .int .i64 m] w fun e w' => e = .returned (.bool (!spanBad m lo hi)) ∧ Below w.heap.size w w' := by
  go_enter Try.func98, Try.ntmps98
  go_wp2_with (go_at_call 49; refine (kwithin_any _ _ _ _).mono ?_; rintro e w' ⟨rfl, rfl⟩)
  all_goals
    go_ret
    refine ⟨ret_bool ?_, (Below.refl _ _).alloc (Nat.le_refl _) _⟩
    simp [spanBad]
    try omega

theorem isSpan_is (q : Bool) (lo hi m : Int) (w : World) (h : spanBad m lo hi = !q) :
    Calls Try.prog 98 #[.agg #[.int .i64 lo, .int .i64 hi], .int .i64 m] w fun e w' => e = .returned (.bool q) ∧ Below w.heap.size w w' := by
  have h' : q = !spanBad m lo hi := by rw [h]; simp
  subst h'
  exact isSpan_any lo hi m w

set_option maxHeartbeats 1000000 in
theorem gbad_any (g : Gau) (N : Int) (be : Nat) (w : World) (hn : w.cell? ⟨be, 0, none⟩ = some (.int .i64 N)) (hb : be < w.heap.size) (hN : N ≤ 24) :
    Calls Try.prog 97 #[gauV g, .pointer (some ⟨be, 0, none⟩)] w fun e w' => e = .returned (.bool (gauBad N g)) ∧ Below w.heap.size w w' := by
  go_enter Try.func97, Try.ntmps97
  go_wp2_with (first | (go_at_call 49; refine (kwithin_any _ _ _ _).mono ?_; rintro e w' ⟨rfl, rfl⟩) | (go_at_call 98; refine (isSpan_any _ _ _ _).mono ?_; rintro e w' ⟨rfl, hb1⟩))
  all_goals go_ret
  · refine ⟨ret_bool ?_, ((Below.refl _ _).alloc (Nat.le_refl _) _).trans (hb1.mono (by simp))⟩
    simp [gauBad]
    omega
  all_goals
    refine ⟨ret_bool ?_, (Below.refl _ _).alloc (Nat.le_refl _) _⟩
    simp [gauBad]
    try omega

set_option maxHeartbeats 1000000 in
theorem indexGau_any {be : Nat} (v : Value) (l : List Gau) (p : Gau → Bool) (w : World) (hv : GaAt w v l)
    (hg : ∀ (x : Gau) (w1 : World), x ∈ l → Below w.heap.size w w1 → Calls Try.prog 97 #[gauV x, .pointer (some ⟨be, 0, none⟩)] w1 fun e w' => e = .returned (.bool (p x)) ∧ Below w1.heap.size w1 w') :
    Calls Try.prog 122 #[v, .func (.func 97) #[] #[.pointer (some ⟨be, 0, none⟩)]] w (IdxRes (l.any p) w) := by
  obtain ⟨a, cap, rfl, hn, hcap, hc⟩ := hv
  have HC := Lib.hid hc
  have HG := Lib.hid hg
  clear hc hg
  go_enter Try.func122, Try.ntmps122
  go_wp2_with fail
  go_loopw [8] (fun i wr => ∃ k : Nat, k ≤ l.length ∧ i = .int .i64 k ∧ Below w.heap.size w wr ∧ Hid (∀ i, i < k → p (l.getD i Gau.zero) = false)) (fun i _ => l.length - (intOf i).toNat)
  case atStart => exact ⟨0, Nat.zero_le _, rfl, Below.refl _ _, fun i hi => by omega⟩
  case round =>
    obtain ⟨k, hk, rfl, hb, hf⟩ := hrel
    by_cases hlt : k < l.length
    · obtain ⟨b, off, rfl, hbl, hc⟩ := HC.out (by omega)
      have g1 := ga_at hb hbl hc hlt
      clear hc
      have hm := getD_mem hlt Gau.zero
      generalize hq0 : l.getD k Gau.zero = q at g1 hm
      have Hq := Lib.hid hq0
      have HM := Lib.hid hm
      clear hq0 hm
      go_wp2_with fail
      refine (HG.out q wr HM.out hb).mono ?_
      rintro e w1 ⟨rfl, hb1⟩
      have hb2 := hb.trans (hb1.mono hb.size)
      clear hb hb1 g1
      cases hq : p q
      · have HQ := Lib.hid hq
        clear hq
        go_wp2
        go_roundw
        case rel => exact ⟨k + 1, hlt, by go_num, hb2, fun i hi => by
          by_cases hik : i = k
          · rw [hik, Hq.out]; exact HQ.out
          · exact hf.out i (by omega)⟩
        case measure => simp [intOf]; omega
      · have HQ := Lib.hid hq
        clear hq
        go_wp2
        go_ret
        exact ⟨k, rfl, by rw [any_true_of (d := Gau.zero) hlt (by rw [Hq.out]; exact HQ.out)]; simp, hb2⟩
    · go_wp2
      go_ret
      exact ⟨-1, rfl, by rw [any_false_of (d := Gau.zero) (fun i hi => hf.out i (by omega))]; simp, hb⟩

set_option maxHeartbeats 400000 in
theorem containsGau_any {be : Nat} (v : Value) (l : List Gau) (p : Gau → Bool) (q : Bool) (w : World) (hv : GaAt w v l) (hq : l.any p = q)
    (hg : ∀ (x : Gau) (w1 : World), x ∈ l → Below w.heap.size w w1 → Calls Try.prog 97 #[gauV x, .pointer (some ⟨be, 0, none⟩)] w1 fun e w' => e = .returned (.bool (p x)) ∧ Below w1.heap.size w1 w') :
    Calls Try.prog 99 #[v, .func (.func 97) #[] #[.pointer (some ⟨be, 0, none⟩)]] w fun e w' => e = .returned (.bool q) ∧ Below w.heap.size w w' := by
  subst hq
  have HG := Lib.hid hg
  clear hg
  go_enter Try.func99, Try.ntmps99
  go_wp2_with fail
  refine (indexGau_any _ _ p _ hv HG.out).mono ?_
  rintro e w1 ⟨r, rfl, hr, hb⟩
  have HR := Lib.hid hr
  clear hr
  go_wp2
  go_ret
  exact ⟨ret_bool HR.out, hb⟩

end Go.Proofs.Ythgcnakbbmknoaa

/- The plain mathematics of layer 2 (chain), third part: parts and how they wear. Nothing here speaks of the program. -/
namespace Go.Proofs.Ythgcnakbbmknoaa

/-- A part: its rates, and its life by wear, turns and age. -/
structure Prt where
  rs : List (Int × Int)
  wo : Int
  tu : Int
  ag : Int

/-- A time of use. -/
structure Us where
  d : Int
  t : Int
  c : Int
  m : Bool
  lo : Int
  hi : Int

def Us.zero : Us := ⟨0, 0, 0, false, 0, 0⟩

def rateBad (r : Int × Int) : Bool := spanBad 1000000 r.1 r.2
def partOk (P : Prt) : Bool := decide (1 ≤ (P.rs.length : Int) ∧ (P.rs.length : Int) ≤ 4) && !P.rs.any rateBad && decide (0 ≤ P.wo ∧ P.wo ≤ 1000) && decide (0 ≤ P.tu ∧ P.tu ≤ 1000000) && decide (0 ≤ P.ag ∧ P.ag ≤ 100000)
def useOk (n : Int) (u : Us) (since : Int) : Bool := decide (since ≤ u.d ∧ u.d ≤ 100000) && decide (0 ≤ u.t ∧ u.t ≤ 1000000) && decide (0 ≤ u.c ∧ u.c ≤ n - 1) && !spanBad 2000000000 u.lo u.hi && (u.m || (decide (u.lo = 0) && decide (u.hi = 0)))
/-- The day before the use i. -/
def sinceAt (l : List Us) : Nat → Int
  | 0 => 0
  | i + 1 => (l.getD i Us.zero).d
def usesOk (P : Prt) (l : List Us) : Prop := ∀ i, i < l.length → useOk P.rs.length (l.getD i Us.zero) (sinceAt l i) = true
instance (P : Prt) (l : List Us) : Decidable (usesOk P l) := Nat.decidableBallLT _ _
def partM (P : Prt) (l : List Us) : Int := if partOk P = false then 22 else if 40 < l.length then 23 else if usesOk P l then 0 else 23

/-- A part that is as it should be. -/
structure POk (P : Prt) : Prop where
  n1 : 1 ≤ P.rs.length
  n4 : P.rs.length ≤ 4
  rate : ∀ r ∈ P.rs, 0 ≤ r.1 ∧ r.1 ≤ r.2 ∧ r.2 ≤ 1000000
  w0 : 0 ≤ P.wo
  w1 : P.wo ≤ 1000
  t0 : 0 ≤ P.tu
  t1 : P.tu ≤ 1000000
  a0 : 0 ≤ P.ag
  a1 : P.ag ≤ 100000

/-- A use that is as it should be. -/
structure UOk (n : Int) (u : Us) (since : Int) : Prop where
  d0 : since ≤ u.d
  d1 : u.d ≤ 100000
  t0 : 0 ≤ u.t
  t1 : u.t ≤ 1000000
  c0 : 0 ≤ u.c
  c1 : u.c ≤ n - 1
  h1 : u.hi ≤ 2000000000
  l0 : 0 ≤ u.lo
  lh : u.lo ≤ u.hi
  no : u.m = false → u.lo = 0 ∧ u.hi = 0

theorem rate_ok {r : Int × Int} (h : rateBad r = false) : 0 ≤ r.1 ∧ r.1 ≤ r.2 ∧ r.2 ≤ 1000000 := by
  simp [rateBad, spanBad] at h; omega

theorem rate_bad {r : Int × Int} (h : rateBad r = true) : r.1 < 0 ∨ r.2 < r.1 ∨ 1000000 < r.2 := by
  simp [rateBad, spanBad] at h; omega

theorem pok_of {P : Prt} (h : partOk P = true) : POk P := by
  simp [partOk] at h
  obtain ⟨⟨⟨⟨h1, h2⟩, h3⟩, h4⟩, h5⟩ := h
  exact ⟨by omega, by omega, fun r hr => rate_ok (h2 r.1 r.2 hr), by omega, by omega, by omega, by omega, by omega, by omega⟩

theorem uok_of {n : Int} {u : Us} {since : Int} (h : useOk n u since = true) : UOk n u since := by
  simp [useOk, spanBad] at h
  obtain ⟨⟨⟨⟨h1, h2⟩, h3⟩, h4⟩, h5⟩ := h
  refine ⟨by omega, by omega, by omega, by omega, by omega, by omega, by omega, by omega, by omega, fun hm => ?_⟩
  rw [hm] at h5
  simpa using h5

theorem partM_cases (P : Prt) (l : List Us) : (partM P l = 22 ∧ partOk P = false) ∨ (partM P l = 23 ∧ partOk P = true ∧ (40 < l.length ∨ (l.length ≤ 40 ∧ ¬ usesOk P l))) ∨ (partM P l = 0 ∧ partOk P = true ∧ l.length ≤ 40 ∧ usesOk P l) := by
  unfold partM
  cases h : partOk P
  · simp
  · by_cases h2 : 40 < l.length
    · simp [h2]
    · by_cases h3 : usesOk P l
      · simp [h2, h3]; omega
      · simp [h2, h3]; omega

theorem partM_ok {P : Prt} {l : List Us} (h : partM P l = 0) : POk P ∧ l.length ≤ 40 ∧ ∀ i, i < l.length → UOk P.rs.length (l.getD i Us.zero) (sinceAt l i) := by
  rcases partM_cases P l with ⟨h1, _⟩ | ⟨h1, _⟩ | ⟨_, h1, h2, h3⟩
  · omega
  · omega
  · exact ⟨pok_of h1, h2, fun i hi => uok_of (h3 i hi)⟩

/-! ### The first place of which p says so -/
def firstB (p : Nat → Bool) : Nat → Nat
  | 0 => 0
  | n + 1 => if p (firstB p n) = true then firstB p n else n + 1

theorem firstB_spec (p : Nat → Bool) : ∀ n, firstB p n ≤ n ∧ (∀ i, i < firstB p n → p i = false) ∧ (firstB p n < n → p (firstB p n) = true) := by
  intro n
  induction n with
  | zero => simp [firstB]
  | succ n ih =>
    obtain ⟨h1, h2, h3⟩ := ih
    simp only [firstB]
    by_cases h : p (firstB p n) = true
    · rw [if_pos h]; exact ⟨by omega, h2, fun _ => h⟩
    · rw [if_neg h]
      have e : firstB p n = n := by
        rcases Nat.lt_or_ge (firstB p n) n with h' | h'
        · exact absurd (h3 h') h
        · omega
      refine ⟨Nat.le_refl _, fun i hi => ?_, fun h' => by omega⟩
      rcases Nat.lt_or_ge i n with h' | h'
      · exact h2 i (by omega)
      · have : i = firstB p n := by omega
        rw [this]; simpa using h

theorem firstB_eq {p : Nat → Bool} {n r : Nat} (h1 : r ≤ n) (h2 : ∀ i, i < r → p i = false) (h3 : r < n → p r = true) : firstB p n = r := by
  obtain ⟨a1, a2, a3⟩ := firstB_spec p n
  rcases Nat.lt_trichotomy (firstB p n) r with h | h | h
  · have := a3 (by omega); rw [h2 _ h] at this; cases this
  · exact h
  · have := h3 (by omega); rw [a2 _ h] at this; cases this

/-! ### The wear behind each use -/
abbrev Spn := Int × Int
def rateOf (P : Prt) (u : Us) : Spn := P.rs.getD u.c.toNat (0, 0)
def addL (P : Prt) (u : Us) : Int := u.t * (rateOf P u).1
def addH (P : Prt) (u : Us) : Int := u.t * (rateOf P u).2
def common (a b : Spn) : Spn := (max a.1 b.1, min a.2 b.2)
def grown (P : Prt) (s : Spn) (u : Us) : Spn := if u.m = true then common (s.1 + addL P u, s.2 + addH P u) (u.lo, u.hi) else (s.1 + addL P u, s.2 + addH P u)
/-- The wear behind i uses by what was measured up to there. -/
def rch (P : Prt) (l : List Us) : Nat → Spn
  | 0 => (0, 0)
  | i + 1 => grown P (rch P l i) (l.getD i Us.zero)
def noneAt (P : Prt) (l : List Us) (i : Nat) : Bool := decide ((rch P l (i + 1)).2 < (rch P l (i + 1)).1)
/-- Behind how many uses some wear is possible. -/
def reachN (P : Prt) (l : List Us) : Nat := firstB (noneAt P l) l.length
/-- The wear behind the use that is d before the last one, by what was measured later, too. -/
def bkd (P : Prt) (l : List Us) : Nat → Spn
  | 0 => rch P l l.length
  | d + 1 => common (rch P l (l.length - 1 - d)) ((bkd P l d).1 - addH P (l.getD (l.length - 1 - d) Us.zero), (bkd P l d).2 - addL P (l.getD (l.length - 1 - d) Us.zero))
def wearAt (P : Prt) (l : List Us) (i : Nat) : Spn := bkd P l (l.length - 1 - i)

theorem mulc {t r : Int} (h1 : 0 ≤ t) (h2 : t ≤ 1000000) (h3 : 0 ≤ r) (h4 : r ≤ 1000000) : 0 ≤ t * r ∧ t * r ≤ 1000000000000 := by
  refine ⟨Int.mul_nonneg h1 h3, ?_⟩
  have := Int.mul_le_mul h2 h4 h3 (by omega)
  omega

theorem rateOf_ok {P : Prt} (hP : POk P) {u : Us} {s : Int} (hu : UOk P.rs.length u s) : 0 ≤ (rateOf P u).1 ∧ (rateOf P u).1 ≤ (rateOf P u).2 ∧ (rateOf P u).2 ≤ 1000000 := by
  have h : u.c.toNat < P.rs.length := by have := hu.c0; have := hu.c1; omega
  refine hP.rate _ ?_
  unfold rateOf
  rw [List.getD_eq_getElem?_getD, List.getElem?_eq_getElem h]
  exact List.getElem_mem h

theorem add_ok {P : Prt} (hP : POk P) {u : Us} {s : Int} (hu : UOk P.rs.length u s) : 0 ≤ addL P u ∧ addL P u ≤ addH P u ∧ addH P u ≤ 1000000000000 := by
  obtain ⟨r1, r2, r3⟩ := rateOf_ok hP hu
  have a := mulc hu.t0 hu.t1 r1 (by omega)
  have b := mulc hu.t0 hu.t1 (by omega : 0 ≤ (rateOf P u).2) r3
  have c := Int.mul_le_mul_of_nonneg_left r2 hu.t0
  unfold addL addH
  omega

theorem rch_bd {P : Prt} {l : List Us} (hP : POk P) (hl : ∀ i, i < l.length → UOk P.rs.length (l.getD i Us.zero) (sinceAt l i)) : ∀ i, i ≤ l.length → 0 ≤ (rch P l i).1 ∧ (rch P l i).1 ≤ i * 1000000000000 ∧ 0 ≤ (rch P l i).2 ∧ (rch P l i).2 ≤ i * 1000000000000 := by
  intro i
  induction i with
  | zero => intro _; simp [rch]
  | succ i ih =>
    intro hi
    have h := ih (by omega)
    have u := hl i (by omega)
    have a := add_ok hP u
    have h1 := u.h1
    have l0 := u.l0
    have lh := u.lh
    simp only [rch, grown, common]
    split <;> dsimp only <;> omega

theorem rch_bd40 {P : Prt} {l : List Us} (hP : POk P) (hn : l.length ≤ 40) (hl : ∀ i, i < l.length → UOk P.rs.length (l.getD i Us.zero) (sinceAt l i)) {i : Nat} (hi : i ≤ l.length) : 0 ≤ (rch P l i).1 ∧ (rch P l i).1 ≤ 40000000000000 ∧ 0 ≤ (rch P l i).2 ∧ (rch P l i).2 ≤ 40000000000000 := by
  have := rch_bd hP hl i hi
  omega

theorem bkd_bd {P : Prt} {l : List Us} (hP : POk P) (hn : l.length ≤ 40) (hl : ∀ i, i < l.length → UOk P.rs.length (l.getD i Us.zero) (sinceAt l i)) : ∀ d, d < l.length → 0 ≤ (bkd P l d).1 ∧ (bkd P l d).1 ≤ 40000000000000 ∧ (bkd P l d).2 ≤ 40000000000000 ∧ -(d * 1000000000000) ≤ (bkd P l d).2 := by
  intro d
  induction d with
  | zero => intro _; have := rch_bd40 hP hn hl (Nat.le_refl _); simp only [bkd]; omega
  | succ d ih =>
    intro hd
    have h := ih (by omega)
    have r := rch_bd40 hP hn hl (i := l.length - 1 - d) (by omega)
    have a := add_ok hP (hl (l.length - 1 - d) (by omega))
    simp only [bkd, common]
    omega

theorem reachN_le (P : Prt) (l : List Us) : reachN P l ≤ l.length := (firstB_spec _ _).1
theorem reachN_some {P : Prt} {l : List Us} {i : Nat} (h : i ≤ reachN P l) : (rch P l i).1 ≤ (rch P l i).2 := by
  cases i with
  | zero => simp [rch]
  | succ i =>
    have := (firstB_spec (noneAt P l) l.length).2.1 i (by unfold reachN at h; omega)
    simpa [noneAt] using this
theorem reachN_none {P : Prt} {l : List Us} (h : reachN P l < l.length) : (rch P l (reachN P l + 1)).2 < (rch P l (reachN P l + 1)).1 := by
  have := (firstB_spec (noneAt P l) l.length).2.2 h
  exact of_decide_eq_true this

/-! ### Lives -/
/-- All turns of the first n uses. -/
def turnsTo (l : List Us) : Nat → Int
  | 0 => 0
  | n + 1 => turnsTo l n + (l.getD n Us.zero).t
def spentM (P : Prt) (wear turns day : Int) : Bool := decide (P.wo * 1000000 < wear) || decide (P.tu < turns) || decide (P.ag < day)
def wornM (P : Prt) (l : List Us) (i : Nat) (wear : Int) : Bool := spentM P wear (turnsTo l (i + 1)) (l.getD i Us.zero).d

theorem turnsTo_bd {P : Prt} {l : List Us} (hl : ∀ i, i < l.length → UOk P.rs.length (l.getD i Us.zero) (sinceAt l i)) : ∀ n, n ≤ l.length → 0 ≤ turnsTo l n ∧ turnsTo l n ≤ n * 1000000 := by
  intro n
  induction n with
  | zero => intro _; simp [turnsTo]
  | succ n ih =>
    intro hn
    have := ih (by omega)
    have u := hl n (by omega)
    have := u.t0
    have := u.t1
    simp only [turnsTo]
    omega

/-- The first use behind which it is beyond its life, by the greatest wear or the least one; as the program says it: -1 if there is none. -/
def endOf (greatest : Bool) (s : Spn) : Int := if greatest = true then s.2 else s.1
def spentN (P : Prt) (l : List Us) (greatest : Bool) : Nat := firstB (fun i => wornM P l i (endOf greatest (wearAt P l i))) l.length
def firstM (P : Prt) (l : List Us) (greatest : Bool) : Int := if spentN P l greatest < l.length then (spentN P l greatest : Int) else -1

/-- The answers of both Beyond and Surely. -/
def lifeM (P : Prt) (l : List Us) (greatest : Bool) : Int × Int :=
  if partM P l = 0 then (if reachN P l < l.length then (0, 3) else (firstM P l greatest, 0)) else (0, partM P l)

def lastM (P : Prt) (l plan : List Us) : Int × Int :=
  if partM P (l ++ plan) = 0 then
    (if plan.any (fun u => u.m) = true then (0, 1)
     else if reachN P (l ++ plan) < (l ++ plan).length then (0, 3)
     else if firstM P (l ++ plan) true < 0 then ((plan.length : Int), 0) else (max (firstM P (l ++ plan) true - l.length) (-1), 0))
  else (0, partM P (l ++ plan))

/-- The wear at the end. -/
def dueM (P : Prt) (l : List Us) (class' day : Int) : Int × Int :=
  if partM P l = 0 then
    (if decide (0 ≤ class' ∧ class' ≤ (P.rs.length : Int) - 1) = false ∨ decide (sinceAt l l.length ≤ day ∧ day ≤ 100000) = false then (0, 1)
     else if reachN P l < l.length then (0, 3)
     else if spentM P (rch P l l.length).2 (turnsTo l l.length) day = true then (0, 3)
     else (if 0 < (P.rs.getD class'.toNat (0, 0)).2 then min (P.tu - turnsTo l l.length) ((P.wo * 1000000 - (rch P l l.length).2) / (P.rs.getD class'.toNat (0, 0)).2) else P.tu - turnsTo l l.length, 0))
  else (0, partM P l)

end Go.Proofs.Ythgcnakbbmknoaa

/- The plain mathematics of layer 2 (chain), fifth part: histories, plans, further measures. Nothing here speaks of the program. -/
namespace Go.Proofs.Ythgcnakbbmknoaa

theorem us_getD_append {a b : List Us} {i : Nat} (h : i < a.length) : (a ++ b).getD i Us.zero = a.getD i Us.zero := by
  rw [List.getD_eq_getElem?_getD, List.getD_eq_getElem?_getD, List.getElem?_append_left h]

theorem us_getD_right {a b : List Us} {i : Nat} (h : a.length ≤ i) : (a ++ b).getD i Us.zero = b.getD (i - a.length) Us.zero := by
  rw [List.getD_eq_getElem?_getD, List.getD_eq_getElem?_getD, List.getElem?_append_right h]

abbrev UOks (P : Prt) (l : List Us) : Prop := ∀ i, i < l.length → UOk P.rs.length (l.getD i Us.zero) (sinceAt l i)

theorem since_append {a b : List Us} : ∀ {i : Nat}, i ≤ a.length → sinceAt (a ++ b) i = sinceAt a i
  | 0, _ => rfl
  | i + 1, h => by simp only [sinceAt]; rw [us_getD_append (by omega)]

theorem UOks.left {P : Prt} {a b : List Us} (h : UOks P (a ++ b)) : UOks P a := fun i hi => by
  have := h i (by rw [List.length_append]; omega)
  rw [us_getD_append hi, since_append (by omega)] at this
  exact this

theorem rch_append (P : Prt) (a b : List Us) : ∀ i, i ≤ a.length → rch P (a ++ b) i = rch P a i := by
  intro i
  induction i with
  | zero => intro _; rfl
  | succ i ih => intro h; simp only [rch]; rw [ih (by omega), us_getD_append (by omega)]

theorem turns_append (a b : List Us) : ∀ i, i ≤ a.length → turnsTo (a ++ b) i = turnsTo a i := by
  intro i
  induction i with
  | zero => intro _; rfl
  | succ i ih => intro h; simp only [turnsTo]; rw [ih (by omega), us_getD_append (by omega)]

theorem turns_mono {P : Prt} {l : List Us} (hl : UOks P l) {i : Nat} : ∀ {k : Nat}, i ≤ k → k ≤ l.length → turnsTo l i ≤ turnsTo l k := by
  intro k
  induction k with
  | zero => intro h _; have : i = 0 := by omega
            subst this; exact Int.le_refl _
  | succ k ih =>
    intro h hk
    rcases Nat.lt_or_ge k i with h' | h'
    · have : i = k + 1 := by omega
      subst this; exact Int.le_refl _
    · have := ih h' (by omega)
      have := (hl k (by omega)).t0
      simp only [turnsTo]; omega

theorem day_mono {P : Prt} {l : List Us} (hl : UOks P l) {i : Nat} : ∀ {k : Nat}, i ≤ k → k < l.length → (l.getD i Us.zero).d ≤ (l.getD k Us.zero).d := by
  intro k
  induction k with
  | zero => intro h _; have : i = 0 := by omega
            subst this; exact Int.le_refl _
  | succ k ih =>
    intro h hk
    rcases Nat.lt_or_ge k i with h' | h'
    · have : i = k + 1 := by omega
      subst this; exact Int.le_refl _
    · have a := ih h' (by omega)
      have b := (hl (k + 1) hk).d0
      simp only [sinceAt] at b
      omega

/-! ### Histories -/
/-- The wear behind i uses of a history. -/
def wsAt (ws : List Int) : Nat → Int
  | 0 => 0
  | i + 1 => ws.getD i 0
def histAt (P : Prt) (l : List Us) (ws : List Int) (i : Nat) : Prop :=
  wsAt ws i + addL P (l.getD i Us.zero) ≤ ws.getD i 0 ∧ ws.getD i 0 ≤ wsAt ws i + addH P (l.getD i Us.zero) ∧ ((l.getD i Us.zero).m = true → (l.getD i Us.zero).lo ≤ ws.getD i 0 ∧ ws.getD i 0 ≤ (l.getD i Us.zero).hi)
def Hist (P : Prt) (l : List Us) (ws : List Int) : Prop := ws.length = l.length ∧ ∀ i, i < l.length → histAt P l ws i

theorem hist_rch {P : Prt} {l : List Us} {ws : List Int} (h : Hist P l ws) : ∀ i, i ≤ l.length → (rch P l i).1 ≤ wsAt ws i ∧ wsAt ws i ≤ (rch P l i).2 := by
  intro i
  induction i with
  | zero => intro _; simp [rch, wsAt]
  | succ i ih =>
    intro hi
    have a := ih (by omega)
    obtain ⟨b1, b2, b3⟩ := h.2 i (by omega)
    simp only [rch, grown, wsAt, common]
    split
    · rename_i hm
      have := b3 hm
      dsimp only
      omega
    · dsimp only
      omega

theorem hist_reach {P : Prt} {l : List Us} {ws : List Int} (h : Hist P l ws) : reachN P l = l.length := by
  refine firstB_eq (Nat.le_refl _) (fun i hi => ?_) (fun h => by omega)
  have := hist_rch h (i + 1) (by omega)
  exact decide_eq_false (by omega)

theorem hist_bkd {P : Prt} {l : List Us} {ws : List Int} (h : Hist P l ws) : ∀ d, d < l.length → (bkd P l d).1 ≤ ws.getD (l.length - 1 - d) 0 ∧ ws.getD (l.length - 1 - d) 0 ≤ (bkd P l d).2 := by
  intro d
  induction d with
  | zero =>
    intro hd
    have a := hist_rch h (l.length - 1 + 1) (by omega)
    rw [show l.length - 1 + 1 = l.length by omega] at a
    rw [show l.length = (l.length - 1) + 1 by omega] at a
    simp only [wsAt] at a
    rw [show l.length - 1 + 1 = l.length by omega] at a
    simpa [bkd] using a
  | succ d ih =>
    intro hd
    have a := ih (by omega)
    have b := hist_rch h (l.length - 1 - d) (by omega)
    obtain ⟨c1, c2, _⟩ := h.2 (l.length - 1 - d) (by omega)
    rw [show l.length - 1 - d = (l.length - 1 - (d + 1)) + 1 by omega] at b c1 c2 a
    simp only [wsAt] at b c1 c2
    simp only [bkd, common]
    rw [show l.length - 1 - d = (l.length - 1 - (d + 1)) + 1 by omega]
    omega

theorem hist_wear {P : Prt} {l : List Us} {ws : List Int} (h : Hist P l ws) {i : Nat} (hi : i < l.length) : (wearAt P l i).1 ≤ ws.getD i 0 ∧ ws.getD i 0 ≤ (wearAt P l i).2 := by
  have := hist_bkd h (l.length - 1 - i) (by omega)
  rw [show l.length - 1 - (l.length - 1 - i) = i by omega] at this
  exact this

theorem spent_mono {P : Prt} {w w' t d : Int} (h : w ≤ w') (hs : spentM P w t d = true) : spentM P w' t d = true := by
  simp only [spentM, Bool.or_eq_true, decide_eq_true_eq] at hs ⊢
  omega

theorem spentM_false {P : Prt} {w t d : Int} : spentM P w t d = false ↔ w ≤ P.wo * 1000000 ∧ t ≤ P.tu ∧ d ≤ P.ag := by
  simp only [spentM, Bool.or_eq_false_iff, decide_eq_false_iff_not]
  omega

/-- Once it is beyond its life it is behind all later uses. -/
theorem worn_later {P : Prt} {l : List Us} {ws : List Int} (hP : POk P) (hl : UOks P l) (h : Hist P l ws) {i : Nat} : ∀ {k : Nat}, i ≤ k → k < l.length → wornM P l i (ws.getD i 0) = true → wornM P l k (ws.getD k 0) = true := by
  intro k
  induction k with
  | zero => intro h' _ hw; have : i = 0 := by omega
            subst this; exact hw
  | succ k ih =>
    intro h' hk hw
    rcases Nat.lt_or_ge k i with h2 | h2
    · have : i = k + 1 := by omega
      subst this; exact hw
    · have a := ih h2 (by omega) hw
      have b := (h.2 (k + 1) hk).1
      have c := (add_ok hP (hl (k + 1) hk)).1
      have d := day_mono hl (by omega : k ≤ k + 1) hk
      have e := turns_mono hl (by omega : k + 1 ≤ k + 1 + 1) (by omega : k + 1 + 1 ≤ l.length)
      simp only [wsAt] at b
      simp only [wornM, spentM, Bool.or_eq_true, decide_eq_true_eq] at a ⊢
      omega

theorem spentN_spec (P : Prt) (l : List Us) (g : Bool) : spentN P l g ≤ l.length ∧ (∀ i, i < spentN P l g → wornM P l i (endOf g (wearAt P l i)) = false) ∧ (spentN P l g < l.length → wornM P l (spentN P l g) (endOf g (wearAt P l (spentN P l g))) = true) := firstB_spec _ _

/-- Beyond is not behind Surely. -/
theorem spent_order {P : Prt} {l : List Us} {ws : List Int} (h : Hist P l ws) : spentN P l true ≤ spentN P l false := by
  obtain ⟨a1, a2, a3⟩ := spentN_spec P l true
  obtain ⟨b1, b2, b3⟩ := spentN_spec P l false
  rcases Nat.lt_or_ge (spentN P l false) (spentN P l true) with h1 | h1
  · have w := hist_wear h (i := spentN P l false) (by omega)
    have x := b3 (by omega)
    have y := a2 _ h1
    unfold wornM at x y
    rw [spent_mono (w' := endOf true (wearAt P l (spentN P l false))) (by simp only [endOf, if_true, Bool.false_eq_true, if_false]; omega) x] at y
    cases y
  · exact h1

/-- What is said of each use of a history. -/
theorem lives {P : Prt} {l : List Us} {ws : List Int} (hP : POk P) (hl : UOks P l) (h : Hist P l ws) {i : Nat} (hi : i < l.length) :
    (wornM P l i (ws.getD i 0) = true → spentN P l true ≤ i) ∧ (wornM P l i (ws.getD i 0) = false → i < spentN P l false) := by
  obtain ⟨a1, a2, a3⟩ := spentN_spec P l true
  obtain ⟨b1, b2, b3⟩ := spentN_spec P l false
  constructor
  · intro hw
    rcases Nat.lt_or_ge i (spentN P l true) with h1 | h1
    · have w := hist_wear h hi
      have y := a2 _ h1
      unfold wornM at hw y
      rw [spent_mono (w' := endOf true (wearAt P l i)) (by simp only [endOf, if_true]; omega) hw] at y
      cases y
    · exact h1
  · intro hw
    rcases Nat.lt_or_ge i (spentN P l false) with h1 | h1
    · exact h1
    · have w := hist_wear h (i := spentN P l false) (by omega)
      have x := b3 (by omega)
      unfold wornM at x
      have x' := spent_mono (w' := ws.getD (spentN P l false) 0) (by simp only [endOf, Bool.false_eq_true, if_false]; omega) x
      have := worn_later hP hl h h1 hi x'
      rw [hw] at this
      cases this

/-! ### What is not measured does not narrow -/
theorem bkd_tail {P : Prt} {a b : List Us} (hP : POk P) (hl : UOks P (a ++ b)) (hb : ∀ u ∈ b, u.m = false) : ∀ d, d ≤ b.length → bkd P (a ++ b) d = rch P (a ++ b) ((a ++ b).length - d) := by
  intro d
  induction d with
  | zero => intro _; rfl
  | succ d ih =>
    intro hd
    have e := ih (by omega)
    have hn : (a ++ b).length = a.length + b.length := List.length_append
    have hu : ((a ++ b).getD ((a ++ b).length - 1 - d) Us.zero).m = false := by
      rw [us_getD_right (by omega)]
      refine hb _ ?_
      rw [List.getD_eq_getElem?_getD, List.getElem?_eq_getElem (by omega)]
      exact List.getElem_mem _
    have ha := add_ok hP (hl ((a ++ b).length - 1 - d) (by omega))
    simp only [bkd]
    rw [e, show (a ++ b).length - d = ((a ++ b).length - 1 - d) + 1 by omega]
    simp only [rch, grown]
    rw [if_neg (by rw [hu]; decide)]
    rw [show (a ++ b).length - (d + 1) = (a ++ b).length - 1 - d by omega]
    generalize (a ++ b).length - 1 - d = k at *
    simp only [common]
    refine Prod.ext ?_ ?_ <;> dsimp only <;> omega

theorem bkd_left {P : Prt} {a b : List Us} (hP : POk P) (hl : UOks P (a ++ b)) (hb : ∀ u ∈ b, u.m = false) : ∀ d, d < a.length → bkd P (a ++ b) (b.length + d) = bkd P a d := by
  have hn : (a ++ b).length = a.length + b.length := List.length_append
  intro d
  induction d with
  | zero =>
    intro _
    rw [Nat.add_zero, bkd_tail hP hl hb _ (Nat.le_refl _), hn, Nat.add_sub_cancel, rch_append P a b _ (Nat.le_refl _)]
    rfl
  | succ d ih =>
    intro hd
    rw [← Nat.add_assoc]
    simp only [bkd]
    rw [ih (by omega), show (a ++ b).length - 1 - (b.length + d) = a.length - 1 - d by omega, rch_append P a b _ (by omega), us_getD_append (by omega)]

theorem wear_left {P : Prt} {a b : List Us} (hP : POk P) (hl : UOks P (a ++ b)) (hb : ∀ u ∈ b, u.m = false) {i : Nat} (hi : i < a.length) : wearAt P (a ++ b) i = wearAt P a i := by
  unfold wearAt
  rw [List.length_append, show a.length + b.length - 1 - i = b.length + (a.length - 1 - i) by omega]
  exact bkd_left hP hl hb _ (by omega)

theorem worn_left {P : Prt} {a b : List Us} {i : Nat} (hi : i < a.length) (x : Int) : wornM P (a ++ b) i x = wornM P a i x := by
  unfold wornM
  rw [turns_append a b _ (by omega), us_getD_append hi]

/-- The first use behind which it may be beyond its life, with more uses behind. -/
theorem spent_left {P : Prt} {a b : List Us} (hP : POk P) (hl : UOks P (a ++ b)) (hb : ∀ u ∈ b, u.m = false) (g : Bool) : spentN P a g = min (spentN P (a ++ b) g) a.length := by
  obtain ⟨h1, h2, h3⟩ := spentN_spec P (a ++ b) g
  have hn : (a ++ b).length = a.length + b.length := List.length_append
  refine firstB_eq (by omega) (fun i hi => ?_) (fun h => ?_)
  · have := h2 i (by omega)
    rw [wear_left hP hl hb (by omega), worn_left (by omega)] at this
    exact this
  · have e : min (spentN P (a ++ b) g) a.length = spentN P (a ++ b) g := by omega
    rw [e]
    have := h3 (by omega)
    rw [wear_left hP hl hb (by omega), worn_left (by omega)] at this
    exact this

theorem reach_left {P : Prt} {a b : List Us} (h : reachN P (a ++ b) = (a ++ b).length) : reachN P a = a.length := by
  refine firstB_eq (Nat.le_refl _) (fun i hi => ?_) (fun h => by omega)
  have hn : (a ++ b).length = a.length + b.length := List.length_append
  have := (firstB_spec (noneAt P (a ++ b)) (a ++ b).length).2.1 i (by unfold reachN at h; omega)
  unfold noneAt at this ⊢
  rw [rch_append P a b _ (by omega)] at this
  exact this

theorem reach_right {P : Prt} {a b : List Us} (hP : POk P) (hl : UOks P (a ++ b)) (hb : ∀ u ∈ b, u.m = false) (h : reachN P a = a.length) : reachN P (a ++ b) = (a ++ b).length := by
  have hn : (a ++ b).length = a.length + b.length := List.length_append
  have key : ∀ k, a.length ≤ k → k ≤ (a ++ b).length → (rch P (a ++ b) k).1 ≤ (rch P (a ++ b) k).2 := by
    intro k h1
    induction k with
    | zero => intro _; simp [rch]
    | succ k ih =>
      intro h2
      rcases Nat.lt_or_ge k a.length with h' | h'
      · have e : k + 1 = a.length := by omega
        rw [e, rch_append P a b _ (Nat.le_refl _)]
        exact reachN_some (by omega)
      · have r := ih h' (by omega)
        have hu : ((a ++ b).getD k Us.zero).m = false := by
          rw [us_getD_right h']
          refine hb _ ?_
          rw [List.getD_eq_getElem?_getD, List.getElem?_eq_getElem (by omega)]
          exact List.getElem_mem _
        have ha := add_ok hP (hl k (by omega))
        simp only [rch, grown]
        rw [if_neg (by rw [hu]; decide)]
        dsimp only
        omega
  refine firstB_eq (Nat.le_refl _) (fun i hi => decide_eq_false ?_) (fun h => by omega)
  rcases Nat.lt_or_ge i a.length with h' | h'
  · rw [rch_append P a b _ (by omega)]
    have := reachN_some (P := P) (l := a) (i := i + 1) (by omega)
    omega
  · have := key (i + 1) (by omega) (by omega)
    omega

/-! ### One measure more -/
/-- The uses l' are l with more of them measured. -/
structure Narrow (l l' : List Us) : Prop where
  len : l'.length = l.length
  t : ∀ i, i < l.length → (l'.getD i Us.zero).t = (l.getD i Us.zero).t
  c : ∀ i, i < l.length → (l'.getD i Us.zero).c = (l.getD i Us.zero).c
  m : ∀ i, i < l.length → (l.getD i Us.zero).m = true → (l'.getD i Us.zero).m = true ∧ (l'.getD i Us.zero).lo = (l.getD i Us.zero).lo ∧ (l'.getD i Us.zero).hi = (l.getD i Us.zero).hi

theorem Narrow.add {P : Prt} {l l' : List Us} (h : Narrow l l') {i : Nat} (hi : i < l.length) : addL P (l'.getD i Us.zero) = addL P (l.getD i Us.zero) ∧ addH P (l'.getD i Us.zero) = addH P (l.getD i Us.zero) := by
  unfold addL addH rateOf
  rw [h.t i hi, h.c i hi]
  exact ⟨rfl, rfl⟩

theorem narrow_rch {P : Prt} {l l' : List Us} (h : Narrow l l') : ∀ i, i ≤ l.length → (rch P l i).1 ≤ (rch P l' i).1 ∧ (rch P l' i).2 ≤ (rch P l i).2 := by
  intro i
  induction i with
  | zero => intro _; simp [rch]
  | succ i ih =>
    intro hi
    have a := ih (by omega)
    obtain ⟨e1, e2⟩ := h.add (P := P) (i := i) (by omega)
    have m := h.m i (by omega)
    simp only [rch, grown, common, e1, e2]
    by_cases hm : (l.getD i Us.zero).m = true
    · obtain ⟨m1, m2, m3⟩ := m hm
      rw [if_pos hm, if_pos m1, m2, m3]
      dsimp only
      omega
    · rw [if_neg hm]
      split <;> dsimp only <;> omega

theorem narrow_reach {P : Prt} {l l' : List Us} (h : Narrow l l') (hr : reachN P l' = l'.length) : reachN P l = l.length := by
  refine firstB_eq (Nat.le_refl _) (fun i hi => decide_eq_false ?_) (fun h => by omega)
  have a := narrow_rch (P := P) h (i + 1) (by omega)
  have b := reachN_some (P := P) (l := l') (i := i + 1) (by have := h.len; omega)
  omega

theorem narrow_bkd {P : Prt} {l l' : List Us} (h : Narrow l l') : ∀ d, d < l.length → (bkd P l d).1 ≤ (bkd P l' d).1 ∧ (bkd P l' d).2 ≤ (bkd P l d).2 := by
  intro d
  induction d with
  | zero => intro _; simp only [bkd]; rw [h.len]; exact narrow_rch h _ (Nat.le_refl _)
  | succ d ih =>
    intro hd
    have a := ih (by omega)
    have b := narrow_rch (P := P) h (l.length - 1 - d) (by omega)
    obtain ⟨e1, e2⟩ := h.add (P := P) (i := l.length - 1 - d) (by omega)
    simp only [bkd, common]
    rw [h.len, e1, e2]
    omega

theorem narrow_wear {P : Prt} {l l' : List Us} (h : Narrow l l') {i : Nat} (hi : i < l.length) : (wearAt P l i).1 ≤ (wearAt P l' i).1 ∧ (wearAt P l' i).2 ≤ (wearAt P l i).2 := by
  unfold wearAt
  rw [h.len]
  exact narrow_bkd h _ (by omega)

/-! ### Turns more -/
theorem bkd_top {P : Prt} {l : List Us} (hP : POk P) (hl : UOks P l) : ∀ d, d < l.length → (bkd P l d).2 ≤ (rch P l l.length).2 := by
  intro d
  induction d with
  | zero => intro _; exact Int.le_refl _
  | succ d ih =>
    intro hd
    have a := ih (by omega)
    have b := (add_ok hP (hl (l.length - 1 - d) (by omega))).1
    simp only [bkd, common]
    omega

end Go.Proofs.Ythgcnakbbmknoaa

/- Walks of layer 2 (chain), parts: isPart, isUse. -/
namespace Go.Proofs.Ythgcnakbbmknoaa
open Go.RowKit

def Spn.zero : Spn := (0, 0)
abbrev spnL (r : Spn) : List Value := [.int .i64 r.1, .int .i64 r.2]
abbrev spnV (r : Spn) : Value := .agg #[.int .i64 r.1, .int .i64 r.2]
abbrev SpAt (w : World) (v : Value) (l : List Spn) : Prop := ElAt 2 spnL w v l
abbrev prtV (P : Prt) (bv : Value) : Value := .agg #[bv, .int .i64 P.wo, .int .i64 P.tu, .int .i64 P.ag]
abbrev usL (u : Us) : List Value := [.int .i64 u.d, .int .i64 u.t, .int .i64 u.c, .bool u.m, .int .i64 u.lo, .int .i64 u.hi]
abbrev usV (u : Us) : Value := .agg #[.int .i64 u.d, .int .i64 u.t, .int .i64 u.c, .bool u.m, .int .i64 u.lo, .int .i64 u.hi]
abbrev UsAt (w : World) (v : Value) (l : List Us) : Prop := ElAt 6 usL w v l

theorem sp_at {w w' : World} {b off : Nat} {l : List Spn} {k : Nat} (hb : Below w.heap.size w w') (hbl : b < w.heap.size)
    (hc : ∀ i x, l[i]? = some x → ∀ j u, (spnL x)[j]? = some u → w.cell? ⟨b, off + i * 2 + j, none⟩ = some u) (hk : k < l.length) :
    w'.cell? ⟨b, off + k * 2, none⟩ = some (.int .i64 (l.getD k Spn.zero).1) ∧ w'.cell? ⟨b, off + k * 2 + 1, none⟩ = some (.int .i64 (l.getD k Spn.zero).2) := by
  have h := hc k _ (getD_get? hk Spn.zero)
  exact ⟨(hb.cell hbl).trans (h 0 _ rfl), (hb.cell hbl).trans (h 1 _ rfl)⟩

theorem us_at {w w' : World} {b off : Nat} {l : List Us} {k : Nat} (hb : Below w.heap.size w w') (hbl : b < w.heap.size)
    (hc : ∀ i x, l[i]? = some x → ∀ j u, (usL x)[j]? = some u → w.cell? ⟨b, off + i * 6 + j, none⟩ = some u) (hk : k < l.length) :
    w'.cell? ⟨b, off + k * 6, none⟩ = some (.int .i64 (l.getD k Us.zero).d) ∧ w'.cell? ⟨b, off + k * 6 + 1, none⟩ = some (.int .i64 (l.getD k Us.zero).t) ∧
      w'.cell? ⟨b, off + k * 6 + 2, none⟩ = some (.int .i64 (l.getD k Us.zero).c) ∧ w'.cell? ⟨b, off + k * 6 + 3, none⟩ = some (.bool (l.getD k Us.zero).m) ∧
      w'.cell? ⟨b, off + k * 6 + 4, none⟩ = some (.int .i64 (l.getD k Us.zero).lo) ∧ w'.cell? ⟨b, off + k * 6 + 5, none⟩ = some (.int .i64 (l.getD k Us.zero).hi) := by
  have h := hc k _ (getD_get? hk Us.zero)
  exact ⟨(hb.cell hbl).trans (h 0 _ rfl), (hb.cell hbl).trans (h 1 _ rfl), (hb.cell hbl).trans (h 2 _ rfl), (hb.cell hbl).trans (h 3 _ rfl), (hb.cell hbl).trans (h 4 _ rfl), (hb.cell hbl).trans (h 5 _ rfl)⟩

set_option maxHeartbeats 400000 in
theorem rbad_any (r : Spn) (w : World) : Calls Try.prog 132 #[spnV r] w fun e w' => e = .returned (.bool (rateBad r)) ∧ Below w.heap.size w w' := by
  go_enter Try.func132, Try.ntmps132
  go_wp2_with (go_at_call 98; refine (isSpan_any _ _ _ _).mono ?_; rintro e w' ⟨rfl, hb1⟩)
  go_ret
  exact ⟨ret_bool (by simp [rateBad]), ((Below.refl _ _).alloc (Nat.le_refl _) _).trans (hb1.mono (by simp))⟩

set_option maxHeartbeats 1000000 in
theorem indexSpn_any  (v : Value) (l : List Spn) (p : Spn → Bool) (w : World) (hv : SpAt w v l)
    (hg : ∀ (x : Spn) (w1 : World), x ∈ l → Below w.heap.size w w1 → Calls Try.prog 132 #[spnV x, ] w1 fun e w' => e = .returned (.bool (p x)) ∧ Below w1.heap.size w1 w') :
    Calls Try.prog 135 #[v, .func (.func 132) #[] #[]] w (IdxRes (l.any p) w) := by
  obtain ⟨a, cap, rfl, hn, hcap, hc⟩ := hv
  have HC := Lib.hid hc
  have HG := Lib.hid hg
  clear hc hg
  go_enter Try.func135, Try.ntmps135
  go_wp2_with fail
  go_loopw [8] (fun i wr => ∃ k : Nat, k ≤ l.length ∧ i = .int .i64 k ∧ Below w.heap.size w wr ∧ Hid (∀ i, i < k → p (l.getD i Spn.zero) = false)) (fun i _ => l.length - (intOf i).toNat)
  case atStart => exact ⟨0, Nat.zero_le _, rfl, Below.refl _ _, fun i hi => by omega⟩
  case round =>
    obtain ⟨k, hk, rfl, hb, hf⟩ := hrel
    by_cases hlt : k < l.length
    · obtain ⟨b, off, rfl, hbl, hc⟩ := HC.out (by omega)
      have g1 := sp_at hb hbl hc hlt
      clear hc
      have hm := getD_mem hlt Spn.zero
      generalize hq0 : l.getD k Spn.zero = q at g1 hm
      have Hq := Lib.hid hq0
      have HM := Lib.hid hm
      clear hq0 hm
      go_wp2_with fail
      refine (HG.out q wr HM.out hb).mono ?_
      rintro e w1 ⟨rfl, hb1⟩
      have hb2 := hb.trans (hb1.mono hb.size)
      clear hb hb1 g1
      cases hq : p q
      · have HQ := Lib.hid hq
        clear hq
        go_wp2
        go_roundw
        case rel => exact ⟨k + 1, hlt, by go_num, hb2, fun i hi => by
          by_cases hik : i = k
          · rw [hik, Hq.out]; exact HQ.out
          · exact hf.out i (by omega)⟩
        case measure => simp [intOf]; omega
      · have HQ := Lib.hid hq
        clear hq
        go_wp2
        go_ret
        exact ⟨k, rfl, by rw [any_true_of (d := Spn.zero) hlt (by rw [Hq.out]; exact HQ.out)]; simp, hb2⟩
    · go_wp2
      go_ret
      exact ⟨-1, rfl, by rw [any_false_of (d := Spn.zero) (fun i hi => hf.out i (by omega))]; simp, hb⟩

set_option maxHeartbeats 400000 in
theorem containsSpn_any  (v : Value) (l : List Spn) (p : Spn → Bool) (q : Bool) (w : World) (hv : SpAt w v l) (hq : l.any p = q)
    (hg : ∀ (x : Spn) (w1 : World), x ∈ l → Below w.heap.size w w1 → Calls Try.prog 132 #[spnV x, ] w1 fun e w' => e = .returned (.bool (p x)) ∧ Below w1.heap.size w1 w') :
    Calls Try.prog 133 #[v, .func (.func 132) #[] #[]] w fun e w' => e = .returned (.bool q) ∧ Below w.heap.size w w' := by
  subst hq
  have HG := Lib.hid hg
  clear hg
  go_enter Try.func133, Try.ntmps133
  go_wp2_with fail
  refine (indexSpn_any _ _ p _ hv HG.out).mono ?_
  rintro e w1 ⟨r, rfl, hr, hb⟩
  have HR := Lib.hid hr
  clear hr
  go_wp2
  go_ret
  exact ⟨ret_bool HR.out, hb⟩

set_option maxHeartbeats 2000000 in
theorem isPart_any (P : Prt) (bv : Value) (w : World) (hv : SpAt w bv P.rs) :
    Calls Try.prog 118 #[prtV P bv] w fun e w' => e = .returned (.bool (partOk P)) ∧ Below w.heap.size w w' := by
  have hb0 := (Below.refl w.heap.size w).alloc (Nat.le_refl _) (Obj.cells #[bv, .int .i64 P.wo, .int .i64 P.tu, .int .i64 P.ag] 98)
  have k0 := block_new w (Obj.cells #[bv, .int .i64 P.wo, .int .i64 P.tu, .int .i64 P.ag] 98) w.heap.size rfl
  have HV := Lib.hid (hv.below hb0 (Nat.le_refl _))
  obtain ⟨a, cap, rfl, hn, hcap, hc⟩ := hv
  clear hc
  have HB := Lib.hid hb0
  have K0 := Lib.hid k0
  clear hb0 k0
  obtain ⟨b1, h1⟩ : ∃ b, decide (1 ≤ (P.rs.length : Int) ∧ (P.rs.length : Int) ≤ 4) = b := ⟨_, rfl⟩
  obtain ⟨b2, h2⟩ : ∃ b, P.rs.any rateBad = b := ⟨_, rfl⟩
  obtain ⟨b3, h3⟩ : ∃ b, decide (0 ≤ P.wo ∧ P.wo ≤ 1000) = b := ⟨_, rfl⟩
  obtain ⟨b4, h4⟩ : ∃ b, decide (0 ≤ P.tu ∧ P.tu ≤ 1000000) = b := ⟨_, rfl⟩
  obtain ⟨b5, h5⟩ : ∃ b, decide (0 ≤ P.ag ∧ P.ag ≤ 100000) = b := ⟨_, rfl⟩
  have HR := Lib.hid (show partOk P = (b1 && !b2 && b3 && b4 && b5) by unfold partOk; rw [h1, h2, h3, h4, h5])
  have H1 := Lib.hid h1
  have H2 := Lib.hid h2
  have H3 := Lib.hid h3
  have H4 := Lib.hid h4
  have H5 := Lib.hid h5
  clear h1 h2 h3 h4 h5
  cases b1
  · go_enter Try.func118, Try.ntmps118
    go_wp2_with fail
    generalize w.alloc (Obj.cells #[Value.slice a P.rs.length cap, .int .i64 P.wo, .int .i64 P.tu, .int .i64 P.ag] 98) = wA at *
    have hce := block_cell K0.out
    go_wp2_with (first | (go_at_call 49; (first | with_reducible refine (kwithin_is _ (P.rs.length : Int) 1 4 _ H1.out).mono ?_ | with_reducible refine (kwithin_is _ P.wo 0 1000 _ H3.out).mono ?_ | with_reducible refine (kwithin_is _ P.tu 0 1000000 _ H4.out).mono ?_ | with_reducible refine (kwithin_is _ P.ag 0 100000 _ H5.out).mono ?_); rintro e w' ⟨rfl, rfl⟩) |
      (go_at_call 133; refine (containsSpn_any _ P.rs _ _ _ HV.out H2.out (fun x w1 _ _ => rbad_any x w1)).mono ?_; rintro e w1 ⟨rfl, hb1⟩; clear hce; have hce := block_cell ((hb1.block _ (lt_of_block K0.out)).trans K0.out)))
    go_ret
    first
      | exact ⟨ret_bool (by rw [HR.out]; rfl), HB.out⟩
      | exact ⟨ret_bool (by rw [HR.out]; rfl), HB.out.trans (hb1.mono HB.out.size)⟩
  cases b2
  rotate_left
  · go_enter Try.func118, Try.ntmps118
    go_wp2_with fail
    generalize w.alloc (Obj.cells #[Value.slice a P.rs.length cap, .int .i64 P.wo, .int .i64 P.tu, .int .i64 P.ag] 98) = wA at *
    have hce := block_cell K0.out
    go_wp2_with (first | (go_at_call 49; (first | with_reducible refine (kwithin_is _ (P.rs.length : Int) 1 4 _ H1.out).mono ?_ | with_reducible refine (kwithin_is _ P.wo 0 1000 _ H3.out).mono ?_ | with_reducible refine (kwithin_is _ P.tu 0 1000000 _ H4.out).mono ?_ | with_reducible refine (kwithin_is _ P.ag 0 100000 _ H5.out).mono ?_); rintro e w' ⟨rfl, rfl⟩) |
      (go_at_call 133; refine (containsSpn_any _ P.rs _ _ _ HV.out H2.out (fun x w1 _ _ => rbad_any x w1)).mono ?_; rintro e w1 ⟨rfl, hb1⟩; clear hce; have hce := block_cell ((hb1.block _ (lt_of_block K0.out)).trans K0.out)))
    go_ret
    first
      | exact ⟨ret_bool (by rw [HR.out]; rfl), HB.out⟩
      | exact ⟨ret_bool (by rw [HR.out]; rfl), HB.out.trans (hb1.mono HB.out.size)⟩
  cases b3
  · go_enter Try.func118, Try.ntmps118
    go_wp2_with fail
    generalize w.alloc (Obj.cells #[Value.slice a P.rs.length cap, .int .i64 P.wo, .int .i64 P.tu, .int .i64 P.ag] 98) = wA at *
    have hce := block_cell K0.out
    go_wp2_with (first | (go_at_call 49; (first | with_reducible refine (kwithin_is _ (P.rs.length : Int) 1 4 _ H1.out).mono ?_ | with_reducible refine (kwithin_is _ P.wo 0 1000 _ H3.out).mono ?_ | with_reducible refine (kwithin_is _ P.tu 0 1000000 _ H4.out).mono ?_ | with_reducible refine (kwithin_is _ P.ag 0 100000 _ H5.out).mono ?_); rintro e w' ⟨rfl, rfl⟩) |
      (go_at_call 133; refine (containsSpn_any _ P.rs _ _ _ HV.out H2.out (fun x w1 _ _ => rbad_any x w1)).mono ?_; rintro e w1 ⟨rfl, hb1⟩; clear hce; have hce := block_cell ((hb1.block _ (lt_of_block K0.out)).trans K0.out)))
    go_ret
    first
      | exact ⟨ret_bool (by rw [HR.out]; rfl), HB.out⟩
      | exact ⟨ret_bool (by rw [HR.out]; rfl), HB.out.trans (hb1.mono HB.out.size)⟩
  cases b4
  · go_enter Try.func118, Try.ntmps118
    go_wp2_with fail
    generalize w.alloc (Obj.cells #[Value.slice a P.rs.length cap, .int .i64 P.wo, .int .i64 P.tu, .int .i64 P.ag] 98) = wA at *
    have hce := block_cell K0.out
    go_wp2_with (first | (go_at_call 49; (first | with_reducible refine (kwithin_is _ (P.rs.length : Int) 1 4 _ H1.out).mono ?_ | with_reducible refine (kwithin_is _ P.wo 0 1000 _ H3.out).mono ?_ | with_reducible refine (kwithin_is _ P.tu 0 1000000 _ H4.out).mono ?_ | with_reducible refine (kwithin_is _ P.ag 0 100000 _ H5.out).mono ?_); rintro e w' ⟨rfl, rfl⟩) |
      (go_at_call 133; refine (containsSpn_any _ P.rs _ _ _ HV.out H2.out (fun x w1 _ _ => rbad_any x w1)).mono ?_; rintro e w1 ⟨rfl, hb1⟩; clear hce; have hce := block_cell ((hb1.block _ (lt_of_block K0.out)).trans K0.out)))
    go_ret
    first
      | exact ⟨ret_bool (by rw [HR.out]; rfl), HB.out⟩
      | exact ⟨ret_bool (by rw [HR.out]; rfl), HB.out.trans (hb1.mono HB.out.size)⟩
  cases b5
  all_goals
    go_enter Try.func118, Try.ntmps118
    go_wp2_with fail
    generalize w.alloc (Obj.cells #[Value.slice a P.rs.length cap, .int .i64 P.wo, .int .i64 P.tu, .int .i64 P.ag] 98) = wA at *
    have hce := block_cell K0.out
    go_wp2_with (first | (go_at_call 49; (first | with_reducible refine (kwithin_is _ (P.rs.length : Int) 1 4 _ H1.out).mono ?_ | with_reducible refine (kwithin_is _ P.wo 0 1000 _ H3.out).mono ?_ | with_reducible refine (kwithin_is _ P.tu 0 1000000 _ H4.out).mono ?_ | with_reducible refine (kwithin_is _ P.ag 0 100000 _ H5.out).mono ?_); rintro e w' ⟨rfl, rfl⟩) |
      (go_at_call 133; refine (containsSpn_any _ P.rs _ _ _ HV.out H2.out (fun x w1 _ _ => rbad_any x w1)).mono ?_; rintro e w1 ⟨rfl, hb1⟩; clear hce; have hce := block_cell ((hb1.block _ (lt_of_block K0.out)).trans K0.out)))
    go_ret
    first
      | exact ⟨ret_bool (by rw [HR.out]; rfl), HB.out⟩
      | exact ⟨ret_bool (by rw [HR.out]; rfl), HB.out.trans (hb1.mono HB.out.size)⟩

end Go.Proofs.Ythgcnakbbmknoaa
