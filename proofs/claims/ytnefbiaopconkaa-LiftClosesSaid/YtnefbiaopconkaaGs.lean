/- Slices whose elements are of m cells each, at whatever type: what every layer uses. -/
import Derived.Test.YtnefbiaopconkaaGe
import Derived.Below
namespace Go.Proofs.Ytnefbiaopconkaa
open Go.RowKit

/-- The value v is a slice of the elements xs, each laid out by f in m cells. -/
def ElAt {α : Type} (m : Nat) (f : α → List Value) (w : World) (v : Value) (xs : List α) : Prop :=
  ∃ a cap, v = .slice a xs.length cap ∧ xs.length ≤ cap ∧ cap ≤ 9223372036854775807 ∧
    (0 < xs.length → ∃ b off, a = some ⟨b, off, none⟩ ∧ b < w.heap.size ∧
      ∀ i x, xs[i]? = some x → ∀ j u, (f x)[j]? = some u → w.cell? ⟨b, off + i * m + j, none⟩ = some u)

theorem getD_get? {α : Type} {xs : List α} {i : Nat} (hi : i < xs.length) (d : α) : xs[i]? = some (xs.getD i d) := by
  rw [List.getD_eq_getElem?_getD, List.getElem?_eq_getElem hi]; rfl

theorem getD_mem {α : Type} {xs : List α} {i : Nat} (hi : i < xs.length) (d : α) : xs.getD i d ∈ xs := List.mem_of_getElem? (getD_get? hi d)

section
variable {α : Type} {m : Nat} {f : α → List Value}

theorem ElAt.below {w w' : World} {B : Nat} {v : Value} {xs : List α} (h : ElAt m f w v xs) (hb : Below B w w') (hB : w.heap.size ≤ B) : ElAt m f w' v xs := by
  obtain ⟨a, cap, rfl, h1, h2, h3⟩ := h
  refine ⟨a, cap, rfl, h1, h2, fun h => ?_⟩
  obtain ⟨b, off, rfl, hlt, hc⟩ := h3 h
  exact ⟨b, off, rfl, Nat.lt_of_lt_of_le hlt hb.size, fun i x hx j u hu => (hb.cell (p := ⟨b, off + i * m + j, none⟩) (by show b < B; omega)).trans (hc i x hx j u hu)⟩

theorem ElAt.nil (w : World) : ElAt m f w (.slice none 0 0) [] := ⟨none, 0, rfl, Nat.le_refl _, by decide, fun h => absurd h (by simp)⟩

/-- The elements' cells one after the other. -/
theorem flat_at (hf : ∀ x, (f x).length = m) : ∀ (xs : List α) (i : Nat) (x : α), xs[i]? = some x → ∀ j u, (f x)[j]? = some u → (xs.flatMap f)[i * m + j]? = some u
  | [], i, x, hx, _, _, _ => by simp at hx
  | y :: ys, 0, x, hx, j, u, hu => by
    simp only [List.getElem?_cons_zero, Option.some.injEq] at hx
    subst hx
    have hj : j < (f y).length := (List.getElem?_eq_some_iff.1 hu).1
    rw [List.flatMap_cons, Nat.zero_mul, Nat.zero_add, List.getElem?_append_left hj]
    exact hu
  | y :: ys, i + 1, x, hx, j, u, hu => by
    simp only [List.getElem?_cons_succ] at hx
    have e : (i + 1) * m + j = (f y).length + (i * m + j) := by rw [hf, Nat.succ_mul]; omega
    rw [List.flatMap_cons, e, List.getElem?_append_right (by omega), Nat.add_sub_cancel_left]
    exact flat_at hf ys i x hx j u hu

theorem flat_len (hf : ∀ x, (f x).length = m) (xs : List α) : (xs.flatMap f).length = xs.length * m := by
  induction xs with
  | nil => simp
  | cons x xs ih => rw [List.flatMap_cons, List.length_append, hf, ih, List.length_cons, Nat.succ_mul]; omega

theorem ElAt.of_own (hf : ∀ x, (f x).length = m) {w : World} {base : Nat} {e : TypeId} {v : Value} {xs : List α} (h : w.ownsRow base e m v xs.length (xs.flatMap f)) : ElAt m f w v xs := by
  obtain ⟨hl, h2⟩ := h
  rcases h2 with ⟨rfl, h0⟩ | ⟨g, cap, cur, rfl, hb, hg, hn, hcap, hcs, htake⟩
  · have : xs = [] := List.eq_nil_of_length_eq_zero h0
    subst this
    exact ElAt.nil w
  · refine ⟨_, cap, rfl, hn, by unfold maxLen at hcap; omega, fun _ => ⟨g, 0, rfl, lt_of_block hg, fun i x hx j u hu => ?_⟩⟩
    have e1 := flat_at hf xs i x hx j u hu
    have hi : i * m + j < xs.length * m := by
      have h1 := (List.getElem?_eq_some_iff.1 e1).1
      rw [flat_len hf] at h1
      exact h1
    rw [← htake, List.getElem?_take_of_lt hi, Array.getElem?_toList] at e1
    rw [Nat.zero_add, block_cell hg]
    exact e1

/-- The cells of a slice's elements, as an append wants them. -/
theorem ElAt.news (hf : ∀ x, (f x).length = m) {w : World} {b off n cap : Nat} {xs : List α} (h : ElAt m f w (.slice (some ⟨b, off, none⟩) n cap) xs) (hp : 0 < xs.length) :
    ∀ j u, (xs.flatMap f)[j]? = some u → w.cell? ((⟨b, off, none⟩ : Addr).add j) = some u := by
  obtain ⟨a', cap', e, _, _, hc⟩ := h
  injection e with e1 e2 e3
  obtain ⟨b', off', e4, _, hc⟩ := hc hp
  rw [← e1] at e4
  injection e4 with e5
  injection e5 with e6 e7 e8
  subst e6; subst e7
  intro j u hu
  have hj := (List.getElem?_eq_some_iff.1 hu).1
  rw [flat_len hf] at hj
  have hm : 0 < m := by
    rcases Nat.eq_zero_or_pos m with h0 | h0
    · rw [h0, Nat.mul_zero] at hj; omega
    · exact h0
  have hi : j / m < xs.length := Nat.div_lt_of_lt_mul (by rw [Nat.mul_comm]; exact hj)
  have hx : xs[j / m]? = some xs[j / m] := List.getElem?_eq_getElem hi
  have hjm : j % m < (f xs[j / m]).length := by rw [hf]; exact Nat.mod_lt _ hm
  have hu' : (f xs[j / m])[j % m]? = some u := by
    have h1 := flat_at hf xs (j / m) _ hx (j % m) ((f xs[j / m])[j % m]) (List.getElem?_eq_getElem hjm)
    rw [show j / m * m + j % m = j by rw [Nat.mul_comm]; exact Nat.div_add_mod j m] at h1
    rw [hu] at h1
    rw [List.getElem?_eq_getElem hjm]
    exact h1.symm
  have h2 := hc (j / m) _ hx (j % m) u hu'
  rw [show off + j / m * m + j % m = off + j by rw [Nat.add_assoc, Nat.mul_comm, Nat.div_add_mod]] at h2
  have e9 : (⟨b, off, none⟩ : Addr).add j = ⟨b, off + j, none⟩ := by unfold Addr.add; split <;> simp_all
  rw [e9]
  exact h2

theorem ElAt.len {w w' : World} {v : Value} {xs ys : List α} (h : ElAt m f w v xs) (h' : ElAt m f w' v ys) : xs.length = ys.length := by
  obtain ⟨a, cap, rfl, _⟩ := h
  obtain ⟨a', cap', e, _⟩ := h'
  injection e

end

/-- The ints of a slice value lie in memory. -/
def InAt (w : World) (v : Value) (xs : List Int) : Prop :=
  ∃ a cap, v = .slice a xs.length cap ∧ xs.length ≤ cap ∧ cap ≤ 9223372036854775807 ∧
    (0 < xs.length → ∃ b off, a = some ⟨b, off, none⟩ ∧ b < w.heap.size ∧ ∀ i, i < xs.length → w.cell? ⟨b, off + i, none⟩ = some (.int .i64 (xs.getD i 0)))

theorem InAt.below {w w' : World} {B : Nat} {v : Value} {xs : List Int} (h : InAt w v xs) (hb : Below B w w') (hB : w.heap.size ≤ B) : InAt w' v xs := by
  obtain ⟨a, cap, rfl, h1, h2, h3⟩ := h
  refine ⟨a, cap, rfl, h1, h2, fun h => ?_⟩
  obtain ⟨b, off, rfl, hlt, hc⟩ := h3 h
  exact ⟨b, off, rfl, Nat.lt_of_lt_of_le hlt hb.size, fun i hi => (hb.cell (p := ⟨b, off + i, none⟩) (by show b < B; omega)).trans (hc i hi)⟩

theorem InAt.nil (w : World) : InAt w (.slice none 0 0) [] := ⟨none, 0, rfl, Nat.le_refl _, by decide, fun h => absurd h (by simp)⟩

theorem InAt.of_own {w : World} {base : Nat} {e : TypeId} {v : Value} {n : Nat} {xs : List Int} (h : w.ownsRow base e 1 v n (xs.map (Value.int .i64))) : InAt w v xs := by
  obtain ⟨hl, h2⟩ := h
  simp only [List.length_map, Nat.mul_one] at hl
  rcases h2 with ⟨rfl, rfl⟩ | ⟨g, cap, cur, rfl, hb, hg, hn, hcap, hcs, htake⟩
  · have : xs = [] := List.eq_nil_of_length_eq_zero hl
    subst this
    exact InAt.nil w
  · subst hl
    refine ⟨_, cap, rfl, hn, by unfold maxLen at hcap; omega, fun _ => ⟨g, 0, rfl, lt_of_block hg, fun i hi => ?_⟩⟩
    rw [Nat.zero_add, block_cell hg]
    have h1 : (cur.toList.take (xs.length * 1))[i]? = (xs.map (Value.int .i64))[i]? := by rw [htake]
    rw [List.getElem?_take_of_lt (by omega), List.getElem?_map, List.getElem?_eq_getElem hi] at h1
    rw [← Array.getElem?_toList, h1, List.getD_eq_getElem?_getD, List.getElem?_eq_getElem hi]
    rfl

theorem InAt.len {w w' : World} {v : Value} {xs ys : List Int} (h : InAt w v xs) (h' : InAt w' v ys) : xs.length = ys.length := by
  obtain ⟨a, cap, rfl, _⟩ := h
  obtain ⟨a', cap', e, _⟩ := h'
  injection e

end Go.Proofs.Ytnefbiaopconkaa
