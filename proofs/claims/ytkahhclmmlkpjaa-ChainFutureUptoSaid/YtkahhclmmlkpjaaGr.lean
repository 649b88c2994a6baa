/- Rows of ints that a make leaves and stores fill: what every layer uses. -/
import Derived.Test.YtkahhclmmlkpjaaGs
import Derived.Deep.OwnRows
namespace Go.Proofs.Ytkahhclmmlkpjaa
open Go.RowKit

/-- n cells of ints. -/
def rowC (n : Nat) (f : Nat → Int) : Array Value := Array.ofFn (n := n) fun j => .int .i64 (f j.val)
def RowAt (w : World) (b : Nat) (e : TypeId) (n : Nat) (f : Nat → Int) : Prop := w.heap[b]? = some (.cells (rowC n f) e (0, 0))

theorem rowC_at {n i : Nat} (f : Nat → Int) (hi : i < n) : (rowC n f)[i]? = some (.int .i64 (f i)) := by
  unfold rowC
  rw [Array.getElem?_ofFn, dif_pos hi]

theorem rowC_set {n i : Nat} (f : Nat → Int) (v : Int) : (rowC n f).setIfInBounds i (.int .i64 v) = rowC n (fun j => if j = i then v else f j) := by
  apply Array.ext_getElem?
  intro j
  rw [Array.getElem?_setIfInBounds]
  unfold rowC
  simp only [Array.getElem?_ofFn, Array.size_ofFn]
  by_cases hj : j < n
  · rw [dif_pos hj, dif_pos hj]
    by_cases e : i = j
    · subst e; rw [if_pos rfl]; simp [hj]
    · rw [if_neg e, if_neg (fun h => e h.symm)]
  · rw [dif_neg hj, dif_neg hj]
    split
    · split
      · rename_i h1 h2
        exact absurd h2 (by omega)
      · rfl
    · rfl

theorem rowC_zero (n : Nat) : madeCells #[.int .i64 0] n = rowC n (fun _ => 0) := by
  apply Array.ext_getElem?
  intro j
  unfold rowC madeCells
  rw [Array.getElem?_ofFn, Array.getElem?_map]
  by_cases hj : j < n
  · rw [dif_pos hj, Array.getElem?_range, if_pos hj]; simp [Nat.mod_one]
  · rw [dif_neg hj, Array.getElem?_range, if_neg hj]; rfl

theorem rowC_congr {n : Nat} {f g : Nat → Int} (h : ∀ i, i < n → f i = g i) : rowC n f = rowC n g := by
  unfold rowC
  congr 1
  funext j
  rw [h j.val j.isLt]

theorem RowAt.set {w : World} {b : Nat} {e : TypeId} {n : Nat} {f : Nat → Int} (h : RowAt w b e n f) (i : Nat) (v : Int) : RowAt (w.setCell ⟨b, i, none⟩ (.int .i64 v)) b e n (fun j => if j = i then v else f j) := by
  have := block_set h i (.int .i64 v)
  rwa [rowC_set] at this

theorem RowAt.at {w : World} {b : Nat} {e : TypeId} {n : Nat} {f : Nat → Int} (h : RowAt w b e n f) {i : Nat} (hi : i < n) : w.cell? ⟨b, i, none⟩ = some (.int .i64 (f i)) := by
  rw [block_cell h, rowC_at f hi]

theorem RowAt.in_ {w : World} {b : Nat} {e : TypeId} {n : Nat} {f : Nat → Int} (h : RowAt w b e n f) (hn : n ≤ 1000000) : InAt w (.slice (some ⟨b, 0, none⟩) n n) ((List.range n).map f) := by
  have hl : ((List.range n).map f).length = n := by simp
  refine ⟨some ⟨b, 0, none⟩, n, by rw [hl], by rw [hl]; exact Nat.le_refl _, by omega, fun _ => ⟨b, 0, rfl, lt_of_block h, fun i hi => ?_⟩⟩
  rw [hl] at hi
  rw [Nat.zero_add, h.at hi]
  simp [List.getD, hi]

end Go.Proofs.Ytkahhclmmlkpjaa
