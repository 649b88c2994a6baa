/- Walks of the statements' own helpers (layer 3): Example, works. -/
import Derived.Test.YtbkhfmigaehgaaaCr
import Derived.RegionTactic
import Derived.Laws.StructEq
import Derived.ChangeAlike
namespace Go.Proofs.Ytbkhfmigaehgaaa
open Go.RowKit

def allocs : World → List Obj → World
  | w, [] => w
  | w, o :: os => allocs (w.alloc o) os

theorem allocs_below : ∀ (os : List Obj) (w : World), Below w.heap.size w (allocs w os)
  | [], _w => Below.refl _ _
  | o :: os, w => ((Below.refl _ _).alloc (Nat.le_refl _) o).trans ((allocs_below os (w.alloc o)).mono (al_le _ _))

theorem allocs_at : ∀ (os : List Obj) (w : World) (i : Nat) (o : Obj), os[i]? = some o → (allocs w os).heap[w.heap.size + i]? = some o
  | [], _, _, _, h => by simp at h
  | x :: os, w, 0, o, h => by
    simp only [List.getElem?_cons_zero, Option.some.injEq] at h
    subst h
    exact ((allocs_below os (w.alloc x)).block _ (by rw [size_alloc]; omega)).trans (block_new _ _ _ rfl)
  | x :: os, w, i + 1, o, h => by
    simp only [List.getElem?_cons_succ] at h
    have := allocs_at os (w.alloc x) i o h
    rw [size_alloc] at this
    rw [show w.heap.size + (i + 1) = w.heap.size + 1 + i by omega]
    exact this

/-- Ints in a block known whole. -/
theorem in_block {w : World} {g : Nat} {xs : List Int} (h : w.heap[g]? = some (.cells (xs.map (Value.int .i64)).toArray 3)) (hl : xs.length ≤ 1000) : InAt w (.slice (some ⟨g, 0, none⟩) xs.length xs.length) xs := by
  refine ⟨_, xs.length, rfl, Nat.le_refl _, by omega, fun _ => ⟨g, 0, rfl, lt_of_block h, fun i hi => ?_⟩⟩
  rw [block_cell h, Nat.zero_add, List.getD_eq_getElem?_getD, List.getElem?_eq_getElem hi]
  simp [hi]

def exC : Cir := ⟨2, [1, 1, 2, 2], [⟨2, [1, 2, 3, 4]⟩, ⟨1, [0]⟩, ⟨1, [1]⟩, ⟨1, [2]⟩, ⟨1, [3]⟩]⟩
def exT : List Tri := [⟨1, 1⟩, ⟨1, 2⟩, ⟨2, 3⟩, ⟨2, 4⟩]
def exR : Rot := ⟨[[0], [1], [2], [3]], 4⟩

def ExRes (w : World) (e : Ending) (w' : World) : Prop := ∃ sv wv tv, e = .returned (.tuple #[cirV exC sv wv, tv]) ∧ CirAt w' sv wv exC ∧ TrAt w' tv exT ∧ Below w.heap.size w w'

/-- The blocks that Example makes, the first one's number being n. -/
def exOs (n : Nat) : List Obj := [
  .cells #[.int .i64 2, .slice (some ⟨n + 1, 0, none⟩) 4 4, .slice (some ⟨n + 7, 0, none⟩) 5 5] 25,
  .cells #[.int .i64 1, .int .i64 1, .int .i64 2, .int .i64 2] 3,
  .cells #[.int .i64 1, .int .i64 2, .int .i64 3, .int .i64 4] 3,
  .cells #[.int .i64 0] 3, .cells #[.int .i64 1] 3, .cells #[.int .i64 2] 3, .cells #[.int .i64 3] 3,
  .cells #[.int .i64 2, .slice (some ⟨n + 2, 0, none⟩) 4 4, .int .i64 1, .slice (some ⟨n + 3, 0, none⟩) 1 1, .int .i64 1, .slice (some ⟨n + 4, 0, none⟩) 1 1, .int .i64 1, .slice (some ⟨n + 5, 0, none⟩) 1 1, .int .i64 1, .slice (some ⟨n + 6, 0, none⟩) 1 1] 122,
  .cells #[.int .i64 2, .slice (some ⟨n + 1, 0, none⟩) 4 4, .slice (some ⟨n + 7, 0, none⟩) 5 5] 25,
  .cells #[.int .i64 1, .int .i64 1, .int .i64 1, .int .i64 2, .int .i64 2, .int .i64 3, .int .i64 2, .int .i64 4] 138]

theorem ex_done (w : World) : ExRes w (.returned (.tuple #[.agg #[.int .i64 2, .slice (some ⟨w.heap.size + 1, 0, none⟩) 4 4, .slice (some ⟨w.heap.size + 7, 0, none⟩) 5 5], .slice (some ⟨w.heap.size + 9, 0, none⟩) 4 4])) (allocs w (exOs w.heap.size)) := by
  have h := allocs_at (exOs w.heap.size) w
  have hb := allocs_below (exOs w.heap.size) w
  refine ⟨_, _, _, rfl, ⟨?_, ?_⟩, ?_, hb⟩
  · exact in_block (xs := [1, 1, 2, 2]) (h 1 _ rfl) (by decide)
  · have h7 := h 7 _ rfl
    refine ⟨_, 5, rfl, Nat.le_refl _, by decide, fun _ => ⟨w.heap.size + 7, 0, rfl, lt_of_block h7, fun i hi => ?_⟩⟩
    have hi' : i < 5 := hi
    rw [block_cell h7, block_cell h7]
    match i, hi' with
    | 0, _ => exact ⟨rfl, _, rfl, in_block (xs := [1, 2, 3, 4]) (h 2 _ rfl) (by decide)⟩
    | 1, _ => exact ⟨rfl, _, rfl, in_block (xs := [0]) (h 3 _ rfl) (by decide)⟩
    | 2, _ => exact ⟨rfl, _, rfl, in_block (xs := [1]) (h 4 _ rfl) (by decide)⟩
    | 3, _ => exact ⟨rfl, _, rfl, in_block (xs := [2]) (h 5 _ rfl) (by decide)⟩
    | 4, _ => exact ⟨rfl, _, rfl, in_block (xs := [3]) (h 6 _ rfl) (by decide)⟩
  · have h9 := h 9 _ rfl
    refine ⟨_, 4, rfl, Nat.le_refl _, by decide, fun _ => ⟨w.heap.size + 9, 0, rfl, lt_of_block h9, fun i x hx j u hu => ?_⟩⟩
    have hi' : i < 4 := (List.getElem?_eq_some_iff.1 hx).1
    have hj' : j < 2 := (List.getElem?_eq_some_iff.1 hu).1
    rw [block_cell h9, ← hu]
    match i, hi', j, hj', x, hx with
    | 0, _, 0, _, _, rfl => rfl
    | 0, _, 1, _, _, rfl => rfl
    | 1, _, 0, _, _, rfl => rfl
    | 1, _, 1, _, _, rfl => rfl
    | 2, _, 0, _, _, rfl => rfl
    | 2, _, 1, _, _, rfl => rfl
    | 3, _, 0, _, _, rfl => rfl
    | 3, _, 1, _, _, rfl => rfl

set_option maxRecDepth 100000 in
set_option maxHeartbeats 4000000 in
theorem example_any (w : World) : Calls Try.prog 71 #[] w (ExRes w) := by
  go_enter Try.func71, Try.ntmps71
  go_wp2_with fail
  exact bodyPost_ret (v := .tuple #[.agg #[.int .i64 2, .slice (some ⟨w.heap.size + 1, 0, none⟩) 4 4, .slice (some ⟨w.heap.size + 7, 0, none⟩) 5 5], .slice (some ⟨w.heap.size + 9, 0, none⟩) 4 4]) (by simp [results, Try.results71, go_sem]) rfl (ex_done w)

theorem exPairs : pairsR exC = [(0, 1), (2, 3)] := by kernel_rfl
theorem exChk : chkC exC = 0 := by kernel_rfl
theorem exRota : rotaM exC exT exR = ⟨0, 0, true⟩ := by kernel_rfl
theorem exChkR : chkR exC exT exR = 0 := by kernel_rfl

end Go.Proofs.Ytbkhfmigaehgaaa
