/- New blocks, two and three of them: what every layer uses. -/
import Derived.Test.YtnefbiaopconkaaGe
import Derived.Below
namespace Go.Proofs.Ytnefbiaopconkaa
open Go.RowKit

theorem al_le (w : World) (o : Obj) : w.heap.size ≤ (w.alloc o).heap.size := by rw [size_alloc]; omega
theorem two_nw (w : World) (o o' : Obj) : ((w.alloc o).alloc o').heap[w.heap.size + 1]? = some o' := block_new _ _ _ (by simp only [size_alloc])
theorem two_od (w : World) (a b : Obj) : ((w.alloc a).alloc b).heap[w.heap.size]? = some a := block_alloc (block_new _ _ _ rfl) _
theorem three_0 (w : World) (a b c : Obj) : (((w.alloc a).alloc b).alloc c).heap[w.heap.size]? = some a := block_alloc (block_alloc (block_new _ _ _ rfl) _) _
theorem three_1 (w : World) (a b c : Obj) : (((w.alloc a).alloc b).alloc c).heap[w.heap.size + 1]? = some b := block_alloc (two_nw _ _ _) _
theorem three_2 (w : World) (a b c : Obj) : (((w.alloc a).alloc b).alloc c).heap[w.heap.size + 2]? = some c := block_new _ _ _ (by simp only [size_alloc])
theorem blw2 (w : World) (a b : Obj) : Below w.heap.size w ((w.alloc a).alloc b) := ((Below.refl _ _).alloc (Nat.le_refl _) _).alloc (al_le _ _) _
theorem blw3 (w : World) (a b c : Obj) : Below w.heap.size w (((w.alloc a).alloc b).alloc c) := (blw2 w a b).alloc (Nat.le_trans (al_le _ _) (al_le _ _)) _
theorem keepZ {W w' : World} {p : Nat} {o : Obj} (h : W.heap[p]? = some o) (hb : Below W.heap.size W w') : w'.heap[p]? = some o := (hb.block _ (lt_of_block h)).trans h
theorem below_unalloc {W w' : World} {o : Obj} (h : Below (W.alloc o).heap.size (W.alloc o) w') : Below W.heap.size W w' := ((Below.refl _ _).alloc (Nat.le_refl _) o).trans (h.mono (al_le _ _))

end Go.Proofs.Ytnefbiaopconkaa
