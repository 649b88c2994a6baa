/- Walks of layer 2 (chain): the net of the specification in memory. -/
import Derived.Test.YtkahhclmmlkpjaaKe
import Derived.Test.YtkahhclmmlkpjaaKd
import Derived.Test.YtkahhclmmlkpjaaGx
import Derived.StillTailTactics
namespace Go.Proofs.Ytkahhclmmlkpjaa
open Go.RowKit

/-- A net: a slice of rows, each in a block of its own. -/
def NetB (w : World) (n h : Nat) (G C : Nat → Nat) (M : Net) : Prop :=
  h < w.heap.size ∧ (∀ i, i ≤ n → w.cell? ⟨h, i, none⟩ = some (.slice (some ⟨G i, 0, none⟩) (n + 1) (C i)) ∧ G i < w.heap.size ∧ G i ≠ h) ∧
  (∀ i j, i ≤ n → j ≤ n → G i = G j → i = j) ∧
  (∀ i k, i ≤ n → k ≤ n → w.cell? ⟨G i, k, none⟩ = some (.int .i64 (M i k)) ∧ w.frozen? ⟨G i, k, none⟩ = false)

theorem NetB.set {w : World} {n h : Nat} {G C : Nat → Nat} {M : Net} (hN : NetB w n h G C M) {i k : Nat} (hi : i ≤ n) (hk : k ≤ n) (v : Int) :
    NetB (w.setCell ⟨G i, k, none⟩ (.int .i64 v)) n h G C (fun a b => if a = i ∧ b = k then v else M a b) := by
  obtain ⟨h1, h2, h3, h4⟩ := hN
  refine ⟨by simpa using h1, fun a ha => ?_, h3, fun a b ha hb => ?_⟩
  · obtain ⟨q1, q2, q3⟩ := h2 a ha
    refine ⟨?_, by simpa using q2, q3⟩
    rw [World.cell?_setCell_other _ _ _ _ (fun e => by injection e with e _ _; exact (h2 i hi).2.2 e)]
    exact q1
  · refine ⟨?_, ?_⟩
    · dsimp only
      by_cases e : a = i ∧ b = k
      · obtain ⟨rfl, rfl⟩ := e
        rw [if_pos ⟨rfl, rfl⟩]
        exact World.cell?_setCell_same _ _ _ (h4 a b ha hb).1
      · rw [if_neg e, World.cell?_setCell_other _ _ _ _ (fun q => by
          injection q with q1 q2 _
          exact e ⟨(h3 i a hi ha q1).symm, q2.symm⟩)]
        exact (h4 a b ha hb).1
    · exact (World.frozen?_setCell _ _ _ _).trans (h4 a b ha hb).2

theorem NetB.below {w w' : World} {n h : Nat} {G C : Nat → Nat} {M : Net} (hN : NetB w n h G C M) (hb : Below w.heap.size w w') : NetB w' n h G C M := by
  obtain ⟨h1, h2, h3, h4⟩ := hN
  refine ⟨Nat.lt_of_lt_of_le h1 hb.size, fun a ha => ?_, h3, fun a b ha hb' => ?_⟩
  · obtain ⟨q1, q2, q3⟩ := h2 a ha
    exact ⟨(hb.cell (p := ⟨h, a, none⟩) h1).trans q1, Nat.lt_of_lt_of_le q2 hb.size, q3⟩
  · have q2 := (h2 a ha).2.1
    exact ⟨(hb.cell (p := ⟨G a, b, none⟩) q2).trans (h4 a b ha hb').1, (hb.frozen (p := ⟨G a, b, none⟩) q2).trans (h4 a b ha hb').2⟩

theorem NetB.congr {w : World} {n h : Nat} {G C : Nat → Nat} {M M' : Net} (hN : NetB w n h G C M) (he : ∀ i k, i ≤ n → k ≤ n → M i k = M' i k) : NetB w n h G C M' := by
  obtain ⟨h1, h2, h3, h4⟩ := hN
  exact ⟨h1, h2, h3, fun a b ha hb => by rw [← he a b ha hb]; exact h4 a b ha hb⟩

/-! ### The rows while they are made -/
def rowL (n : Nat) (f : Nat → Int) : List Value := (List.range (n + 1)).map fun k => .int .i64 (f k)

def RowsIn (w : World) (base n m : Nat) (G C : Nat → Nat) (M : Net) : Prop :=
  (∀ j, j < m → base ≤ G j ∧ n + 1 ≤ C j ∧ C j ≤ maxLen ∧ ∃ cur, w.heap[G j]? = some (.cells cur 3 (0, 0)) ∧ cur.toList.take (n + 1) = rowL n (M j)) ∧
  (∀ i j, i < m → j < m → G i = G j → i = j)

theorem RowsIn.keep {w w' : World} {base n m : Nat} {G C : Nat → Nat} {M : Net} (h : RowsIn w base n m G C M) (hk : ∀ j, j < m → w'.heap[G j]? = w.heap[G j]?) : RowsIn w' base n m G C M :=
  ⟨fun j hj => by obtain ⟨h1, h2, h3, cur, h4, h5⟩ := h.1 j hj; exact ⟨h1, h2, h3, cur, (hk j hj).trans h4, h5⟩, h.2⟩

theorem RowsIn.lt {w : World} {base n m : Nat} {G C : Nat → Nat} {M : Net} (h : RowsIn w base n m G C M) {j : Nat} (hj : j < m) : G j < w.heap.size := by
  obtain ⟨_, _, _, cur, h4, _⟩ := h.1 j hj
  exact lt_of_block h4

theorem RowsIn.snoc {w : World} {base n m : Nat} {G C : Nat → Nat} {M : Net} (h : RowsIn w base n m G C M) {g c : Nat} {cur : Array Value} (hg : base ≤ g) (hc1 : n + 1 ≤ c) (hc2 : c ≤ maxLen) (hcur : w.heap[g]? = some (.cells cur 3 (0, 0))) (ht : cur.toList.take (n + 1) = rowL n (M m))
    (hne : ∀ j, j < m → G j ≠ g) : RowsIn w base n (m + 1) (fun j => if j = m then g else G j) (fun j => if j = m then c else C j) M := by
  refine ⟨fun j hj => ?_, fun i j hi hj e => ?_⟩
  · dsimp only
    by_cases e : j = m
    · rw [if_pos e, if_pos e, e]; exact ⟨hg, hc1, hc2, cur, hcur, ht⟩
    · rw [if_neg e, if_neg e]; exact h.1 j (by omega)
  · dsimp only at e
    by_cases ei : i = m
    · by_cases ej : j = m
      · rw [ei, ej]
      · rw [if_pos ei, if_neg ej] at e; exact absurd e.symm (hne j (by omega))
    · by_cases ej : j = m
      · rw [if_neg ei, if_pos ej] at e; exact absurd e (hne i (by omega))
      · rw [if_neg ei, if_neg ej] at e; exact h.2 i j (by omega) (by omega) e

/-- The header's cells. -/
def hdrL (n m : Nat) (G C : Nat → Nat) : List Value := (List.range m).map fun j => .slice (some ⟨G j, 0, none⟩) (n + 1) (C j)

theorem hdrL_snoc (n m : Nat) (G C : Nat → Nat) (g c : Nat) : hdrL n (m + 1) (fun j => if j = m then g else G j) (fun j => if j = m then c else C j) = hdrL n m G C ++ [.slice (some ⟨g, 0, none⟩) (n + 1) c] := by
  unfold hdrL
  rw [List.range_succ, List.map_append]
  congr 1
  · apply List.map_congr_left
    intro j hj
    rw [List.mem_range] at hj
    dsimp only
    rw [if_neg (by omega), if_neg (by omega)]
  · simp

/-- All rows made: a net. -/
theorem netB_of {w : World} {base n : Nat} {G C : Nat → Nat} {M : Net} {v : Value} (hh : w.ownsRow base 44 1 v (n + 1) (hdrL n (n + 1) G C)) (hr : RowsIn w base n (n + 1) G C M) :
    ∃ h c, v = .slice (some ⟨h, 0, none⟩) (n + 1) c ∧ n + 1 ≤ c ∧ base ≤ h ∧ NetB w n h G C M := by
  rcases hh.2 with ⟨_, h0⟩ | ⟨h, c, cur, rfl, hb, hg, hn, hcm, hcs, htake⟩
  · omega
  · refine ⟨h, c, rfl, hn, hb, lt_of_block hg, fun i hi => ?_, fun i j hi hj e => hr.2 i j (by omega) (by omega) e, fun i k hi hk => ?_⟩
    · obtain ⟨_, _, _, cu, h4, _⟩ := hr.1 i (by omega)
      refine ⟨?_, lt_of_block h4, fun e => ?_⟩
      · rw [block_cell hg]
        have : (cur.toList.take ((n + 1) * 1))[i]? = (hdrL n (n + 1) G C)[i]? := by rw [htake]
        rw [List.getElem?_take_of_lt (by omega), Array.getElem?_toList] at this
        rw [this]
        unfold hdrL
        rw [List.getElem?_map, List.getElem?_range (by omega)]
        rfl
      · rw [e, hg] at h4
        injection h4 with h4
        injection h4 with _ h4 _
        exact absurd h4 (by decide)
    · obtain ⟨_, _, _, cu, h4, h5⟩ := hr.1 i (by omega)
      refine ⟨?_, block_free h4 k⟩
      rw [block_cell h4]
      have : (cu.toList.take (n + 1))[k]? = (rowL n (M i))[k]? := by rw [h5]
      rw [List.getElem?_take_of_lt (by omega), Array.getElem?_toList] at this
      rw [this]
      unfold rowL
      rw [List.getElem?_map, List.getElem?_range (by omega)]
      rfl

end Go.Proofs.Ytkahhclmmlkpjaa
