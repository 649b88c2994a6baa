/- Walks of layer 2 (chain): the bounds of the program in memory; run. -/
import Derived.Test.YtkahhclmmlkpjaaKw
import Derived.StillTailTactics
namespace Go.Proofs.Ytkahhclmmlkpjaa
open Go.RowKit

/-- The cells of all bounds. -/
def netC (M : Net) : Array Value := Array.ofFn (n := 625) fun j => .int .i64 (M (j.val / 25) (j.val % 25))
/-- The bounds M lie in the block b. -/
abbrev Bd (w : World) (b : Nat) (M : Net) : Prop := w.heap[b]? = some (.cells (netC M) 100 (0, 0))
def put (M : Net) (i k : Nat) (v : Int) : Net := fun i' k' => if i' = i ∧ k' = k then v else M i' k'

theorem netC_size (M : Net) : (netC M).size = 625 := by simp [netC]

theorem netC_one (M : Net) : (netC M).all (·.oneCell') = true := by
  rw [Array.all_eq_true]
  intro i hi
  simp [netC, Value.oneCell']

theorem netC_at (M : Net) {i k : Nat} (hi : i < 25) (hk : k < 25) : (netC M)[i * 25 + k]? = some (.int .i64 (M i k)) := by
  have h : i * 25 + k < 625 := by omega
  unfold netC
  rw [Array.getElem?_ofFn, dif_pos h]
  have e1 : (i * 25 + k) / 25 = i := by omega
  have e2 : (i * 25 + k) % 25 = k := by omega
  simp only [e1, e2]

theorem netC_set (M : Net) {i k : Nat} (hi : i < 25) (hk : k < 25) (v : Int) : (netC M).setIfInBounds (i * 25 + k) (.int .i64 v) = netC (put M i k v) := by
  apply Array.ext_getElem?
  intro j
  rw [Array.getElem?_setIfInBounds]
  unfold netC
  simp only [Array.getElem?_ofFn, Array.size_ofFn]
  by_cases hj : j < 625
  · rw [dif_pos hj, dif_pos hj]
    by_cases e : i * 25 + k = j
    · have e1 : j / 25 = i := by omega
      have e2 : j % 25 = k := by omega
      rw [if_pos e, if_pos (by omega)]
      simp only [put, e1, e2, and_self, if_true]
    · rw [if_neg e]
      have e3 : ¬ (j / 25 = i ∧ j % 25 = k) := by omega
      simp only [put, if_neg e3]
  · rw [dif_neg hj, dif_neg hj]
    split <;> first | omega | rfl

attribute [irreducible] netC

theorem bd_at {w : World} {b : Nat} {M : Net} (h : Bd w b M) {i k : Nat} (hi : i < 25) (hk : k < 25) : w.cell? ⟨b, i * 25 + k, none⟩ = some (.int .i64 (M i k)) := by
  rw [block_cell h, netC_at M hi hk]

theorem bd_set {w : World} {b : Nat} {M : Net} (h : Bd w b M) {i k : Nat} (hi : i < 25) (hk : k < 25) (v : Int) : Bd (w.setCell ⟨b, i * 25 + k, none⟩ (.int .i64 v)) b (put M i k v) := by
  have := block_set h (i * 25 + k) (.int .i64 v)
  rwa [netC_set M hi hk] at this

set_option maxRecDepth 100000 in
set_option maxHeartbeats 1000000 in
theorem brun_any (M : Net) (b i k : Nat) (w : World) (h : Bd w b M) (hi : i < 25) (hk : k < 25) (h1 : -1000000000000000 ≤ M k i) (h2 : M k i ≤ 1000000000000000) :
    Calls Try.prog 68 #[.pointer (some ⟨b, 0, none⟩), .int .i64 i, .int .i64 k] w fun e w' => e = .returned (.agg #[.int .i64 (-M k i), .int .i64 (M i k)]) ∧ Below w.heap.size w w' := by
  have c1 := bd_at h hk hi
  have c2 := bd_at h hi hk
  have hb := lt_of_block h
  have i1 : (0 : Int) ≤ i := by omega
  have i2 : (i : Int) < 25 := by omega
  have k1 : (0 : Int) ≤ k := by omega
  have k2 : (k : Int) < 25 := by omega
  have H := Lib.hid h
  clear h
  go_enter Try.func68, Try.ntmps68
  go_wp2_with fail
  refine wp_region_still_tail 16 (by kernel_rfl) (by kernel_rfl) ?_
  change wpStill _ _ (World.drew _) (fun a' => wpList _ _ _ _ a' (World.drew _)) _ _
  simp only [List.take_succ_cons, List.take_zero, List.drop_succ_cons, List.drop_zero]
  repeat still_step
  refine wpStill_nil ?_
  go_wp2
  exact bodyPost_ret (v := .agg #[.int .i64 (-M k i), .int .i64 (M i k)]) (by simp [results, Try.results68, go_sem]) rfl ⟨rfl, ((Below.refl _ _).alloc (Nat.le_refl _) _).drew⟩

theorem links_bd {n : Nat} (hn : n ≤ 24) {i k : Nat} (hi : i ≤ n) (hk : k ≤ n) (q : Int) (h1 : 0 ≤ q) (h2 : q ≤ 100000) : -2400000 ≤ ((k : Int) - i) * q ∧ ((k : Int) - i) * q ≤ 2400000 := by
  constructor
  · have := Int.mul_le_mul_of_nonneg_right (by omega : (-24 : Int) ≤ (k : Int) - i) h1
    omega
  · have := Int.mul_le_mul_of_nonneg_right (by omega : (k : Int) - i ≤ (24 : Int)) h1
    omega

abbrev CN (n : Nat) (pi li : Int) : Chn := ⟨n, pi, li⟩
/-- The bounds are those that the chain has without gauges, as far as the row i and the column k. -/
def LkRel (n : Nat) (pi li : Int) (b e : Nat) (wA wr : World) (i k : Nat) : Prop :=
  Below b wA wr ∧ wr.heap[e]? = some (Obj.cells #[.int .i64 n, .int .i64 pi, .int .i64 li] 23) ∧ ∃ M1, Bd wr b M1 ∧ ∀ i' k', k' ≤ n → (i' < i ∨ (i' = i ∧ k' < k)) → M1 i' k' = prog0 (CN n pi li) i' k'

theorem LkRel.step {n : Nat} {pi li : Int} {b e : Nat} {wA wr : World} {i k : Nat} (h : LkRel n pi li b e wA wr i k) (hbe : e ≠ b) (hi : i ≤ n) (hk : k ≤ n) (hn : n ≤ 24) {v : Int} (hv : v = prog0 (CN n pi li) i k) :
    LkRel n pi li b e wA (wr.setCell ⟨b, i * 25 + k, none⟩ (.int .i64 v)).drew i (k + 1) := by
  obtain ⟨h1, h2, M1, h3, h4⟩ := h
  refine ⟨(h1.setCell (p := ⟨b, i * 25 + k, none⟩) (Nat.le_refl _) _).drew, block_set_other (p := ⟨b, i * 25 + k, none⟩) h2 hbe _, _, bd_set h3 (by omega) (by omega) v, fun i' k' hk' hh => ?_⟩
  unfold put
  by_cases e : i' = i ∧ k' = k
  · rw [if_pos e, e.1, e.2]; exact hv
  · rw [if_neg e]; exact h4 i' k' hk' (by omega)

theorem LkRel.row {n : Nat} {pi li : Int} {b e : Nat} {wA wr : World} {i k : Nat} (h : LkRel n pi li b e wA wr i k) (hk : n < k) : LkRel n pi li b e wA wr (i + 1) 0 := by
  obtain ⟨h1, h2, M1, h3, h4⟩ := h
  exact ⟨h1, h2, M1, h3, fun i' k' hk' hh => h4 i' k' hk' (by omega)⟩

set_option maxRecDepth 100000 in
set_option maxHeartbeats 4000000 in
theorem blinks_any (n : Nat) (pi li : Int) (M : Net) (b : Nat) (w : World) (h : Bd w b M) (hc : COk (CN n pi li)) :
    Calls Try.prog 94 #[.pointer (some ⟨b, 0, none⟩), chnV (CN n pi li)] w fun e w' => e = .returned (.tuple #[]) ∧ Below b w w' ∧ ∃ M' : Net, Bd w' b M' ∧ ∀ i k, i ≤ n → k ≤ n → M' i k = prog0 (CN n pi li) i k := by
  have hb := lt_of_block h
  have hb0 := (Below.refl w.heap.size w).alloc (Nat.le_refl _) (Obj.cells #[.int .i64 n, .int .i64 pi, .int .i64 li] 23)
  have R0 := Lib.hid (show LkRel n pi li b w.heap.size (w.alloc (Obj.cells #[.int .i64 n, .int .i64 pi, .int .i64 li] 23)) (w.alloc (Obj.cells #[.int .i64 n, .int .i64 pi, .int .i64 li] 23)) 0 0 from ⟨Below.refl _ _, block_new w _ _ rfl, M, (hb0.block b hb).trans h, fun i' k' _ hh => by omega⟩)
  have HB := Lib.hid hb0
  have HC := Lib.hid hc
  obtain ⟨n1, n2, l1, l2, p1, p2⟩ := hc
  dsimp only [CN] at n1 n2 l1 l2 p1 p2
  have n24 : n ≤ 24 := by omega
  have hbe : w.heap.size ≠ b := by omega
  have HBE := Lib.hid hbe
  clear h hb0 hbe
  go_enter Try.func94, Try.ntmps94
  go_wp2_with fail
  generalize hwA : w.alloc (Obj.cells #[.int .i64 n, .int .i64 pi, .int .i64 li] 23) = wA at *
  clear hwA
  have hce := block_cell R0.out.2.1
  go_wp2_with fail
  clear hce
  go_loopw [9] (fun v wr => ∃ i : Nat, i ≤ n + 1 ∧ v = .int .i64 i ∧ Hid (LkRel n pi li b w.heap.size wA wr i 0)) (fun v _ => n + 1 - (intOf v).toNat)
  case atStart => exact ⟨0, by omega, rfl, R0.out⟩
  case round =>
    obtain ⟨i, hi, rfl, hR⟩ := hrel
    obtain ⟨wo, rfl⟩ : ∃ wo : World, wo = wr := ⟨_, rfl⟩
    have hce := block_cell hR.out.2.1
    by_cases hlt : i < n + 1
    · have hlb : decide ((i : Int) < (n : Int) + 1) = true := by simp; omega
      go_wp2_with fail
      clear hce hlb
      go_loopw [15] (fun v wr => ∃ k : Nat, k ≤ n + 1 ∧ v = .int .i64 k ∧ Hid (LkRel n pi li b w.heap.size wA wr i k)) (fun v _ => n + 1 - (intOf v).toNat)
      case atStart => exact ⟨0, by omega, rfl, hR.out⟩
      case round =>
        obtain ⟨k, hk, rfl, hQ⟩ := hrel
        by_cases hlt2 : k < n + 1
        · have hce := block_cell hQ.out.2.1
          have hcf := block_free hQ.out.2.2.choose_spec.1
          have hcb := bd_at hQ.out.2.2.choose_spec.1 (i := i) (k := k) (by omega) (by omega)
          have i1 : (0 : Int) ≤ i := by omega
          have i2 : (i : Int) < 25 := by omega
          have k1 : (0 : Int) ≤ k := by omega
          have k2 : (k : Int) < 25 := by omega
          obtain ⟨m1, m2⟩ := links_bd n24 (i := i) (k := k) (by omega) (by omega) li (by omega) l2
          obtain ⟨m3, m4⟩ := links_bd n24 (i := i) (k := k) (by omega) (by omega) pi (by omega) (by omega)
          by_cases hik : i < k
          · have HV := Lib.hid (show ((k : Int) - i) * li = prog0 (CN n pi li) i k by unfold prog0; rw [if_pos hik])
            go_wp2_with fail
            refine wp_region_still_tail 12 (by kernel_rfl) (by kernel_rfl) ?_
            change wpStill _ _ (World.drew _) (fun a' => wpList _ _ _ _ a' (World.drew _)) _ _
            simp only [List.take_succ_cons, List.take_zero, List.drop_succ_cons, List.drop_zero]
            repeat still_step
            refine wpStill_nil ?_
            go_wp2
            go_roundw
            case rel => exact ⟨k + 1, by omega, by go_num, hQ.out.step HBE.out (by omega) (by omega) n24 HV.out⟩
            case measure => simp [intOf]; omega
          · have HV := Lib.hid (show ((k : Int) - i) * pi = prog0 (CN n pi li) i k by unfold prog0; rw [if_neg hik])
            go_wp2_with fail
            refine wp_region_still_tail 12 (by kernel_rfl) (by kernel_rfl) ?_
            change wpStill _ _ (World.drew _) (fun a' => wpList _ _ _ _ a' (World.drew _)) _ _
            simp only [List.take_succ_cons, List.take_zero, List.drop_succ_cons, List.drop_zero]
            repeat still_step
            refine wpStill_nil ?_
            go_wp2
            go_roundw
            case rel => exact ⟨k + 1, by omega, by go_num, hQ.out.step HBE.out (by omega) (by omega) n24 HV.out⟩
            case measure => simp [intOf]; omega
        · have HQ := Lib.hid (hQ.out.row (by omega))
          go_wp2
          go_roundw
          case rel => exact ⟨i + 1, by omega, by go_num, HQ.out⟩
          case measure => simp [intOf]; omega
    · obtain ⟨M1, e1, e2⟩ := hR.out.2.2
      have E1 := Lib.hid e1
      have E2 := Lib.hid e2
      clear e1 e2 hce
      go_wp2
      go_end0
      exact ⟨rfl, ((HB.out.mono (by omega)).trans hR.out.1), M1, E1.out, fun i' k' hi' hk' => E2.out i' k' hk' (by omega)⟩

end Go.Proofs.Ytkahhclmmlkpjaa
