import Derived.Test.YthgcnakbbmknoaaZzA
import Derived.RegionTactic
import Derived.Laws.StructEq
import Derived.ChangeAlike
import Derived.StillTailTactics
import Derived.Deep.WholeRow
import Derived.OwnWalk
import Derived.Lib.AppendZeros
import Derived.WalkKit
import Derived.Below
import Derived.Deep.OwnRows
import Derived.Deep.RegionHeld3
import Derived.Deep.DeepCutAuto
/- Texts of one seat, merged: Ta Kb Ke Kf Kc Kd Kg Ga Kh Gx Gr Ki -/
/- Walks of the statements' own helpers (layer 2): Example, Far, sameInts, sameSpans. -/
namespace Go.Proofs.Ythgcnakbbmknoaa
open Go.RowKit

theorem ints_eq {xs ys : List Int} (hl : xs.length = ys.length) (h : ∀ i, i < xs.length → xs.getD i 0 = ys.getD i 0) : xs = ys := by
  apply List.ext_getElem hl
  intro i h1 h2
  have := h i h1
  rwa [List.getD_eq_getElem?_getD, List.getD_eq_getElem?_getD, List.getElem?_eq_getElem h1, List.getElem?_eq_getElem h2] at this

set_option maxHeartbeats 1000000 in
theorem sameInts_any (v1 v2 : Value) (xs ys : List Int) (w : World) (h1 : InAt w v1 xs) (h2 : InAt w v2 ys) :
    Calls Try.prog 16 #[v1, v2] w fun e w' => e = .returned (.bool (decide (xs = ys))) ∧ Below w.heap.size w w' := by
  obtain ⟨a1, c1, rfl, n1, m1, hc1⟩ := h1
  obtain ⟨a2, c2, rfl, n2, m2, hc2⟩ := h2
  have HC1 := Lib.hid hc1
  have HC2 := Lib.hid hc2
  clear hc1 hc2
  by_cases hl : xs.length = ys.length
  · have hb : ((xs.length : Int) != (ys.length : Int)) = false := by simp; omega
    have HL := Lib.hid hl
    have hl1 : xs.length ≤ ys.length := by omega
    have hl2 : ys.length ≤ xs.length := by omega
    clear hl
    go_enter Try.func16, Try.ntmps16
    go_wp2_with fail
    go_loopw [5] (fun i wr => ∃ k : Nat, k ≤ xs.length ∧ i = .int .i64 k ∧ Below w.heap.size w wr ∧ Hid (∀ i, i < k → xs.getD i 0 = ys.getD i 0)) (fun i _ => xs.length - (intOf i).toNat)
    case atStart => exact ⟨0, Nat.zero_le _, rfl, Below.refl _ _, fun i hi => by omega⟩
    case round =>
      obtain ⟨k, hk, rfl, hbl, hf⟩ := hrel
      by_cases hlt : k < xs.length
      · obtain ⟨b1, o1, rfl, l1, hc1⟩ := HC1.out (by omega)
        obtain ⟨b2, o2, rfl, l2, hc2⟩ := HC2.out (by omega)
        have g1 := (hbl.cell (p := ⟨b1, o1 + k, none⟩) l1).trans (hc1 k hlt)
        have g2 := (hbl.cell (p := ⟨b2, o2 + k, none⟩) l2).trans (hc2 k (by omega))
        clear hc1 hc2
        generalize hp : xs.getD k 0 = p at g1
        generalize hq : ys.getD k 0 = q at g2
        have HP := Lib.hid hp
        have HQ := Lib.hid hq
        clear hp hq
        have i1 : (0 : Int) ≤ (k : Int) := by omega
        have i2 : (k : Int) < xs.length := by omega
        have i3 : (k : Int) < ys.length := by omega
        by_cases hpq : p = q
        · subst hpq
          have hpb : (p != p) = false := by simp
          go_wp2_with fail
          go_quiet (fail)
          go_wp2
          go_roundw
          case rel => exact ⟨k + 1, hlt, by go_num, below_drewN hbl _, fun i hi => by
            by_cases hik : i = k
            · rw [hik, HP.out, HQ.out]
            · exact hf.out i (by omega)⟩
          case measure => simp [intOf]; omega
        · have hpb : (p != q) = true := by simpa using hpq
          have HN := Lib.hid hpq
          clear hpq
          go_wp2_with fail
          go_quiet (fail)
          go_wp2
          go_ret
          exact ⟨ret_bool (by
            symm
            rw [decide_eq_false_iff_not]
            intro h
            exact HN.out (by rw [← HP.out, ← HQ.out, h])), below_drewN hbl _⟩
      · go_wp2
        go_ret
        exact ⟨ret_bool (by
          symm
          rw [decide_eq_true_eq]
          exact ints_eq HL.out (fun i hi => hf.out i (by omega))), hbl⟩
  · have hb : ((xs.length : Int) != (ys.length : Int)) = true := by simp; omega
    have HL := Lib.hid hl
    clear hl
    go_enter Try.func16, Try.ntmps16
    go_wp2
    go_ret
    exact ⟨ret_bool (by
      symm
      rw [decide_eq_false_iff_not]
      intro h
      exact HL.out (by rw [h])), Below.refl _ _⟩

theorem spans_eq {xs ys : List Spn} (hl : xs.length = ys.length) (h : ∀ i, i < xs.length → xs.getD i Spn.zero = ys.getD i Spn.zero) : xs = ys := by
  apply List.ext_getElem hl
  intro i h1 h2
  have := h i h1
  rwa [List.getD_eq_getElem?_getD, List.getD_eq_getElem?_getD, List.getElem?_eq_getElem h1, List.getElem?_eq_getElem h2] at this

/-- Elements that lie in a block of their own. -/
theorem ElAt.of_block {α : Type} {m : Nat} {f : α → List Value} (hf : ∀ x, (f x).length = m) {w : World} {b : Nat} {cs : Array Value} {T : TypeId} {xs : List α} {n : Nat} (h : w.heap[b]? = some (.cells cs T (0, 0))) (hc : cs.toList = xs.flatMap f) (hn : xs.length = n) (hm : n ≤ maxLen) :
    ElAt m f w (.slice (some ⟨b, 0, none⟩) n n) xs := by
  subst hn
  have hl : cs.toList.length = xs.length * m := by rw [hc]; exact flat_len hf xs
  exact ElAt.of_own hf (base := b) (e := T) ⟨flat_len hf xs, .inr ⟨b, xs.length, cs, rfl, Nat.le_refl _, h, Nat.le_refl _, hm, by simpa using hl, by rw [← hc, List.take_of_length_le (by omega)]⟩⟩

def exC : Chn := ⟨4, 100, 110⟩
def exL : List Gau := [⟨0, 2, 203, 205⟩, ⟨1, 4, 321, 324⟩]
def exP : Prt := ⟨[(1, 2), (5, 10)], 1, 300000, 1000⟩
def exU : List Us := [⟨100, 100000, 0, false, 0, 0⟩, ⟨200, 40000, 1, true, 400000, 600000⟩]

/-- What Example leaves. -/
def ExRes (w : World) (e : Ending) (w' : World) : Prop := ∃ v1 v2 v3, e = .returned (.tuple #[chnV exC, v1, prtV exP v2, v3]) ∧ GaAt w' v1 exL ∧ SpAt w' v2 exP.rs ∧ UsAt w' v3 exU ∧ Below w.heap.size w w'

set_option maxRecDepth 100000 in
set_option maxHeartbeats 4000000 in
theorem example_any (w : World) : Calls Try.prog 47 #[] w (ExRes w) := by
  go_enter Try.func47, Try.ntmps47
  go_wp2_with fail
  go_region
  go_wp2_with fail
  refine bodyPost_ret (v := .tuple #[chnV exC, .slice (some ⟨w.heap.size + 1 + 1 + 1, 0, none⟩) 2 2, prtV exP (.slice (some ⟨w.heap.size + 1 + 1 + 1 + 1, 0, none⟩) 2 2), .slice (some ⟨w.heap.size + 1 + 1 + 1 + 1 + 1 + 1, 0, none⟩) 2 2]) ?_ rfl ⟨_, _, _, rfl, ?_, ?_, ?_, ?_⟩
  · simp (maxDischargeDepth := 10) [results, Try.results47, go_sem, exC, exP]
  · refine ElAt.of_block (m := 4) (f := gauL) (fun _ => rfl) (cs := #[.int .i64 0, .int .i64 2, .int .i64 203, .int .i64 205, .int .i64 1, .int .i64 4, .int .i64 321, .int .i64 324]) (T := 53) ?_ rfl rfl (by decide)
    exact block_alloc (block_alloc (block_alloc (block_new _ _ _ (by simp only [size_alloc])) _) _) _
  · refine ElAt.of_block (m := 2) (f := spnL) (fun _ => rfl) (cs := #[.int .i64 1, .int .i64 2, .int .i64 5, .int .i64 10]) (T := 45) ?_ rfl rfl (by decide)
    exact block_alloc (block_alloc (block_new _ _ _ (by simp only [size_alloc])) _) _
  · refine ElAt.of_block (m := 6) (f := usL) (fun _ => rfl) (cs := #[.int .i64 100, .int .i64 100000, .int .i64 0, .bool false, .int .i64 0, .int .i64 0, .int .i64 200, .int .i64 40000, .int .i64 1, .bool true, .int .i64 400000, .int .i64 600000]) (T := 152) ?_ rfl rfl (by decide)
    exact block_new _ _ _ (by simp only [size_alloc])
  · repeat' (first | exact Below.refl w.heap.size w | (with_reducible refine Below.drew ?_) | (with_reducible refine Below.alloc ?_ ?_ _) | (with_reducible refine Below.setCell ?_ ?_ _))
    all_goals (first | omega | (simp; done) | (simp; omega))

set_option maxHeartbeats 400000 in
theorem far_any (l : List Gau) (v : Value) (w : World) (hv : GaAt w v l) : Calls Try.prog 11 #[v] w fun e w' => e = .returned (.bool (decide (42 < l.length))) ∧ w = w' := by
  obtain ⟨a, cap, rfl, hn, hcap, hc⟩ := hv
  clear hc
  go_enter Try.func11, Try.ntmps11
  go_wp2
  go_ret
  refine ⟨ret_bool ?_, rfl⟩
  simp
  omega

end Go.Proofs.Ythgcnakbbmknoaa

/- Walks of layer 2 (chain): the bounds of the program in memory; run. -/
namespace Go.Proofs.Ythgcnakbbmknoaa
open Go.RowKit

/-- The cells of all bounds. -/
def netC (M : Net) : Array Value := Array.ofFn (n := 625) fun j => .int .i64 (M (j.val / 25) (j.val % 25))
/-- The bounds M lie in the block b. -/
abbrev Bd (w : World) (b : Nat) (M : Net) : Prop := w.heap[b]? = some (.cells (netC M) 106 (0, 0))
def put (M : Net) (i k : Nat) (v : Int) : Net := fun i' k' => if i' = i ∧ k' = k then v else M i' k'

theorem netC_size (M : Net) : (netC M).size = 625 := by simp [netC]

theorem netC_one (M : Net) : (netC M).all (·.oneCell') = true := by
  rw [Array.all_eq_true]
  intro i hi
  simp [netC, Value.oneCell']

theorem netC_at (M : Net) {i k : Nat} (hi : i < 25) (hk : k < 25) : (netC M)[i * 25 + k]? = some (.int .i64 (M i k)) := by
  have h : i * 25 + k < 625 := by omega
  unfold netC
  rw [Array.getElem?_ofFn, dif_pos h]
  have e1 : (i * 25 + k) / 25 = i := by omega
  have e2 : (i * 25 + k) % 25 = k := by omega
  simp only [e1, e2]

theorem netC_set (M : Net) {i k : Nat} (hi : i < 25) (hk : k < 25) (v : Int) : (netC M).setIfInBounds (i * 25 + k) (.int .i64 v) = netC (put M i k v) := by
  apply Array.ext_getElem?
  intro j
  rw [Array.getElem?_setIfInBounds]
  unfold netC
  simp only [Array.getElem?_ofFn, Array.size_ofFn]
  by_cases hj : j < 625
  · rw [dif_pos hj, dif_pos hj]
    by_cases e : i * 25 + k = j
    · have e1 : j / 25 = i := by omega
      have e2 : j % 25 = k := by omega
      rw [if_pos e, if_pos (by omega)]
      simp only [put, e1, e2, and_self, if_true]
    · rw [if_neg e]
      have e3 : ¬ (j / 25 = i ∧ j % 25 = k) := by omega
      simp only [put, if_neg e3]
  · rw [dif_neg hj, dif_neg hj]
    split <;> first | omega | rfl

attribute [irreducible] netC

theorem bd_at {w : World} {b : Nat} {M : Net} (h : Bd w b M) {i k : Nat} (hi : i < 25) (hk : k < 25) : w.cell? ⟨b, i * 25 + k, none⟩ = some (.int .i64 (M i k)) := by
  rw [block_cell h, netC_at M hi hk]

theorem bd_set {w : World} {b : Nat} {M : Net} (h : Bd w b M) {i k : Nat} (hi : i < 25) (hk : k < 25) (v : Int) : Bd (w.setCell ⟨b, i * 25 + k, none⟩ (.int .i64 v)) b (put M i k v) := by
  have := block_set h (i * 25 + k) (.int .i64 v)
  rwa [netC_set M hi hk] at this

set_option maxRecDepth 100000 in
set_option maxHeartbeats 1000000 in
theorem brun_any (M : Net) (b i k : Nat) (w : World) (h : Bd w b M) (hi : i < 25) (hk : k < 25) (h1 : -1000000000000000 ≤ M k i) (h2 : M k i ≤ 1000000000000000) :
    Calls Try.prog 53 #[.pointer (some ⟨b, 0, none⟩), .int .i64 i, .int .i64 k] w fun e w' => e = .returned (.agg #[.int .i64 (-M k i), .int .i64 (M i k)]) ∧ Below w.heap.size w w' := by
  have c1 := bd_at h hk hi
  have c2 := bd_at h hi hk
  have hb := lt_of_block h
  have i1 : (0 : Int) ≤ i := by omega
  have i2 : (i : Int) < 25 := by omega
  have k1 : (0 : Int) ≤ k := by omega
  have k2 : (k : Int) < 25 := by omega
  have H := Lib.hid h
  clear h
  go_enter Try.func53, Try.ntmps53
  go_wp2_with fail
  refine wp_region_still_tail 16 (by kernel_rfl) (by kernel_rfl) ?_
  change wpStill _ _ (World.drew _) (fun a' => wpList _ _ _ _ a' (World.drew _)) _ _
  simp only [List.take_succ_cons, List.take_zero, List.drop_succ_cons, List.drop_zero]
  repeat still_step
  refine wpStill_nil ?_
  go_wp2
  exact bodyPost_ret (v := .agg #[.int .i64 (-M k i), .int .i64 (M i k)]) (by simp [results, Try.results53, go_sem]) rfl ⟨rfl, ((Below.refl _ _).alloc (Nat.le_refl _) _).drew⟩

theorem links_bd {n : Nat} (hn : n ≤ 24) {i k : Nat} (hi : i ≤ n) (hk : k ≤ n) (q : Int) (h1 : 0 ≤ q) (h2 : q ≤ 100000) : -2400000 ≤ ((k : Int) - i) * q ∧ ((k : Int) - i) * q ≤ 2400000 := by
  constructor
  · have := Int.mul_le_mul_of_nonneg_right (by omega : (-24 : Int) ≤ (k : Int) - i) h1
    omega
  · have := Int.mul_le_mul_of_nonneg_right (by omega : (k : Int) - i ≤ (24 : Int)) h1
    omega

abbrev CN (n : Nat) (pi li : Int) : Chn := ⟨n, pi, li⟩
/-- The bounds are those that the chain has without gauges, as far as the row i and the column k. -/
def LkRel (n : Nat) (pi li : Int) (b e : Nat) (wA wr : World) (i k : Nat) : Prop :=
  Below b wA wr ∧ wr.heap[e]? = some (Obj.cells #[.int .i64 n, .int .i64 pi, .int .i64 li] 23) ∧ ∃ M1, Bd wr b M1 ∧ ∀ i' k', k' ≤ n → (i' < i ∨ (i' = i ∧ k' < k)) → M1 i' k' = prog0 (CN n pi li) i' k'

theorem LkRel.step {n : Nat} {pi li : Int} {b e : Nat} {wA wr : World} {i k : Nat} (h : LkRel n pi li b e wA wr i k) (hbe : e ≠ b) (hi : i ≤ n) (hk : k ≤ n) (hn : n ≤ 24) {v : Int} (hv : v = prog0 (CN n pi li) i k) :
    LkRel n pi li b e wA (wr.setCell ⟨b, i * 25 + k, none⟩ (.int .i64 v)).drew i (k + 1) := by
  obtain ⟨h1, h2, M1, h3, h4⟩ := h
  refine ⟨(h1.setCell (p := ⟨b, i * 25 + k, none⟩) (Nat.le_refl _) _).drew, block_set_other (p := ⟨b, i * 25 + k, none⟩) h2 hbe _, _, bd_set h3 (by omega) (by omega) v, fun i' k' hk' hh => ?_⟩
  unfold put
  by_cases e : i' = i ∧ k' = k
  · rw [if_pos e, e.1, e.2]; exact hv
  · rw [if_neg e]; exact h4 i' k' hk' (by omega)

theorem LkRel.row {n : Nat} {pi li : Int} {b e : Nat} {wA wr : World} {i k : Nat} (h : LkRel n pi li b e wA wr i k) (hk : n < k) : LkRel n pi li b e wA wr (i + 1) 0 := by
  obtain ⟨h1, h2, M1, h3, h4⟩ := h
  exact ⟨h1, h2, M1, h3, fun i' k' hk' hh => h4 i' k' hk' (by omega)⟩

set_option maxRecDepth 100000 in
set_option maxHeartbeats 4000000 in
theorem blinks_any (n : Nat) (pi li : Int) (M : Net) (b : Nat) (w : World) (h : Bd w b M) (hc : COk (CN n pi li)) :
    Calls Try.prog 93 #[.pointer (some ⟨b, 0, none⟩), chnV (CN n pi li)] w fun e w' => e = .returned (.tuple #[]) ∧ Below b w w' ∧ ∃ M' : Net, Bd w' b M' ∧ ∀ i k, i ≤ n → k ≤ n → M' i k = prog0 (CN n pi li) i k := by
  have hb := lt_of_block h
  have hb0 := (Below.refl w.heap.size w).alloc (Nat.le_refl _) (Obj.cells #[.int .i64 n, .int .i64 pi, .int .i64 li] 23)
  have R0 := Lib.hid (show LkRel n pi li b w.heap.size (w.alloc (Obj.cells #[.int .i64 n, .int .i64 pi, .int .i64 li] 23)) (w.alloc (Obj.cells #[.int .i64 n, .int .i64 pi, .int .i64 li] 23)) 0 0 from ⟨Below.refl _ _, block_new w _ _ rfl, M, (hb0.block b hb).trans h, fun i' k' _ hh => by omega⟩)
  have HB := Lib.hid hb0
  have HC := Lib.hid hc
  obtain ⟨n1, n2, l1, l2, p1, p2⟩ := hc
  dsimp only [CN] at n1 n2 l1 l2 p1 p2
  have n24 : n ≤ 24 := by omega
  have hbe : w.heap.size ≠ b := by omega
  have HBE := Lib.hid hbe
  clear h hb0 hbe
  go_enter Try.func93, Try.ntmps93
  go_wp2_with fail
  generalize hwA : w.alloc (Obj.cells #[.int .i64 n, .int .i64 pi, .int .i64 li] 23) = wA at *
  clear hwA
  have hce := block_cell R0.out.2.1
  go_wp2_with fail
  clear hce
  go_loopw [9] (fun v wr => ∃ i : Nat, i ≤ n + 1 ∧ v = .int .i64 i ∧ Hid (LkRel n pi li b w.heap.size wA wr i 0)) (fun v _ => n + 1 - (intOf v).toNat)
  case atStart => exact ⟨0, by omega, rfl, R0.out⟩
  case round =>
    obtain ⟨i, hi, rfl, hR⟩ := hrel
    obtain ⟨wo, rfl⟩ : ∃ wo : World, wo = wr := ⟨_, rfl⟩
    have hce := block_cell hR.out.2.1
    by_cases hlt : i < n + 1
    · have hlb : decide ((i : Int) < (n : Int) + 1) = true := by simp; omega
      go_wp2_with fail
      clear hce hlb
      go_loopw [15] (fun v wr => ∃ k : Nat, k ≤ n + 1 ∧ v = .int .i64 k ∧ Hid (LkRel n pi li b w.heap.size wA wr i k)) (fun v _ => n + 1 - (intOf v).toNat)
      case atStart => exact ⟨0, by omega, rfl, hR.out⟩
      case round =>
        obtain ⟨k, hk, rfl, hQ⟩ := hrel
        by_cases hlt2 : k < n + 1
        · have hce := block_cell hQ.out.2.1
          have hcf := block_free hQ.out.2.2.choose_spec.1
          have hcb := bd_at hQ.out.2.2.choose_spec.1 (i := i) (k := k) (by omega) (by omega)
          have i1 : (0 : Int) ≤ i := by omega
          have i2 : (i : Int) < 25 := by omega
          have k1 : (0 : Int) ≤ k := by omega
          have k2 : (k : Int) < 25 := by omega
          obtain ⟨m1, m2⟩ := links_bd n24 (i := i) (k := k) (by omega) (by omega) li (by omega) l2
          obtain ⟨m3, m4⟩ := links_bd n24 (i := i) (k := k) (by omega) (by omega) pi (by omega) (by omega)
          by_cases hik : i < k
          · have HV := Lib.hid (show ((k : Int) - i) * li = prog0 (CN n pi li) i k by unfold prog0; rw [if_pos hik])
            go_wp2_with fail
            refine wp_region_still_tail 12 (by kernel_rfl) (by kernel_rfl) ?_
            change wpStill _ _ (World.drew _) (fun a' => wpList _ _ _ _ a' (World.drew _)) _ _
            simp only [List.take_succ_cons, List.take_zero, List.drop_succ_cons, List.drop_zero]
            repeat still_step
            refine wpStill_nil ?_
            go_wp2
            go_roundw
            case rel => exact ⟨k + 1, by omega, by go_num, hQ.out.step HBE.out (by omega) (by omega) n24 HV.out⟩
            case measure => simp [intOf]; omega
          · have HV := Lib.hid (show ((k : Int) - i) * pi = prog0 (CN n pi li) i k by unfold prog0; rw [if_neg hik])
            go_wp2_with fail
            refine wp_region_still_tail 12 (by kernel_rfl) (by kernel_rfl) ?_
            change wpStill _ _ (World.drew _) (fun a' => wpList _ _ _ _ a' (World.drew _)) _ _
            simp only [List.take_succ_cons, List.take_zero, List.drop_succ_cons, List.drop_zero]
            repeat still_step
            refine wpStill_nil ?_
            go_wp2
            go_roundw
            case rel => exact ⟨k + 1, by omega, by go_num, hQ.out.step HBE.out (by omega) (by omega) n24 HV.out⟩
            case measure => simp [intOf]; omega
        · have HQ := Lib.hid (hQ.out.row (by omega))
          go_wp2
          go_roundw
          case rel => exact ⟨i + 1, by omega, by go_num, HQ.out⟩
          case measure => simp [intOf]; omega
    · obtain ⟨M1, e1, e2⟩ := hR.out.2.2
      have E1 := Lib.hid e1
      have E2 := Lib.hid e2
      clear e1 e2 hce
      go_wp2
      go_end0
      exact ⟨rfl, ((HB.out.mono (by omega)).trans hR.out.1), M1, E1.out, fun i' k' hi' hk' => E2.out i' k' hk' (by omega)⟩

end Go.Proofs.Ythgcnakbbmknoaa

/- Walks of layer 2 (chain): the bounds of the program: add, tighten. -/
namespace Go.Proofs.Ythgcnakbbmknoaa
open Go.RowKit

/-- The bounds before the pair j of what a gauge says. -/
def addStep (M : Net) (a e : Nat) (lo hi : Int) : Nat → Net
  | 0 => M
  | 1 => up M a e hi
  | _ + 2 => up (up M a e hi) e a (-lo)

theorem put_up (M : Net) (i k : Nat) (v : Int) : put M i k (min (M i k) v) = up M i k v := rfl

def AddRel (b f : Nat) (wA wr : World) (M : Net) : Prop := Below f wA wr ∧ Bd wr b M

theorem AddRel.step {b : Nat} {wA wr : World} {M : Net} (h : AddRel b b wA wr M) {i k : Nat} (hi : i < 25) (hk : k < 25) {v x : Int} (hx : x = min (M i k) v) (o : Obj) : AddRel b b wA ((wr.setCell ⟨b, i * 25 + k, none⟩ (.int .i64 x)).alloc o).drew (up M i k v) := by
  obtain ⟨h1, h2⟩ := h
  have hz := lt_of_block h2
  have h3 := bd_set h2 hi hk x
  rw [hx, put_up] at h3
  refine ⟨((h1.setCell (p := ⟨b, i * 25 + k, none⟩) (Nat.le_refl _) _).alloc (by simp; omega) o).drew, ?_⟩
  rw [hx]
  exact block_alloc h3 o

theorem if_min {m v : Int} : (if v < m then v else m) = min m v := by split <;> omega

set_option maxRecDepth 100000 in
set_option maxHeartbeats 4000000 in
theorem badd_any (M : Net) (b a e : Nat) (lo hi : Int) (w : World) (h : Bd w b M) (ha : a < 25) (he : e < 25) (h1 : -1000000000 ≤ lo) (h2 : lo ≤ 1000000000) :
    Calls Try.prog 94 #[.pointer (some ⟨b, 0, none⟩), .int .i64 a, .int .i64 e, .agg #[.int .i64 lo, .int .i64 hi]] w fun e' w' => e' = .returned (.tuple #[]) ∧ Below b w w' ∧ Bd w' b (up (up M a e hi) e a (-lo)) := by
  have hb := lt_of_block h
  have hb0 := (Below.refl w.heap.size w).alloc (Nat.le_refl _) (Obj.cells #[.int .i64 lo, .int .i64 hi] 45)
  have k0 := block_new w (Obj.cells #[.int .i64 lo, .int .i64 hi] 45) w.heap.size rfl
  have R0 := Lib.hid (show AddRel b b (w.alloc (Obj.cells #[.int .i64 lo, .int .i64 hi] 45)) (w.alloc (Obj.cells #[.int .i64 lo, .int .i64 hi] 45)) (addStep M a e lo hi 0) from ⟨Below.refl _ _, (hb0.block b hb).trans h⟩)
  have HB := Lib.hid hb0
  have K0 := Lib.hid k0
  have hz : b < (w.alloc (Obj.cells #[.int .i64 lo, .int .i64 hi] 45)).heap.size := by simp only [size_alloc]; omega
  clear h hb0 k0
  have i0 : ∀ W, (Instr.index 185 (.agg #[.int .i64 a, .int .i64 e, .int .i64 hi, .int .i64 e, .int .i64 a, .int .i64 (-lo)]) (.int .i64 0)).run Try.prog W = .ok (.agg #[.int .i64 a, .int .i64 e, .int .i64 hi]) W := fun _ => by kernel_rfl
  have i1 : ∀ W, (Instr.index 185 (.agg #[.int .i64 a, .int .i64 e, .int .i64 hi, .int .i64 e, .int .i64 a, .int .i64 (-lo)]) (.int .i64 1)).run Try.prog W = .ok (.agg #[.int .i64 e, .int .i64 a, .int .i64 (-lo)]) W := fun _ => by kernel_rfl
  go_enter Try.func94, Try.ntmps94
  go_wp2_with fail
  generalize hwA : w.alloc (Obj.cells #[.int .i64 lo, .int .i64 hi] 45) = wA at *
  clear hwA
  have hce := block_cell K0.out
  go_wp2_with fail
  clear hce
  go_loopw [22] (fun v wr => ∃ j : Nat, j ≤ 2 ∧ v = .int .i64 j ∧ Hid (AddRel b b wA wr (addStep M a e lo hi j))) (fun v _ => 2 - (intOf v).toNat)
  case atStart => exact ⟨0, by omega, rfl, R0.out⟩
  case round =>
    obtain ⟨j, hj, rfl, hR⟩ := hrel
    by_cases hlt : j < 2
    · have j0 : j = 0 ∨ j = 1 := by omega
      have a1 : (0 : Int) ≤ a := by omega
      have a2 : (a : Int) < 25 := by omega
      have e1 : (0 : Int) ≤ e := by omega
      have e2 : (e : Int) < 25 := by omega
      have hcf := block_free hR.out.2
      have c1 := bd_at hR.out.2 ha he
      have c2 := bd_at hR.out.2 he ha
      have hzr : b < wr.heap.size := lt_of_block hR.out.2
      rcases j0 with rfl | rfl
      · go_wp2_with fail
        refine wp_region_still_tail 20 (by kernel_rfl) (by kernel_rfl) ?_
        change wpStill _ _ (World.drew _) (fun a' => wpList _ _ _ _ a' (World.drew _)) _ _
        simp only [List.take_succ_cons, List.take_zero, List.drop_succ_cons, List.drop_zero]
        repeat still_step
        refine wpStill_nil ?_
        go_wp2
        go_roundw
        case rel => exact ⟨1, by omega, rfl, hR.out.step ha he if_min _⟩
        case measure => simp [intOf]
      · go_wp2_with fail
        refine wp_region_still_tail 20 (by kernel_rfl) (by kernel_rfl) ?_
        change wpStill _ _ (World.drew _) (fun a' => wpList _ _ _ _ a' (World.drew _)) _ _
        simp only [List.take_succ_cons, List.take_zero, List.drop_succ_cons, List.drop_zero]
        repeat still_step
        refine wpStill_nil ?_
        go_wp2
        go_roundw
        case rel => exact ⟨2, by omega, rfl, hR.out.step he ha if_min _⟩
        case measure => simp [intOf]
    · obtain rfl : j = 2 := by omega
      go_wp2
      go_end0
      exact ⟨rfl, (HB.out.mono (by omega)).trans hR.out.1, hR.out.2⟩

/-! ### tighten -/
def TiRel (n : Nat) (M0 : Net) (b : Nat) (w wr : World) (t i k : Nat) : Prop :=
  Below b w wr ∧ ∃ M1, Bd wr b M1 ∧ ∀ i' k', i' ≤ n → k' ≤ n → M1 i' k' = mid (fw M0 t) t i k i' k'

theorem TiRel.step {n : Nat} {M0 : Net} {b : Nat} {w wr : World} {t i k : Nat} (h : TiRel n M0 b w wr t i k) (hn : n ≤ 24) (hi : i ≤ n) (hk : k ≤ n) {v : Int} (hv : v = rnd (fw M0 t) t i k) : TiRel n M0 b w (wr.setCell ⟨b, i * 25 + k, none⟩ (.int .i64 v)).drew t i (k + 1) := by
  obtain ⟨h1, M1, h2, h3⟩ := h
  refine ⟨(h1.setCell (p := ⟨b, i * 25 + k, none⟩) (Nat.le_refl _) _).drew, _, bd_set h2 (by omega) (by omega) v, fun i' k' hi' hk' => ?_⟩
  rw [mid_next]
  unfold put
  by_cases e : i' = i ∧ k' = k
  · rw [if_pos e, if_pos e]; exact hv
  · rw [if_neg e, if_neg e]; exact h3 i' k' hi' hk'

theorem TiRel.row {n : Nat} {M0 : Net} {b : Nat} {w wr : World} {t i : Nat} (h : TiRel n M0 b w wr t i (n + 1)) : TiRel n M0 b w wr t (i + 1) 0 := by
  obtain ⟨h1, M1, h2, h3⟩ := h
  exact ⟨h1, M1, h2, fun i' k' hi' hk' => (h3 i' k' hi' hk').trans (mid_row i i' k' hi' hk')⟩

theorem TiRel.turn {n : Nat} {M0 : Net} {b : Nat} {w wr : World} {t : Nat} (h : TiRel n M0 b w wr t (n + 1) 0) : TiRel n M0 b w wr (t + 1) 0 0 := by
  obtain ⟨h1, M1, h2, h3⟩ := h
  exact ⟨h1, M1, h2, fun i' k' hi' hk' => by rw [h3 i' k' hi' hk', mid_end i' k' hi' hk', mid_start]; rfl⟩

theorem TiRel.cell {n : Nat} {M0 : Net} {b : Nat} {w wr : World} {t i k : Nat} (h : TiRel n M0 b w wr t i k) (hn : n ≤ 24) {i' k' : Nat} (hi : i' ≤ n) (hk : k' ≤ n) : wr.cell? ⟨b, i' * 25 + k', none⟩ = some (.int .i64 (mid (fw M0 t) t i k i' k')) := by
  obtain ⟨_, M1, h2, h3⟩ := h
  rw [bd_at h2 (by omega) (by omega), h3 i' k' hi hk]

theorem TiRel.free {n : Nat} {M0 : Net} {b : Nat} {w wr : World} {t i k : Nat} (h : TiRel n M0 b w wr t i k) (o : Nat) : wr.frozen? ⟨b, o, none⟩ = false := by
  obtain ⟨_, M1, h2, _⟩ := h
  exact block_free h2 o

theorem mid_bd {n : Nat} {M0 : Net} (hn : n ≤ 24) (hM : NetOk n M0) {t : Nat} (ht : t ≤ n) (i k : Nat) {i' k' : Nat} (hi : i' ≤ n) (hk : k' ≤ n) : -400000000000000 ≤ mid (fw M0 t) t i k i' k' ∧ mid (fw M0 t) t i k i' k' ≤ 400000000000000 := by
  have h1 := fw_small hn hM.small t (by omega) i' k' hi hk
  have h2 := fw_small hn hM.small (t + 1) (by omega) i' k' hi hk
  unfold mid
  split
  · have e : min (fw M0 t i' k') (fw M0 t i' t + fw M0 t t k') = fw M0 (t + 1) i' k' := rfl
    rw [e]; omega
  · omega

def TightRes (n : Nat) (M0 : Net) (b : Nat) (w : World) (e : Ending) (w' : World) : Prop :=
  e = .returned (.bool (decide (Good n M0 (n + 1)))) ∧ Below b w w' ∧ ∃ M1, Bd w' b M1 ∧ (Good n M0 (n + 1) → ∀ i k, i ≤ n → k ≤ n → M1 i k = fw M0 (n + 1) i k)

theorem TiRel.out {n : Nat} {M0 : Net} {b : Nat} {w wr : World} {t : Nat} (h : TiRel n M0 b w wr t 0 0) {q : Bool} (hq : q = decide (Good n M0 (n + 1))) (ht : q = true → t = n + 1) : TightRes n M0 b w (.returned (.bool q)) wr := by
  obtain ⟨h1, M1, h2, h3⟩ := h
  refine ⟨by rw [hq], h1, M1, h2, fun hg i k hi hk => ?_⟩
  rw [h3 i k hi hk, ht (by rw [hq]; exact decide_eq_true hg), mid_start]

set_option maxRecDepth 100000 in
set_option maxHeartbeats 8000000 in
theorem btight_any (n : Nat) (M M0 : Net) (b : Nat) (w : World) (h : Bd w b M) (hn : n ≤ 24) (hM : NetOk n M0) (he : ∀ i k, i ≤ n → k ≤ n → M i k = M0 i k) :
    Calls Try.prog 95 #[.pointer (some ⟨b, 0, none⟩), .int .i64 n] w (TightRes n M0 b w) := by
  have R0 := Lib.hid (show TiRel n M0 b w w 0 0 0 from ⟨Below.refl _ _, M, h, fun i k hi hk => by rw [mid_start]; exact he i k hi hk⟩)
  have G0 := Lib.hid (show Good n M0 0 from fun u hu i hi => by
    obtain rfl : u = 0 := by omega
    show 0 ≤ M0 i i
    rw [hM.self i hi]; exact Int.le_refl _)
  have HM := Lib.hid hM
  clear h he hM
  go_enter Try.func95, Try.ntmps95
  go_wp2_with fail
  go_loopw [11] (fun v wr => ∃ t : Nat, t ≤ n + 1 ∧ v = .int .i64 t ∧ Hid (TiRel n M0 b w wr t 0 0) ∧ Hid (Good n M0 t)) (fun v _ => n + 1 - (intOf v).toNat)
  case atStart => exact ⟨0, by omega, rfl, R0.out, G0.out⟩
  case round =>
    obtain ⟨t, ht, rfl, hR, hG⟩ := hrel
    obtain ⟨wo, rfl⟩ : ∃ wo : World, wo = wr := ⟨_, rfl⟩
    by_cases hlt : t < n + 1
    · have hlb : decide ((t : Int) < (n : Int) + 1) = true := by simp; omega
      have hd := hG.out t (Nat.le_refl _) t (by omega)
      have HD := Lib.hid hd
      go_wp2_with fail
      clear hd
      go_loopw [16] (fun v wr => ∃ i : Nat, i ≤ n + 1 ∧ v = .int .i64 i ∧ Hid (TiRel n M0 b w wr t i 0)) (fun v _ => n + 1 - (intOf v).toNat)
      case atStart => exact ⟨0, by omega, rfl, hR.out⟩
      case round =>
        obtain ⟨i, hi, rfl, hQ⟩ := hrel
        obtain ⟨wi, rfl⟩ : ∃ wi : World, wi = wr := ⟨_, rfl⟩
        by_cases hlti : i < n + 1
        · have hlbi : decide ((i : Int) < (n : Int) + 1) = true := by simp; omega
          go_wp2_with fail
          go_loopw [21] (fun v wr => ∃ k : Nat, k ≤ n + 1 ∧ v = .int .i64 k ∧ Hid (TiRel n M0 b w wr t i k)) (fun v _ => n + 1 - (intOf v).toNat)
          case atStart => exact ⟨0, by omega, rfl, hQ.out⟩
          case round =>
            obtain ⟨k, hk, rfl, hS⟩ := hrel
            by_cases hltk : k < n + 1
            · have c1 := hS.out.cell hn (i' := i) (k' := k) (by omega) (by omega)
              have c2 := hS.out.cell hn (i' := i) (k' := t) (by omega) (by omega)
              have c3 := hS.out.cell hn (i' := t) (k' := k) (by omega) (by omega)
              have b1 := mid_bd hn HM.out (t := t) (by omega) i k (i' := i) (k' := k) (by omega) (by omega)
              have b2 := mid_bd hn HM.out (t := t) (by omega) i k (i' := i) (k' := t) (by omega) (by omega)
              have b3 := mid_bd hn HM.out (t := t) (by omega) i k (i' := t) (k' := k) (by omega) (by omega)
              have hf := hS.out.free
              have HV := Lib.hid (mid_step (M := fw M0 t) (b := t) (i := i) (k := k) HD.out)
              generalize mid (fw M0 t) t i k i k = x at c1 b1 HV
              generalize mid (fw M0 t) t i k i t = y at c2 b2 HV
              generalize mid (fw M0 t) t i k t k = z at c3 b3 HV
              obtain ⟨x1, x2⟩ := b1
              obtain ⟨y1, y2⟩ := b2
              obtain ⟨z1, z2⟩ := b3
              have t1 : (0 : Int) ≤ t := by omega
              have t2 : (t : Int) < 25 := by omega
              have i1 : (0 : Int) ≤ i := by omega
              have i2 : (i : Int) < 25 := by omega
              have k1 : (0 : Int) ≤ k := by omega
              have k2 : (k : Int) < 25 := by omega
              go_wp2_with fail
              refine wp_region_still_tail 29 (by kernel_rfl) (by kernel_rfl) ?_
              change wpStill _ _ (World.drew _) (fun a' => wpList _ _ _ _ a' (World.drew _)) _ _
              simp only [List.take_succ_cons, List.take_zero, List.drop_succ_cons, List.drop_zero]
              repeat still_step
              refine wpStill_nil ?_
              go_wp2
              go_roundw
              case rel => exact ⟨k + 1, by omega, by go_num, hS.out.step hn (by omega) (by omega) (if_min.trans HV.out)⟩
              case measure => simp [intOf]; omega
            · obtain rfl : k = n + 1 := by omega
              have HS := Lib.hid hS.out.row
              go_wp2
              go_roundw
              case rel => exact ⟨i + 1, by omega, by go_num, HS.out⟩
              case measure => simp [intOf]; omega
        · obtain rfl : i = n + 1 := by omega
          have HQ := Lib.hid hQ.out.turn
          go_wp2_with fail
          go_loopw [57] (fun v wr => ∃ k : Nat, k ≤ n + 1 ∧ v = .int .i64 k ∧ Hid (TiRel n M0 b w wr (t + 1) 0 0) ∧ Hid (∀ i, i < k → 0 ≤ fw M0 (t + 1) i i)) (fun v _ => n + 1 - (intOf v).toNat)
          case atStart => exact ⟨0, by omega, rfl, HQ.out, fun i hi => by omega⟩
          case round =>
            obtain ⟨k, hk, rfl, hS, hP⟩ := hrel
            by_cases hltk : k < n + 1
            · have c1 := hS.out.cell hn (i' := k) (k' := k) (by omega) (by omega)
              rw [mid_start] at c1
              have k1 : (0 : Int) ≤ k := by omega
              have k2 : (k : Int) < 25 := by omega
              generalize hx : fw M0 (t + 1) k k = x at c1
              have HX := Lib.hid hx
              clear hx
              by_cases hneg : x < 0
              · have HN := Lib.hid (show false = decide (Good n M0 (n + 1)) by
                  symm
                  rw [decide_eq_false_iff_not]
                  intro hg
                  have := hg (t + 1) (by omega) k (by omega)
                  rw [HX.out] at this
                  omega)
                go_wp2
                go_ret
                exact hS.out.out HN.out (fun h => by cases h)
              · have HN := Lib.hid hneg
                go_wp2
                go_roundw
                case rel => exact ⟨k + 1, by omega, by go_num, hS.out, fun i hi => by
                  by_cases hik : i = k
                  · rw [hik, HX.out]; have := HN.out; omega
                  · exact hP.out i (by omega)⟩
                case measure => simp [intOf]; omega
            · have HG := Lib.hid (hG.out.next (fun i hi => hP.out i (by omega)))
              go_wp2
              go_roundw
              case rel => exact ⟨t + 1, by omega, by go_num, hS.out, HG.out⟩
              case measure => simp [intOf]; omega
    · obtain rfl : t = n + 1 := by omega
      have HG := Lib.hid (decide_eq_true hG.out)
      go_wp2
      go_ret
      exact hR.out.out HG.out.symm (fun _ => rfl)

end Go.Proofs.Ythgcnakbbmknoaa

/- Walks of layer 2 (chain): follow of the program. -/
namespace Go.Proofs.Ythgcnakbbmknoaa
open Go.RowKit

/-- The answer of follow: bounds that have a meaning where the gauges l agree. -/
def FollowRes (n : Nat) (pi li : Int) (l : List Gau) (w : World) (e : Ending) (w' : World) : Prop :=
  ∃ M1 : Net, e = .returned (.tuple #[.agg (netC M1), .bool (agreeB (CN n pi li) l)]) ∧ Below w.heap.size w w' ∧ (agreeB (CN n pi li) l = true → ∀ i k, i ≤ n → k ≤ n → M1 i k = RM (CN n pi li) l i k)

theorem up_near {n : Nat} {M M' : Net} (h : ∀ i k, i ≤ n → k ≤ n → M i k = M' i k) {a e : Nat} (ha : a ≤ n) (he : e ≤ n) (v : Int) : ∀ i k, i ≤ n → k ≤ n → up M a e v i k = up M' a e v i k := by
  intro i k hi hk
  unfold up
  rw [h a e ha he, h i k hi hk]

theorem below_undrew {B : Nat} {a w : World} (h : Below B a.drew w) : Below B a w := ⟨h.os, h.tape, h.output, h.size, h.block⟩

theorem addGs_snoc (M : Net) (l : List Gau) (g : Gau) : addGs M (l ++ [g]) = addG (addGs M l) g := by
  unfold addGs; rw [List.foldl_append]; rfl

def FoRel (n : Nat) (pi li : Int) (l : List Gau) (q : Nat → Bool) (w wr : World) (k : Nat) : Prop :=
  Below w.heap.size w wr ∧ wr.heap[w.heap.size]? = some (Obj.cells #[.int .i64 n, .int .i64 pi, .int .i64 li] 23) ∧ ∃ M1, Bd wr (w.heap.size + 1) M1 ∧ ∀ i j, i ≤ n → j ≤ n → M1 i j = addGs (prog0 (CN n pi li)) (selTo l q k) i j

theorem FoRel.skip {n : Nat} {pi li : Int} {l : List Gau} {q : Nat → Bool} {w wr : World} {k : Nat} (h : FoRel n pi li l q w wr k) (hq : q k = false) {w1 : World} (hw : w1 = wr) : FoRel n pi li l q w w1 (k + 1) := by
  subst hw
  obtain ⟨h1, h2, M1, h3, h4⟩ := h
  refine ⟨h1, h2, M1, h3, fun i j hi hj => ?_⟩
  simp only [selTo, hq, Bool.false_eq_true, if_false, List.append_nil]
  exact h4 i j hi hj

theorem FoRel.take {n : Nat} {pi li : Int} {l : List Gau} {q : Nat → Bool} {w wr w1 : World} {k : Nat} (h1 : Below w.heap.size w wr) (h2 : wr.heap[w.heap.size]? = some (Obj.cells #[.int .i64 n, .int .i64 pi, .int .i64 li] 23)) {M1 : Net} (h4 : ∀ i j, i ≤ n → j ≤ n → M1 i j = addGs (prog0 (CN n pi li)) (selTo l q k) i j)
    (hq : q k = true) {g : Gau} (hg : l.getD k Gau.zero = g) {ga gb : Nat} (ea : g.a.toNat = ga) (ee : g.b.toNat = gb) (ha : ga ≤ n) (he : gb ≤ n)
    (hb : Below (w.heap.size + 1) wr w1) (hd : Bd w1 (w.heap.size + 1) (up (up M1 ga gb g.hi) gb ga (-g.lo))) : FoRel n pi li l q w w1 (k + 1) := by
  subst ea
  subst ee
  refine ⟨h1.trans (hb.mono (Nat.le_succ _)), (hb.block _ (Nat.lt_succ_self _)).trans h2, _, hd, fun i j hi hj => ?_⟩
  simp only [selTo, hq, if_true]
  rw [addGs_snoc, hg]
  exact up_near (up_near h4 ha he _) he ha _ i j hi hj

theorem FollowRes.mk {n : Nat} {pi li : Int} {l : List Gau} {w w2 : World} {M2 : Net} (hb : Below w.heap.size w w2) (h : Good n (addGs (prog0 (CN n pi li)) l) (n + 1) → ∀ i k, i ≤ n → k ≤ n → M2 i k = fw (addGs (prog0 (CN n pi li)) l) (n + 1) i k) :
    FollowRes n pi li l w (.returned (.tuple #[.agg (netC M2), .bool (agreeB (CN n pi li) l)])) w2 :=
  ⟨M2, rfl, hb, fun ha => h (by unfold agreeB at ha; exact of_decide_eq_true ha)⟩

theorem boundsSize (M : Net) : (Try.prog.info? 106).map (·.size) = some (netC M).size := by
  rw [netC_size]; kernel_rfl

theorem boundsUnder : Try.prog.underlying 106 = some (.array 25 104) := by kernel_rfl

theorem setRow_same {w : World} {g : Nat} {c : Array Value} {t : TypeId} (h : w.heap[g]? = some (.cells c t (0, 0))) : w.setRow g c = w := by
  cases w
  simp only [World.setRow] at h ⊢
  congr 1
  apply Array.ext_getElem?
  intro i
  rw [Array.getElem?_modify]
  split
  · rename_i hi
    subst hi
    rw [h]
    rfl
  · rfl

/-- The whole bounds stored where they lie. -/
theorem storeSame {M1 : Net} {W : World} {b : Nat} (h : Bd W b M1) : (storeCells ⟨b, 0, none⟩ (netC M1).toList 0).run Try.prog W = .ok () W := by
  have := run_storeVar_row (P := Try.prog) W b 106 106 (netC M1) (netC M1) h (boundsSize M1) rfl (netC_one M1)
  rw [setRow_same h] at this
  have hi := boundsSize M1
  cases hq : Try.prog.info? 106 with
  | none => rw [hq] at hi; cases hi
  | some i =>
    have hs : (netC M1).size = i.size := by simp [hq] at hi; omega
    simpa [storeVar, sizeOf, typeInfo, hq, Value.cells, hs] using this

/-- The whole bounds read. -/
theorem loadSame {M1 : Net} {W : World} {b : Nat} (h : Bd W b M1) : (loadVar 106 ⟨b, 0, none⟩).run Try.prog W = .ok (.agg (netC M1)) W :=
  run_loadVar_row W b _ _ _ _ _ h boundsUnder rfl (boundsSize M1)

theorem zeroBounds : ∀ w, (zeroValue 106).run Try.prog w = .ok (.agg (netC fun _ _ => 0)) w := (zero_of_info (P := Try.prog) (t := 106) (n := 625) (by kernel_rfl)).1

set_option maxRecDepth 100000 in
set_option maxHeartbeats 8000000 in
theorem followAll_any (n : Nat) (pi li : Int) (l : List Gau) (v : Value) (q : Nat → Bool) (w : World) (hv : GaAt w v l) (hc : COk (CN n pi li)) (hl : GOks (CN n pi li) l) (hlen : l.length ≤ 100)
    (hq : ∀ (j : Nat) (w1 : World), j < l.length → Below w.heap.size w w1 → Calls Try.prog 52 #[.int .i64 j] w1 fun e w' => e = .returned (.bool (q j)) ∧ w1 = w') :
    Calls Try.prog 50 #[chnV (CN n pi li), v, .func (.func 52) #[] #[]] w (FollowRes n pi li (selTo l q l.length) w) := by
  have hb0 := (Below.refl w.heap.size w).alloc (Nat.le_refl _) (Obj.cells #[.int .i64 n, .int .i64 pi, .int .i64 li] 23)
  have hb1 := hb0.alloc (by simp only [size_alloc]; omega) (Obj.cells (netC fun _ _ => 0) 106)
  have k0 := block_alloc (block_new w (Obj.cells #[.int .i64 n, .int .i64 pi, .int .i64 li] 23) w.heap.size rfl) (Obj.cells (netC fun _ _ => 0) 106)
  have k1 := block_new (w.alloc (Obj.cells #[.int .i64 n, .int .i64 pi, .int .i64 li] 23)) (Obj.cells (netC fun _ _ => 0) 106) (w.heap.size + 1) (by simp only [size_alloc])
  have HQ := Lib.hid hq
  have HC := Lib.hid hc
  have HL := Lib.hid hl
  have n24 := hc.n2
  have hzb := zeroBounds
  have hu := boundsUnder
  obtain ⟨a, cap, rfl, hn, hcap, hcc⟩ := hv
  have HV := Lib.hid hcc
  have HB := Lib.hid hb1
  have K0 := Lib.hid k0
  have K1 := Lib.hid k1
  clear hq hc hl hcc hb0 hb1 k0 k1
  go_enter Try.func50, Try.ntmps50
  go_wp2_with fail
  refine (blinks_any n pi li _ _ _ K1.out HC.out).mono ?_
  rintro e w1 ⟨rfl, hb2, M1, h3, h4⟩
  have R0 := Lib.hid (show FoRel n pi li l q w w1 0 from ⟨HB.out.trans (hb2.mono (by omega)), (hb2.block _ (by omega)).trans K0.out, M1, h3, h4⟩)
  clear hb2 h3 h4 hzb
  go_wp2_with fail
  go_loopw [13] (fun v wr => ∃ k : Nat, k ≤ l.length ∧ v = .int .i64 k ∧ Hid (FoRel n pi li l q w wr k)) (fun v _ => l.length - (intOf v).toNat)
  case atStart => exact ⟨0, by omega, rfl, R0.out⟩
  case round =>
    obtain ⟨k, hk, rfl, hR⟩ := hrel
    by_cases hlt : k < l.length
    · go_wp2_with fail
      refine (HQ.out k wr hlt hR.out.1).mono ?_
      rintro e w2 ⟨rfl, rfl⟩
      cases hqk : q k
      · have HK := Lib.hid hqk
        clear hqk
        go_wp2
        go_roundw
        case rel => exact ⟨k + 1, hlt, by go_num, hR.out.skip HK.out rfl⟩
        case measure => simp [intOf]; omega
      · have HK := Lib.hid hqk
        clear hqk
        obtain ⟨b, off, rfl, hbl, hcc⟩ := HV.out (by omega)
        obtain ⟨g1, g2, g3, g4⟩ := ga_at hR.out.1 hbl hcc hlt
        have hg := HL.out _ (gau_getD_mem hlt)
        clear hcc
        generalize hg0 : l.getD k Gau.zero = g at g1 g2 g3 g4 hg
        have HG := Lib.hid hg0
        clear hg0
        obtain ⟨a0, ab, bn, lo0, lh, h0, _⟩ := hg
        dsimp only [CN] at bn
        obtain ⟨ga, hga⟩ : ∃ ga : Nat, g.a = ga := ⟨g.a.toNat, by omega⟩
        obtain ⟨gb, hgb⟩ : ∃ gb : Nat, g.b = gb := ⟨g.b.toNat, by omega⟩
        have HA := Lib.hid (show g.a.toNat = ga by omega)
        have HE := Lib.hid (show g.b.toNat = gb by omega)
        rw [hga] at g1 a0 ab
        rw [hgb] at g2 ab bn
        clear hga hgb
        have k1 : (0 : Int) ≤ k := by omega
        have k2 : (k : Int) < l.length := by omega
        have hz1 : b < wr.heap.size := by have := hR.out.1.size; omega
        go_wp2_with fail
        refine wp_region_still_tail 15 (by kernel_rfl) (by kernel_rfl) ?_
        change wpStill _ _ (World.drew _) (fun a' => wpList _ _ _ _ a' (World.drew _)) _ _
        simp only [List.take_succ_cons, List.take_zero, List.drop_succ_cons, List.drop_zero]
        repeat still_step
        refine wpStill_nil ?_
        go_wp2_with fail
        go_simp
        obtain ⟨r1, r2, M1, r3, r4⟩ := hR.out
        have Q1 := Lib.hid r1
        have Q2 := Lib.hid r2
        have Q3 := Lib.hid r3
        have Q4 := Lib.hid r4
        clear r1 r2 r3 r4 g1 g2 g3 g4
        refine (badd_any M1 _ ga gb g.lo g.hi _ (show Bd wr.drew _ M1 from Q3.out) (by omega) (by omega) (by omega) (by omega)).mono ?_
        rintro e w2 ⟨rfl, hb3, h5⟩
        have HR2 := Lib.hid (FoRel.take (l := l) (q := q) (w1 := w2) Q1.out Q2.out Q4.out HK.out HG.out HA.out HE.out (by omega) (by omega) (below_undrew hb3) h5)
        clear hb3 h5
        go_wp2
        go_roundw
        case rel => exact ⟨k + 1, hlt, by go_num, HR2.out⟩
        case measure => simp [intOf]; omega
    · obtain rfl : k = l.length := by omega
      obtain ⟨r1, r2, M1, r3, r4⟩ := hR.out
      have c0 := block_cell r2
      have Q1 := Lib.hid r1
      have Q2 := Lib.hid r2
      have Q3 := Lib.hid r3
      have Q4 := Lib.hid r4
      clear r1 r2 r3
      go_wp2_with fail
      have HNK : Hid (NetOk n (addGs (prog0 (CN n pi li)) (selTo l q l.length))) := by
        have := netP_ok HC.out (HL.out.sel q (Nat.le_refl _))
        rw [show (CN n pi li).n.toNat = n by simp] at this
        exact this
      refine (btight_any n M1 (addGs (prog0 (CN n pi li)) (selTo l q l.length)) _ _ Q3.out (by omega) HNK.out Q4.out).mono ?_
      rintro e w2 ⟨rfl, hb3, M2, h5, h6⟩
      have hb4 := Q1.out.trans (hb3.mono (Nat.le_succ _))
      have HF := Lib.hid (FollowRes.mk (l := selTo l q l.length) hb4 h6)
      have H5 := Lib.hid h5
      clear h5 h6 hb3 hb4 c0
      have hq1 : decide (Good n (addGs (prog0 (CN n pi li)) (selTo l q l.length)) (n + 1)) = agreeB (CN n pi li) (selTo l q l.length) := rfl
      rw [hq1]
      clear hq1
      generalize agreeB (CN n pi li) (selTo l q l.length) = ag at *
      go_wp2_with fail
      refine wp_load_row _ _ rfl (w.heap.size + 1) rfl _ (netC M2) (0, 0) _ H5.out hu rfl (boundsSize M2) ?_
      have hst := storeSame H5.out
      have hs1 := netC_size M2
      have hld := loadSame H5.out
      go_wp2_with fail
      exact bodyPost_ret (v := .tuple #[.agg (netC M2), .bool ag]) (by simp [results, Try.results50, asAddr, hld]) rfl HF.out

end Go.Proofs.Ythgcnakbbmknoaa

/- Walks of layer 2 (chain): Check of both. -/
namespace Go.Proofs.Ythgcnakbbmknoaa
open Go.RowKit

theorem chk_bad {c : Chn} {l : List Gau} (h : chainBad c = true) : 20 = chkM c l := by unfold chkM; rw [if_pos h]
theorem chk_many {c : Chn} {l : List Gau} (h : chainBad c = false) (h2 : (40 : Int) < l.length) : 2 = chkM c l := by unfold chkM; rw [if_neg (by simp [h]), if_pos (by omega)]
theorem chk_gauge {c : Chn} {l : List Gau} (h : chainBad c = false) (h2 : ¬ (40 : Int) < l.length) (h3 : l.any (gauBad c.n) = true) : 21 = chkM c l := by unfold chkM; rw [if_neg (by simp [h]), if_neg (by omega), if_pos h3]
theorem chk_fine {c : Chn} {l : List Gau} (h : chainBad c = false) (h2 : ¬ (40 : Int) < l.length) (h3 : l.any (gauBad c.n) = false) : 0 = chkM c l := by unfold chkM; rw [if_neg (by simp [h]), if_neg (by omega), if_neg (by simp [h3])]

theorem chain_bad_iff {c : Chn} (h : chainBad c = true) : c.n < 1 ∨ 24 < c.n ∨ c.li < 1 ∨ 100000 < c.li ∨ c.pi < 1 ∨ c.li < c.pi := by
  simp [chainBad] at h; omega

set_option maxHeartbeats 1000000 in
theorem kcheck_any (c : Chn) (l : List Gau) (v : Value) (w : World) (hv : GaAt w v l) :
    Calls Try.prog 58 #[chnV c, v] w fun e w' => e = .returned (.int .i64 (chkM c l)) ∧ Below w.heap.size w w' := by
  have hb0 := (Below.refl w.heap.size w).alloc (Nat.le_refl _) (Obj.cells #[.int .i64 c.n, .int .i64 c.pi, .int .i64 c.li] 23)
  have k0 := block_new w (Obj.cells #[.int .i64 c.n, .int .i64 c.pi, .int .i64 c.li] 23) w.heap.size rfl
  have hsz : (w.alloc (Obj.cells #[.int .i64 c.n, .int .i64 c.pi, .int .i64 c.li] 23)).heap.size = w.heap.size + 1 := size_alloc _ _
  have K0 := Lib.hid k0
  have HB := Lib.hid hb0
  have HSZ := Lib.hid hsz
  clear k0 hb0 hsz
  have hv1 := hv.below HB.out (Nat.le_refl _)
  have HV := Lib.hid hv1
  obtain ⟨a, cap, rfl, hn, hcap, hc⟩ := hv
  clear hc hv1
  cases hq : chainBad c
  · have HQ := Lib.hid hq
    obtain ⟨n1, n2, l1, l2, p1, p2⟩ := cok_of hq
    clear hq
    by_cases hl : (40 : Int) < l.length
    · have HR := Lib.hid (chk_many HQ.out hl)
      go_enter Try.func58, Try.ntmps58
      go_wp2_with fail
      generalize hwA : w.alloc (Obj.cells #[.int .i64 c.n, .int .i64 c.pi, .int .i64 c.li] 23) = wA at *
      clear hwA
      have hce := block_cell K0.out
      go_wp2_with (go_at_call 49; refine (kwithin_any _ _ _ _).mono ?_; rintro e w' ⟨rfl, rfl⟩)
      all_goals first | (exfalso; omega) | skip
      go_ret
      exact ⟨ret_int HR.out, HB.out⟩
    · cases hg : l.any (gauBad c.n)
      all_goals
        have HG := Lib.hid hg
        first | have HR := Lib.hid (chk_gauge HQ.out hl hg) | have HR := Lib.hid (chk_fine HQ.out hl hg)
        clear hg
        go_enter Try.func58, Try.ntmps58
        go_wp2_with fail
        generalize hwA : w.alloc (Obj.cells #[.int .i64 c.n, .int .i64 c.pi, .int .i64 c.li] 23) = wA at *
        clear hwA
        have hce := block_cell K0.out
        go_wp2_with (first | (go_at_call 49; refine (kwithin_any _ _ _ _).mono ?_; rintro e w' ⟨rfl, rfl⟩) |
          (go_at_call 99; refine (containsGau_any _ l _ _ _ HV.out HG.out (fun x w1 _ hb1 => gbad_any x c.n w.heap.size w1 ((hb1.cell (lt_of_block K0.out)).trans (by rw [hce]; rfl)) (Nat.lt_of_lt_of_le (lt_of_block K0.out) hb1.size) n2)).mono ?_; rintro e w1 ⟨rfl, hb1⟩))
        all_goals first | (exfalso; omega) | skip
        go_ret
        exact ⟨ret_int HR.out, HB.out.trans (hb1.mono HB.out.size)⟩
  · have HR := Lib.hid (chk_bad (l := l) hq)
    cases h1 : decide (1 ≤ c.n ∧ c.n ≤ 24) <;> cases h2 : decide (1 ≤ c.li ∧ c.li ≤ 100000) <;> cases h3 : decide (1 ≤ c.pi ∧ c.pi ≤ c.li)
    all_goals try (have := chain_bad_iff hq; simp only [decide_eq_true_eq] at h1 h2 h3; omega)
    all_goals
      clear hq
      have H1 := Lib.hid h1
      have H2 := Lib.hid h2
      have H3 := Lib.hid h3
      clear h1 h2 h3
      go_enter Try.func58, Try.ntmps58
      go_wp2_with fail
      generalize hwA : w.alloc (Obj.cells #[.int .i64 c.n, .int .i64 c.pi, .int .i64 c.li] 23) = wA at *
      clear hwA
      have hce := block_cell K0.out
      go_wp2_with (go_at_call 49; (first | with_reducible refine (kwithin_is _ c.n 1 24 _ H1.out).mono ?_ | with_reducible refine (kwithin_is _ c.li 1 100000 _ H2.out).mono ?_ | with_reducible refine (kwithin_is _ c.pi 1 c.li _ H3.out).mono ?_); rintro e w' ⟨rfl, rfl⟩)
      go_ret
      exact ⟨ret_int HR.out, HB.out⟩

end Go.Proofs.Ythgcnakbbmknoaa

/- Walks of layer 2 (chain): the specification's Check. -/
namespace Go.Proofs.Ythgcnakbbmknoaa
open Go.RowKit

def chainM (c : Chn) : Int := if chainBad c = true then 20 else 0
theorem chainM_bad {c : Chn} (h : chainBad c = true) : 20 = chainM c := by unfold chainM; rw [if_pos h]
theorem chainM_fine {c : Chn} (h : chainBad c = false) : 0 = chainM c := by unfold chainM; rw [if_neg (by simp [h])]

set_option maxHeartbeats 1000000 in
theorem rchain_any (c : Chn) (w : World) :
    Calls Try.prog 65 #[chnV c] w fun e w' => e = .returned (.int .i64 (chainM c)) ∧ Below w.heap.size w w' := by
  have hb0 := (Below.refl w.heap.size w).alloc (Nat.le_refl _) (Obj.cells #[.int .i64 c.n, .int .i64 c.pi, .int .i64 c.li] 23)
  have k0 := block_new w (Obj.cells #[.int .i64 c.n, .int .i64 c.pi, .int .i64 c.li] 23) w.heap.size rfl
  have hsz : (w.alloc (Obj.cells #[.int .i64 c.n, .int .i64 c.pi, .int .i64 c.li] 23)).heap.size = w.heap.size + 1 := size_alloc _ _
  have K0 := Lib.hid k0
  have HB := Lib.hid hb0
  have HSZ := Lib.hid hsz
  clear k0 hb0 hsz
  cases hq : chainBad c
  · have HR := Lib.hid (chainM_fine hq)
    obtain ⟨n1, n2, l1, l2, p1, p2⟩ := cok_of hq
    clear hq
    go_enter Try.func65, Try.ntmps65
    go_wp2_with fail
    generalize hwA : w.alloc (Obj.cells #[.int .i64 c.n, .int .i64 c.pi, .int .i64 c.li] 23) = wA at *
    clear hwA
    have hce := block_cell K0.out
    go_wp2_with (go_at_call 56; refine (rfrom_any _ _ _ _).mono ?_; rintro e w' ⟨rfl, rfl⟩)
    all_goals first | (exfalso; omega) | skip
    go_ret
    exact ⟨ret_int HR.out, HB.out⟩
  · have HR := Lib.hid (chainM_bad hq)
    cases h1 : decide (1 ≤ c.n ∧ c.n ≤ 24) <;> cases h3 : decide (1 ≤ c.pi ∧ c.pi ≤ c.li)
    all_goals
      have hq2 := chain_bad_iff hq
      clear hq
      have H1 := Lib.hid h1
      have H3 := Lib.hid h3
      simp only [decide_eq_true_eq, decide_eq_false_iff_not] at h1 h3
      try (have h4 : 100000 < c.li := by omega)
      clear h1 h3 hq2
      go_enter Try.func65, Try.ntmps65
      go_wp2_with fail
      generalize hwA : w.alloc (Obj.cells #[.int .i64 c.n, .int .i64 c.pi, .int .i64 c.li] 23) = wA at *
      clear hwA
      have hce := block_cell K0.out
      go_wp2_with (go_at_call 56; (first | with_reducible refine (rfrom_is _ c.n 1 24 _ H1.out).mono ?_ | with_reducible refine (rfrom_is _ c.pi 1 c.li _ H3.out).mono ?_); rintro e w' ⟨rfl, rfl⟩)
      go_ret
      exact ⟨ret_int HR.out, HB.out⟩

theorem rchain_is (q : Int) (c : Chn) (w : World) (h : chainM c = q) :
    Calls Try.prog 65 #[chnV c] w fun e w' => e = .returned (.int .i64 q) ∧ Below w.heap.size w w' := by
  subst h
  exact rchain_any c w

theorem gau_bad {N : Int} {g : Gau} (h : gauBad N g = true) : g.a < 0 ∨ g.b ≤ g.a ∨ N < g.b ∨ ¬ (0 ≤ g.lo ∧ g.lo ≤ g.hi) ∨ 10000000 < g.hi := by
  simp [gauBad, spanBad] at h; omega

set_option maxHeartbeats 1000000 in
theorem rcheck_any (c : Chn) (l : List Gau) (v : Value) (w : World) (hv : GaAt w v l) :
    Calls Try.prog 21 #[chnV c, v] w fun e w' => e = .returned (.int .i64 (chkM c l)) ∧ Below w.heap.size w w' := by
  have hb0 := (Below.refl w.heap.size w).alloc (Nat.le_refl _) (Obj.cells #[.int .i64 c.n, .int .i64 c.pi, .int .i64 c.li] 23)
  have k0 := block_new w (Obj.cells #[.int .i64 c.n, .int .i64 c.pi, .int .i64 c.li] 23) w.heap.size rfl
  have hsz : (w.alloc (Obj.cells #[.int .i64 c.n, .int .i64 c.pi, .int .i64 c.li] 23)).heap.size = w.heap.size + 1 := size_alloc _ _
  have K0 := Lib.hid k0
  have HB := Lib.hid hb0
  have HSZ := Lib.hid hsz
  clear k0 hb0 hsz
  have hv1 := hv.below HB.out (Nat.le_refl _)
  obtain ⟨a, cap, rfl, hn, hcap, hc⟩ := hv1
  have HC := Lib.hid hc
  clear hc hv
  cases hq : chainBad c
  · have HQ := Lib.hid hq
    have HM := Lib.hid (chainM_fine hq).symm
    obtain ⟨n1, n2, l1, l2, p1, p2⟩ := cok_of hq
    clear hq
    go_enter Try.func21, Try.ntmps21
    go_wp2_with fail
    generalize hwA : w.alloc (Obj.cells #[.int .i64 c.n, .int .i64 c.pi, .int .i64 c.li] 23) = wA at *
    clear hwA
    have hce := block_cell K0.out
    by_cases hl : (40 : Int) < l.length
    · have HR := Lib.hid (chk_many HQ.out hl)
      go_wp2_with (go_at_call 65; refine (rchain_is 0 c _ HM.out).mono ?_; rintro e w1 ⟨rfl, hb1⟩)
      go_ret
      exact ⟨ret_int HR.out, HB.out.trans (hb1.mono HB.out.size)⟩
    · go_wp2_with (go_at_call 65; refine (rchain_is 0 c _ HM.out).mono ?_; rintro e w1 ⟨rfl, hb1⟩)
      clear hce
      go_loopw [6] (fun i wr => ∃ k : Nat, k ≤ l.length ∧ i = .int .i64 k ∧ Below wA.heap.size wA wr ∧ Hid (∀ i, i < k → gauBad c.n (l.getD i Gau.zero) = false)) (fun i _ => l.length - (intOf i).toNat)
      case atStart => exact ⟨0, Nat.zero_le _, rfl, hb1, fun i hi => by omega⟩
      case round =>
        obtain ⟨k, hk, rfl, hb, hf⟩ := hrel
        have hce := block_cell ((hb.block _ (lt_of_block K0.out)).trans K0.out)
        have hz := Nat.lt_of_lt_of_le (lt_of_block K0.out) hb.size
        by_cases hlt : k < l.length
        · obtain ⟨b, off, rfl, hbl, hc⟩ := HC.out (by omega)
          have g1 := ga_at hb hbl hc hlt
          clear hc
          generalize hq0 : l.getD k Gau.zero = q at g1
          have Hq := Lib.hid hq0
          clear hq0
          cases hq : gauBad c.n q
          · have HQ2 := Lib.hid hq
            have hg := gok_of hq
            clear hq
            obtain ⟨⟨a0, ab, bn, lo0, lh, h0, _⟩, alt⟩ := hg
            go_wp2_with (go_at_call 56; refine (rfrom_any _ _ _ _).mono ?_; rintro e w' ⟨rfl, rfl⟩)
            all_goals first | (exfalso; omega) | skip
            go_roundw
            case rel => exact ⟨k + 1, hlt, by go_num, hb.alloc hb.size _, fun i hi => by
              by_cases hik : i = k
              · rw [hik, Hq.out]; exact HQ2.out
              · exact hf.out i (by omega)⟩
            case measure => simp [intOf]; omega
          · have HQ2 := Lib.hid hq
            have HB2 := Lib.hid (gau_bad hq)
            have HA := Lib.hid (any_true_of (d := Gau.zero) (p := gauBad c.n) hlt (by rw [Hq.out]; exact HQ2.out))
            have HR := Lib.hid (chk_gauge HQ.out (by omega) HA.out)
            clear hq
            go_wp2_with (go_at_call 56; refine (rfrom_any _ _ _ _).mono ?_; rintro e w' ⟨rfl, rfl⟩)
            all_goals first | (have := HB2.out; exfalso; omega) | skip
            all_goals
              go_ret
              exact ⟨ret_int HR.out, HB.out.trans ((hb.alloc hb.size _).mono HB.out.size)⟩
        · have HF := Lib.hid (any_false_of (d := Gau.zero) (p := gauBad c.n) (l := l) (fun i hi => hf.out i (by omega)))
          have HR := Lib.hid (chk_fine HQ.out (by omega) HF.out)
          go_wp2
          go_ret
          exact ⟨ret_int HR.out, HB.out.trans (hb.mono HB.out.size)⟩
  · have HR := Lib.hid (chk_bad (l := l) hq)
    have HM := Lib.hid (chainM_bad hq).symm
    clear hq
    go_enter Try.func21, Try.ntmps21
    go_wp2_with fail
    generalize hwA : w.alloc (Obj.cells #[.int .i64 c.n, .int .i64 c.pi, .int .i64 c.li] 23) = wA at *
    clear hwA
    have hce := block_cell K0.out
    go_wp2_with (go_at_call 65; refine (rchain_is 20 c _ HM.out).mono ?_; rintro e w1 ⟨rfl, hb1⟩)
    go_ret
    exact ⟨ret_int HR.out, HB.out.trans (hb1.mono HB.out.size)⟩

end Go.Proofs.Ythgcnakbbmknoaa

/- Walks of layer 2 (chain): checkRun and Run of the program. -/
namespace Go.Proofs.Ythgcnakbbmknoaa
open Go.RowKit

def crunM (c : Chn) (l : List Gau) (a b : Int) : Int := if chkM c l = 0 then (if 0 ≤ a ∧ a ≤ b ∧ b ≤ c.n then 0 else 1) else chkM c l

theorem crun_bad {c : Chn} {l : List Gau} {a b : Int} (h : ¬ chkM c l = 0) : chkM c l = crunM c l a b := by unfold crunM; rw [if_neg h]
theorem crun_arg {c : Chn} {l : List Gau} {a b : Int} (h : chkM c l = 0) (h2 : ¬ (0 ≤ a ∧ a ≤ b ∧ b ≤ c.n)) : 1 = crunM c l a b := by unfold crunM; rw [if_pos h, if_neg h2]
theorem crun_ok {c : Chn} {l : List Gau} {a b : Int} (h : chkM c l = 0) (h2 : 0 ≤ a ∧ a ≤ b ∧ b ≤ c.n) : 0 = crunM c l a b := by unfold crunM; rw [if_pos h, if_pos h2]

set_option maxHeartbeats 1000000 in
theorem kcrun_any (c : Chn) (l : List Gau) (v : Value) (a b : Int) (w : World) (hv : GaAt w v l) :
    Calls Try.prog 63 #[chnV c, v, .int .i64 a, .int .i64 b] w fun e w' => e = .returned (.int .i64 (crunM c l a b)) ∧ Below w.heap.size w w' := by
  have hb0 := (Below.refl w.heap.size w).alloc (Nat.le_refl _) (Obj.cells #[.int .i64 c.n, .int .i64 c.pi, .int .i64 c.li] 23)
  have k0 := block_new w (Obj.cells #[.int .i64 c.n, .int .i64 c.pi, .int .i64 c.li] 23) w.heap.size rfl
  have hsz : (w.alloc (Obj.cells #[.int .i64 c.n, .int .i64 c.pi, .int .i64 c.li] 23)).heap.size = w.heap.size + 1 := size_alloc _ _
  have K0 := Lib.hid k0
  have HB := Lib.hid hb0
  have HSZ := Lib.hid hsz
  clear k0 hb0 hsz
  have hv1 := hv.below HB.out (Nat.le_refl _)
  have HV := Lib.hid hv1
  obtain ⟨va, cap, rfl, hn, hcap, hc⟩ := hv
  clear hc hv1
  by_cases hq : chkM c l = 0
  · have HQ := Lib.hid hq
    clear hq
    cases h1 : decide (0 ≤ b ∧ b ≤ c.n) <;> cases h2 : decide (0 ≤ a ∧ a ≤ b)
    all_goals
      have H1 := Lib.hid h1
      have H2 := Lib.hid h2
      simp only [decide_eq_true_eq, decide_eq_false_iff_not] at h1 h2
      first
        | have HR := Lib.hid (crun_ok (a := a) (b := b) HQ.out (by omega))
        | have HR := Lib.hid (crun_arg (a := a) (b := b) HQ.out (by omega))
      clear h1 h2
      go_enter Try.func63, Try.ntmps63
      go_wp2_with fail
      generalize hwA : w.alloc (Obj.cells #[.int .i64 c.n, .int .i64 c.pi, .int .i64 c.li] 23) = wA at *
      clear hwA
      have hce := block_cell K0.out
      go_wp2_with fail
      refine (kcheck_any c l _ _ HV.out).mono ?_
      rintro e w1 ⟨rfl, hb1⟩
      rw [HQ.out]
      clear hce
      have hce := block_cell ((hb1.block _ (lt_of_block K0.out)).trans K0.out)
      have HB1 := Lib.hid hb1
      clear hb1
      go_wp2_with (go_at_call 49; (first | with_reducible refine (kwithin_is _ b 0 c.n _ H1.out).mono ?_ | with_reducible refine (kwithin_is _ a 0 b _ H2.out).mono ?_); rintro e w' ⟨rfl, rfl⟩)
      go_ret
      exact ⟨ret_int HR.out, HB.out.trans (HB1.out.mono HB.out.size)⟩
  · have HQ := Lib.hid (crun_bad (a := a) (b := b) hq)
    go_enter Try.func63, Try.ntmps63
    go_wp2_with fail
    generalize hwA : w.alloc (Obj.cells #[.int .i64 c.n, .int .i64 c.pi, .int .i64 c.li] 23) = wA at *
    clear hwA
    have hce := block_cell K0.out
    go_wp2_with fail
    refine (kcheck_any c l _ _ HV.out).mono ?_
    rintro e w1 ⟨rfl, hb1⟩
    go_wp2
    go_ret
    exact ⟨ret_int HQ.out, HB.out.trans (hb1.mono HB.out.size)⟩

/-- The answer of Run: the span, and the error. -/
structure RunA where
  lo : Int
  hi : Int
  e : Int
def runM (c : Chn) (l : List Gau) (a b : Int) : RunA :=
  if crunM c l a b = 0 then (if agreeB c l = true then ⟨lowM c l a.toNat b.toNat, highM c l a.toNat b.toNat, 0⟩ else ⟨0, 0, 3⟩) else ⟨0, 0, crunM c l a b⟩
abbrev runV (r : RunA) : Value := .tuple #[.agg #[.int .i64 r.lo, .int .i64 r.hi], .int .i64 r.e]

theorem crun_zero {c : Chn} {l : List Gau} {a b : Int} (h : crunM c l a b = 0) : chkM c l = 0 ∧ 0 ≤ a ∧ a ≤ b ∧ b ≤ c.n := by
  unfold crunM at h
  split at h
  · split at h
    · refine ⟨?_, ?_⟩ <;> assumption
    · omega
  · omega

theorem chk_goks {c : Chn} {l : List Gau} (h : chkM c l = 0) : COk c ∧ GOks c l ∧ l.length ≤ 40 := by
  obtain ⟨h1, h2, h3⟩ := chk_ok h
  exact ⟨h1, fun g hg => (h3 g hg).1, h2⟩

theorem sel_all (l : List Gau) : selTo l (fun _ => true) l.length = l := by rw [selTo_all l _ (Nat.le_refl _), List.take_length]

set_option maxHeartbeats 400000 in
theorem all_any (x : Int) (w : World) : Calls Try.prog 52 #[.int .i64 x] w fun e w' => e = .returned (.bool true) ∧ w = w' := by
  go_enter Try.func52, Try.ntmps52
  go_wp2
  go_ret
  exact ⟨rfl, rfl⟩

/-- follow with all gauges. -/
theorem follow_any (n : Nat) (pi li : Int) (l : List Gau) (v : Value) (w : World) (hv : GaAt w v l) (h : chkM (CN n pi li) l = 0) :
    Calls Try.prog 50 #[chnV (CN n pi li), v, .func (.func 52) #[] #[]] w (FollowRes n pi li l w) := by
  obtain ⟨h1, h2, h3⟩ := chk_goks h
  have := followAll_any n pi li l v (fun _ => true) w hv h1 h2 (by omega) (fun j w1 _ _ => all_any _ _)
  rwa [sel_all] at this

theorem agree_small {n : Nat} {pi li : Int} {l : List Gau} (h : chkM (CN n pi li) l = 0) {i k : Nat} (hi : i ≤ n) (hk : k ≤ n) : -335544320000000 ≤ RM (CN n pi li) l i k ∧ RM (CN n pi li) l i k ≤ 1099511627776 := by
  obtain ⟨h1, h2, h3⟩ := chk_goks h
  exact RM_small h1 h2 (by simpa [CN] using hi) (by simpa [CN] using hk)

theorem netC_sizes (M M' : Net) : (netC M).size = (netC M').size := by rw [netC_size, netC_size]

/-- The whole bounds stored into the variable that was made last. -/
theorem storeBounds (M1 : Net) (W : World) : (storeCells ⟨W.heap.size, 0, none⟩ (netC M1).toList 0).run Try.prog (W.alloc (.cells (netC fun _ _ => 0) 106)) = .ok () (W.alloc (.cells (netC M1) 106)) :=
  run_storeCells_new (P := Try.prog) W 106 (netC fun _ _ => 0) (netC M1) (boundsSize M1) (netC_sizes _ _) (netC_one M1)

set_option maxRecDepth 100000 in
set_option maxHeartbeats 1000000 in
theorem krun_any (c : Chn) (l : List Gau) (v : Value) (a b : Int) (w : World) (hv : GaAt w v l) :
    Calls Try.prog 25 #[chnV c, v, .int .i64 a, .int .i64 b] w fun e w' => e = .returned (runV (runM c l a b)) ∧ Below w.heap.size w w' := by
  have hb0 := ((Below.refl w.heap.size w).alloc (Nat.le_refl _) (Obj.cells #[.int .i64 c.n, .int .i64 c.pi, .int .i64 c.li] 23)).alloc (by simp only [size_alloc]; omega) (Obj.cells #[.int .i64 0, .int .i64 0] 45)
  have k0 := block_alloc (block_new w (Obj.cells #[.int .i64 c.n, .int .i64 c.pi, .int .i64 c.li] 23) w.heap.size rfl) (Obj.cells #[.int .i64 0, .int .i64 0] 45)
  have k1 := block_new (w.alloc (Obj.cells #[.int .i64 c.n, .int .i64 c.pi, .int .i64 c.li] 23)) (Obj.cells #[.int .i64 0, .int .i64 0] 45) (w.heap.size + 1) (by simp only [size_alloc])
  have hsz : ((w.alloc (Obj.cells #[.int .i64 c.n, .int .i64 c.pi, .int .i64 c.li] 23)).alloc (Obj.cells #[.int .i64 0, .int .i64 0] 45)).heap.size = w.heap.size + 2 := by simp only [size_alloc]
  have HV := Lib.hid (hv.below hb0 (Nat.le_refl _))
  obtain ⟨va, cap, rfl, hn, hcap, hc⟩ := hv
  clear hc
  have HB := Lib.hid hb0
  have K0 := Lib.hid k0
  have K1 := Lib.hid k1
  have HSZ := Lib.hid hsz
  clear hb0 k0 k1 hsz
  by_cases hq : crunM c l a b = 0
  · have HQ := Lib.hid hq
    obtain ⟨hchk, ha, hab, hbn⟩ := crun_zero hq
    obtain ⟨n, pi, li⟩ := c
    obtain ⟨n, rfl⟩ : ∃ m : Nat, n = m := ⟨n.toNat, by dsimp only at hbn; omega⟩
    obtain ⟨a, rfl⟩ : ∃ m : Nat, a = m := ⟨a.toNat, by omega⟩
    obtain ⟨b, rfl⟩ : ∃ m : Nat, b = m := ⟨b.toNat, by omega⟩
    dsimp only at *
    have HC := Lib.hid (show chkM (CN n pi li) l = 0 from hchk)
    have n24 := (chk_goks hchk).1.n2
    dsimp only at n24
    clear hq hchk
    have hzb := zeroBounds
    go_enter Try.func25, Try.ntmps25
    go_wp2_with fail
    generalize (w.alloc (Obj.cells #[.int .i64 n, .int .i64 pi, .int .i64 li] 23)).alloc (Obj.cells #[.int .i64 0, .int .i64 0] 45) = wA at *
    refine (kcrun_any (CN n pi li) l _ _ _ _ HV.out).mono ?_
    rintro e w1 ⟨rfl, hb1⟩
    rw [HQ.out]
    have c0 := block_cell ((hb1.block _ (lt_of_block K0.out)).trans K0.out)
    go_wp2_with fail
    refine (follow_any n pi li l _ _ (HV.out.below hb1 (Nat.le_refl _)) HC.out).mono ?_
    rintro e w2 ⟨M1, rfl, hb2, hM⟩
    have hb12 := hb1.trans (hb2.mono hb1.size)
    have kE := (hb12.block _ (lt_of_block K1.out)).trans K1.out
    have z0 := lt_of_block kE
    have c1 := block_cell kE
    have f1 := block_free kE
    have KE := Lib.hid kE
    have HBW := Lib.hid (HB.out.trans (hb12.mono HB.out.size))
    have HM := Lib.hid hM
    clear c0 hb1 hb2 hb12 kE hM
    have hst := storeBounds M1
    have hs1 := netC_size M1
    cases hag : agreeB (CN n pi li) l
    · have HR := Lib.hid (show (⟨0, 0, 3⟩ : RunA) = runM (CN n pi li) l a b by unfold runM; rw [if_pos HQ.out, if_neg (by simp [hag])])
      clear hag
      go_wp2
      refine bodyPost_ret (v := .tuple #[.agg #[.int .i64 0, .int .i64 0], .int .i64 3]) ?_ rfl ⟨?_, ?_⟩
      · simp (maxDischargeDepth := 8) [results, Try.results25, go_sem, c1, z0]
      · show Ending.returned (runV ⟨0, 0, 3⟩) = _
        rw [HR.out]
      · repeat' (first | exact HBW.out | (with_reducible refine Below.drew ?_) | (with_reducible refine Below.alloc ?_ ?_ _) | (with_reducible refine Below.setCell ?_ ?_ _))
        all_goals (first | omega | (simp; done) | (simp; omega))
    · have HR := Lib.hid (show (⟨-RM (CN n pi li) l b a, RM (CN n pi li) l a b, 0⟩ : RunA) = runM (CN n pi li) l a b by unfold runM; rw [if_pos HQ.out, if_pos hag]; rfl)
      have m1 := HM.out hag b a (by omega) (by omega)
      have m2 := HM.out hag a b (by omega) (by omega)
      have r1 := agree_small HC.out (i := b) (k := a) (by omega) (by omega)
      rw [← m1] at r1
      rw [← m1, ← m2] at HR
      clear hag m1 m2
      go_wp2_with fail
      refine (brun_any M1 w2.heap.size a b _ (block_new _ _ _ rfl) (by omega) (by omega) (by omega) (by omega)).mono ?_
      rintro e w3 ⟨rfl, hb3⟩
      have kS := (hb3.block (w.heap.size + 1) (by simp only [size_alloc]; omega)).trans (block_alloc KE.out _)
      have c1 := block_cell kS
      have f1 := block_free kS
      have hbw3 := HBW.out.trans ((((Below.refl w2.heap.size w2).alloc (Nat.le_refl _) (.cells (netC M1) 106)).trans (hb3.mono (by simp only [size_alloc]; omega))).mono HBW.out.size)
      clear kS hb3 hst hs1 hzb
      go_wp2
      refine bodyPost_ret (v := runV ⟨-M1 b a, M1 a b, 0⟩) ?_ rfl ⟨?_, ?_⟩
      · simp (maxDischargeDepth := 8) [results, Try.results25, go_sem, c1]
      · rw [HR.out]
      · repeat' (first | exact hbw3 | (with_reducible refine Below.drew ?_) | (with_reducible refine Below.alloc ?_ ?_ _) | (with_reducible refine Below.setCell ?_ ?_ _))
        all_goals (first | omega | (simp; done) | (simp; omega))
  · have HR := Lib.hid (show (⟨0, 0, crunM c l a b⟩ : RunA) = runM c l a b by unfold runM; rw [if_neg hq])
    go_enter Try.func25, Try.ntmps25
    go_wp2_with fail
    generalize (w.alloc (Obj.cells #[.int .i64 c.n, .int .i64 c.pi, .int .i64 c.li] 23)).alloc (Obj.cells #[.int .i64 0, .int .i64 0] 45) = wA at *
    refine (kcrun_any c l _ _ _ _ HV.out).mono ?_
    rintro e w1 ⟨rfl, hb1⟩
    have kE := (hb1.block _ (lt_of_block K1.out)).trans K1.out
    have z0 := lt_of_block kE
    have c1 := block_cell kE
    have f1 := block_free kE
    have HBW := Lib.hid (HB.out.trans (hb1.mono HB.out.size))
    clear hb1 kE
    generalize crunM c l a b = m at *
    go_wp2
    refine bodyPost_ret (v := runV ⟨0, 0, m⟩) ?_ rfl ⟨?_, ?_⟩
    · simp (maxDischargeDepth := 8) [results, Try.results25, go_sem, c1]
    · rw [HR.out]
    · repeat' (first | exact HBW.out | (with_reducible refine Below.drew ?_) | (with_reducible refine Below.alloc ?_ ?_ _) | (with_reducible refine Below.setCell ?_ ?_ _))
      all_goals (first | omega | (simp; done) | (simp; omega))

end Go.Proofs.Ythgcnakbbmknoaa

/- append of a slice of elements (XGs) to a row that is owned: what every layer uses. -/
namespace Go.Proofs.Ythgcnakbbmknoaa
open Go.RowKit

theorem own_base {w : World} {base : Nat} {e : TypeId} {m : Nat} {v : Value} {n : Nat} {xs : List Value} (h : w.ownsRow base e m v n xs) : ∀ k, v.ownBlock = some k → base ≤ k := by
  intro k hk
  rcases h.2 with ⟨rfl, _⟩ | ⟨g, cap, cur, rfl, hb, _⟩
  · simp [Value.ownBlock] at hk
  · simp [Value.ownBlock] at hk; omega

/-- append of a nil slice, whatever capacity it bears. -/
theorem app_nilc {P : Program} {w : World} {ops : Array Oper} {rest : List Oper} {o : Oper} {a : Act} {Q : Exit → Act → World → Prop} (hgd : o.guard = none) (s x : Operand) (t : TypeId)
    (ho : o.op = .call { callee := .builtin .append, args := #[s, x], argTypes := #[t, t] })
    (base : Nat) (e : TypeId) (i : TypeInfo) (size : Nat) (ht : P.underlying t = some (.slice e)) (hi : P.info? e = some i)
    (v : Value) (n : Nat) (xs : List Value) (c : Nat) (hs : a.eval s = v) (hown : w.ownsRow base e size v n xs) (hx : a.eval x = .slice none 0 c)
    (h : wpList P ops Q rest (a.put o.dst v) w) : wpList P ops Q (o :: rest) a w := by
  refine wpList_plain hgd fun K hK => ?_
  have hrun : (Builtin.append_ #[t, t] o.type #[v, .slice none 0 c]).run P w = .ok v w := by
    rcases hown.2 with ⟨rfl, rfl⟩ | ⟨g, cap, cur, rfl, _, _, hnc, _⟩
    · simp [Builtin.append_, run_underlying ht, sizeOf, typeInfo, hi, Builtin.lenOf, Builtin.firstCells]
    · simp [Builtin.append_, run_underlying ht, sizeOf, typeInfo, hi, Builtin.lenOf, Builtin.firstCells, hnc, storeCells]
  unfold Oper.wp
  simp [execOp, ho, resolve, invoke, builtin, hs, hx, hrun, Result.andThen]
  exact hK _ _ h

/-- append of elements that came in. -/
theorem app_elAt {P : Program} {w : World} {ops : Array Oper} {rest : List Oper} {o : Oper} {a : Act} {Q : Exit → Act → World → Prop} (hgd : o.guard = none) (s x : Operand) (t : TypeId)
    (ho : o.op = .call { callee := .builtin .append, args := #[s, x], argTypes := #[t, t] })
    (base : Nat) (e : TypeId) (i : TypeInfo) (z : Value) (size bytes : Nat) (ht : P.underlying t = some (.slice e)) (hi : P.info? e = some i) (hz : i.zero = some z)
    (hsize : i.size = size) (hby : i.bytes = bytes) (hzs : z.cells.size = size) (hsz : 0 < size)
    {α : Type} (f : α → List Value) (hf : ∀ x, (f x).length = size) (hf1 : ∀ x, ∀ u ∈ f x, u.oneCell' = true)
    (v : Value) (xs ys : List α) (hs : a.eval s = v) (hown : w.ownsRow base e size v xs.length (xs.flatMap f)) (vx : Value) (hx : a.eval x = vx) (hy : ElAt size f w vx ys)
    (h63 : xs.length + ys.length ≤ maxLen) (hbytes : (xs.length + ys.length) * bytes ≤ 140737488355328) (hbase : base ≤ w.heap.size)
    (h : ∀ v' w', w'.ownsRow base e size v' (xs ++ ys).length ((xs ++ ys).flatMap f) → Below base w w' → wpList P ops Q rest (a.put o.dst v') w') : wpList P ops Q (o :: rest) a w := by
  obtain ⟨ao, cap, rfl, h1, h2, h3⟩ := hy
  cases ao with
  | none =>
    have hy0 : ys = [] := by
      rcases Nat.eq_zero_or_pos ys.length with h0 | h0
      · exact List.eq_nil_of_length_eq_zero h0
      · obtain ⟨b, off, e1, _⟩ := h3 h0
        cases e1
    subst hy0
    exact app_nilc hgd s x t ho base e i size ht hi v _ _ cap hs hown hx (h v w (by simpa using hown) (Below.refl _ _))
  | some ad =>
    refine wpList_append_own w hgd s x t ho base e i z size bytes ht hi hz hsize hby hzs hsz v xs.length _ hs hown ad ys.length cap (ys.flatMap f) hx (flat_len hf ys) ?_ ?_ h63 hbytes hbase
      (fun v' w' o g _ => h v' w' (by rw [List.length_append, List.flatMap_append]; exact o) (below_grown g (own_base hown) hbase))
    · rcases Nat.eq_zero_or_pos ys.length with h0 | h0
      · have : ys = [] := List.eq_nil_of_length_eq_zero h0
        subst this
        intro j u hj
        simp at hj
      · obtain ⟨b, off, e1, _⟩ := h3 h0
        obtain rfl := Option.some.inj e1
        exact ElAt.news hf ⟨_, cap, rfl, h1, h2, h3⟩ h0
    · intro u hu
      obtain ⟨x, _, hx⟩ := List.mem_flatMap.1 hu
      exact hf1 x u hx

end Go.Proofs.Ythgcnakbbmknoaa

/- Walks of layer 2 (chain): slices.Concat of gauges. -/
namespace Go.Proofs.Ythgcnakbbmknoaa
open Go.RowKit

theorem cg_info : (Try.prog.info? 53).map (fun i => (i.zero, i.size, i.bytes)) = some (some (.agg #[.int .i64 0, .int .i64 0, .int .i64 0, .int .i64 0]), 4, 32) := by kernel_rfl
set_option maxHeartbeats 1000000 in
theorem cg_grow (n : Nat) (ni : Int) (hni : ni = n) (hn : 0 < n) (hn2 : n ≤ 1000000) (w : World) :
    Calls Try.prog 96 #[.slice none 0 0, .int .i64 ni] w fun e w' => ∃ cap, e = .returned (.slice (some ⟨w.heap.size, 0, none⟩) 0 cap) ∧ w'.ownsRow w.heap.size 53 4 (.slice (some ⟨w.heap.size, 0, none⟩) 0 cap) 0 [] ∧ Below w.heap.size w w' := by
  subst hni
  obtain ⟨i0, hi, hz0, hz1, hz2⟩ := info_parts cg_info
  have hr := Lib.run_append_nil_zeros (P := Try.prog) w 24 3 24 53 i0 (.agg #[.int .i64 0, .int .i64 0, .int .i64 0, .int .i64 0]) .i64 .i64 Try.underlying24 Try.underlying3 hi hz0 n hn (by omega) (by omega) (by rw [hz2]; omega)
  have hge := grownCap_ge w n 0 53
  have hle := grownCap_le_maxLen w n 0 53 (by unfold maxLen; omega)
  generalize grownCap w n 0 53 = G at *
  generalize hZ : (Builtin.zeroCells (.agg #[.int .i64 0, .int .i64 0, .int .i64 0, .int .i64 0] : Value).cells n ++ Builtin.zeroCells (.agg #[.int .i64 0, .int .i64 0, .int .i64 0, .int .i64 0] : Value).cells (G - n)) = Z at hr
  have hZs : Z.size = G * 4 := by rw [← hZ]; simp [size_zeroCells, Value.cells]; omega
  clear hZ
  have g1 : ¬ ((n : Int) < 0) := by omega
  have g2 : IntKind.i64.wrap (n : Int) = n := by rw [IntKind.wrap_i64]; omega
  have g3 : (0 : Int) < n := by omega
  go_enter Try.func96, Try.ntmps96
  go_wp2_with (at_builtin; refine Lib.wpList_append_run _ rfl _ _ _ _ rfl _ _ rfl rfl _ _ hr ?_)
  go_ret
  refine ⟨G, rfl, ⟨by simp, .inr ⟨w.heap.size, G, Z, rfl, Nat.le_refl _, heap_alloc_new w.drew _, Nat.zero_le _, hle, hZs, by simp⟩⟩, ?_⟩
  exact ⟨rfl, rfl, rfl, by simp, fun k hk => heap_alloc_old w.drew _ hk⟩
set_option maxRecDepth 100000 in
set_option maxHeartbeats 2000000 in
theorem cg_concat (bm : Nat) (v1 v2 : Value) (l1 l2 : List Gau) (w : World) (hm1 : w.cell? ⟨bm, 0, none⟩ = some v1) (hm2 : w.cell? ⟨bm, 1, none⟩ = some v2) (hb : bm < w.heap.size)
    (h1 : ElAt 4 gauL w v1 l1) (h2 : ElAt 4 gauL w v2 l2) (hp : 0 < l2.length) (hl1 : l1.length ≤ 100000) (hl2 : l2.length ≤ 100000) :
    Calls Try.prog 51 #[.slice (some ⟨bm, 0, none⟩) 2 2] w fun e w' => ∃ v, e = .returned v ∧ ElAt 4 gauL w' v (l1 ++ l2) ∧ Below w.heap.size w w' := by
  obtain ⟨i0, hi, hz0, hz1, hz2⟩ := info_parts cg_info
  have hf : ∀ x, (gauL x).length = 4 := fun _ => rfl
  have hf1 : ∀ x, ∀ u ∈ gauL x, u.oneCell' = true := fun x u hu => by simp at hu; rcases hu with rfl | rfl | rfl | rfl | rfl | rfl <;> rfl
  have E1 := Lib.hid h1
  have E2 := Lib.hid h2
  obtain ⟨a1, c1, rfl, _, _, _⟩ := h1
  obtain ⟨a2, c2, rfl, _, _, _⟩ := h2
  have g1 : ¬ ((l1.length : Int) < 0) := by omega
  have g2 : ¬ ((l1.length : Int) + (l2.length : Int) < 0) := by omega
  have g3 : IntKind.i64.wrap (l1.length : Int) = l1.length := by rw [IntKind.wrap_i64]; omega
  have g4 : IntKind.i64.wrap ((l1.length : Int) + (l2.length : Int)) = l1.length + l2.length := by rw [IntKind.wrap_i64]; omega
  have HM1 := Lib.hid hm1
  have HM2 := Lib.hid hm2
  go_enter Try.func51, Try.ntmps51
  go_wp2_with fail
  go_loopw [3, 11] (fun s i wr => (i = .int .i64 0 ∧ s = .int .i64 0 ∨ i = .int .i64 1 ∧ s = .int .i64 l1.length ∨ i = .int .i64 2 ∧ s = .int .i64 (l1.length + l2.length)) ∧ w = wr) (fun _ i _ => 2 - (intOf i).toNat)
  case atStart => exact ⟨.inl ⟨rfl, rfl⟩, rfl⟩
  case round =>
    obtain ⟨hr, rfl⟩ := hrel
    rcases hr with ⟨rfl, rfl⟩ | ⟨rfl, rfl⟩ | ⟨rfl, rfl⟩
    · go_wp2
      go_roundw
      case rel => first | exact ⟨.inr (.inl ⟨rfl, rfl⟩), rfl⟩ | simp
      case measure => simp [intOf]
    · go_wp2
      go_roundw
      case rel => first | exact ⟨.inr (.inr ⟨rfl, rfl⟩), rfl⟩ | simp
      case measure => simp [intOf]
    · go_wp2_with fail
      refine (cg_grow (l1.length + l2.length) _ (by omega) (by omega) (by omega) _).mono ?_
      rintro e wg ⟨G, rfl, ho, hbg⟩
      go_wp2_with fail
      go_loopw [6, 27] (fun s i wr => ∃ xs : List Gau, Below w.heap.size w wr ∧ wr.ownsRow w.heap.size 53 4 s xs.length (xs.flatMap gauL) ∧ (i = .int .i64 0 ∧ xs = [] ∨ i = .int .i64 1 ∧ xs = l1 ∨ i = .int .i64 2 ∧ xs = l1 ++ l2)) (fun _ i _ => 2 - (intOf i).toNat)
      case atStart => exact ⟨[], hbg, ho, .inl ⟨rfl, rfl⟩⟩
      case round =>
        obtain ⟨xs, hbx, hox, hr⟩ := hrel
        have c1 := (hbx.cell (p := ⟨bm, 0, none⟩) hb).trans HM1.out
        have c2 := (hbx.cell (p := ⟨bm, 1, none⟩) hb).trans HM2.out
        have e1 := E1.out.below hbx (Nat.le_refl _)
        have e2 := E2.out.below hbx (Nat.le_refl _)
        have hsx := hbx.size
        rcases hr with ⟨rfl, rfl⟩ | ⟨rfl, rfl⟩ | ⟨rfl, rfl⟩
        · go_wp2_with (at_builtin; refine app_elAt rfl (.tmp 31) (.tmp 32) 24 rfl w.heap.size 53 i0 (.agg #[.int .i64 0, .int .i64 0, .int .i64 0, .int .i64 0]) 4 32 Try.underlying24 hi hz0 hz1 hz2 rfl (by decide) gauL hf hf1 _ [] l1 rfl hox _ rfl e1 (by unfold maxLen; simp; omega) (by simp; omega) hsx ?_)
          intro v' w' ho' hb'
          go_wp2
          go_roundw
          case rel => exact ⟨l1, hbx.trans hb', ho', by simp⟩
          case measure => simp [intOf]
        · go_wp2_with (at_builtin; refine app_elAt rfl (.tmp 31) (.tmp 32) 24 rfl w.heap.size 53 i0 (.agg #[.int .i64 0, .int .i64 0, .int .i64 0, .int .i64 0]) 4 32 Try.underlying24 hi hz0 hz1 hz2 rfl (by decide) gauL hf hf1 _ xs l2 rfl hox _ rfl e2 (by unfold maxLen; omega) (by omega) hsx ?_)
          intro v' w' ho' hb'
          go_wp2
          go_roundw
          case rel => exact ⟨xs ++ l2, hbx.trans hb', by simpa using ho', by simp⟩
          case measure => simp [intOf]
        · go_wp2
          go_ret
          exact ⟨_, rfl, ElAt.of_own hf hox, hbx⟩

end Go.Proofs.Ythgcnakbbmknoaa

/- New blocks, two and three of them: what every layer uses. -/
namespace Go.Proofs.Ythgcnakbbmknoaa
open Go.RowKit

theorem al_le (w : World) (o : Obj) : w.heap.size ≤ (w.alloc o).heap.size := by rw [size_alloc]; omega
theorem two_nw (w : World) (o o' : Obj) : ((w.alloc o).alloc o').heap[w.heap.size + 1]? = some o' := block_new _ _ _ (by simp only [size_alloc])
theorem two_od (w : World) (a b : Obj) : ((w.alloc a).alloc b).heap[w.heap.size]? = some a := block_alloc (block_new _ _ _ rfl) _
theorem three_0 (w : World) (a b c : Obj) : (((w.alloc a).alloc b).alloc c).heap[w.heap.size]? = some a := block_alloc (block_alloc (block_new _ _ _ rfl) _) _
theorem three_1 (w : World) (a b c : Obj) : (((w.alloc a).alloc b).alloc c).heap[w.heap.size + 1]? = some b := block_alloc (two_nw _ _ _) _
theorem three_2 (w : World) (a b c : Obj) : (((w.alloc a).alloc b).alloc c).heap[w.heap.size + 2]? = some c := block_new _ _ _ (by simp only [size_alloc])
theorem blw2 (w : World) (a b : Obj) : Below w.heap.size w ((w.alloc a).alloc b) := ((Below.refl _ _).alloc (Nat.le_refl _) _).alloc (al_le _ _) _
theorem blw3 (w : World) (a b c : Obj) : Below w.heap.size w (((w.alloc a).alloc b).alloc c) := (blw2 w a b).alloc (Nat.le_trans (al_le _ _) (al_le _ _)) _
theorem keepZ {W w' : World} {p : Nat} {o : Obj} (h : W.heap[p]? = some o) (hb : Below W.heap.size W w') : w'.heap[p]? = some o := (hb.block _ (lt_of_block h)).trans h
theorem below_unalloc {W w' : World} {o : Obj} (h : Below (W.alloc o).heap.size (W.alloc o) w') : Below W.heap.size W w' := ((Below.refl _ _).alloc (Nat.le_refl _) o).trans (h.mono (al_le _ _))

end Go.Proofs.Ythgcnakbbmknoaa

/- Rows of ints that a make leaves and stores fill: what every layer uses. -/
namespace Go.Proofs.Ythgcnakbbmknoaa
open Go.RowKit

/-- n cells of ints. -/
def rowC (n : Nat) (f : Nat → Int) : Array Value := Array.ofFn (n := n) fun j => .int .i64 (f j.val)
def RowAt (w : World) (b : Nat) (e : TypeId) (n : Nat) (f : Nat → Int) : Prop := w.heap[b]? = some (.cells (rowC n f) e (0, 0))

theorem rowC_at {n i : Nat} (f : Nat → Int) (hi : i < n) : (rowC n f)[i]? = some (.int .i64 (f i)) := by
  unfold rowC
  rw [Array.getElem?_ofFn, dif_pos hi]

theorem rowC_set {n i : Nat} (f : Nat → Int) (v : Int) : (rowC n f).setIfInBounds i (.int .i64 v) = rowC n (fun j => if j = i then v else f j) := by
  apply Array.ext_getElem?
  intro j
  rw [Array.getElem?_setIfInBounds]
  unfold rowC
  simp only [Array.getElem?_ofFn, Array.size_ofFn]
  by_cases hj : j < n
  · rw [dif_pos hj, dif_pos hj]
    by_cases e : i = j
    · subst e; rw [if_pos rfl]; simp [hj]
    · rw [if_neg e, if_neg (fun h => e h.symm)]
  · rw [dif_neg hj, dif_neg hj]
    split
    · split
      · rename_i h1 h2
        exact absurd h2 (by omega)
      · rfl
    · rfl

theorem rowC_zero (n : Nat) : madeCells #[.int .i64 0] n = rowC n (fun _ => 0) := by
  apply Array.ext_getElem?
  intro j
  unfold rowC madeCells
  rw [Array.getElem?_ofFn, Array.getElem?_map]
  by_cases hj : j < n
  · rw [dif_pos hj, Array.getElem?_range, if_pos hj]; simp [Nat.mod_one]
  · rw [dif_neg hj, Array.getElem?_range, if_neg hj]; rfl

theorem rowC_congr {n : Nat} {f g : Nat → Int} (h : ∀ i, i < n → f i = g i) : rowC n f = rowC n g := by
  unfold rowC
  congr 1
  funext j
  rw [h j.val j.isLt]

theorem RowAt.set {w : World} {b : Nat} {e : TypeId} {n : Nat} {f : Nat → Int} (h : RowAt w b e n f) (i : Nat) (v : Int) : RowAt (w.setCell ⟨b, i, none⟩ (.int .i64 v)) b e n (fun j => if j = i then v else f j) := by
  have := block_set h i (.int .i64 v)
  rwa [rowC_set] at this

theorem RowAt.at {w : World} {b : Nat} {e : TypeId} {n : Nat} {f : Nat → Int} (h : RowAt w b e n f) {i : Nat} (hi : i < n) : w.cell? ⟨b, i, none⟩ = some (.int .i64 (f i)) := by
  rw [block_cell h, rowC_at f hi]

theorem RowAt.in_ {w : World} {b : Nat} {e : TypeId} {n : Nat} {f : Nat → Int} (h : RowAt w b e n f) (hn : n ≤ 1000000) : InAt w (.slice (some ⟨b, 0, none⟩) n n) ((List.range n).map f) := by
  have hl : ((List.range n).map f).length = n := by simp
  refine ⟨some ⟨b, 0, none⟩, n, by rw [hl], by rw [hl]; exact Nat.le_refl _, by omega, fun _ => ⟨b, 0, rfl, lt_of_block h, fun i hi => ?_⟩⟩
  rw [hl] at hi
  rw [Nat.zero_add, h.at hi]
  simp [List.getD, hi]

end Go.Proofs.Ythgcnakbbmknoaa

/- Walks of layer 2 (chain): Witness of the program. -/
namespace Go.Proofs.Ythgcnakbbmknoaa
open Go.RowKit

/-- The answer of Witness: the error, and the lengths. -/
def witE (c : Chn) (l : List Gau) (a b m : Int) : Int := if (runM c l a b).e = 0 then (if (runM c l a b).lo ≤ m ∧ m ≤ (runM c l a b).hi then 0 else 1) else (runM c l a b).e
def witG (c : Chn) (l : List Gau) (a b m : Int) : List Int := if witE c l a b m = 0 then witM c (l ++ [gEx a.toNat b.toNat m]) else []


theorem run_zero {c : Chn} {l : List Gau} {a b : Int} (h : (runM c l a b).e = 0) : crunM c l a b = 0 ∧ agreeB c l = true ∧ (runM c l a b).lo = lowM c l a.toNat b.toNat ∧ (runM c l a b).hi = highM c l a.toNat b.toNat := by
  unfold runM at h ⊢
  by_cases h1 : crunM c l a b = 0
  · rw [if_pos h1] at h ⊢
    by_cases h2 : agreeB c l = true
    · rw [if_pos h2]; exact ⟨h1, h2, rfl, rfl⟩
    · rw [if_neg h2] at h; exact absurd h (by decide)
  · rw [if_neg h1] at h; exact absurd h h1

theorem gau_one {w : World} {b : Nat} {g : Gau} (h : w.heap[b]? = some (.cells #[.int .i64 g.a, .int .i64 g.b, .int .i64 g.lo, .int .i64 g.hi] 53 (0, 0))) : GaAt w (.slice (some ⟨b, 0, none⟩) 1 1) [g] := by
  refine ⟨some ⟨b, 0, none⟩, 1, rfl, Nat.le_refl _, by decide, fun _ => ⟨b, 0, rfl, lt_of_block h, fun i x hx j u hu => ?_⟩⟩
  obtain rfl : i = 0 := by have := (List.getElem?_eq_some_iff.1 hx).1; simpa using this
  obtain rfl : x = g := by simpa using hx.symm
  rw [show 0 + 0 * 4 + j = j by omega, block_cell h]
  have := hu
  match j with
  | 0 => exact hu
  | 1 => exact hu
  | 2 => exact hu
  | 3 => exact hu
  | j + 4 => simp at hu

abbrev zB : Obj := Obj.cells (netC fun _ _ => 0) 106
abbrev gB (a b : Nat) (m : Int) : Obj := Obj.cells #[.int .i64 (a : Int), .int .i64 (b : Int), .int .i64 m, .int .i64 m] 53
abbrev mB (va : Option Addr) (n cap bg : Nat) : Obj := Obj.cells #[.slice va n cap, .slice (some ⟨bg, 0, none⟩) 1 1] 24

/-- The call of Concat, in a world whose blocks bg and bm are the gauge and the two slices; a block p is kept. -/
theorem concat_in {w : World} {n cap : Nat} {va : Option Addr} {l : List Gau} (h : GaAt w (.slice va n cap) l) (hl : l.length ≤ 40) (a b : Nat) (m : Int) (W : World) (hb : Below w.heap.size w W) (bm bg _p : Nat) (kg : W.heap[bg]? = some (gB a b m)) (km : W.heap[bm]? = some (mB va n cap bg))
    (R : World → Prop) (hR : ∀ w', Below W.heap.size W w' → R w') :
    Calls Try.prog 51 #[.slice (some ⟨bm, 0, none⟩) 2 2] W.drew fun e w' => ∃ v, e = .returned v ∧ GaAt w' v (l ++ [gEx a b m]) ∧ Below w.heap.size w w' ∧ R w' := by
  have hc := block_cell km
  have hz := lt_of_block km
  have he1 := gau_one (g := gEx a b m) kg
  have he0 := h.below hb (Nat.le_refl _)
  refine (cg_concat bm (.slice va n cap) (.slice (some ⟨bg, 0, none⟩) 1 1) l [gEx a b m] W.drew (hc 0) (hc 1) hz he0 he1 (by simp) (by omega) (by simp)).mono ?_
  rintro e w' ⟨v, rfl, he, hb'⟩
  have hb2 : Below W.heap.size W w' := below_undrew hb'
  exact ⟨v, rfl, he, hb.trans (hb2.mono hb.size), hR _ hb2⟩



theorem netC_ones (M : Net) : ∀ v ∈ (netC M).toList, v.oneCell' = true := fun v hv => (Array.all_eq_true_iff_forall_mem.1 (netC_one M)) v (by simpa using hv)
theorem netC_ll (M : Net) : (netC M).toList.length = 625 := by rw [Array.length_toList, netC_size]

theorem bounds_there {W : World} {p : Nat} {M : Net} (k : W.heap[p]? = some (.cells (netC M) 106)) (M' : Net) : W.there p 0 (netC M').toList.length := fun j hj => by
  rw [netC_ll] at hj
  refine ⟨?_, block_free k _⟩
  rw [block_cell k, Array.getElem?_eq_getElem (by rw [netC_size]; omega)]
  rfl

theorem bounds_info : (Try.prog.info? 106).map (fun i => i.size) = some 625 := by kernel_rfl

theorem bel_setCells {B b : Nat} {a : World} (hb : B ≤ b) : ∀ (vs : List Value) (o : Nat) (w : World), Below B a w → Below B a (w.setCells b o vs)
  | [], _, _, h => h
  | v :: vs, o, _w, h => bel_setCells hb vs (o + 1) _ (h.setCell (p := ⟨b, o, none⟩) hb v)

theorem bounds_over {W : World} {p : Nat} {M : Net} (k : W.heap[p]? = some (.cells (netC M) 106)) (M' : Net) : (W.setCells p 0 (netC M').toList).heap[p]? = some (.cells (netC M') 106) := by
  have h1 := run_storeCells_cells (P := Try.prog) p 0 (netC M').toList 0 W (fun j hj => by simpa using (bounds_there k M' j hj).1) (fun j hj => by simpa using (bounds_there k M' j hj).2) (netC_ones M')
  have h2 := run_storeCells_at Try.prog p 0 106 (netC M').toList 0 (netC M) W k (by rw [netC_ll, netC_size]; omega) (netC_ones M')
  have e : (W.setCells p 0 (netC M').toList) = W.setRow p (netC M') := by
    have h3 := h1.symm.trans h2
    injection h3 with _ h4
    rw [h4]
    congr 1
    apply Array.toList_inj.1
    simp [netC_size]
  rw [e]
  exact setRow_heap W p (netC M) (netC M') _ _ k

theorem follow_more {n : Nat} {pi li : Int} {l : List Gau} {v : Value} {w : World} (hv : GaAt w v l) (h1 : COk (CN n pi li)) (h2 : GOks (CN n pi li) l) (h3 : l.length ≤ 100) :
    Calls Try.prog 50 #[.agg #[.int .i64 (n : Int), .int .i64 pi, .int .i64 li], v, .func (.func 52) #[] #[]] w (FollowRes n pi li l w) := by
  have := followAll_any n pi li l v (fun _ => true) w hv h1 h2 h3 (fun j w1 _ _ => all_any _ _)
  rw [sel_all] at this
  exact this

theorem spanField0 (x y : Value) (w : World) : (Instr.field 45 (.agg #[x, y]) 0).run Try.prog w = .ok x w := by kernel_rfl
theorem spanField1 (x y : Value) (w : World) : (Instr.field 45 (.agg #[x, y]) 1).run Try.prog w = .ok y w := by kernel_rfl

/-- The run from the end 0. -/
theorem brun0 (M : Net) (b k : Nat) (kI : Int) (w : World) (h : Bd w b M) (hkI : kI = k) (hk : k < 25) (h1 : -1000000000000000 ≤ M k 0) (h2 : M k 0 ≤ 1000000000000000) :
    Calls Try.prog 53 #[.pointer (some ⟨b, 0, none⟩), .int .i64 0, .int .i64 kI] w fun e w' => e = .returned (.agg #[.int .i64 (-M k 0), .int .i64 (M 0 k)]) ∧ Below w.heap.size w w' := by
  subst hkI
  exact brun_any M b 0 k w h (by omega) hk h1 h2

def WitRel (M1 : Net) (n : Nat) (wA wr : World) (p bl k : Nat) : Prop :=
  Below wA.heap.size wA wr ∧ Bd wr p M1 ∧ ∃ f, RowAt wr bl 3 n f ∧ ∀ i, i < k → f i = -M1 (i + 1) 0 - -M1 i 0

set_option maxRecDepth 100000 in
set_option maxHeartbeats 2000000 in
theorem kwit_any (c : Chn) (l : List Gau) (v : Value) (a b m : Int) (w : World) (hv : GaAt w v l) :
    Calls Try.prog 13 #[chnV c, v, .int .i64 a, .int .i64 b, .int .i64 m] w fun e w' => ∃ v', e = .returned (.tuple #[v', .int .i64 (witE c l a b m)]) ∧ InAt w' v' (witG c l a b m) ∧ Below w.heap.size w w' := by
  have hb0 := (Below.refl w.heap.size w).alloc (Nat.le_refl _) (Obj.cells #[.int .i64 c.n, .int .i64 c.pi, .int .i64 c.li] 23)
  have k0 := block_new w (Obj.cells #[.int .i64 c.n, .int .i64 c.pi, .int .i64 c.li] 23) w.heap.size rfl
  have hsz : (w.alloc (Obj.cells #[.int .i64 c.n, .int .i64 c.pi, .int .i64 c.li] 23)).heap.size = w.heap.size + 1 := size_alloc _ _
  have K0 := Lib.hid k0
  have HB := Lib.hid hb0
  have HSZ := Lib.hid hsz
  clear k0 hb0 hsz
  have HV := Lib.hid (hv.below HB.out (Nat.le_refl _))
  have HK := Lib.hid (fun (v' : Value) (w' : World) (h : GaAt w' v' l) => krun_any c l v' a b w' h)
  obtain ⟨va, cap, rfl, hn, hcap, hc⟩ := hv
  clear hc
  by_cases hq : (runM c l a b).e = 0
  · obtain ⟨q1, q2, q3, q4⟩ := run_zero hq
    by_cases hm : (runM c l a b).lo ≤ m ∧ m ≤ (runM c l a b).hi
    · have HW := Lib.hid (show witE c l a b m = 0 by unfold witE; rw [if_pos hq, if_pos hm])
      have HG := Lib.hid (show witG c l a b m = witM c (l ++ [gEx a.toNat b.toNat m]) by unfold witG; rw [HW.out, if_pos rfl])
      have HQ := Lib.hid hq
      have HM := Lib.hid (show decide ((runM c l a b).lo ≤ m ∧ m ≤ (runM c l a b).hi) = true by simpa using hm)
      rw [q3, q4] at hm
      obtain ⟨hchk, ha, hab, hbn⟩ := crun_zero q1
      clear q1 q3 q4 hq
      generalize runM c l a b = r at *
      obtain ⟨lo, hi, e0⟩ := r
      dsimp only at HQ HM HK
      obtain rfl := HQ.out
      obtain ⟨n, pi, li⟩ := c
      obtain ⟨n, rfl⟩ : ∃ m : Nat, n = m := ⟨n.toNat, by dsimp only at hbn; omega⟩
      obtain ⟨a, rfl⟩ : ∃ m : Nat, a = m := ⟨a.toNat, by omega⟩
      obtain ⟨b, rfl⟩ : ∃ m : Nat, b = m := ⟨b.toNat, by omega⟩
      dsimp only at hbn
      simp only [Int.toNat_natCast] at hm HG
      obtain ⟨hC1, hC2, hC3⟩ := chk_goks hchk
      have n24 : n ≤ 24 := by have := hC1.n2; dsimp only at this; omega
      have hagr := (agreeB_iff hC1 hC2).1 q2
      have hbn' : b ≤ (CN n pi li).n.toNat := by simp; omega
      have hl' : GOks (CN n pi li) (l ++ [gEx a b m]) := GOks.append hC2 (GOks.one (gEx_ok hC1 hC2 hagr (by omega) hbn' hm.1 hm.2))
      have HAG := Lib.hid ((agreeB_iff hC1 hl').2 (between hC1 hC2 hagr (by omega) hbn' hm.1 hm.2))
      have HL := Lib.hid hl'
      have HC := Lib.hid (show COk (CN n pi li) from hC1)
      clear hm hchk q2 hC1 hC2 hagr hbn' hl' HQ
      go_enter Try.func13, Try.ntmps13
      go_wp2_with fail
      generalize hwA : w.alloc (Obj.cells #[.int .i64 n, .int .i64 pi, .int .i64 li] 23) = wA at *
      clear hwA
      go_wp2_with fail
      refine (HK.out _ _ HV.out).mono ?_
      rintro e w1 ⟨rfl, hb1⟩
      go_upto_region 7 with (go_at_call 49; refine (kwithin_is _ m lo hi _ HM.out).mono ?_; rintro e w' ⟨rfl, rfl⟩)
      have kC := (hb1.block _ (lt_of_block K0.out)).trans K0.out
      have hGA := HV.out.below hb1 (Nat.le_refl _)
      have hbw1 := HB.out.trans (hb1.mono HB.out.size)
      have zC := lt_of_block kC
      clear hb1
      have bd : Below w1.heap.size w1 ((w1.alloc (Obj.cells #[.int .i64 lo, .int .i64 hi] 45)).alloc (Obj.cells #[.int .i64 a, .int .i64 b, .int .i64 m, .int .i64 m] 53)) := ((Below.refl _ _).alloc (Nat.le_refl _) _).alloc (by simp) _
      have kG := two_nw w1 (Obj.cells #[.int .i64 lo, .int .i64 hi] 45) (Obj.cells #[.int .i64 a, .int .i64 b, .int .i64 m, .int .i64 m] 53)
      have kC2 := (bd.block _ zC).trans kC
      have hGA2 := hGA.below bd (Nat.le_refl _)
      generalize (w1.alloc (Obj.cells #[.int .i64 lo, .int .i64 hi] 45)).alloc (Obj.cells #[.int .i64 a, .int .i64 b, .int .i64 m, .int .i64 m] 53) = wd at *
      have bd0 := bd
      have zG := lt_of_block kG
      have zC2 := lt_of_block kC2
      have D : ∀ w', Below wd.heap.size wd w' → ((w'.cell? ⟨w.heap.size, 0, none⟩ = some (.int .i64 n) ∧ w'.cell? ⟨w.heap.size, 1, none⟩ = some (.int .i64 pi) ∧ w'.cell? ⟨w.heap.size, 2, none⟩ = some (.int .i64 li)) ∧
          (w'.cell? ⟨w1.heap.size + 1, 0, none⟩ = some (.int .i64 a) ∧ w'.cell? ⟨w1.heap.size + 1, 1, none⟩ = some (.int .i64 b) ∧ w'.cell? ⟨w1.heap.size + 1, 2, none⟩ = some (.int .i64 m) ∧ w'.cell? ⟨w1.heap.size + 1, 3, none⟩ = some (.int .i64 m))) ∧ Below wd.heap.size wd w' := by
        intro w' h
        have c1 := block_cell ((h.block _ zC2).trans kC2)
        have c2 := block_cell ((h.block _ zG).trans kG)
        exact ⟨⟨⟨c1 0, c1 1, c1 2⟩, ⟨c2 0, c2 1, c2 2, c2 3⟩⟩, h⟩
      have HA := Lib.hid (concat_in hGA2 hC3 a b m _ (blw2 wd _ _) (wd.heap.size + 1) wd.heap.size 0 (two_od wd (gB a b m) (mB va l.length cap wd.heap.size)) (two_nw wd _ _) (fun _ => True) (fun _ _ => trivial))
      have HB2 := Lib.hid (concat_in hGA2 hC3 a b m _ (blw3 wd _ _ _) (wd.heap.size + 2) (wd.heap.size + 1) 0 (three_1 wd zB (gB a b m) (mB va l.length cap (wd.heap.size + 1))) (three_2 wd _ _ _) (fun w' => w'.heap[wd.heap.size]? = some zB) (fun _ h => keepZ (three_0 wd _ _ _) h))
      have HB3 := Lib.hid (concat_in hGA2 hC3 a b m _ (blw3 wd _ _ _) (wd.heap.size + 2) wd.heap.size 0 (three_0 wd (gB a b m) zB (mB va l.length cap wd.heap.size)) (three_2 wd _ _ _) (fun w' => w'.heap[wd.heap.size + 1]? = some zB) (fun _ h => keepZ (three_1 wd _ _ _) h))
      have HB4 := Lib.hid (concat_in hGA2 hC3 a b m _ (blw3 wd _ _ _) (wd.heap.size + 1) wd.heap.size 0 (three_0 wd (gB a b m) (mB va l.length cap wd.heap.size) zB) (three_1 wd _ _ _) (fun w' => w'.heap[wd.heap.size + 2]? = some zB) (fun _ h => keepZ (three_2 wd _ _ _) h))
      have HF := Lib.hid (fun (v' : Value) (w' : World) (h : GaAt w' v' (l ++ [gEx a b m])) => follow_more h HC.out HL.out (by simp; omega))
      have hzb := zeroBounds
      clear kC hGA bd hGA2
      go_cut [15] (fun s15 wx => ∃ p, s15 = .pointer (some ⟨p, 0, none⟩) ∧ Hid (∃ M1, wx.heap[p]? = some (Obj.cells (netC M1) 106) ∧ ∀ i k, i ≤ n → k ≤ n → M1 i k = RM (CN n pi li) (l ++ [gEx a b m]) i k) ∧ Hid (Below wd.heap.size wd wx))
      case first =>
        go_region_held3 (fun w' => ((w'.cell? ⟨w.heap.size, 0, none⟩ = some (.int .i64 n) ∧ w'.cell? ⟨w.heap.size, 1, none⟩ = some (.int .i64 pi) ∧ w'.cell? ⟨w.heap.size, 2, none⟩ = some (.int .i64 li)) ∧
          (w'.cell? ⟨w1.heap.size + 1, 0, none⟩ = some (.int .i64 a) ∧ w'.cell? ⟨w1.heap.size + 1, 1, none⟩ = some (.int .i64 b) ∧ w'.cell? ⟨w1.heap.size + 1, 2, none⟩ = some (.int .i64 m) ∧ w'.cell? ⟨w1.heap.size + 1, 3, none⟩ = some (.int .i64 m))) ∧ Below wd.heap.size wd w')
          (first | (with_reducible exact D _ (Below.drew (Below.refl _ _))) | (with_reducible exact D _ hB1) | (refine D _ ?_; repeat' (first | (with_reducible exact hB1) | (with_reducible exact Below.refl _ _) | (with_reducible refine Below.drew ?_) | (with_reducible refine Below.alloc ?_ ?_ _) | (with_reducible refine bel_setCells ?_ _ _ _ ?_) | exact Nat.le_refl _ | exact Nat.le_succ _ | exact al_le _ _ | exact hB1.size | exact hBa | exact Nat.le_trans (al_le _ _) (al_le _ _) | exact Nat.le_add_right _ _ | exact Nat.le_succ_of_le (Nat.le_succ _))) | fail)
          (first | (go_at_call 51; (first | with_reducible refine HA.out.mono ?_ | with_reducible refine HB2.out.mono ?_ | with_reducible refine HB3.out.mono ?_ | with_reducible refine HB4.out.mono ?_); rintro e w2 ⟨v2, rfl, hE2, hB1, hZ⟩; have hBa := hB1.size) | (go_at_call 50; (first | with_reducible refine (HF.out _ _ hE2).mono ?_ | with_reducible refine (HF.out _ _ (hE2.below ((Below.refl _ _).alloc (Nat.le_refl _) zB) (Nat.le_refl _))).mono ?_); rintro e w3 ⟨M1, rfl, hb3, hM⟩; (first | (have hz3 := keepZ hZ hb3) | (have hz3 := keepZ (block_new w2 zB _ rfl) hb3) | (have hz3 := block_new w3 zB _ rfl)); (first | (have hB1 := hB1.trans (hb3.mono hB1.size)) | (have hB1 := hB1.trans ((below_unalloc hb3).mono hB1.size))); have hM := hM HAG.out; have hone := netC_ones M1; have hll := netC_ll M1; have hth := bounds_there hz3 M1; have hsi := bounds_info; have hov := bounds_over hz3 M1))
        all_goals
          go_wp2_with fail
          go_meet
          exact ⟨_, rfl, ⟨M1, hov, hM⟩, Lib.hid (by repeat' (first | (with_reducible exact hB1) | (with_reducible exact Below.refl _ _) | (with_reducible refine Below.drew ?_) | (with_reducible refine Below.alloc ?_ ?_ _) | (with_reducible refine bel_setCells ?_ _ _ _ ?_) | exact Nat.le_refl _ | exact Nat.le_succ _ | exact al_le _ _ | exact hB1.size | exact hBa | exact Nat.le_trans (al_le _ _) (al_le _ _) | exact Nat.le_add_right _ _ | exact Nat.le_succ_of_le (Nat.le_succ _)))⟩
      case rest =>
        obtain ⟨p, rfl, hM0, hbx⟩ := hcut
        obtain ⟨M1, kb, hM⟩ := hM0.out
        have kC3 := (hbx.out.block _ zC2).trans kC2
        have hce := block_cell kC3
        have hmk := run_make_row' (P := Try.prog) 29 3 (.int .i64 0) 8 Try.underlying29 (by kernel_rfl) rfl .i64 .i64 n (by omega) (by omega)
        have HMM := Lib.hid hM
        have HBW := Lib.hid (hbw1.trans ((bd0.trans (hbx.out.mono bd0.size)).mono hbw1.size))
        have R0 := Lib.hid (show WitRel M1 n wc (wc.alloc (.cells (madeCells #[.int .i64 0] n) 3)) p wc.heap.size 0 from
          ⟨(Below.refl _ _).alloc (Nat.le_refl _) _, block_alloc kb _, fun _ => 0, by rw [rowC_zero]; exact block_new _ _ _ rfl, fun i hi => by omega⟩)
        have hce2 := block_cell (block_alloc kC3 (.cells (madeCells #[.int .i64 0] n) 3))
        have zp := lt_of_block kb
        clear hM kb kC3 hM0 kC2 kG D HA HB2 HB3 HB4 HF hzb
        go_wp2_with fail
        go_loopw [58] (fun v wr => ∃ k : Nat, k ≤ n ∧ v = .int .i64 k ∧ Hid (WitRel M1 n wc wr p wc.heap.size k)) (fun v _ => n - (intOf v).toNat)
        case atStart => exact ⟨0, by omega, rfl, R0.out⟩
        case round =>
          obtain ⟨k, hk, rfl, hR⟩ := hrel
          by_cases hlt : k < n
          · obtain ⟨h1, h2, f, h3, h4⟩ := hR.out
            have u0 := HMM.out 0 (k + 1) (by omega) (by omega)
            have e1 := HMM.out (k + 1) 0 (by omega) (by omega)
            have e0 := HMM.out k 0 (by omega) (by omega)
            have r1 := RM_small HC.out HL.out (i := k + 1) (k := 0) (by simp; omega) (Nat.zero_le _)
            have r0 := RM_small HC.out HL.out (i := k) (k := 0) (by simp; omega) (Nat.zero_le _)
            rw [← e1] at r1
            rw [← e0] at r0
            have k1 : (0 : Int) ≤ k := by omega
            have k2 : (k : Int) < n := by omega
            have k3 : ((k : Int)).toNat = k := by omega
            have hw1 : IntKind.i64.wrap ((k : Int) + 1) = (k + 1 : Nat) := by rw [IntKind.wrap_i64]; omega
            have HV2 := Lib.hid (show wrap64 (-M1 (k + 1) 0 + M1 k 0) = -M1 (k + 1) 0 - -M1 k 0 by unfold wrap64; omega)
            have c1 := h3.at hlt
            have f1 := block_free h3 k
            clear u0 e1 e0
            have hf0 := spanField0
            go_wp2_with fail
            refine (brun0 M1 p (k + 1) _ _ h2 (by omega) (by omega) (by omega) (by omega)).mono ?_
            rintro e w4 ⟨rfl, hb4⟩
            have h2' := (hb4.block _ (lt_of_block h2)).trans h2
            go_wp2_with fail
            refine (brun0 M1 p k _ _ h2' rfl (by omega) (by omega) (by omega)).mono ?_
            rintro e w5 ⟨rfl, hb5⟩
            have hb45 := hb4.trans (hb5.mono hb4.size)
            have c5 := (hb45.cell (p := ⟨wc.heap.size, k, none⟩) (lt_of_block h3)).trans c1
            have f5 := (hb45.frozen (p := ⟨wc.heap.size, k, none⟩) (lt_of_block h3)).trans f1
            have q1 := (h1.trans (hb45.mono h1.size)).setCell (p := ⟨wc.heap.size, k, none⟩) (Nat.le_refl _) (.int .i64 (-M1 (k + 1) 0 - -M1 k 0))
            have q2 := block_set_other ((hb45.block _ (lt_of_block h2)).trans h2) (p := ⟨wc.heap.size, k, none⟩) (by show p ≠ wc.heap.size; omega) (.int .i64 (-M1 (k + 1) 0 - -M1 k 0))
            have q3 := RowAt.set (show RowAt w5 wc.heap.size 3 n f from (hb45.block _ (lt_of_block h3)).trans h3) k (-M1 (k + 1) 0 - -M1 k 0)
            have q4 : ∀ i, i < k + 1 → (fun j => if j = k then -M1 (k + 1) 0 - -M1 k 0 else f j) i = -M1 (i + 1) 0 - -M1 i 0 := fun i hi => by
              dsimp only
              by_cases e : i = k
              · rw [if_pos e, e]
              · rw [if_neg e]; exact h4 i (by omega)
            have HQ := Lib.hid (show WitRel M1 n wc _ p wc.heap.size (k + 1) from ⟨q1, q2, _, q3, q4⟩)
            clear q1 q2 q3 q4 h1 h2 h2' h3 h4 hb4 hb5 hb45 r1 r0 c1 f1
            go_wp2_with fail
            go_roundw
            case rel => exact ⟨k + 1, hlt, by go_num, by rw [HV2.out]; exact HQ⟩
            case measure => simp [intOf]; omega
          · obtain rfl : k = n := by omega
            obtain ⟨h1, h2, f, h3, h4⟩ := hR.out
            have HI := Lib.hid (h3.in_ (by omega))
            have HE := Lib.hid (show (List.range k).map f = witG ⟨k, pi, li⟩ l a b m by
              rw [HG.out]
              unfold witM nearM lowM
              simp only [Int.toNat_natCast]
              refine List.map_congr_left fun i hi => ?_
              rw [List.mem_range] at hi
              rw [h4 i hi, HMM.out (i + 1) 0 (by omega) (by omega), HMM.out i 0 (by omega) (by omega)])
            have HZ := Lib.hid (HBW.out.trans (h1.mono (Nat.le_trans HBW.out.size (Nat.le_refl _))))
            clear h1 h2 h3 h4
            go_wp2_with fail
            refine bodyPost_ret (v := .tuple #[.slice (some ⟨wc.heap.size, 0, none⟩) k k, .int .i64 0]) ?_ rfl ⟨_, by rw [HW.out], by rw [← HE.out]; exact HI.out, HZ.out⟩
            simp [results, Try.results13, go_sem]
    · have HW := Lib.hid (show witE c l a b m = 1 by unfold witE; rw [if_pos hq, if_neg hm])
      have HG := Lib.hid (show witG c l a b m = [] by unfold witG; rw [HW.out, if_neg (by decide)])
      have HQ := Lib.hid hq
      have HM := Lib.hid (show decide ((runM c l a b).lo ≤ m ∧ m ≤ (runM c l a b).hi) = false by simpa using hm)
      clear hq hm q1 q2 q3 q4
      generalize runM c l a b = r at *
      obtain ⟨lo, hi, e0⟩ := r
      dsimp only at *
      obtain rfl := HQ.out
      go_enter Try.func13, Try.ntmps13
      go_wp2_with fail
      generalize hwA : w.alloc (Obj.cells #[.int .i64 c.n, .int .i64 c.pi, .int .i64 c.li] 23) = wA at *
      clear hwA
      go_wp2_with fail
      refine (HK.out _ _ HV.out).mono ?_
      rintro e w1 ⟨rfl, hb1⟩
      have HBW := Lib.hid (HB.out.trans (hb1.mono HB.out.size))
      clear hb1
      go_wp2_with (go_at_call 49; refine (kwithin_is _ m lo hi _ HM.out).mono ?_; rintro e w' ⟨rfl, rfl⟩)
      refine bodyPost_ret (v := .tuple #[.slice none 0 0, .int .i64 1]) ?_ rfl ⟨_, by rw [HW.out], by rw [HG.out]; exact InAt.nil _, ?_⟩
      · simp [results, Try.results13, go_sem]
      · have hzz := HBW.out.size
        repeat' (first | exact HBW.out | (with_reducible refine Below.drew ?_) | (with_reducible refine Below.alloc ?_ ?_ _) | (with_reducible refine Below.setCell ?_ ?_ _))
        all_goals (first | omega | (simp; done) | (simp; omega))
  · have HW := Lib.hid (show witE c l a b m = (runM c l a b).e by unfold witE; rw [if_neg hq])
    have HG := Lib.hid (show witG c l a b m = [] by unfold witG; rw [HW.out, if_neg hq])
    generalize runM c l a b = r at *
    obtain ⟨lo, hi, e0⟩ := r
    dsimp only at *
    go_enter Try.func13, Try.ntmps13
    go_wp2_with fail
    generalize hwA : w.alloc (Obj.cells #[.int .i64 c.n, .int .i64 c.pi, .int .i64 c.li] 23) = wA at *
    clear hwA
    go_wp2_with fail
    refine (HK.out _ _ HV.out).mono ?_
    rintro e w1 ⟨rfl, hb1⟩
    have HBW := Lib.hid (HB.out.trans (hb1.mono HB.out.size))
    clear hb1
    go_wp2_with fail
    refine bodyPost_ret (v := .tuple #[.slice none 0 0, .int .i64 e0]) ?_ rfl ⟨_, by rw [HW.out], by rw [HG.out]; exact InAt.nil _, ?_⟩
    · simp [results, Try.results13, go_sem]
    · have hzz := HBW.out.size
      repeat' (first | exact HBW.out | (with_reducible refine Below.drew ?_) | (with_reducible refine Below.alloc ?_ ?_ _) | (with_reducible refine Below.setCell ?_ ?_ _))
      all_goals (first | omega | (simp; done) | (simp; omega))

end Go.Proofs.Ythgcnakbbmknoaa
