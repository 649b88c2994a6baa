/- Walks of the statements' own helpers (layer 2): Example, Far, sameInts, sameSpans. -/
import Derived.Test.YtkahhclmmlkpjaaQw
import Derived.RegionTactic
import Derived.Laws.StructEq
import Derived.ChangeAlike
namespace Go.Proofs.Ytkahhclmmlkpjaa
open Go.RowKit

theorem ints_eq {xs ys : List Int} (hl : xs.length = ys.length) (h : ∀ i, i < xs.length → xs.getD i 0 = ys.getD i 0) : xs = ys := by
  apply List.ext_getElem hl
  intro i h1 h2
  have := h i h1
  rwa [List.getD_eq_getElem?_getD, List.getD_eq_getElem?_getD, List.getElem?_eq_getElem h1, List.getElem?_eq_getElem h2] at this

set_option maxHeartbeats 1000000 in
theorem sameInts_any (v1 v2 : Value) (xs ys : List Int) (w : World) (h1 : InAt w v1 xs) (h2 : InAt w v2 ys) :
    Calls Try.prog 31 #[v1, v2] w fun e w' => e = .returned (.bool (decide (xs = ys))) ∧ Below w.heap.size w w' := by
  obtain ⟨a1, c1, rfl, n1, m1, hc1⟩ := h1
  obtain ⟨a2, c2, rfl, n2, m2, hc2⟩ := h2
  have HC1 := Lib.hid hc1
  have HC2 := Lib.hid hc2
  clear hc1 hc2
  by_cases hl : xs.length = ys.length
  · have hb : ((xs.length : Int) != (ys.length : Int)) = false := by simp; omega
    have HL := Lib.hid hl
    have hl1 : xs.length ≤ ys.length := by omega
    have hl2 : ys.length ≤ xs.length := by omega
    clear hl
    go_enter Try.func31, Try.ntmps31
    go_wp2_with fail
    go_loopw [5] (fun i wr => ∃ k : Nat, k ≤ xs.length ∧ i = .int .i64 k ∧ Below w.heap.size w wr ∧ Hid (∀ i, i < k → xs.getD i 0 = ys.getD i 0)) (fun i _ => xs.length - (intOf i).toNat)
    case atStart => exact ⟨0, Nat.zero_le _, rfl, Below.refl _ _, fun i hi => by omega⟩
    case round =>
      obtain ⟨k, hk, rfl, hbl, hf⟩ := hrel
      by_cases hlt : k < xs.length
      · obtain ⟨b1, o1, rfl, l1, hc1⟩ := HC1.out (by omega)
        obtain ⟨b2, o2, rfl, l2, hc2⟩ := HC2.out (by omega)
        have g1 := (hbl.cell (p := ⟨b1, o1 + k, none⟩) l1).trans (hc1 k hlt)
        have g2 := (hbl.cell (p := ⟨b2, o2 + k, none⟩) l2).trans (hc2 k (by omega))
        clear hc1 hc2
        generalize hp : xs.getD k 0 = p at g1
        generalize hq : ys.getD k 0 = q at g2
        have HP := Lib.hid hp
        have HQ := Lib.hid hq
        clear hp hq
        have i1 : (0 : Int) ≤ (k : Int) := by omega
        have i2 : (k : Int) < xs.length := by omega
        have i3 : (k : Int) < ys.length := by omega
        by_cases hpq : p = q
        · subst hpq
          have hpb : (p != p) = false := by simp
          go_wp2_with fail
          go_quiet (fail)
          go_wp2
          go_roundw
          case rel => exact ⟨k + 1, hlt, by go_num, below_drewN hbl _, fun i hi => by
            by_cases hik : i = k
            · rw [hik, HP.out, HQ.out]
            · exact hf.out i (by omega)⟩
          case measure => simp [intOf]; omega
        · have hpb : (p != q) = true := by simpa using hpq
          have HN := Lib.hid hpq
          clear hpq
          go_wp2_with fail
          go_quiet (fail)
          go_wp2
          go_ret
          exact ⟨ret_bool (by
            symm
            rw [decide_eq_false_iff_not]
            intro h
            exact HN.out (by rw [← HP.out, ← HQ.out, h])), below_drewN hbl _⟩
      · go_wp2
        go_ret
        exact ⟨ret_bool (by
          symm
          rw [decide_eq_true_eq]
          exact ints_eq HL.out (fun i hi => hf.out i (by omega))), hbl⟩
  · have hb : ((xs.length : Int) != (ys.length : Int)) = true := by simp; omega
    have HL := Lib.hid hl
    clear hl
    go_enter Try.func31, Try.ntmps31
    go_wp2
    go_ret
    exact ⟨ret_bool (by
      symm
      rw [decide_eq_false_iff_not]
      intro h
      exact HL.out (by rw [h])), Below.refl _ _⟩

theorem spans_eq {xs ys : List Spn} (hl : xs.length = ys.length) (h : ∀ i, i < xs.length → xs.getD i Spn.zero = ys.getD i Spn.zero) : xs = ys := by
  apply List.ext_getElem hl
  intro i h1 h2
  have := h i h1
  rwa [List.getD_eq_getElem?_getD, List.getD_eq_getElem?_getD, List.getElem?_eq_getElem h1, List.getElem?_eq_getElem h2] at this

/-- Elements that lie in a block of their own. -/
theorem ElAt.of_block {α : Type} {m : Nat} {f : α → List Value} (hf : ∀ x, (f x).length = m) {w : World} {b : Nat} {cs : Array Value} {T : TypeId} {xs : List α} {n : Nat} (h : w.heap[b]? = some (.cells cs T (0, 0))) (hc : cs.toList = xs.flatMap f) (hn : xs.length = n) (hm : n ≤ maxLen) :
    ElAt m f w (.slice (some ⟨b, 0, none⟩) n n) xs := by
  subst hn
  have hl : cs.toList.length = xs.length * m := by rw [hc]; exact flat_len hf xs
  exact ElAt.of_own hf (base := b) (e := T) ⟨flat_len hf xs, .inr ⟨b, xs.length, cs, rfl, Nat.le_refl _, h, Nat.le_refl _, hm, by simpa using hl, by rw [← hc, List.take_of_length_le (by omega)]⟩⟩

def exC : Chn := ⟨4, 100, 110⟩
def exL : List Gau := [⟨0, 2, 203, 205⟩, ⟨1, 4, 321, 324⟩]
def exP : Prt := ⟨[(1, 2), (5, 10)], 1, 300000, 1000⟩
def exU : List Us := [⟨100, 100000, 0, false, 0, 0⟩, ⟨200, 40000, 1, true, 400000, 600000⟩]

/-- What Example leaves. -/
def ExRes (w : World) (e : Ending) (w' : World) : Prop := ∃ v1 v2 v3, e = .returned (.tuple #[chnV exC, v1, prtV exP v2, v3]) ∧ GaAt w' v1 exL ∧ SpAt w' v2 exP.rs ∧ UsAt w' v3 exU ∧ Below w.heap.size w w'

set_option maxRecDepth 100000 in
set_option maxHeartbeats 4000000 in
theorem example_any (w : World) : Calls Try.prog 59 #[] w (ExRes w) := by
  go_enter Try.func59, Try.ntmps59
  go_wp2_with fail
  go_region
  go_wp2_with fail
  refine bodyPost_ret (v := .tuple #[chnV exC, .slice (some ⟨w.heap.size + 1 + 1 + 1, 0, none⟩) 2 2, prtV exP (.slice (some ⟨w.heap.size + 1 + 1 + 1 + 1, 0, none⟩) 2 2), .slice (some ⟨w.heap.size + 1 + 1 + 1 + 1 + 1 + 1, 0, none⟩) 2 2]) ?_ rfl ⟨_, _, _, rfl, ?_, ?_, ?_, ?_⟩
  · simp (maxDischargeDepth := 10) [results, Try.results59, go_sem, exC, exP]
  · refine ElAt.of_block (m := 4) (f := gauL) (fun _ => rfl) (cs := #[.int .i64 0, .int .i64 2, .int .i64 203, .int .i64 205, .int .i64 1, .int .i64 4, .int .i64 321, .int .i64 324]) (T := 74) ?_ rfl rfl (by decide)
    exact block_alloc (block_alloc (block_alloc (block_new _ _ _ (by simp only [size_alloc])) _) _) _
  · refine ElAt.of_block (m := 2) (f := spnL) (fun _ => rfl) (cs := #[.int .i64 1, .int .i64 2, .int .i64 5, .int .i64 10]) (T := 37) ?_ rfl rfl (by decide)
    exact block_alloc (block_alloc (block_new _ _ _ (by simp only [size_alloc])) _) _
  · refine ElAt.of_block (m := 6) (f := usL) (fun _ => rfl) (cs := #[.int .i64 100, .int .i64 100000, .int .i64 0, .bool false, .int .i64 0, .int .i64 0, .int .i64 200, .int .i64 40000, .int .i64 1, .bool true, .int .i64 400000, .int .i64 600000]) (T := 89) ?_ rfl rfl (by decide)
    exact block_new _ _ _ (by simp only [size_alloc])
  · repeat' (first | exact Below.refl w.heap.size w | (with_reducible refine Below.drew ?_) | (with_reducible refine Below.alloc ?_ ?_ _) | (with_reducible refine Below.setCell ?_ ?_ _))
    all_goals (first | omega | (simp; done) | (simp; omega))

set_option maxHeartbeats 1000000 in
theorem sameSpans_any (v1 v2 : Value) (xs ys : List Spn) (w : World) (h1 : SpAt w v1 xs) (h2 : SpAt w v2 ys) :
    Calls Try.prog 24 #[v1, v2] w fun e w' => e = .returned (.bool (decide (xs = ys))) ∧ Below w.heap.size w w' := by
  obtain ⟨a1, c1, rfl, n1, m1, hc1⟩ := h1
  obtain ⟨a2, c2, rfl, n2, m2, hc2⟩ := h2
  have HC1 := Lib.hid hc1
  have HC2 := Lib.hid hc2
  clear hc1 hc2
  by_cases hl : xs.length = ys.length
  · have hb : ((xs.length : Int) != (ys.length : Int)) = false := by simp; omega
    have HL := Lib.hid hl
    have hl1 : xs.length ≤ ys.length := by omega
    have hl2 : ys.length ≤ xs.length := by omega
    clear hl
    go_enter Try.func24, Try.ntmps24
    go_wp2_with fail
    go_loopw [5] (fun i wr => ∃ k : Nat, k ≤ xs.length ∧ i = .int .i64 k ∧ Below w.heap.size w wr ∧ Hid (∀ i, i < k → xs.getD i Spn.zero = ys.getD i Spn.zero)) (fun i _ => xs.length - (intOf i).toNat)
    case atStart => exact ⟨0, Nat.zero_le _, rfl, Below.refl _ _, fun i hi => by omega⟩
    case round =>
      obtain ⟨k, hk, rfl, hbl, hf⟩ := hrel
      by_cases hlt : k < xs.length
      · obtain ⟨b1, o1, rfl, l1, hc1⟩ := HC1.out (by omega)
        obtain ⟨b2, o2, rfl, l2, hc2⟩ := HC2.out (by omega)
        obtain ⟨g1, g3⟩ := sp_at hbl l1 hc1 hlt
        obtain ⟨g2, g4⟩ := sp_at hbl l2 hc2 (k := k) (by omega)
        clear hc1 hc2
        generalize hp : xs.getD k Spn.zero = p at g1 g3
        generalize hq : ys.getD k Spn.zero = q at g2 g4
        have HP := Lib.hid hp
        have HQ := Lib.hid hq
        clear hp hq
        have i1 : (0 : Int) ≤ (k : Int) := by omega
        have i2 : (k : Int) < xs.length := by omega
        have i3 : (k : Int) < ys.length := by omega
        by_cases hpq : p = q
        · subst hpq
          go_wp2_with fail
          go_quiet (fail)
          go_wp2
          go_roundw
          case rel => exact ⟨k + 1, hlt, by go_num, below_drewN hbl _, fun i hi => by
            by_cases hik : i = k
            · rw [hik, HP.out, HQ.out]
            · exact hf.out i (by omega)⟩
          case measure => simp [intOf]; omega
        · have HN := Lib.hid (show ¬ xs = ys from fun h => hpq (by rw [← HP.out, ← HQ.out, h]))
          obtain ⟨p1, p2⟩ := p
          obtain ⟨q1, q2⟩ := q
          dsimp only at g1 g2 g3 g4
          by_cases he1 : p1 = q1
          · subst he1
            have he2 : ¬ p2 = q2 := fun h => hpq (by rw [h])
            clear hpq
            go_wp2_with fail
            go_quiet (fail)
            go_wp2
            go_ret
            exact ⟨ret_bool (by
              symm
              rw [decide_eq_false_iff_not]
              exact HN.out), below_drewN hbl _⟩
          · clear hpq
            go_wp2_with fail
            go_quiet (fail)
            go_wp2
            go_ret
            exact ⟨ret_bool (by
              symm
              rw [decide_eq_false_iff_not]
              exact HN.out), below_drewN hbl _⟩
      · go_wp2
        go_ret
        exact ⟨ret_bool (by
          symm
          rw [decide_eq_true_eq]
          exact spans_eq HL.out (fun i hi => hf.out i (by omega))), hbl⟩
  · have hb : ((xs.length : Int) != (ys.length : Int)) = true := by simp; omega
    have HL := Lib.hid hl
    clear hl
    go_enter Try.func24, Try.ntmps24
    go_wp2
    go_ret
    exact ⟨ret_bool (by
      symm
      rw [decide_eq_false_iff_not]
      intro h
      exact HL.out (by rw [h])), Below.refl _ _⟩

set_option maxHeartbeats 400000 in
theorem far_any (l : List Gau) (v : Value) (w : World) (hv : GaAt w v l) : Calls Try.prog 17 #[v] w fun e w' => e = .returned (.bool (decide (42 < l.length))) ∧ w = w' := by
  obtain ⟨a, cap, rfl, hn, hcap, hc⟩ := hv
  clear hc
  go_enter Try.func17, Try.ntmps17
  go_wp2
  go_ret
  refine ⟨ret_bool ?_, rfl⟩
  simp
  omega

end Go.Proofs.Ytkahhclmmlkpjaa
