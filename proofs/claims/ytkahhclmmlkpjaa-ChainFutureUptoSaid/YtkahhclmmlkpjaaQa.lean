/- Walks of layer 2 (chain), parts: lookBack, Wear. -/
import Derived.Test.YtkahhclmmlkpjaaQz
import Derived.Test.YtkahhclmmlkpjaaBt
import Derived.Deep.RegionHeld3
import Derived.Deep.DeepCutAuto
namespace Go.Proofs.Ytkahhclmmlkpjaa
open Go.RowKit

/-- The wear behind each use when k of them have been narrowed. -/
def lbL (P : Prt) (l : List Us) (k : Nat) : List Spn := (List.range l.length).map fun i => if l.length ≤ i + 1 + k then wearAt P l i else rch P l (i + 1)
def wearL (P : Prt) (l : List Us) : List Spn := (List.range l.length).map fun i => wearAt P l i

theorem lbL_len (P : Prt) (l : List Us) (k : Nat) : (lbL P l k).length = l.length := by simp [lbL]
theorem wearL_len (P : Prt) (l : List Us) : (wearL P l).length = l.length := by simp [wearL]
theorem lbL_at (P : Prt) (l : List Us) (k : Nat) {i : Nat} (hi : i < l.length) : (lbL P l k)[i]? = some (if l.length ≤ i + 1 + k then wearAt P l i else rch P l (i + 1)) := by
  simp [lbL, hi]

theorem lbL_start (P : Prt) (l : List Us) : lbL P l 0 = sprL P l l.length := by
  unfold lbL sprL
  apply List.map_congr_left
  intro i hi
  rw [List.mem_range] at hi
  split
  · have e : i = l.length - 1 := by omega
    subst e
    unfold wearAt
    rw [show l.length - 1 - (l.length - 1) = 0 by omega, show l.length - 1 + 1 = l.length by omega]
    rfl
  · rfl

theorem lbL_end {P : Prt} {l : List Us} {k : Nat} (hk : l.length ≤ k + 1) : lbL P l k = wearL P l := by
  unfold lbL wearL
  apply List.map_congr_left
  intro i hi
  rw [if_pos (by omega)]

theorem lbL_step {P : Prt} {l : List Us} {k : Nat} (hk : k + 1 < l.length) : lbL P l (k + 1) = (lbL P l k).set (l.length - 2 - k) (common (rch P l (l.length - 1 - k)) ((bkd P l k).1 - addH P (l.getD (l.length - 1 - k) Us.zero), (bkd P l k).2 - addL P (l.getD (l.length - 1 - k) Us.zero))) := by
  apply List.ext_getElem?
  intro i
  rw [List.getElem?_set]
  rcases Nat.lt_or_ge i l.length with hi | hi
  · rw [lbL_at P l (k + 1) hi, lbL_at P l k hi]
    by_cases e : l.length - 2 - k = i
    · subst e
      rw [if_pos (by omega : l.length ≤ l.length - 2 - k + 1 + (k + 1)), if_pos rfl, if_pos (by rw [lbL_len]; omega)]
      unfold wearAt
      rw [show l.length - 1 - (l.length - 2 - k) = k + 1 by omega]
      rfl
    · rw [if_neg e]
      by_cases h2 : l.length ≤ i + 1 + k
      · rw [if_pos (by omega), if_pos h2]
      · rw [if_neg (by omega), if_neg h2]
  · rw [if_neg (by omega), List.getElem?_eq_none (by rw [lbL_len]; omega), List.getElem?_eq_none (by rw [lbL_len]; omega)]

/-- Spans in a block of their own. -/
def SpRow (w : World) (g : Nat) (cap : Nat) (xs : List Spn) : Prop :=
  ∃ cur, w.heap[g]? = some (.cells cur 37 (0, 0)) ∧ cur.size = cap * 2 ∧ cur.toList.take (xs.length * 2) = xs.flatMap spnL

theorem SpRow.cell {w : World} {g cap : Nat} {xs : List Spn} (h : SpRow w g cap xs) {i : Nat} {x : Spn} (hx : xs[i]? = some x) : w.cell? ⟨g, i * 2, none⟩ = some (.int .i64 x.1) ∧ w.cell? ⟨g, i * 2 + 1, none⟩ = some (.int .i64 x.2) := by
  obtain ⟨cur, h1, _, h3⟩ := h
  have hi : i < xs.length := (List.getElem?_eq_some_iff.1 hx).1
  have key : ∀ j u, (spnL x)[j]? = some u → w.cell? ⟨g, i * 2 + j, none⟩ = some u := by
    intro j u hu
    have e1 := flat_at (m := 2) (f := spnL) (fun _ => rfl) xs i x hx j u hu
    have hj : j < 2 := by simpa using (List.getElem?_eq_some_iff.1 hu).1
    rw [← h3, List.getElem?_take_of_lt (by omega), Array.getElem?_toList] at e1
    rw [block_cell h1]
    exact e1
  exact ⟨key 0 _ rfl, key 1 _ rfl⟩

theorem SpRow.free {w : World} {g cap : Nat} {xs : List Spn} (h : SpRow w g cap xs) (o : Nat) : w.frozen? ⟨g, o, none⟩ = false := by
  obtain ⟨cur, h1, _, _⟩ := h
  exact block_free h1 o

theorem SpRow.later {w w' : World} {g cap : Nat} {xs : List Spn} (h : SpRow w g cap xs) (hb : Below w.heap.size w w') : SpRow w' g cap xs := by
  obtain ⟨cur, h1, h2, h3⟩ := h
  exact ⟨cur, (hb.block g (lt_of_block h1)).trans h1, h2, h3⟩

theorem flat_set (xs : List Spn) (i : Nat) (x : Spn) (hi : i < xs.length) : ((xs.flatMap spnL).set (i * 2) (.int .i64 x.1)).set (i * 2 + 1) (.int .i64 x.2) = (xs.set i x).flatMap spnL := by
  induction xs generalizing i with
  | nil => simp at hi
  | cons y ys ih =>
    cases i with
    | zero => simp
    | succ i =>
      have := ih i (by simpa using hi)
      rw [List.set_cons_succ, List.flatMap_cons, List.flatMap_cons, ← this]
      rw [show (i + 1) * 2 = i * 2 + 1 + 1 by omega, show i * 2 + 1 + 1 + 1 = (i * 2 + 1) + 1 + 1 by omega]
      simp [spnL]

theorem SpRow.set {w : World} {g cap : Nat} {xs : List Spn} (h : SpRow w g cap xs) {i : Nat} (hi : i < xs.length) (x : Spn) : SpRow ((w.setCell ⟨g, i * 2, none⟩ (.int .i64 x.1)).setCell ⟨g, i * 2 + 1, none⟩ (.int .i64 x.2)) g cap (xs.set i x) := by
  obtain ⟨cur, h1, h2, h3⟩ := h
  refine ⟨_, block_set (block_set h1 (i * 2) _) (i * 2 + 1) _, by simp [h2], ?_⟩
  rw [← flat_set xs i x hi, ← h3]
  simp only [Array.toList_setIfInBounds, List.length_set]
  rw [List.take_set, List.take_set]

theorem SpRow.of_own {w : World} {base g cap : Nat} {xs : List Spn} {n : Nat} (h : w.ownsRow base 37 2 (.slice (some ⟨g, 0, none⟩) n cap) n (xs.flatMap spnL)) : SpRow w g cap xs ∧ base ≤ g ∧ n ≤ cap ∧ cap ≤ maxLen ∧ xs.length = n := by
  obtain ⟨h0, h1 | ⟨g', cap', cur, h1, h2, h3, h4, h5, h6, h7⟩⟩ := h
  · obtain ⟨h1, _⟩ := h1; cases h1
  · injection h1 with e1 e2 e3
    injection e1 with e1
    injection e1 with e1
    subst e1; subst e3
    have hl : xs.length = n := by rw [flat_len (m := 2) (f := spnL) (fun _ => rfl)] at h0; omega
    exact ⟨⟨cur, h3, h6, by rw [hl]; exact h7⟩, h2, h4, h5, hl⟩

theorem SpRow.own {w : World} {base g cap : Nat} {xs : List Spn} {n : Nat} (h : SpRow w g cap xs) (hb : base ≤ g) (hn : n ≤ cap) (hc : cap ≤ maxLen) (hl : xs.length = n) : w.ownsRow base 37 2 (.slice (some ⟨g, 0, none⟩) n cap) n (xs.flatMap spnL) := by
  obtain ⟨cur, h1, h2, h3⟩ := h
  subst hl
  exact ⟨flat_len (m := 2) (f := spnL) (fun _ => rfl) xs, .inr ⟨g, cap, cur, rfl, hb, h1, hn, hc, h2, h3⟩⟩

theorem le_setCell (w : World) (p : Addr) (u : Value) : w.heap.size ≤ (w.setCell p u).heap.size := by simp

theorem set2_other {w : World} {b c : Nat} {x : Option Obj} (h : w.heap[b]? = x) (hne : b ≠ c) (u1 u2 : Value) : ((w.setCell ⟨c, 0, none⟩ u1).setCell ⟨c, 1, none⟩ u2).heap[b]? = x :=
  block_set_other (p := ⟨c, 1, none⟩) (block_set_other (p := ⟨c, 0, none⟩) h hne u1) hne u2

theorem two_new (w : World) (o o' : Obj) : ((w.alloc o).alloc o').heap[w.heap.size + 1]? = some o' := block_new _ _ _ (size_alloc _ _).symm
theorem two_old (w : World) (o o' : Obj) : ((w.alloc o).alloc o').heap[w.heap.size]? = some o := block_alloc (block_new _ _ _ rfl) _

theorem below_cells {W w1 : World} (hb : Below W.heap.size W w1) : (∀ b o, b < W.heap.size → w1.cell? ⟨b, o, none⟩ = W.cell? ⟨b, o, none⟩) ∧ (∀ b o, b < W.heap.size → w1.frozen? ⟨b, o, none⟩ = W.frozen? ⟨b, o, none⟩) :=
  ⟨fun b o h => hb.cell (p := ⟨b, o, none⟩) h, fun b o h => hb.frozen (p := ⟨b, o, none⟩) h⟩

set_option maxRecDepth 100000 in
set_option maxHeartbeats 4000000 in
theorem lookBack_any (P : Prt) (l : List Us) (bv v : Value) (g gc : Nat) (w0 w : World) (hv : SpAt w0 bv P.rs) (hl : UsAt w0 v l) (hbw : Below w0.heap.size w0 w) (hg0 : w0.heap.size ≤ g) (hf : partM P l = 0) (hg : SpRow w g gc (sprL P l l.length)) (_hgn : l.length ≤ gc) (_hcp : gc ≤ maxLen) :
    Calls Try.prog 82 #[prtV P bv, v, .slice (some ⟨g, 0, none⟩) l.length gc] w fun e w' => e = .returned (.tuple #[]) ∧ Below g w w' ∧ SpRow w' g gc (wearL P l) := by
  obtain ⟨hP, h40, hU⟩ := partM_ok hf
  have hgl : g < w.heap.size := by obtain ⟨_, h1, _⟩ := hg; exact lt_of_block h1
  have hb0 := (Below.refl w.heap.size w).alloc (Nat.le_refl _) (Obj.cells #[bv, .int .i64 P.wo, .int .i64 P.tu, .int .i64 P.ag] 54)
  have k0 := block_new w (Obj.cells #[bv, .int .i64 P.wo, .int .i64 P.tu, .int .i64 P.ag] 54) w.heap.size rfl
  have hbA := hbw.trans (hb0.mono hbw.size)
  have R0 := Lib.hid (show SpRow (w.alloc (Obj.cells #[bv, .int .i64 P.wo, .int .i64 P.tu, .int .i64 P.ag] 54)) g gc (lbL P l 0) by rw [lbL_start]; exact hg.later hb0)
  have HV := Lib.hid hv
  obtain ⟨a, cap, rfl, hn, hcap, hc⟩ := hv
  obtain ⟨ua, ucap, rfl, un, ucl, uc⟩ := hl
  have HUC := Lib.hid uc
  have HP := Lib.hid hP
  have HU := Lib.hid hU
  have HBD := Lib.hid (fun i (hi : i ≤ l.length) => rch_bd40 hP h40 hU hi)
  have HBK := Lib.hid (bkd_bd hP h40 hU)
  have HB := Lib.hid hb0
  have HA := Lib.hid hbA
  have K0 := Lib.hid k0
  unfold maxLen at _hcp
  clear uc hc hf hP hU hg hb0 hbA hbw k0
  go_enter Try.func82, Try.ntmps82
  go_wp2_with fail
  generalize w.alloc (Obj.cells #[Value.slice a P.rs.length cap, .int .i64 P.wo, .int .i64 P.tu, .int .i64 P.ag] 54) = wA at *
  go_wp2_with fail
  go_loopw [13] (fun i wr => ∃ k : Nat, (k : Int) ≤ max 0 ((l.length : Int) - 1) ∧ i = .int .i64 k ∧ Hid (Below g wA wr) ∧ Hid (wr.heap[w.heap.size]? = some (Obj.cells #[Value.slice a P.rs.length cap, .int .i64 P.wo, .int .i64 P.tu, .int .i64 P.ag] 54)) ∧ Hid (SpRow wr g gc (lbL P l k))) (fun i _ => l.length - (intOf i).toNat)
  case atStart => exact ⟨0, by omega, rfl, Below.refl _ _, K0.out, R0.out⟩
  case round =>
    obtain ⟨k, hk, rfl, hb, hK, hR⟩ := hrel
    have HBR := Lib.hid (HA.out.trans (hb.out.mono hg0))
    by_cases hlt : (k : Int) < (l.length : Int) - 1
    · obtain ⟨j, hj⟩ : ∃ j : Nat, l.length = j + 2 + k := ⟨l.length - 2 - k, by omega⟩
      have hE : (l.length : Int) - 2 - k = (j : Int) := by omega
      obtain ⟨b, off, rfl, hbl, hc⟩ := HUC.out (by omega)
      obtain ⟨g1, g2, g3, g4, g5, g6⟩ := us_at HBR.out hbl hc (k := j + 1) (by omega)
      obtain ⟨s1, s2⟩ := hR.out.cell (lbL_at P l k (i := j + 1) (by omega))
      obtain ⟨s3, s4⟩ := hR.out.cell (lbL_at P l k (i := j) (by omega))
      have hu := HU.out (j + 1) (by omega)
      have ha := add_ok HP.out hu
      have e1 : (if l.length ≤ j + 1 + 1 + k then wearAt P l (j + 1) else rch P l (j + 1 + 1)) = bkd P l k := by
        rw [if_pos (by omega)]; unfold wearAt; rw [show l.length - 1 - (j + 1) = k by omega]
      have e2 : (if l.length ≤ j + 1 + k then wearAt P l j else rch P l (j + 1)) = rch P l (l.length - 1 - k) := by
        rw [if_neg (by omega), show l.length - 1 - k = j + 1 by omega]
      rw [e1] at s1 s2
      rw [e2] at s3 s4
      have hbk := HBK.out k (by omega)
      have hrc := HBD.out (l.length - 1 - k) (by omega)
      have HST := Lib.hid (lbL_step (P := P) (l := l) (k := k) (by omega))
      have e3 : l.length - 1 - k = j + 1 := by omega
      have e4 : l.length - 2 - k = j := by omega
      rw [e3] at s3 s4 hrc HST
      rw [e4] at HST
      have HUU := Lib.hid hu
      have hc0 := block_cell hK.out
      have z0 := lt_of_block hK.out
      have zb : b < wr.heap.size := by have := HBR.out.size; omega
      have zg : g < wr.heap.size := by have := hb.out.size; have := HB.out.size; omega
      clear e1 e2 e3 e4 hc hu
      generalize bkd P l k = y at *
      generalize rch P l (j + 1) = x at *
      generalize hq0 : l.getD (j + 1) Us.zero = u at *
      have HU0 := Lib.hid hq0
      have HJ := Lib.hid hj
      clear hq0 hj
      have j1 : (0 : Int) ≤ (j : Int) := by omega
      have j2 : (j : Int) < l.length := by have := HJ.out; omega
      have j3 : (0 : Int) ≤ (j : Int) + 1 := by omega
      have j4 : (j : Int) + 1 < l.length := by have := HJ.out; omega
      have j5 : ((j : Int) + 1).toNat = j + 1 := by omega
      have j6 : IntKind.i64.wrap ((j : Int) + 1) = (j : Int) + 1 := by rw [IntKind.wrap_i64]; omega
      have D : ∀ w', Below wr.heap.size wr w' → ((w'.cell? ⟨g, (j + 1) * 2, none⟩ = some (.int .i64 y.1) ∧ w'.cell? ⟨g, (j + 1) * 2 + 1, none⟩ = some (.int .i64 y.2)) ∧
          (w'.cell? ⟨w.heap.size, 0, none⟩ = some (Value.slice a P.rs.length cap) ∧ w'.cell? ⟨w.heap.size, 1, none⟩ = some (.int .i64 P.wo) ∧ w'.cell? ⟨w.heap.size, 2, none⟩ = some (.int .i64 P.tu) ∧ w'.cell? ⟨w.heap.size, 3, none⟩ = some (.int .i64 P.ag)) ∧
          (w'.cell? ⟨b, off + (j + 1) * 6, none⟩ = some (.int .i64 u.d) ∧ w'.cell? ⟨b, off + (j + 1) * 6 + 1, none⟩ = some (.int .i64 u.t) ∧ w'.cell? ⟨b, off + (j + 1) * 6 + 2, none⟩ = some (.int .i64 u.c) ∧ w'.cell? ⟨b, off + (j + 1) * 6 + 3, none⟩ = some (.bool u.m) ∧ w'.cell? ⟨b, off + (j + 1) * 6 + 4, none⟩ = some (.int .i64 u.lo) ∧ w'.cell? ⟨b, off + (j + 1) * 6 + 5, none⟩ = some (.int .i64 u.hi))) ∧ Below wr.heap.size wr w' := by
        intro w' h
        exact ⟨⟨⟨(h.cell zg).trans s1, (h.cell zg).trans s2⟩, ⟨(h.cell z0).trans (hc0 0), (h.cell z0).trans (hc0 1), (h.cell z0).trans (hc0 2), (h.cell z0).trans (hc0 3)⟩, ⟨(h.cell zb).trans g1, (h.cell zb).trans g2, (h.cell zb).trans g3, (h.cell zb).trans g4, (h.cell zb).trans g5, (h.cell zb).trans g6⟩⟩, h⟩
      clear s1 s2 g1 g2 g3 g4 g5 g6 hc0
      go_upto_region 5 with fail
      go_cut [8, 9] (fun s8 s9 wx => ∃ p8 p9 : Nat, s8 = .pointer (some ⟨p8, 0, none⟩) ∧ s9 = .pointer (some ⟨p9, 0, none⟩) ∧ Hid (wx.heap[p8]? = some (Obj.cells #[.int .i64 y.1, .int .i64 y.2] 37)) ∧ Hid (wx.heap[p9]? = some (Obj.cells #[.int .i64 (addL P u), .int .i64 (addH P u)] 37)) ∧ Hid (Below wr.heap.size wr wx))
      case first =>
        go_region_held3 (fun w' => ((w'.cell? ⟨g, (j + 1) * 2, none⟩ = some (.int .i64 y.1) ∧ w'.cell? ⟨g, (j + 1) * 2 + 1, none⟩ = some (.int .i64 y.2)) ∧
          (w'.cell? ⟨w.heap.size, 0, none⟩ = some (Value.slice a P.rs.length cap) ∧ w'.cell? ⟨w.heap.size, 1, none⟩ = some (.int .i64 P.wo) ∧ w'.cell? ⟨w.heap.size, 2, none⟩ = some (.int .i64 P.tu) ∧ w'.cell? ⟨w.heap.size, 3, none⟩ = some (.int .i64 P.ag)) ∧
          (w'.cell? ⟨b, off + (j + 1) * 6, none⟩ = some (.int .i64 u.d) ∧ w'.cell? ⟨b, off + (j + 1) * 6 + 1, none⟩ = some (.int .i64 u.t) ∧ w'.cell? ⟨b, off + (j + 1) * 6 + 2, none⟩ = some (.int .i64 u.c) ∧ w'.cell? ⟨b, off + (j + 1) * 6 + 3, none⟩ = some (.bool u.m) ∧ w'.cell? ⟨b, off + (j + 1) * 6 + 4, none⟩ = some (.int .i64 u.lo) ∧ w'.cell? ⟨b, off + (j + 1) * 6 + 5, none⟩ = some (.int .i64 u.hi))) ∧ Below wr.heap.size wr w')
          (first | (with_reducible exact D _ (Below.drew (Below.refl _ _))) | (with_reducible exact D _ hB1) | (refine D _ ?_; repeat' (first | (with_reducible exact hB1) | (with_reducible exact Below.refl _ _) | (with_reducible refine Below.drew ?_) | (with_reducible refine Below.alloc ?_ ?_ _) | (with_reducible refine Below.setCell ?_ ?_ _) | exact q1 | exact Nat.le_refl _ | exact Nat.le_succ_of_le q1 | exact Nat.le_succ _ | refine Nat.le_trans ?_ (le_alloc _ _) | refine Nat.le_trans ?_ (le_setCell _ _ _))) | fail)
          (first | (go_at_call 102; have hB0 := And.right ‹_ ∧ Below wr.heap.size wr _›; have hs := HV.out.below (HBR.out.trans (hB0.mono HBR.out.size)) (Nat.le_refl _); refine (added_any P _ u _ _ hs HP.out HUU.out).mono ?_; clear hs; rintro e w1 ⟨rfl, hb1⟩; have hB1 := hB0.trans (hb1.mono hB0.size); have q1 := hB1.size; obtain ⟨hcl, hfz⟩ := below_cells hb1; (try have y0 : wr.heap.size < w1.heap.size := (by have h1 := hb1.size; (try simp at h1); omega)); (try have y1 : wr.heap.size + 1 < w1.heap.size := (by have h1 := hb1.size; (try simp at h1); omega))))
        all_goals
          go_wp2_with fail
          go_meet
        · exact ⟨_, _, rfl, rfl, two_old _ _ _, two_new _ _ _, And.right ‹_ ∧ Below wr.heap.size wr _›⟩
        · exact ⟨_, _, rfl, rfl, two_new _ _ _, two_old _ _ _, And.right ‹_ ∧ Below wr.heap.size wr _›⟩
        · have k := block_new wr (Obj.cells #[.int .i64 0, .int .i64 0] 37) wr.heap.size rfl
          have K0 := (hb1.block wr.heap.size (lt_of_block k)).trans k
          exact ⟨_, _, rfl, rfl, block_alloc (set2 K0 _ _) _, block_new _ _ _ (by simp), And.right ‹_ ∧ Below wr.heap.size wr _›⟩
        · have k := two_old wr (Obj.cells #[.int .i64 0, .int .i64 0] 37) (Obj.cells #[.int .i64 0, .int .i64 0] 37)
          have K0 := (hb1.block wr.heap.size (lt_of_block k)).trans k
          have k' := two_new wr (Obj.cells #[.int .i64 0, .int .i64 0] 37) (Obj.cells #[.int .i64 0, .int .i64 0] 37)
          have K1 := (hb1.block (wr.heap.size + 1) (lt_of_block k')).trans k'
          exact ⟨_, _, rfl, rfl, set2_other (set2 K0 _ _) (Nat.ne_of_lt (Nat.lt_succ_self _)) _ _, set2 (set2_other K1 (Nat.ne_of_gt (Nat.lt_succ_self _)) _ _) _ _, And.right ‹_ ∧ Below wr.heap.size wr _›⟩
        · have k := block_new wr (Obj.cells #[.int .i64 0, .int .i64 0] 37) wr.heap.size rfl
          have K0 := (hb1.block wr.heap.size (lt_of_block k)).trans k
          exact ⟨_, _, rfl, rfl, block_new _ _ _ (by simp), block_alloc (set2 K0 _ _) _, And.right ‹_ ∧ Below wr.heap.size wr _›⟩
        · have k := two_old wr (Obj.cells #[.int .i64 0, .int .i64 0] 37) (Obj.cells #[.int .i64 0, .int .i64 0] 37)
          have K0 := (hb1.block wr.heap.size (lt_of_block k)).trans k
          have k' := two_new wr (Obj.cells #[.int .i64 0, .int .i64 0] 37) (Obj.cells #[.int .i64 0, .int .i64 0] 37)
          have K1 := (hb1.block (wr.heap.size + 1) (lt_of_block k')).trans k'
          exact ⟨_, _, rfl, rfl, set2_other (set2 K1 _ _) (Nat.ne_of_gt (Nat.lt_succ_self _)) _ _, set2 (set2_other K0 (Nat.ne_of_lt (Nat.lt_succ_self _)) _ _) _ _, And.right ‹_ ∧ Below wr.heap.size wr _›⟩
      case rest =>
        obtain ⟨p8, p9, rfl, rfl, h8, h9, hbx⟩ := hcut
        have z8 := lt_of_block h8.out
        have z9 := lt_of_block h9.out
        have c8 := block_cell h8.out
        have c9 := block_cell h9.out
        have zgx : g < wc.heap.size := Nat.lt_of_lt_of_le zg hbx.out.size
        have e3 := (hbx.out.cell zg).trans s3
        have e4 := (hbx.out.cell zg).trans s4
        have f3 := (hbx.out.frozen (p := ⟨g, j * 2, none⟩) zg).trans (hR.out.free _)
        have f4 := (hbx.out.frozen (p := ⟨g, j * 2 + 1, none⟩) zg).trans (hR.out.free _)
        have x3 := bw_cell (B := wc.heap.size) e3 zgx
        have x4 := bw_cell (B := wc.heap.size) e4 zgx
        have x8 := bw_cells (B := wc.heap.size) h8.out z8
        have x9 := bw_cells (B := wc.heap.size) h9.out z9
        have HE3 := Lib.hid e3
        have HE4 := Lib.hid e4
        have HF3 := Lib.hid f3
        have HF4 := Lib.hid f4
        clear s3 s4 c8 c9 e3 e4 f3 f4 D
        have o1 : IntKind.i64.wrap (y.1 - addH P u) = y.1 - addH P u := by rw [IntKind.wrap_i64]; omega
        have o2 : IntKind.i64.wrap (y.2 - addL P u) = y.2 - addL P u := by rw [IntKind.wrap_i64]; omega
        go_wp2_with fail
        refine wp_region_belowtail 19 (by kernel_rfl) (by kernel_rfl) (Below.refl wc.heap.size wc) ?_
        simp only [List.take_succ_cons, List.take_zero, List.drop_succ_cons, List.drop_zero]
        repeat (refine wpQuiet_step (fun K hK => ?_); go_simp; first | (refine hK _ ?_; clear hK K) | (apply Exists.intro; refine ⟨fun _ => ?_, hK _ ?_⟩; (go_at_call 103; exact bw_call (Nat.le_refl _) (common_any x (y.1 - addH P u, y.2 - addL P u) _)); clear hK K))
        refine wpQuiet_nil ?_
        intro wq hwq0
        have hwq := bw_out hwq0
        clear hwq0
        have t3 := (hwq.cell zgx).trans HE3.out
        have t4 := (hwq.cell zgx).trans HE4.out
        have u3 := (hwq.frozen (p := ⟨g, j * 2, none⟩) zgx).trans HF3.out
        have u4 := (hwq.frozen (p := ⟨g, j * 2 + 1, none⟩) zgx).trans HF4.out
        have hgq : Below g wA wq := hb.out.trans ((hbx.out.mono (by omega)).trans (hwq.mono (by omega)))
        have HS1 := Lib.hid (hgq.setCell (p := ⟨g, j * 2, none⟩) (Nat.le_refl _) (.int .i64 (common x (y.1 - addH P u, y.2 - addL P u)).1) |>.setCell (p := ⟨g, j * 2 + 1, none⟩) (Nat.le_refl _) (.int .i64 (common x (y.1 - addH P u, y.2 - addL P u)).2))
        have kb := (hwq.block _ (Nat.lt_of_lt_of_le z0 hbx.out.size)).trans ((hbx.out.block _ z0).trans hK.out)
        have HS2 := Lib.hid (block_set_other (p := ⟨g, j * 2 + 1, none⟩) (block_set_other (p := ⟨g, j * 2, none⟩) kb (by show w.heap.size ≠ g; omega) (.int .i64 (common x (y.1 - addH P u, y.2 - addL P u)).1)) (by show w.heap.size ≠ g; omega) (.int .i64 (common x (y.1 - addH P u, y.2 - addL P u)).2))
        have hsp := ((hR.out.later hbx.out).later hwq).set (i := j) (by rw [lbL_len]; omega) (common x (y.1 - addH P u, y.2 - addL P u))
        rw [← HST.out] at hsp
        have HS3 := Lib.hid hsp
        clear hwq x3 x4 x8 x9 o1 o2 hgq kb hsp
        go_wp2
        go_roundw
        case rel => exact ⟨k + 1, by omega, by go_num, HS1.out, HS2.out, HS3.out⟩
        case measure => simp [intOf]; omega
    · have hE := lbL_end (P := P) (l := l) (k := k) (by omega)
      have hsp := hR.out
      rw [hE] at hsp
      have HSP := Lib.hid hsp
      clear hE hsp
      go_wp2
      go_end0
      exact ⟨rfl, (HB.out.mono (by omega)).trans hb.out, HSP.out⟩

end Go.Proofs.Ytkahhclmmlkpjaa
