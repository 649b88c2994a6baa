import Derived.Test.YthgcnakbbmknoaaZzC
import Derived.StillTailTactics
import Derived.Laws.AppendOwn
import Derived.OwnWalk
import Derived.Maps.AppendAt
/- Texts of one seat, merged: Va Vb Vc Vd Ve Vg Uh Wm Vf Vi Wn Gz -/
/- Walks of layer 2 (chain): the net of the specification in memory. -/
namespace Go.Proofs.Ythgcnakbbmknoaa
open Go.RowKit

/-- A net: a slice of rows, each in a block of its own. -/
def NetB (w : World) (n h : Nat) (G C : Nat → Nat) (M : Net) : Prop :=
  h < w.heap.size ∧ (∀ i, i ≤ n → w.cell? ⟨h, i, none⟩ = some (.slice (some ⟨G i, 0, none⟩) (n + 1) (C i)) ∧ G i < w.heap.size ∧ G i ≠ h) ∧
  (∀ i j, i ≤ n → j ≤ n → G i = G j → i = j) ∧
  (∀ i k, i ≤ n → k ≤ n → w.cell? ⟨G i, k, none⟩ = some (.int .i64 (M i k)) ∧ w.frozen? ⟨G i, k, none⟩ = false)

theorem NetB.set {w : World} {n h : Nat} {G C : Nat → Nat} {M : Net} (hN : NetB w n h G C M) {i k : Nat} (hi : i ≤ n) (hk : k ≤ n) (v : Int) :
    NetB (w.setCell ⟨G i, k, none⟩ (.int .i64 v)) n h G C (fun a b => if a = i ∧ b = k then v else M a b) := by
  obtain ⟨h1, h2, h3, h4⟩ := hN
  refine ⟨by simpa using h1, fun a ha => ?_, h3, fun a b ha hb => ?_⟩
  · obtain ⟨q1, q2, q3⟩ := h2 a ha
    refine ⟨?_, by simpa using q2, q3⟩
    rw [World.cell?_setCell_other _ _ _ _ (fun e => by injection e with e _ _; exact (h2 i hi).2.2 e)]
    exact q1
  · refine ⟨?_, ?_⟩
    · dsimp only
      by_cases e : a = i ∧ b = k
      · obtain ⟨rfl, rfl⟩ := e
        rw [if_pos ⟨rfl, rfl⟩]
        exact World.cell?_setCell_same _ _ _ (h4 a b ha hb).1
      · rw [if_neg e, World.cell?_setCell_other _ _ _ _ (fun q => by
          injection q with q1 q2 _
          exact e ⟨(h3 i a hi ha q1).symm, q2.symm⟩)]
        exact (h4 a b ha hb).1
    · exact (World.frozen?_setCell _ _ _ _).trans (h4 a b ha hb).2

theorem NetB.below {w w' : World} {n h : Nat} {G C : Nat → Nat} {M : Net} (hN : NetB w n h G C M) (hb : Below w.heap.size w w') : NetB w' n h G C M := by
  obtain ⟨h1, h2, h3, h4⟩ := hN
  refine ⟨Nat.lt_of_lt_of_le h1 hb.size, fun a ha => ?_, h3, fun a b ha hb' => ?_⟩
  · obtain ⟨q1, q2, q3⟩ := h2 a ha
    exact ⟨(hb.cell (p := ⟨h, a, none⟩) h1).trans q1, Nat.lt_of_lt_of_le q2 hb.size, q3⟩
  · have q2 := (h2 a ha).2.1
    exact ⟨(hb.cell (p := ⟨G a, b, none⟩) q2).trans (h4 a b ha hb').1, (hb.frozen (p := ⟨G a, b, none⟩) q2).trans (h4 a b ha hb').2⟩

theorem NetB.congr {w : World} {n h : Nat} {G C : Nat → Nat} {M M' : Net} (hN : NetB w n h G C M) (he : ∀ i k, i ≤ n → k ≤ n → M i k = M' i k) : NetB w n h G C M' := by
  obtain ⟨h1, h2, h3, h4⟩ := hN
  exact ⟨h1, h2, h3, fun a b ha hb => by rw [← he a b ha hb]; exact h4 a b ha hb⟩

/-! ### The rows while they are made -/
def rowL (n : Nat) (f : Nat → Int) : List Value := (List.range (n + 1)).map fun k => .int .i64 (f k)

def RowsIn (w : World) (base n m : Nat) (G C : Nat → Nat) (M : Net) : Prop :=
  (∀ j, j < m → base ≤ G j ∧ n + 1 ≤ C j ∧ C j ≤ maxLen ∧ ∃ cur, w.heap[G j]? = some (.cells cur 3 (0, 0)) ∧ cur.toList.take (n + 1) = rowL n (M j)) ∧
  (∀ i j, i < m → j < m → G i = G j → i = j)

theorem RowsIn.keep {w w' : World} {base n m : Nat} {G C : Nat → Nat} {M : Net} (h : RowsIn w base n m G C M) (hk : ∀ j, j < m → w'.heap[G j]? = w.heap[G j]?) : RowsIn w' base n m G C M :=
  ⟨fun j hj => by obtain ⟨h1, h2, h3, cur, h4, h5⟩ := h.1 j hj; exact ⟨h1, h2, h3, cur, (hk j hj).trans h4, h5⟩, h.2⟩

theorem RowsIn.lt {w : World} {base n m : Nat} {G C : Nat → Nat} {M : Net} (h : RowsIn w base n m G C M) {j : Nat} (hj : j < m) : G j < w.heap.size := by
  obtain ⟨_, _, _, cur, h4, _⟩ := h.1 j hj
  exact lt_of_block h4

theorem RowsIn.snoc {w : World} {base n m : Nat} {G C : Nat → Nat} {M : Net} (h : RowsIn w base n m G C M) {g c : Nat} {cur : Array Value} (hg : base ≤ g) (hc1 : n + 1 ≤ c) (hc2 : c ≤ maxLen) (hcur : w.heap[g]? = some (.cells cur 3 (0, 0))) (ht : cur.toList.take (n + 1) = rowL n (M m))
    (hne : ∀ j, j < m → G j ≠ g) : RowsIn w base n (m + 1) (fun j => if j = m then g else G j) (fun j => if j = m then c else C j) M := by
  refine ⟨fun j hj => ?_, fun i j hi hj e => ?_⟩
  · dsimp only
    by_cases e : j = m
    · rw [if_pos e, if_pos e, e]; exact ⟨hg, hc1, hc2, cur, hcur, ht⟩
    · rw [if_neg e, if_neg e]; exact h.1 j (by omega)
  · dsimp only at e
    by_cases ei : i = m
    · by_cases ej : j = m
      · rw [ei, ej]
      · rw [if_pos ei, if_neg ej] at e; exact absurd e.symm (hne j (by omega))
    · by_cases ej : j = m
      · rw [if_neg ei, if_pos ej] at e; exact absurd e (hne i (by omega))
      · rw [if_neg ei, if_neg ej] at e; exact h.2 i j (by omega) (by omega) e

/-- The header's cells. -/
def hdrL (n m : Nat) (G C : Nat → Nat) : List Value := (List.range m).map fun j => .slice (some ⟨G j, 0, none⟩) (n + 1) (C j)

theorem hdrL_snoc (n m : Nat) (G C : Nat → Nat) (g c : Nat) : hdrL n (m + 1) (fun j => if j = m then g else G j) (fun j => if j = m then c else C j) = hdrL n m G C ++ [.slice (some ⟨g, 0, none⟩) (n + 1) c] := by
  unfold hdrL
  rw [List.range_succ, List.map_append]
  congr 1
  · apply List.map_congr_left
    intro j hj
    rw [List.mem_range] at hj
    dsimp only
    rw [if_neg (by omega), if_neg (by omega)]
  · simp

/-- All rows made: a net. -/
theorem netB_of {w : World} {base n : Nat} {G C : Nat → Nat} {M : Net} {v : Value} (hh : w.ownsRow base 29 1 v (n + 1) (hdrL n (n + 1) G C)) (hr : RowsIn w base n (n + 1) G C M) :
    ∃ h c, v = .slice (some ⟨h, 0, none⟩) (n + 1) c ∧ n + 1 ≤ c ∧ base ≤ h ∧ NetB w n h G C M := by
  rcases hh.2 with ⟨_, h0⟩ | ⟨h, c, cur, rfl, hb, hg, hn, hcm, hcs, htake⟩
  · omega
  · refine ⟨h, c, rfl, hn, hb, lt_of_block hg, fun i hi => ?_, fun i j hi hj e => hr.2 i j (by omega) (by omega) e, fun i k hi hk => ?_⟩
    · obtain ⟨_, _, _, cu, h4, _⟩ := hr.1 i (by omega)
      refine ⟨?_, lt_of_block h4, fun e => ?_⟩
      · rw [block_cell hg]
        have : (cur.toList.take ((n + 1) * 1))[i]? = (hdrL n (n + 1) G C)[i]? := by rw [htake]
        rw [List.getElem?_take_of_lt (by omega), Array.getElem?_toList] at this
        rw [this]
        unfold hdrL
        rw [List.getElem?_map, List.getElem?_range (by omega)]
        rfl
      · rw [e, hg] at h4
        injection h4 with h4
        injection h4 with _ h4 _
        exact absurd h4 (by decide)
    · obtain ⟨_, _, _, cu, h4, h5⟩ := hr.1 i (by omega)
      refine ⟨?_, block_free h4 k⟩
      rw [block_cell h4]
      have : (cu.toList.take (n + 1))[k]? = (rowL n (M i))[k]? := by rw [h5]
      rw [List.getElem?_take_of_lt (by omega), Array.getElem?_toList] at this
      rw [this]
      unfold rowL
      rw [List.getElem?_map, List.getElem?_range (by omega)]
      rfl

end Go.Proofs.Ythgcnakbbmknoaa

/- Walks of layer 2 (chain): the specification's build. -/
namespace Go.Proofs.Ythgcnakbbmknoaa
open Go.RowKit

theorem infoInt : (Try.prog.info? 3).map (fun i => (i.zero, i.size, i.bytes)) = some (some (.int .i64 0), 1, 8) := by kernel_rfl
theorem infoInts : (Try.prog.info? 29).map (fun i => (i.zero, i.size, i.bytes)) = some (some (.slice none 0 0), 1, 24) := by kernel_rfl

def M00 : Net := fun i k => if i = k then 0 else 1099511627776
def rowP (f : Nat → Int) (q : Nat) : List Value := (List.range q).map fun k => .int .i64 (f k)
theorem rowP_succ (f : Nat → Int) (q : Nat) : rowP f (q + 1) = rowP f q ++ [.int .i64 (f q)] := by simp [rowP, List.range_succ]

theorem one_cell (w : World) (x : Value) (t : TypeId) {g : Nat} (hg : g = w.heap.size) : ∀ j u, [x][j]? = some u → (w.alloc (.cells #[x] t)).cell? ((⟨g, 0, none⟩ : Addr).add j) = some u := by
  subst hg
  intro j u hj
  have h := cell_alloc_new w #[x] t (0, 0) w.heap.size j rfl
  have e : (⟨w.heap.size, 0, none⟩ : Addr).add j = ⟨w.heap.size, j, none⟩ := by unfold Addr.add; split <;> simp_all
  rw [e, h, ← hj]
  simp

/-- The net when the first k links are told. -/
def MB (pi li : Int) (k : Nat) : Net := fun a b => if b = a + 1 ∧ a < k then li else if a = b + 1 ∧ b < k then -pi else M00 a b

theorem MB_zero (pi li : Int) (a b : Nat) : M00 a b = MB pi li 0 a b := by
  unfold MB; rw [if_neg (by omega), if_neg (by omega)]

theorem MB_succ (pi li : Int) (k a b : Nat) : (if a = k + 1 ∧ b = k then -pi else if a = k ∧ b = k + 1 then li else MB pi li k a b) = MB pi li (k + 1) a b := by
  unfold MB
  by_cases h1 : a = k + 1 ∧ b = k
  · rw [if_pos h1, if_neg (by omega), if_pos (by omega)]
  · rw [if_neg h1]
    by_cases h2 : a = k ∧ b = k + 1
    · rw [if_pos h2, if_pos (by omega)]
    · rw [if_neg h2]
      by_cases h3 : b = a + 1 ∧ a < k
      · rw [if_pos h3, if_pos (by omega)]
      · rw [if_neg h3, if_neg (by omega : ¬ (b = a + 1 ∧ a < k + 1))]
        by_cases h4 : a = b + 1 ∧ b < k
        · rw [if_pos h4, if_pos (by omega)]
        · rw [if_neg h4, if_neg (by omega)]

theorem MB_end {n : Nat} {pi li : Int} {a b : Nat} (ha : a ≤ n) (hb : b ≤ n) : MB pi li n a b = spec0 (CN n pi li) a b := by
  unfold MB spec0 M00
  dsimp only [CN]
  by_cases h1 : b = a + 1
  · rw [if_pos (by omega), if_neg (by omega), if_pos h1]
  · rw [if_neg (by omega)]
    by_cases h2 : a = b + 1
    · rw [if_pos (by omega), if_neg (by omega), if_neg h1, if_pos h2]
    · rw [if_neg (by omega)]
      by_cases h3 : a = b
      · rw [if_pos h3, if_pos h3]
      · rw [if_neg h3, if_neg h3, if_neg h1, if_neg h2]

def SiRel (n : Nat) (M0 : Net) (hd : Nat) (G C : Nat → Nat) (wA wr : World) (t i k : Nat) : Prop :=
  Below wA.heap.size wA wr ∧ ∃ M1, NetB wr n hd G C M1 ∧ ∀ i' k', i' ≤ n → k' ≤ n → M1 i' k' = mid (fw M0 t) t i k i' k'

theorem SiRel.step {n : Nat} {M0 : Net} {hd : Nat} {G C : Nat → Nat} {wA wr : World} {t i k : Nat} (h : SiRel n M0 hd G C wA wr t i k) (hG : wA.heap.size ≤ G i) (hi : i ≤ n) (hk : k ≤ n) {v : Int} (hv : v = rnd (fw M0 t) t i k) : SiRel n M0 hd G C wA (wr.setCell ⟨G i, k, none⟩ (.int .i64 v)).drew t i (k + 1) := by
  obtain ⟨h1, M1, h2, h3⟩ := h
  refine ⟨(h1.setCell (p := ⟨G i, k, none⟩) hG _).drew, _, (show NetB (wr.setCell ⟨G i, k, none⟩ (.int .i64 v)).drew n hd G C _ from h2.set hi hk v), fun i' k' hi' hk' => ?_⟩
  rw [mid_next]
  by_cases e : i' = i ∧ k' = k
  · rw [if_pos e, if_pos e]; exact hv
  · rw [if_neg e, if_neg e]; exact h3 i' k' hi' hk'

theorem SiRel.row {n : Nat} {M0 : Net} {hd : Nat} {G C : Nat → Nat} {wA wr : World} {t i : Nat} (h : SiRel n M0 hd G C wA wr t i (n + 1)) : SiRel n M0 hd G C wA wr t (i + 1) 0 := by
  obtain ⟨h1, M1, h2, h3⟩ := h
  exact ⟨h1, M1, h2, fun i' k' hi' hk' => (h3 i' k' hi' hk').trans (mid_row i i' k' hi' hk')⟩

theorem SiRel.turn {n : Nat} {M0 : Net} {hd : Nat} {G C : Nat → Nat} {wA wr : World} {t : Nat} (h : SiRel n M0 hd G C wA wr t (n + 1) 0) : SiRel n M0 hd G C wA wr (t + 1) 0 0 := by
  obtain ⟨h1, M1, h2, h3⟩ := h
  exact ⟨h1, M1, h2, fun i' k' hi' hk' => by rw [h3 i' k' hi' hk', mid_end i' k' hi' hk', mid_start]; rfl⟩

theorem SiRel.cell {n : Nat} {M0 : Net} {hd : Nat} {G C : Nat → Nat} {wA wr : World} {t i k : Nat} (h : SiRel n M0 hd G C wA wr t i k) {i' k' : Nat} (hi : i' ≤ n) (hk : k' ≤ n) : wr.cell? ⟨G i', k', none⟩ = some (.int .i64 (mid (fw M0 t) t i k i' k')) ∧ wr.frozen? ⟨G i', k', none⟩ = false := by
  obtain ⟨_, M1, h2, h3⟩ := h
  rw [← h3 i' k' hi hk]
  exact h2.2.2.2 i' k' hi hk

theorem SiRel.hdr {n : Nat} {M0 : Net} {hd : Nat} {G C : Nat → Nat} {wA wr : World} {t i k : Nat} (h : SiRel n M0 hd G C wA wr t i k) {i' : Nat} (hi : i' ≤ n) : wr.cell? ⟨hd, i', none⟩ = some (.slice (some ⟨G i', 0, none⟩) (n + 1) (C i')) ∧ G i' < wr.heap.size ∧ hd < wr.heap.size := by
  obtain ⟨_, M1, h2, h3⟩ := h
  obtain ⟨q1, q2, _⟩ := h2.2.1 i' hi
  exact ⟨q1, q2, h2.1⟩

/-- The answer of build. -/
def BuildRes (n : Nat) (pi li : Int) (l : List Gau) (w : World) (e : Ending) (w' : World) : Prop :=
  ∃ (hd c : Nat) (G C : Nat → Nat) (M1 : Net), e = .returned (.tuple #[.slice (some ⟨hd, 0, none⟩) (n + 1) c, .bool (agreeB (CN n pi li) l)]) ∧ Below w.heap.size w w' ∧ NetB w' n hd G C M1 ∧
    (agreeB (CN n pi li) l = true → ∀ i k, i ≤ n → k ≤ n → M1 i k = RM (CN n pi li) l i k)

theorem agreeB_S {n : Nat} {pi li : Int} {l : List Gau} (hc : COk (CN n pi li)) (hl : GOks (CN n pi li) l) : agreeB (CN n pi li) l = decide (Good n (netS (CN n pi li) l) (n + 1)) := by
  have hn : (CN n pi li).n.toNat = n := by simp
  have a := agreeB_iff hc hl
  have b := goodS hc hl
  rw [hn] at b
  cases e : agreeB (CN n pi li) l
  · symm
    rw [decide_eq_false_iff_not]
    intro h
    rw [a.2 (b.1 h)] at e
    cases e
  · symm
    rw [decide_eq_true_eq]
    exact b.2 (a.1 e)

theorem SiRel.out {n : Nat} {pi li : Int} {l : List Gau} {hd c : Nat} {G C : Nat → Nat} {w wA wr : World} {t : Nat} (hc : COk (CN n pi li)) (hl : GOks (CN n pi li) l) (hB : Below w.heap.size w wA) (h : SiRel n (netS (CN n pi li) l) hd G C wA wr t 0 0) {q : Bool} (hq : q = decide (Good n (netS (CN n pi li) l) (n + 1))) (ht : q = true → t = n + 1) :
    BuildRes n pi li l w (.returned (.tuple #[.slice (some ⟨hd, 0, none⟩) (n + 1) c, .bool q])) wr := by
  obtain ⟨h1, M1, h2, h3⟩ := h
  have hn : (CN n pi li).n.toNat = n := by simp
  refine ⟨hd, c, G, C, M1, by rw [agreeB_S hc hl, hq], hB.trans (h1.mono hB.size), h2, fun ha i k hi hk => ?_⟩
  have hag := (agreeB_iff hc hl).1 ha
  rw [agreeB_S hc hl, ← hq] at ha
  rw [h3 i k hi hk, ht ha, mid_start]
  have := fwS hc hl hag (i := i) (k := k) (by rw [hn]; exact hi) (by rw [hn]; exact hk)
  rw [hn] at this
  exact this

set_option maxRecDepth 100000 in
set_option maxHeartbeats 16000000 in
theorem rbuild_any (n : Nat) (pi li : Int) (l : List Gau) (v : Value) (w : World) (hv : GaAt w v l) (hc : COk (CN n pi li)) (hl : GOks (CN n pi li) l) (hlen : l.length ≤ 100) :
    Calls Try.prog 57 #[chnV (CN n pi li), v] w (BuildRes n pi li l w) := by
  obtain ⟨i0, hi0, hz0, hz1, hz2⟩ := info_parts infoInt
  obtain ⟨j0, hj0, hy0, hy1, hy2⟩ := info_parts infoInts
  have hb0 := (Below.refl w.heap.size w).alloc (Nat.le_refl _) (Obj.cells #[.int .i64 n, .int .i64 pi, .int .i64 li] 23)
  have k0 := block_new w (Obj.cells #[.int .i64 n, .int .i64 pi, .int .i64 li] 23) w.heap.size rfl
  have HC := Lib.hid hc
  have HL := Lib.hid hl
  have n24 := hc.n2
  have HV := Lib.hid (hv.below hb0 (Nat.le_refl _))
  obtain ⟨a, cap, rfl, hn, hcap, hcc⟩ := hv
  have HCC := Lib.hid hcc
  have HB := Lib.hid hb0
  have K0 := Lib.hid k0
  dsimp only [CN] at n24
  have n24' : n ≤ 24 := by omega
  clear hc hl hcc hb0 k0
  go_enter Try.func57, Try.ntmps57
  go_wp2_with fail
  generalize w.alloc (Obj.cells #[.int .i64 n, .int .i64 pi, .int .i64 li] 23) = wA at *
  go_loopw [6, 7] (fun s i wr => ∃ (m : Nat) (G C : Nat → Nat), m ≤ n + 1 ∧ i = .int .i64 m ∧ Hid (Below wA.heap.size wA wr) ∧ wr.ownsRow wA.heap.size 29 1 s m (hdrL n m G C) ∧ Hid (RowsIn wr wA.heap.size n m G C M00)) (fun _ i _ => n + 1 - (intOf i).toNat)
  case atStart => exact ⟨0, fun _ => 0, fun _ => 0, by omega, rfl, Below.refl _ _, ⟨rfl, .inl ⟨rfl, rfl⟩⟩, fun j hj => by omega, fun i j hi => by omega⟩
  case round =>
    obtain ⟨m, G, C, hm, rfl, hb, hown, hrows⟩ := hrel
    obtain ⟨sa, sc, rfl, hownb⟩ := ownsRow_shape hown
    have Hown := Lib.hid hown
    have HownB := Lib.hid hownb
    have kc := (hb.out.block _ (lt_of_block K0.out)).trans K0.out
    have hce := block_cell kc
    have zc := lt_of_block kc
    clear hown hownb kc
    obtain ⟨wo, rfl⟩ : ∃ wo : World, wo = wr := ⟨_, rfl⟩
    by_cases hlt : m < n + 1
    · have hlb : decide (m ≤ n) = true := by simp; omega
      go_wp2_with fail
      go_loopw [8, 9] (fun rv k wy => ∃ q : Nat, q ≤ n + 1 ∧ k = .int .i64 q ∧ Hid (Below wo.heap.size wo wy) ∧ wy.ownsRow wo.heap.size 3 1 rv q (rowP (M00 m) q)) (fun _ k _ => n + 1 - (intOf k).toNat)
      case atStart => exact ⟨0, by omega, rfl, Below.refl _ _, ⟨rfl, .inl ⟨rfl, rfl⟩⟩⟩
      case round =>
        obtain ⟨q, hq, rfl, hby, hrow⟩ := hrel
        obtain ⟨ra, rc, rfl, hrowb⟩ := ownsRow_shape hrow
        have Hrow := Lib.hid hrow
        have HrowB := Lib.hid hrowb
        have hsz := hby.out.size
        have kc := (hby.out.block _ zc).trans ((hb.out.block _ (lt_of_block K0.out)).trans K0.out)
        have hcy := block_cell kc
        have zcy := lt_of_block kc
        clear hrow hrowb kc
        by_cases hltq : q < n + 1
        · by_cases heq : m = q
          · have hqb : ((m : Int) == (q : Int)) = true := by simp; omega
            have HF := Lib.hid (show M00 m q = 0 by unfold M00; rw [if_pos heq])
            clear heq
            go_wp2_with (at_builtin; refine wpList_append_own _ rfl (.tmp 32) (.tmp 33) 29 rfl wo.heap.size 3 i0 (.int .i64 0) 1 8 Try.underlying29 hi0 hz0 hz1 hz2 rfl (by decide) _ q (rowP (M00 m) q) rfl ?e0 _ _ _ [.int .i64 0] rfl rfl ?e1 ?e2 ?e3 ?e4 ?e5 ?_)
            case e0 => exact World.ownsRow.alloc Hrow.out _
            try (case e1 => exact one_cell _ _ _ (by simp))
            case e2 => first | (intro u hu; simp only [List.mem_cons, List.not_mem_nil, or_false] at hu; subst hu; rfl) | rfl | simp
            case e3 => unfold maxLen; omega
            case e4 => omega
            case e5 => first | exact Nat.le_trans hsz (al_le _ _) | (simp; omega)
            intro v2 w4 hown2 hgrow _
            have hbX := ((Below.refl wo.heap.size wr).alloc hsz _).trans (below_grown hgrow HrowB.out (Nat.le_trans hsz (al_le _ _)))
            have HBX := Lib.hid (hby.out.trans hbX)
            rw [show rowP (M00 m) q ++ [.int .i64 0] = rowP (M00 m) (q + 1) by rw [rowP_succ, HF.out]] at hown2
            obtain ⟨r2, c2, rfl, _⟩ := ownsRow_shape hown2
            have Hown2 := Lib.hid hown2
            clear hown2 hgrow hbX hcy
            go_wp2
            go_roundw
            case rel => exact ⟨q + 1, by omega, by go_num, HBX.out, Hown2.out⟩
            case measure => simp [intOf]; omega
          · have hqb : ((m : Int) == (q : Int)) = false := by simp; omega
            have HF := Lib.hid (show M00 m q = 1099511627776 by unfold M00; rw [if_neg heq])
            clear heq
            go_wp2_with (at_builtin; refine wpList_append_own _ rfl (.tmp 35) (.tmp 36) 29 rfl wo.heap.size 3 i0 (.int .i64 0) 1 8 Try.underlying29 hi0 hz0 hz1 hz2 rfl (by decide) _ q (rowP (M00 m) q) rfl ?f0 _ _ _ [.int .i64 1099511627776] rfl rfl ?f1 ?f2 ?f3 ?f4 ?f5 ?_)
            case f0 => exact World.ownsRow.alloc Hrow.out _
            try (case f1 => exact one_cell _ _ _ (by simp))
            case f2 => first | (intro u hu; simp only [List.mem_cons, List.not_mem_nil, or_false] at hu; subst hu; rfl) | rfl | simp
            case f3 => unfold maxLen; omega
            case f4 => omega
            case f5 => first | exact Nat.le_trans hsz (al_le _ _) | (simp; omega)
            intro v2 w4 hown2 hgrow _
            have hbX := ((Below.refl wo.heap.size wr).alloc hsz _).trans (below_grown hgrow HrowB.out (Nat.le_trans hsz (al_le _ _)))
            have HBX := Lib.hid (hby.out.trans hbX)
            rw [show rowP (M00 m) q ++ [.int .i64 1099511627776] = rowP (M00 m) (q + 1) by rw [rowP_succ, HF.out]] at hown2
            obtain ⟨r2, c2, rfl, _⟩ := ownsRow_shape hown2
            have Hown2 := Lib.hid hown2
            clear hown2 hgrow hbX hcy
            go_wp2
            go_roundw
            case rel => exact ⟨q + 1, by omega, by go_num, HBX.out, Hown2.out⟩
            case measure => simp [intOf]; omega
        · obtain rfl : q = n + 1 := by omega
          obtain ⟨g, rcur, rfl, hgb, hgk, hcr, hcm, hct⟩ : ∃ g cur, ra = some ⟨g, 0, none⟩ ∧ wo.heap.size ≤ g ∧ wr.heap[g]? = some (.cells cur 3 (0, 0)) ∧ n + 1 ≤ rc ∧ rc ≤ maxLen ∧ cur.toList.take (n + 1) = rowL n (M00 m) := by
            rcases Hrow.out.2 with ⟨_, h⟩ | ⟨g, cp, cur, h, hb, hg, h1, h2, h3, h4⟩
            · omega
            · injection h with h _ h5
              subst h5
              exact ⟨g, cur, h, hb, hg, h1, h2, by simp only [Nat.mul_one] at h4; exact h4⟩
          have hrk := hrows.out.keep (w' := wr) (fun j hj => hby.out.block _ (hrows.out.lt hj))
          have HRK := Lib.hid hrk
          have hownY := ownsRow_below Hown.out hby.out
          have HownY := Lib.hid hownY
          have HGK := Lib.hid hgk
          have HCT := Lib.hid hct
          have hszA := hb.out.size
          clear hrk hownY hgk hct
          go_wp2_with (at_builtin; refine wpList_append_own _ rfl (.tmp 38) (.tmp 40) 113 rfl wA.heap.size 29 j0 (.slice none 0 0) 1 24 Try.underlying113 hj0 hy0 hy1 hy2 rfl (by decide) _ m (hdrL n m G C) rfl ?g0 _ _ _ [.slice (some ⟨g, 0, none⟩) (n + 1) rc] rfl rfl ?g1 ?g2 ?g3 ?g4 ?g5 ?_)
          case g0 => exact World.ownsRow.alloc HownY.out _
          try (case g1 => exact one_cell _ _ _ (by simp))
          case g2 => first | (intro u hu; simp only [List.mem_cons, List.not_mem_nil, or_false] at hu; subst hu; rfl) | rfl | simp
          case g3 => unfold maxLen; omega
          case g4 => omega
          case g5 => first | (simp; omega) | omega
          intro v2 w4 hown2 hgrow _
          have hAy : wA.heap.size ≤ wr.heap.size := Nat.le_trans hszA hsz
          have hbX := ((Below.refl wA.heap.size wr).alloc hAy _).trans (below_grown hgrow HownB.out (Nat.le_trans hAy (al_le _ _)))
          have HBX := Lib.hid ((hb.out.trans (hby.out.mono hszA)).trans hbX)
          have hsame : ∀ (b : Nat) (cur : Array Value), wr.heap[b]? = some (Obj.cells cur 3 (0, 0)) → w4.heap[b]? = wr.heap[b]? := fun b cur hk => by
            have hk' : (wr.alloc (Obj.cells #[.slice (some ⟨g, 0, none⟩) (n + 1) rc] 29)).heap[b]? = some (Obj.cells cur 3 (0, 0)) := block_alloc hk _
            rw [hgrow.block b (lt_of_block hk') (fun e => ?_), hk', hk]
            rcases HownY.out.2 with ⟨e2, _⟩ | ⟨g', cp, cu, e2, _, hg', _⟩
            · rw [e2] at e; simp [Value.ownBlock] at e
            · rw [e2] at e
              simp [Value.ownBlock] at e
              subst e
              rw [hg'] at hk
              injection hk with hk
              injection hk with _ hk _
              exact absurd hk (by decide)
          have hrk4 := HRK.out.keep (w' := w4) (fun j hj => by
            obtain ⟨_, _, _, cu, h4, _⟩ := HRK.out.1 j hj
            exact hsame _ _ h4)
          have hgk4 := (hsame _ _ HGK.out).trans HGK.out
          have hsn := hrk4.snoc (g := g) (c := rc) (by omega) hcr hcm hgk4 HCT.out (fun j hj e => by have := hrows.out.lt hj; omega)
          have HSN := Lib.hid hsn
          rw [← hdrL_snoc] at hown2
          obtain ⟨s2, c2, rfl, _⟩ := ownsRow_shape hown2
          have Hown2 := Lib.hid hown2
          clear hown2 hgrow hbX hsame hrk4 hgk4 hsn hcy hce
          go_wp2
          go_roundw
          case rel => exact ⟨m + 1, _, _, by omega, by go_num, HBX.out, Hown2.out, HSN.out⟩
          case measure => simp [intOf]; omega
    · obtain rfl : m = n + 1 := by omega
      obtain ⟨hd, hc', e, hcap', hbase, hN⟩ := netB_of Hown.out hrows.out
      injection e with e _ _
      subst e
      have HN := Lib.hid hN
      have hlb : decide (n + 1 ≤ n) = false := by simp
      have HG := Lib.hid (show ∀ i, i ≤ n → wA.heap.size ≤ G i from fun i hi => (hrows.out.1 i (by omega)).1)
      have hcp := HC.out.p1
      have hcl := HC.out.l2
      have hcl1 := HC.out.p2
      have hcl0 := HC.out.l1
      dsimp only [CN] at hcp hcl hcl1 hcl0
      clear hN
      go_wp2_with fail
      go_loopw [10] (fun i wr => ∃ k : Nat, k ≤ n ∧ i = .int .i64 k ∧ Hid (Below wA.heap.size wA wr) ∧ Hid (NetB wr n hd G C (MB pi li k))) (fun i _ => n - (intOf i).toNat)
      case atStart => exact ⟨0, Nat.zero_le _, rfl, hb.out, HN.out.congr (fun i k _ _ => MB_zero pi li i k)⟩
      case round =>
        obtain ⟨k, hk, rfl, hb, hN⟩ := hrel
        have kc := (hb.out.block _ (lt_of_block K0.out)).trans K0.out
        have hce := block_cell kc
        have zc := lt_of_block kc
        clear kc
        by_cases hlt : k < n
        · obtain ⟨q1, q2, q3⟩ := hN.out.2.1 k (by omega)
          obtain ⟨q4, q5⟩ := hN.out.2.2.2 k (k + 1) (by omega) (by omega)
          have zh := hN.out.1
          have k1 : (0 : Int) ≤ (k : Int) := by omega
          have k2 : (k : Int) < (n : Int) + 1 := by omega
          have k3 : (0 : Int) ≤ (k : Int) + 1 := by omega
          have k4 : (k : Int) + 1 < (n : Int) + 1 := by omega
          have k5 : ((k : Int) + 1).toNat = k + 1 := by omega
          have k6 : IntKind.i64.wrap ((k : Int) + 1) = (k : Int) + 1 := by rw [IntKind.wrap_i64]; omega
          have BX := Lib.hid ((hb.out.setCell (p := ⟨G k, k + 1, none⟩) (HG.out k (by omega)) (.int .i64 li)).drew)
          have NX := Lib.hid (show NetB (wr.setCell ⟨G k, k + 1, none⟩ (.int .i64 li)).drew n hd G C _ from hN.out.set (i := k) (k := k + 1) (by omega) (by omega) li)
          go_wp2_with fail
          refine wp_region_still_tail 9 (by kernel_rfl) (by kernel_rfl) ?_
          change wpStill _ _ (World.drew _) (fun a' => wpList _ _ _ _ a' (World.drew _)) _ _
          simp only [List.take_succ_cons, List.take_zero, List.drop_succ_cons, List.drop_zero]
          repeat still_step
          refine wpStill_nil ?_
          go_wp2_with fail
          generalize (wr.setCell ⟨G k, k + 1, none⟩ (.int .i64 li)).drew = ws at *
          obtain ⟨p1, p2, p3⟩ := NX.out.2.1 (k + 1) (by omega)
          obtain ⟨p4, p5⟩ := NX.out.2.2.2 (k + 1) k (by omega) (by omega)
          have zhs := NX.out.1
          have kc := (BX.out.block _ (lt_of_block K0.out)).trans K0.out
          clear hce zc q1 q2 q3 q4 q5
          have hce := block_cell kc
          have zc := lt_of_block kc
          have o1 : IntKind.i64.wrap (-pi) = -pi := by rw [IntKind.wrap_i64]; omega
          have BY := Lib.hid ((BX.out.setCell (p := ⟨G (k + 1), k, none⟩) (HG.out (k + 1) (by omega)) (.int .i64 (-pi))).drew)
          have NY := Lib.hid (NetB.congr (show NetB (ws.setCell ⟨G (k + 1), k, none⟩ (.int .i64 (-pi))).drew n hd G C _ from NX.out.set (i := k + 1) (k := k) (by omega) (by omega) (-pi)) (fun a b _ _ => MB_succ pi li k a b))
          clear kc
          go_wp2_with fail
          refine wp_region_still_tail 10 (by kernel_rfl) (by kernel_rfl) ?_
          change wpStill _ _ (World.drew _) (fun a' => wpList _ _ _ _ a' (World.drew _)) _ _
          simp only [List.take_succ_cons, List.take_zero, List.drop_succ_cons, List.drop_zero]
          repeat still_step
          refine wpStill_nil ?_
          go_wp2
          go_roundw
          case rel => exact ⟨k + 1, hlt, by go_num, BY.out, NY.out⟩
          case measure => simp [intOf]; omega
        · obtain rfl : n = k := by omega
          have HN2 := Lib.hid (hN.out.congr (fun a b ha hb => MB_end ha hb))
          clear hcp hcl hcl1 hcl0
          go_wp2_with fail
          clear hce zc
          go_loopw [11] (fun i wr => ∃ k : Nat, k ≤ l.length ∧ i = .int .i64 k ∧ Hid (Below wA.heap.size wA wr) ∧ Hid (NetB wr n hd G C (addGs (spec0 (CN n pi li)) (l.take k)))) (fun i _ => l.length - (intOf i).toNat)
          case atStart => exact ⟨0, Nat.zero_le _, rfl, hb.out, HN2.out⟩
          case round =>
            obtain ⟨k, hk, rfl, hb, hN⟩ := hrel
            by_cases hlt : k < l.length
            · obtain ⟨b, off, rfl, hbl, hcc⟩ := HCC.out (by omega)
              obtain ⟨g1, g2, g3, g4⟩ := ga_at (HB.out.trans (hb.out.mono HB.out.size)) hbl hcc hlt
              have hg := HL.out _ (gau_getD_mem hlt)
              have HMS := Lib.hid (show addGs (spec0 (CN n pi li)) (l.take (k + 1)) = addG (addGs (spec0 (CN n pi li)) (l.take k)) (l.getD k Gau.zero) by
                rw [List.take_succ_eq_append_getElem hlt, addGs, List.foldl_append, ← addGs]
                rw [List.getD_eq_getElem?_getD, List.getElem?_eq_getElem hlt]
                rfl)
              clear hcc
              generalize addGs (spec0 (CN n pi li)) (l.take k) = M at *
              generalize l.getD k Gau.zero = gg at *
              obtain ⟨ga, gb, lo, hi⟩ := gg
              obtain ⟨a0, ab, bn, lo0, lh, h0, _⟩ := hg
              dsimp only [CN] at *
              obtain ⟨ga, rfl⟩ : ∃ m : Nat, ga = m := ⟨ga.toNat, by omega⟩
              obtain ⟨gb, rfl⟩ : ∃ m : Nat, gb = m := ⟨gb.toNat, by omega⟩
              have HMS := Lib.hid (show addGs (spec0 (CN n pi li)) (l.take (k + 1)) = up (up M ga gb hi) gb ga (-lo) from HMS.out)
              have zb : b < wr.heap.size := by have := hb.out.size; have := HB.out.size; omega
              go_wp2_with fail
              have bU : Below wA.heap.size wA (wr.alloc (Obj.cells #[.int .i64 ga, .int .i64 gb, .int .i64 lo, .int .i64 hi] 53)) := hb.out.alloc hb.out.size _
              have kU : (wr.alloc (Obj.cells #[.int .i64 ga, .int .i64 gb, .int .i64 lo, .int .i64 hi] 53)).heap[wr.heap.size]? = some (Obj.cells #[.int .i64 ga, .int .i64 gb, .int .i64 lo, .int .i64 hi] 53) := block_new _ _ _ rfl
              have nU := hN.out.below (w' := wr.alloc (Obj.cells #[.int .i64 ga, .int .i64 gb, .int .i64 lo, .int .i64 hi] 53)) ((Below.refl _ _).alloc (Nat.le_refl _) _)
              generalize wr.alloc (Obj.cells #[.int .i64 ga, .int .i64 gb, .int .i64 lo, .int .i64 hi] 53) = wU at *
              have cg := block_cell kU
              have zg := lt_of_block kU
              obtain ⟨q1, q2, q3⟩ := nU.2.1 ga (by omega)
              obtain ⟨q4, q5⟩ := nU.2.2.2 ga gb (by omega) (by omega)
              have zh := nU.1
              have qlt : G ga ≠ wr.heap.size := fun e => by have := (hN.out.2.1 ga (by omega)).2.1; omega
              have HKG := Lib.hid (fun (V : Int) => show (wU.setCell ⟨G ga, gb, none⟩ (.int .i64 V)).drew.heap[wr.heap.size]? = _ from block_set_other kU (fun e => qlt e.symm) (.int .i64 V))
              have ga1 : (0 : Int) ≤ (ga : Int) := by omega
              have ga2 : (ga : Int) < (n : Int) + 1 := by omega
              have gb1 : (0 : Int) ≤ (gb : Int) := by omega
              have gb2 : (gb : Int) < (n : Int) + 1 := by omega
              generalize hx : M ga gb = x at *
              have BX := Lib.hid (fun (V : Int) => (bU.setCell (p := ⟨G ga, gb, none⟩) (HG.out ga (by omega)) (.int .i64 V)).drew)
              have NX := Lib.hid (fun (V : Int) (hV : V = min x hi) => show NetB (wU.setCell ⟨G ga, gb, none⟩ (.int .i64 V)).drew n hd G C (up M ga gb hi) from by
                have := nU.set (i := ga) (k := gb) (by omega) (by omega) V
                rw [hV, ← hx] at this ⊢
                exact this)
              clear g1 g2 g3 g4 hx kU bU nU qlt
              go_wp2_with fail
              refine wp_region_still_tail 21 (by kernel_rfl) (by kernel_rfl) ?_
              change wpStill _ _ (World.drew _) (fun a' => wpList _ _ _ _ a' (World.drew _)) _ _
              simp only [List.take_succ_cons, List.take_zero, List.drop_succ_cons, List.drop_zero]
              repeat still_step
              refine wpStill_nil ?_
              go_wp2_with fail
              · have HNX := Lib.hid (NX.out (hi) (by omega))
                have HBX := Lib.hid (BX.out (hi))
                have kgs := HKG.out (hi)
                generalize (wU.setCell ⟨G ga, gb, none⟩ (.int .i64 (hi))).drew = ws at *
                obtain ⟨p1, p2, p3⟩ := HNX.out.2.1 gb (by omega)
                obtain ⟨p4, p5⟩ := HNX.out.2.2.2 gb ga (by omega) (by omega)
                have zhs := HNX.out.1
                have cgs := block_cell kgs
                have zgs := lt_of_block kgs
                generalize hy : up M ga gb hi gb ga = y at *
                have BY := Lib.hid (fun (V : Int) => ((HBX.out.setCell (p := ⟨G gb, ga, none⟩) (HG.out gb (by omega)) (.int .i64 V)).drew))
                have NY := Lib.hid (fun (V : Int) (hV : V = min y (-lo)) => show NetB (ws.setCell ⟨G gb, ga, none⟩ (.int .i64 V)).drew n hd G C (up (up M ga gb hi) gb ga (-lo)) from by
                  have := HNX.out.set (i := gb) (k := ga) (by omega) (by omega) V
                  rw [hV, ← hy] at this ⊢
                  exact this)
                clear q1 q2 q3 q4 q5 cg zg kgs hy
                go_wp2_with fail
                refine wp_region_still_tail 22 (by kernel_rfl) (by kernel_rfl) ?_
                change wpStill _ _ (World.drew _) (fun a' => wpList _ _ _ _ a' (World.drew _)) _ _
                simp only [List.take_succ_cons, List.take_zero, List.drop_succ_cons, List.drop_zero]
                repeat still_step
                refine wpStill_nil ?_
                go_wp2
                all_goals
                  go_roundw
                  case rel => exact ⟨k + 1, hlt, by go_num, BY.out _, (NY.out _ (by omega)).congr (fun a b _ _ => (congrFun (congrFun HMS.out a) b).symm)⟩
                  case measure => simp [intOf]; omega
              · have HNX := Lib.hid (NX.out (x) (by omega))
                have HBX := Lib.hid (BX.out (x))
                have kgs := HKG.out (x)
                generalize (wU.setCell ⟨G ga, gb, none⟩ (.int .i64 (x))).drew = ws at *
                obtain ⟨p1, p2, p3⟩ := HNX.out.2.1 gb (by omega)
                obtain ⟨p4, p5⟩ := HNX.out.2.2.2 gb ga (by omega) (by omega)
                have zhs := HNX.out.1
                have cgs := block_cell kgs
                have zgs := lt_of_block kgs
                generalize hy : up M ga gb hi gb ga = y at *
                have BY := Lib.hid (fun (V : Int) => ((HBX.out.setCell (p := ⟨G gb, ga, none⟩) (HG.out gb (by omega)) (.int .i64 V)).drew))
                have NY := Lib.hid (fun (V : Int) (hV : V = min y (-lo)) => show NetB (ws.setCell ⟨G gb, ga, none⟩ (.int .i64 V)).drew n hd G C (up (up M ga gb hi) gb ga (-lo)) from by
                  have := HNX.out.set (i := gb) (k := ga) (by omega) (by omega) V
                  rw [hV, ← hy] at this ⊢
                  exact this)
                clear q1 q2 q3 q4 q5 cg zg kgs hy
                go_wp2_with fail
                refine wp_region_still_tail 22 (by kernel_rfl) (by kernel_rfl) ?_
                change wpStill _ _ (World.drew _) (fun a' => wpList _ _ _ _ a' (World.drew _)) _ _
                simp only [List.take_succ_cons, List.take_zero, List.drop_succ_cons, List.drop_zero]
                repeat still_step
                refine wpStill_nil ?_
                go_wp2
                all_goals
                  go_roundw
                  case rel => exact ⟨k + 1, hlt, by go_num, BY.out _, (NY.out _ (by omega)).congr (fun a b _ _ => (congrFun (congrFun HMS.out a) b).symm)⟩
                  case measure => simp [intOf]; omega
            · obtain rfl : k = l.length := by omega
              have hN0 := hN.out
              rw [List.take_length] at hN0
              have HM : Hid (NetOk n (netS (CN n pi li) l)) := by
                have := netS_ok HC.out HL.out
                rw [show (CN n pi li).n.toNat = n by simp] at this
                exact this
              have R0 := Lib.hid (show SiRel n (netS (CN n pi li) l) hd G C wA wr 0 0 0 from ⟨hb.out, _, hN0, fun i k hi hk => by rw [mid_start]; rfl⟩)
              have G0 := Lib.hid (show Good n (netS (CN n pi li) l) 0 from fun u hu i hi => by
                obtain rfl : u = 0 := by omega
                show 0 ≤ netS (CN n pi li) l i i
                rw [HM.out.self i hi]; exact Int.le_refl _)
              have HOUT := Lib.hid (fun (wr : World) (t : Nat) (q : Bool) (hh : SiRel n (netS (CN n pi li) l) hd G C wA wr t 0 0) (hq : q = decide (Good n (netS (CN n pi li) l) (n + 1))) (ht : q = true → t = n + 1) => SiRel.out (c := hc') HC.out HL.out HB.out hh hq ht)
              clear hN0 hN
              generalize netS (CN n pi li) l = M0 at *
              go_wp2_with fail
              go_loopw [13] (fun v wr => ∃ t : Nat, t ≤ n + 1 ∧ v = .int .i64 t ∧ Hid (SiRel n M0 hd G C wA wr t 0 0) ∧ Hid (Good n M0 t)) (fun v _ => n + 1 - (intOf v).toNat)
              case atStart => exact ⟨0, by omega, rfl, R0.out, G0.out⟩
              case round =>
                obtain ⟨t, ht, rfl, hR, hG⟩ := hrel
                obtain ⟨wo, rfl⟩ : ∃ wo : World, wo = wr := ⟨_, rfl⟩
                have kc := (hR.out.1.block _ (lt_of_block K0.out)).trans K0.out
                have hce := block_cell kc
                have zc := lt_of_block kc
                clear kc
                by_cases hlt : t < n + 1
                · have hlb : decide (t ≤ n) = true := by simp; omega
                  have HD := Lib.hid (hG.out t (Nat.le_refl _) t (by omega))
                  go_wp2_with fail
                  go_loopw [14] (fun v wr => ∃ i : Nat, i ≤ n + 1 ∧ v = .int .i64 i ∧ Hid (SiRel n M0 hd G C wA wr t i 0)) (fun v _ => n + 1 - (intOf v).toNat)
                  case atStart => exact ⟨0, by omega, rfl, hR.out⟩
                  case round =>
                    obtain ⟨i, hi, rfl, hQ⟩ := hrel
                    obtain ⟨wi, rfl⟩ : ∃ wi : World, wi = wr := ⟨_, rfl⟩
                    have kc := (hQ.out.1.block _ (lt_of_block K0.out)).trans K0.out
                    have hci := block_cell kc
                    have zci := lt_of_block kc
                    clear kc
                    by_cases hlti : i < n + 1
                    · have hlbi : decide (i ≤ n) = true := by simp; omega
                      go_wp2_with fail
                      go_loopw [15] (fun v wr => ∃ k : Nat, k ≤ n + 1 ∧ v = .int .i64 k ∧ Hid (SiRel n M0 hd G C wA wr t i k)) (fun v _ => n + 1 - (intOf v).toNat)
                      case atStart => exact ⟨0, by omega, rfl, hQ.out⟩
                      case round =>
                        obtain ⟨k, hk, rfl, hS⟩ := hrel
                        have kc := (hS.out.1.block _ (lt_of_block K0.out)).trans K0.out
                        have hck := block_cell kc
                        have zck := lt_of_block kc
                        clear kc
                        by_cases hltk : k < n + 1
                        · have hlbk : decide (k ≤ n) = true := by simp; omega
                          obtain ⟨c1, f1⟩ := hS.out.cell (i' := i) (k' := k) (by omega) (by omega)
                          obtain ⟨c2, _⟩ := hS.out.cell (i' := i) (k' := t) (by omega) (by omega)
                          obtain ⟨c3, _⟩ := hS.out.cell (i' := t) (k' := k) (by omega) (by omega)
                          obtain ⟨d1, e1, zh⟩ := hS.out.hdr (i' := i) (by omega)
                          obtain ⟨d2, e2, _⟩ := hS.out.hdr (i' := t) (by omega)
                          have b1 := mid_bd n24' HM.out (t := t) (by omega) i k (i' := i) (k' := k) (by omega) (by omega)
                          have b2 := mid_bd n24' HM.out (t := t) (by omega) i k (i' := i) (k' := t) (by omega) (by omega)
                          have b3 := mid_bd n24' HM.out (t := t) (by omega) i k (i' := t) (k' := k) (by omega) (by omega)
                          have HVV := Lib.hid (mid_step (M := fw M0 t) (b := t) (i := i) (k := k) HD.out)
                          generalize mid (fw M0 t) t i k i k = x at c1 b1 HVV
                          generalize mid (fw M0 t) t i k i t = y at c2 b2 HVV
                          generalize mid (fw M0 t) t i k t k = z at c3 b3 HVV
                          obtain ⟨x1, x2⟩ := b1
                          obtain ⟨y1, y2⟩ := b2
                          obtain ⟨z1, z2⟩ := b3
                          have t1 : (0 : Int) ≤ t := by omega
                          have t2 : (t : Int) < (n : Int) + 1 := by omega
                          have i1 : (0 : Int) ≤ i := by omega
                          have i2 : (i : Int) < (n : Int) + 1 := by omega
                          have k1 : (0 : Int) ≤ k := by omega
                          have k2 : (k : Int) < (n : Int) + 1 := by omega
                          go_wp2_with fail
                          refine wp_region_still_tail 29 (by kernel_rfl) (by kernel_rfl) ?_
                          change wpStill _ _ (World.drew _) (fun a' => wpList _ _ _ _ a' (World.drew _)) _ _
                          simp only [List.take_succ_cons, List.take_zero, List.drop_succ_cons, List.drop_zero]
                          repeat still_step
                          refine wpStill_nil ?_
                          go_wp2
                          all_goals
                            go_roundw
                            case rel => exact ⟨k + 1, by omega, by go_num, hS.out.step (HG.out i (by omega)) (by omega) (by omega) (by rw [← HVV.out]; first | exact if_min | omega)⟩
                            case measure => simp [intOf]; omega
                        · obtain rfl : k = n + 1 := by omega
                          have hlbk : decide (n + 1 ≤ n) = false := by simp
                          have HS := Lib.hid hS.out.row
                          go_wp2
                          go_roundw
                          case rel => exact ⟨i + 1, by omega, by go_num, HS.out⟩
                          case measure => simp [intOf]; omega
                    · obtain rfl : i = n + 1 := by omega
                      have hlbi : decide (n + 1 ≤ n) = false := by simp
                      have HQ := Lib.hid hQ.out.turn
                      go_wp2_with fail
                      go_loopw [16] (fun v wr => ∃ k : Nat, k ≤ n + 1 ∧ v = .int .i64 k ∧ Hid (SiRel n M0 hd G C wA wr (t + 1) 0 0) ∧ Hid (∀ i, i < k → 0 ≤ fw M0 (t + 1) i i)) (fun v _ => n + 1 - (intOf v).toNat)
                      case atStart => exact ⟨0, by omega, rfl, HQ.out, fun i hi => by omega⟩
                      case round =>
                        obtain ⟨k, hk, rfl, hS, hP⟩ := hrel
                        have kc := (hS.out.1.block _ (lt_of_block K0.out)).trans K0.out
                        have hck := block_cell kc
                        have zck := lt_of_block kc
                        clear kc
                        by_cases hltk : k < n + 1
                        · have hlbk : decide (k ≤ n) = true := by simp; omega
                          obtain ⟨c1, _⟩ := hS.out.cell (i' := k) (k' := k) (by omega) (by omega)
                          obtain ⟨d1, e1, zh⟩ := hS.out.hdr (i' := k) (by omega)
                          rw [mid_start] at c1
                          have k1 : (0 : Int) ≤ k := by omega
                          have k2 : (k : Int) < (n : Int) + 1 := by omega
                          generalize hx : fw M0 (t + 1) k k = x at c1
                          have HX := Lib.hid hx
                          clear hx
                          by_cases hneg : x < 0
                          · have HNN := Lib.hid (show false = decide (Good n M0 (n + 1)) by
                              symm
                              rw [decide_eq_false_iff_not]
                              intro hg
                              have := hg (t + 1) (by omega) k (by omega)
                              rw [HX.out] at this
                              omega)
                            go_wp2
                            go_ret2
                            exact HOUT.out _ _ _ hS.out HNN.out (fun h => by cases h)
                          · have HNN := Lib.hid hneg
                            go_wp2
                            go_roundw
                            case rel => exact ⟨k + 1, by omega, by go_num, hS.out, fun i hi => by
                              by_cases hik : i = k
                              · rw [hik, HX.out]; have := HNN.out; omega
                              · exact hP.out i (by omega)⟩
                            case measure => simp [intOf]; omega
                        · obtain rfl : k = n + 1 := by omega
                          have hlbk : decide (n + 1 ≤ n) = false := by simp
                          have HG2 := Lib.hid (hG.out.next (fun i hi => hP.out i (by omega)))
                          go_wp2
                          go_roundw
                          case rel => exact ⟨t + 1, by omega, by go_num, hS.out, HG2.out⟩
                          case measure => simp [intOf]; omega
                · obtain rfl : t = n + 1 := by omega
                  have hlb : decide (n + 1 ≤ n) = false := by simp
                  have HG2 := Lib.hid (decide_eq_true hG.out)
                  go_wp2
                  go_ret2
                  exact HOUT.out _ _ _ hR.out HG2.out.symm (fun _ => rfl)

end Go.Proofs.Ythgcnakbbmknoaa

/- Walks of layer 2 (chain): a net's run, and checked, Run of the specification. -/
namespace Go.Proofs.Ythgcnakbbmknoaa
open Go.RowKit

set_option maxRecDepth 100000 in
set_option maxHeartbeats 1000000 in
theorem nrun_any (M : Net) (n hd c : Nat) (G C : Nat → Nat) (i k : Nat) (w : World) (hN : NetB w n hd G C M) (hi : i ≤ n) (hk : k ≤ n) (_hn : n ≤ 24) (h1 : -1000000000000000 ≤ M k i) (h2 : M k i ≤ 1000000000000000) :
    Calls Try.prog 55 #[.slice (some ⟨hd, 0, none⟩) (n + 1) c, .int .i64 i, .int .i64 k] w fun e w' => e = .returned (.agg #[.int .i64 (-M k i), .int .i64 (M i k)]) ∧ Below w.heap.size w w' := by
  obtain ⟨p1, p2, p3⟩ := hN.2.1 k hk
  obtain ⟨q1, q2, q3⟩ := hN.2.1 i hi
  have c1 := (hN.2.2.2 k i hk hi).1
  have c2 := (hN.2.2.2 i k hi hk).1
  have hb := hN.1
  have i1 : (0 : Int) ≤ i := by omega
  have i2 : (i : Int) < (n : Int) + 1 := by omega
  have k1 : (0 : Int) ≤ k := by omega
  have k2 : (k : Int) < (n : Int) + 1 := by omega
  clear hN p3 q3
  go_enter Try.func55, Try.ntmps55
  go_wp2_with fail
  refine wp_region_still_tail 16 (by kernel_rfl) (by kernel_rfl) ?_
  change wpStill _ _ (World.drew _) (fun a' => wpList _ _ _ _ a' (World.drew _)) _ _
  simp only [List.take_succ_cons, List.take_zero, List.drop_succ_cons, List.drop_zero]
  repeat still_step
  refine wpStill_nil ?_
  go_wp2
  exact bodyPost_ret (v := .agg #[.int .i64 (-M k i), .int .i64 (M i k)]) (by simp [results, Try.results55, go_sem]) rfl ⟨rfl, ((Below.refl _ _).alloc (Nat.le_refl _) _).drew⟩

/-- The answer of checked. -/
def CkM (c : Chn) (l : List Gau) (a b : Int) : Int := if crunM c l a b = 0 then (if agreeB c l = true then 0 else 3) else crunM c l a b
def CkRes (c : Chn) (l : List Gau) (a b : Int) (w : World) (e : Ending) (w' : World) : Prop :=
  Below w.heap.size w w' ∧ ((CkM c l a b ≠ 0 ∧ e = .returned (.tuple #[.slice none 0 0, .int .i64 (CkM c l a b)])) ∨
    (CkM c l a b = 0 ∧ ∃ (hd cp : Nat) (G C : Nat → Nat) (M : Net), e = .returned (.tuple #[.slice (some ⟨hd, 0, none⟩) (c.n.toNat + 1) cp, .int .i64 0]) ∧ NetB w' c.n.toNat hd G C M ∧
      ∀ i k, i ≤ c.n.toNat → k ≤ c.n.toNat → M i k = RM c l i k))

theorem ck_zero {c : Chn} {l : List Gau} {a b : Int} (h : CkM c l a b = 0) : crunM c l a b = 0 ∧ agreeB c l = true := by
  unfold CkM at h
  split at h
  · split at h
    · refine ⟨?_, ?_⟩ <;> assumption
    · omega
  · omega

theorem crun_two {c : Chn} {l : List Gau} {a b : Int} (h : chkM c l = 0) : crunM c l a b = if 0 ≤ a ∧ a ≤ b ∧ b ≤ c.n then 0 else 1 := by unfold crunM; rw [if_pos h]

theorem rbuildC_any (c : Chn) (l : List Gau) (v : Value) (w : World) (hv : GaAt w v l) (hc : COk c) (hl : GOks c l) (hlen : l.length ≤ 100) :
    Calls Try.prog 57 #[chnV c, v] w fun e w' => ∃ (hd cp : Nat) (G C : Nat → Nat) (M1 : Net), e = .returned (.tuple #[.slice (some ⟨hd, 0, none⟩) (c.n.toNat + 1) cp, .bool (agreeB c l)]) ∧ Below w.heap.size w w' ∧ NetB w' c.n.toNat hd G C M1 ∧
      (agreeB c l = true → ∀ i k, i ≤ c.n.toNat → k ≤ c.n.toNat → M1 i k = RM c l i k) := by
  obtain ⟨n, pi, li⟩ := c
  obtain ⟨n, rfl⟩ : ∃ m : Nat, n = m := ⟨n.toNat, by have := hc.n1; dsimp only at this; omega⟩
  exact rbuild_any n pi li l v w hv hc hl hlen

set_option maxRecDepth 100000 in
set_option maxHeartbeats 4000000 in
theorem rchecked_any (c : Chn) (l : List Gau) (v : Value) (a b : Int) (w : World) (hv : GaAt w v l) :
    Calls Try.prog 54 #[chnV c, v, .int .i64 a, .int .i64 b] w (CkRes c l a b w) := by
  have hb0 := (Below.refl w.heap.size w).alloc (Nat.le_refl _) (Obj.cells #[.int .i64 c.n, .int .i64 c.pi, .int .i64 c.li] 23)
  have k0 := block_new w (Obj.cells #[.int .i64 c.n, .int .i64 c.pi, .int .i64 c.li] 23) w.heap.size rfl
  have hsz : (w.alloc (Obj.cells #[.int .i64 c.n, .int .i64 c.pi, .int .i64 c.li] 23)).heap.size = w.heap.size + 1 := size_alloc _ _
  have K0 := Lib.hid k0
  have HB := Lib.hid hb0
  have HSZ := Lib.hid hsz
  clear k0 hb0 hsz
  have HV := Lib.hid (hv.below HB.out (Nat.le_refl _))
  obtain ⟨va, cap, rfl, hn, hcap, hc⟩ := hv
  clear hc
  by_cases hq : chkM c l = 0
  · have HQ := Lib.hid hq
    have HR := Lib.hid (crun_two (a := a) (b := b) hq)
    obtain ⟨hck1, hck2, hck3⟩ := chk_goks hq
    clear hq
    have HC1 := Lib.hid hck1
    have HC2 := Lib.hid hck2
    have hl : l.length ≤ 100 := by omega
    clear hck1 hck2 hck3
    by_cases h0 : a < 0
    · have HE := Lib.hid (show CkM c l a b = 1 by have e : crunM c l a b = 1 := by { rw [HR.out, if_neg (by omega)] }; unfold CkM; rw [e]; rfl)
      go_enter Try.func54, Try.ntmps54
      go_wp2_with fail
      generalize hwA : w.alloc (Obj.cells #[.int .i64 c.n, .int .i64 c.pi, .int .i64 c.li] 23) = wA at *
      clear hwA
      have hce := block_cell K0.out
      go_wp2_with fail
      refine (rcheck_any c l _ _ HV.out).mono ?_
      rintro e w1 ⟨rfl, hb1⟩
      rw [HQ.out]
      clear hce
      have hce := block_cell ((hb1.block _ (lt_of_block K0.out)).trans K0.out)
      have hz := Nat.lt_of_lt_of_le (lt_of_block K0.out) hb1.size
      go_wp2
      refine bodyPost_ret (v := .tuple #[.slice none 0 0, .int .i64 1]) (by simp [results, Try.results54, go_sem]) rfl ⟨HB.out.trans (hb1.mono HB.out.size), .inl ⟨by rw [HE.out]; decide, by rw [HE.out]⟩⟩
    · by_cases h1 : a ≤ b
      · by_cases h2 : b ≤ c.n
        · have HE := Lib.hid (show crunM c l a b = 0 by rw [HR.out, if_pos (by omega)])
          go_enter Try.func54, Try.ntmps54
          go_wp2_with fail
          generalize hwA : w.alloc (Obj.cells #[.int .i64 c.n, .int .i64 c.pi, .int .i64 c.li] 23) = wA at *
          clear hwA
          have hce := block_cell K0.out
          go_wp2_with fail
          refine (rcheck_any c l _ _ HV.out).mono ?_
          rintro e w1 ⟨rfl, hb1⟩
          rw [HQ.out]
          clear hce
          have hce := block_cell ((hb1.block _ (lt_of_block K0.out)).trans K0.out)
          have hz := Nat.lt_of_lt_of_le (lt_of_block K0.out) hb1.size
          have HB1 := Lib.hid hb1
          have HV1 := Lib.hid (HV.out.below hb1 (Nat.le_refl _))
          clear hb1
          go_wp2_with fail
          refine (rbuildC_any c l _ _ HV1.out HC1.out HC2.out hl).mono ?_
          rintro e w2 ⟨hd, cp, G, C, M1, rfl, hb2, hN, hM⟩
          have HBW := Lib.hid (HB.out.trans ((HB1.out.trans (hb2.mono HB1.out.size)).mono HB.out.size))
          have HN := Lib.hid hN
          have HM := Lib.hid hM
          clear hb2 hN hM hce hz
          cases hag : agreeB c l
          · have HF := Lib.hid (show CkM c l a b = 3 by unfold CkM; rw [HE.out, if_pos rfl, if_neg (by rw [hag]; decide)])
            clear hag
            go_wp2
            refine bodyPost_ret (v := .tuple #[.slice none 0 0, .int .i64 3]) (by simp [results, Try.results54, go_sem]) rfl ⟨HBW.out, .inl ⟨by rw [HF.out]; decide, by rw [HF.out]⟩⟩
          · have HF := Lib.hid (show CkM c l a b = 0 by unfold CkM; rw [HE.out, if_pos rfl, if_pos hag])
            have HM2 := Lib.hid (HM.out hag)
            clear hag
            go_wp2
            refine bodyPost_ret (v := .tuple #[.slice (some ⟨hd, 0, none⟩) (c.n.toNat + 1) cp, .int .i64 0]) (by simp [results, Try.results54, go_sem]) rfl ⟨HBW.out, .inr ⟨HF.out, hd, cp, G, C, M1, rfl, HN.out, HM2.out⟩⟩
        · have HE := Lib.hid (show CkM c l a b = 1 by have e : crunM c l a b = 1 := by { rw [HR.out, if_neg (by omega)] }; unfold CkM; rw [e]; rfl)
          go_enter Try.func54, Try.ntmps54
          go_wp2_with fail
          generalize hwA : w.alloc (Obj.cells #[.int .i64 c.n, .int .i64 c.pi, .int .i64 c.li] 23) = wA at *
          clear hwA
          have hce := block_cell K0.out
          go_wp2_with fail
          refine (rcheck_any c l _ _ HV.out).mono ?_
          rintro e w1 ⟨rfl, hb1⟩
          rw [HQ.out]
          clear hce
          have hce := block_cell ((hb1.block _ (lt_of_block K0.out)).trans K0.out)
          have hz := Nat.lt_of_lt_of_le (lt_of_block K0.out) hb1.size
          go_wp2
          refine bodyPost_ret (v := .tuple #[.slice none 0 0, .int .i64 1]) (by simp [results, Try.results54, go_sem]) rfl ⟨HB.out.trans (hb1.mono HB.out.size), .inl ⟨by rw [HE.out]; decide, by rw [HE.out]⟩⟩
      · have HE := Lib.hid (show CkM c l a b = 1 by have e : crunM c l a b = 1 := by { rw [HR.out, if_neg (by omega)] }; unfold CkM; rw [e]; rfl)
        go_enter Try.func54, Try.ntmps54
        go_wp2_with fail
        generalize hwA : w.alloc (Obj.cells #[.int .i64 c.n, .int .i64 c.pi, .int .i64 c.li] 23) = wA at *
        clear hwA
        have hce := block_cell K0.out
        go_wp2_with fail
        refine (rcheck_any c l _ _ HV.out).mono ?_
        rintro e w1 ⟨rfl, hb1⟩
        rw [HQ.out]
        clear hce
        have hce := block_cell ((hb1.block _ (lt_of_block K0.out)).trans K0.out)
        have hz := Nat.lt_of_lt_of_le (lt_of_block K0.out) hb1.size
        go_wp2
        refine bodyPost_ret (v := .tuple #[.slice none 0 0, .int .i64 1]) (by simp [results, Try.results54, go_sem]) rfl ⟨HB.out.trans (hb1.mono HB.out.size), .inl ⟨by rw [HE.out]; decide, by rw [HE.out]⟩⟩
  · have HQ := Lib.hid (show CkM c l a b = chkM c l by unfold CkM; rw [← crun_bad (a := a) (b := b) hq, if_neg hq])
    have HN := Lib.hid hq
    go_enter Try.func54, Try.ntmps54
    go_wp2_with fail
    generalize hwA : w.alloc (Obj.cells #[.int .i64 c.n, .int .i64 c.pi, .int .i64 c.li] 23) = wA at *
    clear hwA
    have hce := block_cell K0.out
    go_wp2_with fail
    refine (rcheck_any c l _ _ HV.out).mono ?_
    rintro e w1 ⟨rfl, hb1⟩
    generalize chkM c l = m at *
    go_wp2
    refine bodyPost_ret (v := .tuple #[.slice none 0 0, .int .i64 m]) (by simp [results, Try.results54, go_sem]) rfl ⟨HB.out.trans (hb1.mono HB.out.size), .inl ⟨by rw [HQ.out]; exact HN.out, by rw [HQ.out]⟩⟩

end Go.Proofs.Ythgcnakbbmknoaa

/- Walks of layer 2 (chain): Run of the specification. -/
namespace Go.Proofs.Ythgcnakbbmknoaa
open Go.RowKit

theorem run_bad {c : Chn} {l : List Gau} {a b : Int} (h : CkM c l a b ≠ 0) : (⟨0, 0, CkM c l a b⟩ : RunA) = runM c l a b := by
  unfold CkM at h ⊢
  unfold runM
  by_cases h1 : crunM c l a b = 0
  · rw [if_pos h1] at h ⊢
    rw [if_pos h1]
    by_cases h2 : agreeB c l = true
    · rw [if_pos h2] at h; exact absurd rfl h
    · rw [if_neg h2, if_neg h2]
  · rw [if_neg h1, if_neg h1]

theorem run_good {c : Chn} {l : List Gau} {a b : Int} (h : CkM c l a b = 0) : (⟨lowM c l a.toNat b.toNat, highM c l a.toNat b.toNat, 0⟩ : RunA) = runM c l a b := by
  obtain ⟨h1, h2⟩ := ck_zero h
  unfold runM
  rw [if_pos h1, if_pos h2]

theorem ck_small {c : Chn} {l : List Gau} {a b : Int} (h : CkM c l a b = 0) {i k : Nat} (hi : i ≤ c.n.toNat) (hk : k ≤ c.n.toNat) : -335544320000000 ≤ RM c l i k ∧ RM c l i k ≤ 1099511627776 := by
  obtain ⟨h1, h2, h3⟩ := chk_goks (crun_zero (ck_zero h).1).1
  exact RM_small h1 h2 hi hk

end Go.Proofs.Ythgcnakbbmknoaa

/- Walks of layer 2 (chain): Longest of the specification. -/
namespace Go.Proofs.Ythgcnakbbmknoaa
open Go.RowKit

/-- The first of the longest among the first k runs. -/
def lngTo (H : Nat → Int) : Nat → Nat × Int
  | 0 => (0, 0)
  | k + 1 => if (lngTo H k).2 < H k then (k, H k) else lngTo H k

theorem lng_more {H : Nat → Int} {k : Nat} (h : (lngTo H k).2 < H k) : lngTo H (k + 1) = (k, H k) := by rw [lngTo, if_pos h]
theorem lng_same {H : Nat → Int} {k : Nat} (h : ¬ (lngTo H k).2 < H k) : lngTo H (k + 1) = lngTo H k := by rw [lngTo, if_neg h]

structure LonA where
  a : Int
  m : Int
  e : Int
abbrev lonV (r : LonA) : Value := .tuple #[.int .i64 r.a, .int .i64 r.m, .int .i64 r.e]
def lonH (c : Chn) (l : List Gau) (m : Nat) : Nat → Int := fun i => RM c l i (i + m)
def lonM (c : Chn) (l : List Gau) (m : Int) : LonA :=
  if chkM c l = 0 then (if 1 ≤ m ∧ m ≤ c.n then (if agreeB c l = true then ⟨(lngTo (lonH c l m.toNat) (c.n.toNat - m.toNat + 1)).1, (lngTo (lonH c l m.toNat) (c.n.toNat - m.toNat + 1)).2, 0⟩ else ⟨0, 0, 3⟩) else ⟨0, 0, 1⟩) else ⟨0, 0, chkM c l⟩

theorem lon_bad {c : Chn} {l : List Gau} {m : Int} (h : ¬ chkM c l = 0) : (⟨0, 0, chkM c l⟩ : LonA) = lonM c l m := by unfold lonM; rw [if_neg h]
theorem lon_arg {c : Chn} {l : List Gau} {m : Int} (h : chkM c l = 0) (h2 : ¬ (1 ≤ m ∧ m ≤ c.n)) : (⟨0, 0, 1⟩ : LonA) = lonM c l m := by unfold lonM; rw [if_pos h, if_neg h2]
theorem lon_none {c : Chn} {l : List Gau} {m : Int} (h : chkM c l = 0) (h2 : 1 ≤ m ∧ m ≤ c.n) (h3 : agreeB c l = false) : (⟨0, 0, 3⟩ : LonA) = lonM c l m := by unfold lonM; rw [if_pos h, if_pos h2, if_neg (by rw [h3]; decide)]
theorem lon_ok {c : Chn} {l : List Gau} {m : Nat} (h : chkM c l = 0) (h2 : 1 ≤ (m : Int) ∧ (m : Int) ≤ c.n) (h3 : agreeB c l = true) : (⟨(lngTo (lonH c l m) (c.n.toNat - m + 1)).1, (lngTo (lonH c l m) (c.n.toNat - m + 1)).2, 0⟩ : LonA) = lonM c l m := by
  unfold lonM; rw [if_pos h, if_pos h2, if_pos h3]; rfl

end Go.Proofs.Ythgcnakbbmknoaa

/- Walks of layer 2 (chain): Longest of the program. -/
namespace Go.Proofs.Ythgcnakbbmknoaa
open Go.RowKit

theorem followC_any (c : Chn) (l : List Gau) (v : Value) (w : World) (hv : GaAt w v l) (h : chkM c l = 0) :
    Calls Try.prog 50 #[chnV c, v, .func (.func 52) #[] #[]] w fun e w' =>
      ∃ M1 : Net, e = .returned (.tuple #[.agg (netC M1), .bool (agreeB c l)]) ∧ Below w.heap.size w w' ∧ (agreeB c l = true → ∀ i k, i ≤ c.n.toNat → k ≤ c.n.toNat → M1 i k = RM c l i k) := by
  obtain ⟨n, pi, li⟩ := c
  obtain ⟨n, rfl⟩ : ∃ m : Nat, n = m := ⟨n.toNat, by have := (chk_goks h).1.n1; dsimp only at this; omega⟩
  exact follow_any n pi li l v w hv h

theorem brun1 (M : Net) (b i k : Nat) (kI : Int) (w : World) (h : Bd w b M) (hkI : kI = k) (hi : i < 25) (hk : k < 25) (h1 : -1000000000000000 ≤ M k i) (h2 : M k i ≤ 1000000000000000) :
    Calls Try.prog 53 #[.pointer (some ⟨b, 0, none⟩), .int .i64 i, .int .i64 kI] w fun e w' => e = .returned (.agg #[.int .i64 (-M k i), .int .i64 (M i k)]) ∧ Below w.heap.size w w' := by
  subst hkI
  exact brun_any M b i k w h hi hk h1 h2

set_option maxRecDepth 100000 in
set_option maxHeartbeats 4000000 in
theorem kLongest_any (c : Chn) (l : List Gau) (v : Value) (m : Int) (w : World) (hv : GaAt w v l) :
    Calls Try.prog 24 #[chnV c, v, .int .i64 m] w fun e w' => e = .returned (lonV (lonM c l m)) ∧ Below w.heap.size w w' := by
  have hb0 := (Below.refl w.heap.size w).alloc (Nat.le_refl _) (Obj.cells #[.int .i64 c.n, .int .i64 c.pi, .int .i64 c.li] 23)
  have k0 := block_new w (Obj.cells #[.int .i64 c.n, .int .i64 c.pi, .int .i64 c.li] 23) w.heap.size rfl
  have hsz : (w.alloc (Obj.cells #[.int .i64 c.n, .int .i64 c.pi, .int .i64 c.li] 23)).heap.size = w.heap.size + 1 := size_alloc _ _
  have K0 := Lib.hid k0
  have HB := Lib.hid hb0
  have HSZ := Lib.hid hsz
  clear k0 hb0 hsz
  have HV := Lib.hid (hv.below HB.out (Nat.le_refl _))
  obtain ⟨va, cap, rfl, hn, hcap, hc⟩ := hv
  clear hc
  by_cases hq : chkM c l = 0
  · have HQ := Lib.hid hq
    obtain ⟨hck1, hck2, hck3⟩ := chk_goks hq
    have n24 := hck1.n2
    have n1 := hck1.n1
    have HC1 := Lib.hid hck1
    have HC2 := Lib.hid hck2
    have hzb := zeroBounds
    clear hck1 hck2 hck3 hq
    go_enter Try.func24, Try.ntmps24
    go_wp2_with fail
    generalize hwA : w.alloc (Obj.cells #[.int .i64 c.n, .int .i64 c.pi, .int .i64 c.li] 23) = wA at *
    clear hwA
    have hce := block_cell K0.out
    go_wp2_with fail
    refine (kcheck_any c l _ _ HV.out).mono ?_
    rintro e w1 ⟨rfl, hb1⟩
    rw [HQ.out]
    clear hce
    have hce := block_cell ((hb1.block _ (lt_of_block K0.out)).trans K0.out)
    have hz := Nat.lt_of_lt_of_le (lt_of_block K0.out) hb1.size
    have HB1 := Lib.hid hb1
    have HV1 := Lib.hid (HV.out.below hb1 (Nat.le_refl _))
    clear hb1
    cases hm : decide (1 ≤ m ∧ m ≤ c.n)
    · have HR := Lib.hid (lon_arg HQ.out (of_decide_eq_false hm))
      go_wp2_with (go_at_call 49; refine (kwithin_is false m 1 c.n _ hm).mono ?_; rintro e w' ⟨rfl, rfl⟩)
      refine bodyPost_ret (v := lonV ⟨0, 0, 1⟩) (by simp [results, Try.results24, go_sem]) rfl ⟨by rw [HR.out], HB.out.trans (HB1.out.mono HB.out.size)⟩
    · have hm2 := of_decide_eq_true hm
      obtain ⟨m, rfl⟩ : ∃ k : Nat, m = k := ⟨m.toNat, by omega⟩
      have HM2 := Lib.hid hm2
      have hm0 := hm2.1
      have hm1 := hm2.2
      clear hm2
      go_wp2_with (go_at_call 49; refine (kwithin_is true m 1 c.n _ hm).mono ?_; rintro e w' ⟨rfl, rfl⟩)
      refine (followC_any c l _ _ HV1.out HQ.out).mono ?_
      rintro e w2 ⟨M1, rfl, hb2, hM⟩
      have HBW := Lib.hid (HB.out.trans ((HB1.out.trans (hb2.mono HB1.out.size)).mono HB.out.size))
      have kE := (hb2.block _ hz).trans ((HB1.out.block _ (lt_of_block K0.out)).trans K0.out)
      have KE := Lib.hid kE
      have HM := Lib.hid hM
      have hst := storeBounds M1
      have hs1 := netC_size M1
      clear hb2 hM hce hz kE hm
      cases hag : agreeB c l
      · have HR := Lib.hid (lon_none HQ.out HM2.out hag)
        clear hag
        go_wp2
        refine bodyPost_ret (v := lonV ⟨0, 0, 3⟩) (by simp [results, Try.results24, go_sem]) rfl ⟨by rw [HR.out], ?_⟩
        exact HBW.out.alloc HBW.out.size _
      · have HR := Lib.hid (lon_ok HQ.out HM2.out hag)
        have HH := Lib.hid (fun k (hk : k + m ≤ c.n.toNat) => show M1 k (k + m) = lonH c l m k from HM.out hag k (k + m) (by omega) hk)
        have HS := Lib.hid (fun i k (hi : i ≤ c.n.toNat) (hk : k ≤ c.n.toNat) => show -335544320000000 ≤ M1 i k ∧ M1 i k ≤ 1099511627776 by rw [HM.out hag i k hi hk]; exact RM_small HC1.out HC2.out hi hk)
        have kB : (w2.alloc (.cells (netC M1) 106)).heap[w2.heap.size]? = some (.cells (netC M1) 106) := block_new _ _ _ rfl
        have kE := block_alloc KE.out (.cells (netC M1) 106)
        have hbB := HBW.out.alloc HBW.out.size (.cells (netC M1) 106)
        have KB := Lib.hid kB
        have KE2 := Lib.hid kE
        have HBB := Lib.hid hbB
        have hce := block_cell (block_alloc KE.out (.cells (netC M1) 106))
        have zc := lt_of_block (block_alloc KE.out (.cells (netC M1) 106))
        have hce0 := block_cell KE.out
        have zc0 := lt_of_block KE.out
        clear hag kB kE hbB
        generalize lonH c l m = H at *
        go_wp2_with fail
        clear hce hce0 zc zc0 hst hs1 hzb
        generalize w2.alloc (.cells (netC M1) 106) = wB at *
        generalize w2.heap.size = p at *
        go_loopw [6, 7, 38] (fun a x i wr => ∃ k : Nat, k + m ≤ c.n.toNat + 1 ∧ i = .int .i64 k ∧ a = .int .i64 (lngTo H k).1 ∧ x = .int .i64 (lngTo H k).2 ∧ Hid (Below wB.heap.size wB wr)) (fun _ _ i _ => c.n.toNat + 1 - (intOf i).toNat)
        case atStart => exact ⟨0, by omega, rfl, rfl, rfl, Below.refl _ _⟩
        case round =>
          obtain ⟨k, hk, rfl, rfl, rfl, hb⟩ := hrel
          by_cases hlt : k + m ≤ c.n.toNat
          · have s1 := HS.out (k + m) k (by omega) (by omega)
            have kb := (hb.out.block _ (lt_of_block KB.out)).trans KB.out
            have KBr := Lib.hid kb
            clear kb
            have hf1 := spanField1
            by_cases hgt : (lngTo H k).2 < H k
            · have HL := Lib.hid (lng_more hgt)
              have HX := Lib.hid (HH.out k hlt)
              generalize lngTo H k = r at *
              generalize H k = h at *
              go_wp2_with fail
              refine (brun1 M1 p k (k + m) _ _ KBr.out (by omega) (by omega) (by omega) (by omega) (by omega)).mono ?_
              rintro e w3 ⟨rfl, hb3⟩
              rw [HX.out]
              have HB3 := Lib.hid (hb.out.trans (hb3.mono hb.out.size))
              clear hb3
              go_wp2_with fail
              go_roundw
              case rel => exact ⟨k + 1, by omega, by go_num, by rw [HL.out], by rw [HL.out], HB3.out⟩
              case measure => simp [intOf]; omega
            · have HL := Lib.hid (lng_same hgt)
              have HX := Lib.hid (HH.out k hlt)
              generalize lngTo H k = r at *
              generalize H k = h at *
              go_wp2_with fail
              refine (brun1 M1 p k (k + m) _ _ KBr.out (by omega) (by omega) (by omega) (by omega) (by omega)).mono ?_
              rintro e w3 ⟨rfl, hb3⟩
              rw [HX.out]
              have HB3 := Lib.hid (hb.out.trans (hb3.mono hb.out.size))
              clear hb3
              go_wp2_with fail
              go_roundw
              case rel => exact ⟨k + 1, by omega, by go_num, by rw [HL.out], by rw [HL.out], HB3.out⟩
              case measure => simp [intOf]; omega
          · obtain rfl : k = c.n.toNat - m + 1 := by omega
            generalize lngTo H (c.n.toNat - m + 1) = r at *
            go_wp2
            refine bodyPost_ret (v := lonV ⟨r.1, r.2, 0⟩) (by simp [results, Try.results24, go_sem]) rfl ⟨by rw [HR.out], HBB.out.trans (hb.out.mono HBB.out.size)⟩
  · have HR := Lib.hid (lon_bad (m := m) hq)
    go_enter Try.func24, Try.ntmps24
    go_wp2_with fail
    generalize hwA : w.alloc (Obj.cells #[.int .i64 c.n, .int .i64 c.pi, .int .i64 c.li] 23) = wA at *
    clear hwA
    have hce := block_cell K0.out
    go_wp2_with fail
    refine (kcheck_any c l _ _ HV.out).mono ?_
    rintro e w1 ⟨rfl, hb1⟩
    generalize chkM c l = q at *
    go_wp2
    refine bodyPost_ret (v := lonV ⟨0, 0, q⟩) (by simp [results, Try.results24, go_sem]) rfl ⟨by rw [HR.out], HB.out.trans (hb1.mono HB.out.size)⟩

end Go.Proofs.Ythgcnakbbmknoaa

/- ChainLongest, the walk. -/
namespace Go.Proofs.Ythgcnakbbmknoaa
open Go.RowKit

end Go.Proofs.Ythgcnakbbmknoaa

/- The plain mathematics of layer 2 (chain), ninth part: lists of the gauges that are left, and the answers of Conflict and Why. Nothing here speaks of the program. -/
namespace Go.Proofs.Ythgcnakbbmknoaa

theorem idxTo_pre (q : Nat → Bool) {k : Nat} : ∀ {n : Nat}, k ≤ n → ∃ r, idxTo q n = idxTo q k ++ r := by
  intro n
  induction n with
  | zero => intro h; obtain rfl : k = 0 := by omega
            exact ⟨[], by simp⟩
  | succ n ih =>
    intro h
    by_cases e : k = n + 1
    · subst e; exact ⟨[], by simp⟩
    · obtain ⟨r, hr⟩ := ih (by omega)
      exact ⟨r ++ (if q n = true then [n] else []), by simp only [idxTo]; rw [hr, List.append_assoc]⟩

theorem idxTo_mono (q : Nat → Bool) {k n : Nat} (h : k ≤ n) : (idxTo q k).length ≤ (idxTo q n).length := by
  obtain ⟨r, hr⟩ := idxTo_pre q h
  rw [hr, List.length_append]; omega

theorem idxTo_lt {q : Nat → Bool} {i n : Nat} (hq : q i = true) (h : i < n) : (idxTo q i).length < (idxTo q n).length := by
  have := idxTo_mono q (show i + 1 ≤ n from h)
  simp only [idxTo, hq, if_true, List.length_append, List.length_singleton] at this
  omega

/-- The gauges of a list whose numbers are among some, without one of these. -/
def wo (l : List Gau) (ns : List Nat) (one : Int) : Nat → List Gau
  | 0 => []
  | k + 1 => wo l ns one k ++ (if (k : Int) = one then [] else [l.getD (ns.getD k 0) Gau.zero])

theorem wo_app {l : List Gau} {ns r : List Nat} {one : Int} : ∀ {k : Nat}, k ≤ ns.length → wo l (ns ++ r) one k = wo l ns one k := by
  intro k
  induction k with
  | zero => intro _; rfl
  | succ k ih =>
    intro h
    simp only [wo]
    rw [ih (by omega)]
    have e : (ns ++ r).getD k 0 = ns.getD k 0 := by
      rw [List.getD_eq_getElem?_getD, List.getD_eq_getElem?_getD, List.getElem?_append_left (by omega)]
    rw [e]

theorem wo_next {l : List Gau} {ns : List Nat} {one : Int} {i : Nat} : wo l (ns ++ [i]) one (ns.length + 1) = wo l ns one ns.length ++ (if (ns.length : Int) = one then [] else [l.getD i Gau.zero]) := by
  simp only [wo]
  rw [wo_app (Nat.le_refl _)]
  have e : (ns ++ [i]).getD ns.length 0 = i := by simp
  rw [e]

theorem wo_all {l : List Gau} {q : Nat → Bool} {one : Int} (h : one < 0) : ∀ n, wo l (idxTo q n) one (idxTo q n).length = selTo l q n := by
  intro n
  induction n with
  | zero => rfl
  | succ n ih =>
    simp only [idxTo, selTo]
    by_cases hq : q n = true
    · rw [if_pos hq, if_pos hq, List.length_append, List.length_singleton, wo_next, ih, if_neg (by omega)]
    · rw [if_neg hq, if_neg hq, List.append_nil, List.append_nil, ih]

theorem wo_but {l : List Gau} {q : Nat → Bool} {i : Nat} (hi : q i = true) : ∀ n, wo l (idxTo q n) ((idxTo q i).length : Nat) (idxTo q n).length = selTo l (upd q i false) n := by
  intro n
  induction n with
  | zero => rfl
  | succ n ih =>
    by_cases hq : q n = true
    · have e : idxTo q (n + 1) = idxTo q n ++ [n] := by simp only [idxTo, hq, if_true]
      rw [e, List.length_append, List.length_singleton, wo_next, ih]
      simp only [selTo]
      by_cases en : n = i
      · subst en
        rw [if_pos rfl, upd_self]
        rfl
      · rw [upd_other _ en, hq, if_pos rfl]
        rw [if_neg]
        intro h
        rcases Nat.lt_or_gt_of_ne en with h1 | h1
        · have := idxTo_lt hq h1; omega
        · have := idxTo_lt hi h1; omega
    · have e : idxTo q (n + 1) = idxTo q n := by simp only [idxTo]; rw [if_neg hq, List.append_nil]
      rw [e, ih]
      simp only [selTo]
      by_cases en : n = i
      · subst en; exact absurd hi hq
      · rw [upd_other _ en, if_neg hq, List.append_nil]

/-- What stands in the list of the numbers. -/
theorem idxTo_at {q : Nat → Bool} {p : Nat} : ∀ {n : Nat}, p < (idxTo q n).length → ∃ i, i < n ∧ q i = true ∧ (idxTo q n).getD p 0 = i ∧ p = (idxTo q i).length := by
  intro n
  induction n with
  | zero => intro h; simp [idxTo] at h
  | succ n ih =>
    intro h
    by_cases hp : p < (idxTo q n).length
    · obtain ⟨i, h1, h2, h3, h4⟩ := ih hp
      refine ⟨i, by omega, h2, ?_, h4⟩
      rw [← h3]
      simp only [idxTo]
      rw [List.getD_eq_getElem?_getD, List.getD_eq_getElem?_getD, List.getElem?_append_left hp]
    · by_cases hq : q n = true
      · have e : idxTo q (n + 1) = idxTo q n ++ [n] := by simp only [idxTo, hq, if_true]
        rw [e, List.length_append, List.length_singleton] at h
        obtain rfl : p = (idxTo q n).length := by omega
        refine ⟨n, by omega, hq, ?_, rfl⟩
        rw [e]; simp
      · have e : idxTo q (n + 1) = idxTo q n := by simp only [idxTo]; rw [if_neg hq, List.append_nil]
        rw [e] at h
        exact absurd h hp

theorem idxTo_asc {q : Nat → Bool} {p n : Nat} (h0 : 1 ≤ p) (h : p < (idxTo q n).length) : (idxTo q n).getD (p - 1) 0 < (idxTo q n).getD p 0 := by
  obtain ⟨i, h1, h2, h3, h4⟩ := idxTo_at h
  obtain ⟨j, g1, g2, g3, g4⟩ := idxTo_at (q := q) (n := n) (p := p - 1) (by omega)
  rw [h3, g3]
  rcases Nat.lt_or_ge j i with e | e
  · exact e
  · have := idxTo_mono q e
    omega

/-- One of the numbers is taken out. -/
theorem idx_drop {q : Nat → Bool} {i : Nat} (hi : q i = true) : ∀ {n : Nat}, i < n → (idxTo q n).take (idxTo q i).length ++ (idxTo q n).drop ((idxTo q i).length + 1) = idxTo (upd q i false) n := by
  intro n
  induction n with
  | zero => intro h; omega
  | succ n ih =>
    intro h
    by_cases en : n = i
    · subst en
      have e : idxTo q (n + 1) = idxTo q n ++ [n] := by simp only [idxTo, hi, if_true]
      have e2 : idxTo (upd q n false) (n + 1) = idxTo q n := by
        simp only [idxTo, upd_self]
        rw [if_neg (by decide), List.append_nil]
        exact idxTo_congr n fun j hj => upd_other _ (by omega)
      rw [e, e2, List.take_append_of_le_length (Nat.le_refl _), List.take_length]
      simp
    · have hlt := idxTo_lt hi (show i < n by omega)
      simp only [idxTo]
      rw [upd_other _ en, ← ih (by omega), List.take_append_of_le_length (by omega), List.drop_append_of_le_length (by omega), List.append_assoc]

section
variable {h : (Nat → Bool) → Bool}

theorem keep_len {n : Nat} : ∀ {i : Nat}, i ≤ n → (idxTo (keepF h i) n).length = (idxTo (keepF h i) i).length + (n - i) := by
  intro i hi
  induction n with
  | zero => obtain rfl : i = 0 := by omega
            rfl
  | succ n ih =>
    by_cases e : i = n + 1
    · subst e; omega
    · have hk : keepF h i n = true := keepF_ge (by omega)
      have e2 : idxTo (keepF h i) (n + 1) = idxTo (keepF h i) n ++ [n] := by simp only [idxTo, hk, if_true]
      rw [e2, List.length_append, ih (by omega), List.length_singleton]
      omega

theorem keep_yes {i : Nat} (hh : h (upd (keepF h i) i false) = true) : keepF h (i + 1) = upd (keepF h i) i false := by simp only [keepF]; rw [if_pos hh]
theorem keep_no {i : Nat} (hh : h (upd (keepF h i) i false) = false) : keepF h (i + 1) = keepF h i := by simp only [keepF]; rw [if_neg (by rw [hh]; decide)]

/-- The numbers below i that are left do not change any more. -/
theorem keep_idx {i : Nat} : idxTo (keepF h (i + 1)) i = idxTo (keepF h i) i := idxTo_congr i fun j hj => keepF_step (by omega)
theorem keep_same {i : Nat} : keepF h i i = true := keepF_ge (Nat.le_refl _)

/-- A step of taking away, over the list of those that are left. -/
theorem left_yes {i n : Nat} (hin : i < n) (hh : h (upd (keepF h i) i false) = true) :
    (idxTo (keepF h i) n).take (idxTo (keepF h i) i).length ++ (idxTo (keepF h i) n).drop ((idxTo (keepF h i) i).length + 1) = idxTo (keepF h (i + 1)) n ∧ (idxTo (keepF h (i + 1)) (i + 1)).length = (idxTo (keepF h i) i).length := by
  refine ⟨by rw [idx_drop keep_same hin, keep_yes hh], ?_⟩
  have e : keepF h (i + 1) i = false := by rw [keep_yes hh, upd_self]
  simp only [idxTo]
  rw [keep_idx, e, if_neg (by decide), List.append_nil]
theorem left_no {i n : Nat} (hh : h (upd (keepF h i) i false) = false) :
    idxTo (keepF h i) n = idxTo (keepF h (i + 1)) n ∧ (idxTo (keepF h (i + 1)) (i + 1)).length = (idxTo (keepF h i) i).length + 1 := by
  refine ⟨by rw [keep_no hh], ?_⟩
  have e : keepF h (i + 1) i = true := by rw [keep_no hh]; exact keep_same
  simp only [idxTo]
  rw [keep_idx, e, if_pos rfl, List.length_append, List.length_singleton]

theorem idx_yes {i : Nat} (hh : h (upd (keepF h i) i false) = true) : idxTo (keepF h (i + 1)) (i + 1) = idxTo (keepF h i) i := by
  have e : keepF h (i + 1) i = false := by rw [keep_yes hh, upd_self]
  simp only [idxTo]
  rw [keep_idx, e, if_neg (by decide), List.append_nil]
theorem idx_no {i : Nat} (hh : h (upd (keepF h i) i false) = false) : idxTo (keepF h (i + 1)) (i + 1) = idxTo (keepF h i) i ++ [i] := by
  have e : keepF h (i + 1) i = true := by rw [keep_no hh]; exact keep_same
  simp only [idxTo]
  rw [keep_idx, e, if_pos rfl]
end

/-! ### The answers of Conflict and Why -/
def nats (l : List Nat) : List Int := l.map fun (k : Nat) => (k : Int)
theorem nats_len (l : List Nat) : (nats l).length = l.length := by simp [nats]
theorem nats_getD {l : List Nat} {k : Nat} : (nats l).getD k 0 = (l.getD k 0 : Nat) := by
  simp only [nats, List.getD_eq_getElem?_getD, List.getElem?_map]
  cases l[k]? <;> rfl
theorem nats_append (a b : List Nat) : nats (a ++ b) = nats a ++ nats b := by simp [nats]

/-- Which gauges are left of those that make a claim hold. -/
def leftM (hh : List Gau → Bool) (l : List Gau) : List Nat := idxTo (keepF (fun q => hh (selTo l q l.length)) l.length) l.length
theorem leftM_len (hh : List Gau → Bool) (l : List Gau) : (leftM hh l).length ≤ l.length := idxTo_len _ _

def conE (c : Chn) (l : List Gau) : Int := if chkM c l = 0 then (if clashB c l = true then 0 else 3) else chkM c l
def conL (c : Chn) (l : List Gau) : List Int := if conE c l = 0 then nats (leftM (clashB c) l) else []
def whyE (c : Chn) (l : List Gau) (a b m : Int) : Int := if crunM c l a b = 0 then (if shortB c a.toNat b.toNat m l = true then 0 else 3) else crunM c l a b
def whyL (c : Chn) (l : List Gau) (a b m : Int) : List Int := if whyE c l a b m = 0 then nats (leftM (shortB c a.toNat b.toNat m) l) else []

theorem sel_all2 (l : List Gau) : selTo l (fun _ => true) l.length = l := by rw [selTo_all l _ (Nat.le_refl _), List.take_length]

/-- The gauges that are left make the claim hold; without one of them it does not. -/
theorem left_holds {hh : List Gau → Bool} {l : List Gau} (h0 : hh l = true) : hh (wo l (leftM hh l) (-1) (leftM hh l).length) = true := by
  unfold leftM
  rw [wo_all (by omega)]
  exact keepF_holds (h := fun q => hh (selTo l q l.length)) (by rw [sel_all2]; exact h0) _
theorem left_need {hh : List Gau → Bool} {l : List Gau} (mono : ∀ q q' : Nat → Bool, (∀ j, q j = true → q' j = true) → hh (selTo l q l.length) = true → hh (selTo l q' l.length) = true) {p : Nat} (hp : p < (leftM hh l).length) :
    hh (wo l (leftM hh l) (p : Nat) (leftM hh l).length) = false := by
  unfold leftM at hp ⊢
  obtain ⟨i, h1, h2, h3, rfl⟩ := idxTo_at hp
  rw [wo_but h2]
  exact keepF_need (h := fun q => hh (selTo l q l.length)) mono h1 h2
theorem left_at {hh : List Gau → Bool} {l : List Gau} {p : Nat} (hp : p < (leftM hh l).length) : (leftM hh l).getD p 0 < l.length := by
  obtain ⟨i, h1, h2, h3, h4⟩ := idxTo_at hp
  have : (leftM hh l).getD p 0 = i := h3
  omega
theorem left_asc {hh : List Gau → Bool} {l : List Gau} {p : Nat} (h0 : 1 ≤ p) (hp : p < (leftM hh l).length) : (leftM hh l).getD (p - 1) 0 < (leftM hh l).getD p 0 := idxTo_asc h0 hp
theorem wo_sel {hh : List Gau → Bool} {l : List Gau} {one : Int} (h : one = -1 ∨ (0 ≤ one ∧ one < (leftM hh l).length)) : ∃ q, wo l (leftM hh l) one (leftM hh l).length = selTo l q l.length := by
  rcases h with rfl | ⟨h1, h2⟩
  · exact ⟨_, wo_all (by omega) _⟩
  · obtain ⟨p, rfl⟩ : ∃ p : Nat, one = p := ⟨one.toNat, by omega⟩
    have hp : p < (leftM hh l).length := by omega
    unfold leftM at hp ⊢
    obtain ⟨i, _, hi, _, rfl⟩ := idxTo_at hp
    exact ⟨_, wo_but hi _⟩

theorem wo_len {l : List Gau} {ns : List Nat} {one : Int} : ∀ k, (wo l ns one k).length ≤ k := by
  intro k
  induction k with
  | zero => exact Nat.le_refl _
  | succ k ih => simp only [wo, List.length_append]; split <;> simp <;> omega

end Go.Proofs.Ythgcnakbbmknoaa

/- Walks of layer 2 (chain): Links of the specification. -/
namespace Go.Proofs.Ythgcnakbbmknoaa
open Go.RowKit

/-- The spans of the first k links in a net. -/
def lnkTo (M : Net) (k : Nat) : List Spn := (List.range k).map fun i => (-M (i + 1) i, M i (i + 1))
theorem lnkTo_succ (M : Net) (k : Nat) : lnkTo M (k + 1) = lnkTo M k ++ [(-M (k + 1) k, M k (k + 1))] := by simp [lnkTo, List.range_succ]
theorem lnkTo_len (M : Net) (k : Nat) : (lnkTo M k).length = k := by simp [lnkTo]
theorem lnkTo_congr {M M' : Net} {n : Nat} (h : ∀ i k, i ≤ n → k ≤ n → M i k = M' i k) {k : Nat} (hk : k ≤ n) : lnkTo M k = lnkTo M' k := by
  unfold lnkTo
  apply List.map_congr_left
  intro i hi
  rw [List.mem_range] at hi
  rw [h (i + 1) i (by omega) (by omega), h i (i + 1) (by omega) (by omega)]
def lnkL (c : Chn) (l : List Gau) : List Spn := if CkM c l 0 0 = 0 then lnkTo (RM c l) c.n.toNat else []

def LnkRes (c : Chn) (l : List Gau) (w : World) (e : Ending) (w' : World) : Prop :=
  ∃ v, e = .returned (.tuple #[v, .int .i64 (CkM c l 0 0)]) ∧ Below w.heap.size w w' ∧ w'.ownsRow w.heap.size 45 2 v (lnkL c l).length ((lnkL c l).flatMap spnL)

theorem LnkRes.no {c : Chn} {l : List Gau} {w w' : World} (h : CkM c l 0 0 ≠ 0) (hb : Below w.heap.size w w') : LnkRes c l w (.returned (.tuple #[.slice none 0 0, .int .i64 (CkM c l 0 0)])) w' :=
  ⟨_, rfl, hb, by unfold lnkL; rw [if_neg h]; exact ⟨rfl, .inl ⟨rfl, rfl⟩⟩⟩

theorem LnkRes.yes {c : Chn} {l : List Gau} {w w' : World} {v : Value} {M : Net} {B : Nat} (h : CkM c l 0 0 = 0) (hM : ∀ i k, i ≤ c.n.toNat → k ≤ c.n.toNat → M i k = RM c l i k) (hb : Below w.heap.size w w') (hB : w.heap.size ≤ B)
    (ho : w'.ownsRow B 45 2 v c.n.toNat ((lnkTo M c.n.toNat).flatMap spnL)) : LnkRes c l w (.returned (.tuple #[v, .int .i64 0])) w' := by
  refine ⟨v, by rw [h], hb, ?_⟩
  unfold lnkL
  rw [if_pos h, lnkTo_len, ← lnkTo_congr hM (Nat.le_refl _)]
  exact ownsRow_mono ho hB

theorem nrun1 (M : Net) (n hd c : Nat) (G C : Nat → Nat) (i k : Nat) (kI : Int) (w : World) (hN : NetB w n hd G C M) (hkI : kI = k) (hi : i ≤ n) (hk : k ≤ n) (hn : n ≤ 24) (h1 : -1000000000000000 ≤ M k i) (h2 : M k i ≤ 1000000000000000) :
    Calls Try.prog 55 #[.slice (some ⟨hd, 0, none⟩) (n + 1) c, .int .i64 i, .int .i64 kI] w fun e w' => e = .returned (.agg #[.int .i64 (-M k i), .int .i64 (M i k)]) ∧ Below w.heap.size w w' := by
  subst hkI
  exact nrun_any M n hd c G C i k w hN hi hk hn h1 h2

end Go.Proofs.Ythgcnakbbmknoaa

/- Walks of layer 2 (chain): Skew of the specification. -/
namespace Go.Proofs.Ythgcnakbbmknoaa
open Go.RowKit

/-- The first of the longest skews among the first j steps, as the specification finds it. -/
def skwTo (D : Nat → Int) (e : Nat) : Nat → Int × Int
  | 0 => (0, -1)
  | j + 1 => if (skwTo D e j).2 < D j then (((e * (j + 1) : Nat) : Int), D j) else skwTo D e j
/-- .. and as the program does. -/
def kskTo (D : Nat → Int) (e : Nat) : Nat → Int × Int
  | 0 => ((e : Int), 0)
  | j + 1 => if (kskTo D e j).2 < D j then (((e * (j + 1) : Nat) : Int), D j) else kskTo D e j

theorem skw_more {D : Nat → Int} {e j : Nat} (h : (skwTo D e j).2 < D j) : skwTo D e (j + 1) = (((e * (j + 1) : Nat) : Int), D j) := by rw [skwTo, if_pos h]
theorem skw_same {D : Nat → Int} {e j : Nat} (h : ¬ (skwTo D e j).2 < D j) : skwTo D e (j + 1) = skwTo D e j := by rw [skwTo, if_neg h]
theorem ksk_more {D : Nat → Int} {e j : Nat} (h : (kskTo D e j).2 < D j) : kskTo D e (j + 1) = (((e * (j + 1) : Nat) : Int), D j) := by rw [kskTo, if_pos h]
theorem ksk_same {D : Nat → Int} {e j : Nat} (h : ¬ (kskTo D e j).2 < D j) : kskTo D e (j + 1) = kskTo D e j := by rw [kskTo, if_neg h]

theorem skw_eq {D : Nat → Int} {e : Nat} (h : 0 ≤ D 0) : ∀ j, skwTo D e (j + 1) = kskTo D e (j + 1) := by
  intro j
  induction j with
  | zero =>
    rw [skw_more (by show (-1 : Int) < D 0; omega)]
    by_cases h0 : (0 : Int) < D 0
    · rw [ksk_more h0]
    · rw [ksk_same h0]
      have : D 0 = 0 := by omega
      rw [this]
      simp [kskTo]
  | succ j ih =>
    rw [skwTo, kskTo, ih]

def skwD (c : Chn) (k : List Gau) (d : Chn) (l : List Gau) (e j : Nat) : Int :=
  max (RM c k 0 (e * (j + 1)) + RM d l (e * (j + 1)) 0) (RM d l 0 (e * (j + 1)) + RM c k (e * (j + 1)) 0)
def skwM (c : Chn) (k : List Gau) (d : Chn) (l : List Gau) (e : Int) : LonA :=
  if chkM c k = 0 then (if chkM d l = 0 then (if c.n = d.n ∧ 1 ≤ e ∧ e ≤ c.n then (if agreeB c k = true ∧ agreeB d l = true then
    ⟨(skwTo (skwD c k d l e.toNat) e.toNat (c.n.toNat / e.toNat)).1, (skwTo (skwD c k d l e.toNat) e.toNat (c.n.toNat / e.toNat)).2, 0⟩ else ⟨0, 0, 3⟩) else ⟨0, 0, 1⟩) else ⟨0, 0, chkM d l⟩) else ⟨0, 0, chkM c k⟩

section
variable {c d : Chn} {k l : List Gau} {e : Int}
theorem skw_bad1 (h : ¬ chkM c k = 0) : (⟨0, 0, chkM c k⟩ : LonA) = skwM c k d l e := by unfold skwM; rw [if_neg h]
theorem skw_bad2 (h1 : chkM c k = 0) (h : ¬ chkM d l = 0) : (⟨0, 0, chkM d l⟩ : LonA) = skwM c k d l e := by unfold skwM; rw [if_pos h1, if_neg h]
theorem skw_arg (h1 : chkM c k = 0) (h2 : chkM d l = 0) (h : ¬ (c.n = d.n ∧ 1 ≤ e ∧ e ≤ c.n)) : (⟨0, 0, 1⟩ : LonA) = skwM c k d l e := by unfold skwM; rw [if_pos h1, if_pos h2, if_neg h]
theorem skw_none (h1 : chkM c k = 0) (h2 : chkM d l = 0) (h : c.n = d.n ∧ 1 ≤ e ∧ e ≤ c.n) (h3 : ¬ (agreeB c k = true ∧ agreeB d l = true)) : (⟨0, 0, 3⟩ : LonA) = skwM c k d l e := by unfold skwM; rw [if_pos h1, if_pos h2, if_pos h, if_neg h3]
theorem skw_ok {e : Nat} (h1 : chkM c k = 0) (h2 : chkM d l = 0) (h : c.n = d.n ∧ 1 ≤ (e : Int) ∧ (e : Int) ≤ c.n) (h3 : agreeB c k = true ∧ agreeB d l = true) {j : Nat} (hj1 : e * j ≤ c.n.toNat) (hj2 : c.n.toNat < e * (j + 1)) :
    (⟨(skwTo (skwD c k d l e) e j).1, (skwTo (skwD c k d l e) e j).2, 0⟩ : LonA) = skwM c k d l e := by
  have hj : c.n.toNat / e = j := by
    apply Nat.le_antisymm
    · have : c.n.toNat / e < j + 1 := (Nat.div_lt_iff_lt_mul (by omega)).2 (by rw [Nat.mul_comm]; exact hj2)
      omega
    · exact (Nat.le_div_iff_mul_le (by omega)).2 (by rw [Nat.mul_comm]; exact hj1)
  unfold skwM; rw [if_pos h1, if_pos h2, if_pos h, if_pos h3]
  simp only [Int.toNat_natCast, hj]
end
end Go.Proofs.Ythgcnakbbmknoaa

/- The plain mathematics of layer 2 (chain), tenth part: what the statements without a specification ask. Nothing here speaks of the program. -/
namespace Go.Proofs.Ythgcnakbbmknoaa

theorem lng_ge {H : Nat → Int} : ∀ {k i : Nat}, i < k → H i ≤ (lngTo H k).2 := by
  intro k
  induction k with
  | zero => intro i h; omega
  | succ k ih =>
    intro i h
    unfold lngTo
    by_cases e : i = k
    · subst e; split
      · exact Int.le_refl _
      · omega
    · have := ih (i := i) (by omega)
      split
      · dsimp only; omega
      · exact this

theorem lng_at {H : Nat → Int} : ∀ {k : Nat}, 1 ≤ k → (lngTo H k).1 + 1 ≤ k := by
  intro k
  induction k with
  | zero => intro h; omega
  | succ k ih =>
    intro _
    unfold lngTo
    split
    · exact Nat.le_refl _
    · by_cases e : k = 0
      · subst e; simp [lngTo]
      · have := ih (by omega); omega

theorem skw_ge {D : Nat → Int} {e : Nat} : ∀ {j i : Nat}, i < j → D i ≤ (skwTo D e j).2 := by
  intro j
  induction j with
  | zero => intro i h; omega
  | succ j ih =>
    intro i h
    unfold skwTo
    by_cases e' : i = j
    · subst e'; split
      · exact Int.le_refl _
      · omega
    · have := ih (i := i) (by omega)
      split
      · dsimp only; omega
      · exact this

theorem skw_comm {c d : Chn} {k l : List Gau} {e : Int} (h1 : chkM c k = 0) (h2 : chkM d l = 0) : skwM c k d l e = skwM d l c k e := by
  unfold skwM
  rw [if_pos h1, if_pos h2, if_pos h2, if_pos h1]
  by_cases h : c.n = d.n ∧ 1 ≤ e ∧ e ≤ c.n
  · rw [if_pos h, if_pos (show d.n = c.n ∧ 1 ≤ e ∧ e ≤ d.n by omega)]
    by_cases ha : agreeB c k = true ∧ agreeB d l = true
    · rw [if_pos ha, if_pos ⟨ha.2, ha.1⟩, h.1]
      have : skwD c k d l e.toNat = skwD d l c k e.toNat := by
        funext j
        unfold skwD
        omega
      rw [this]
    · rw [if_neg ha, if_neg (fun h => ha ⟨h.2, h.1⟩)]
  · rw [if_neg h, if_neg (show ¬ (d.n = c.n ∧ 1 ≤ e ∧ e ≤ d.n) by omega)]

/-! ### Possible lengths -/
def possB (c : Chn) (l : List Gau) (xs : List Int) : Bool :=
  decide (xs.length = c.n.toNat) && (List.range xs.length).all (fun i => decide (c.pi ≤ xs.getD i 0 ∧ xs.getD i 0 ≤ c.li)) && l.all fun g => decide (g.lo ≤ preM xs g.b.toNat - preM xs g.a.toNat ∧ preM xs g.b.toNat - preM xs g.a.toNat ≤ g.hi)

theorem possB_iff {c : Chn} {l : List Gau} {xs : List Int} : possB c l xs = true ↔ PossM c l xs := by
  unfold possB PossM
  simp only [Bool.and_eq_true, decide_eq_true_eq, List.all_eq_true, List.mem_range]
  constructor
  · rintro ⟨⟨h1, h2⟩, h3⟩; exact ⟨h1, h2, h3⟩
  · rintro ⟨h1, h2, h3⟩; exact ⟨⟨h1, h2⟩, h3⟩

theorem possB_no {c : Chn} {l : List Gau} {xs : List Int} (h : ¬ PossM c l xs) : possB c l xs = false := by
  cases e : possB c l xs
  · rfl
  · exact absurd (possB_iff.1 e) h

theorem poss_agree {c : Chn} {l : List Gau} {xs : List Int} (h : chkM c l = 0) (hp : PossM c l xs) : agreeB c l = true := by
  obtain ⟨h1, h2, _⟩ := chk_goks h
  exact (agreeB_iff h1 h2).2 ⟨_, poss_ends hp⟩

theorem poss_run {c : Chn} {l : List Gau} {xs : List Int} (h : chkM c l = 0) (hp : PossM c l xs) {i k : Nat} (hik : i ≤ k) (hk : k ≤ c.n.toNat) : lowM c l i k ≤ preM xs k - preM xs i ∧ preM xs k - preM xs i ≤ highM c l i k := by
  obtain ⟨h1, h2, _⟩ := chk_goks h
  exact run_in h1 h2 (poss_ends hp) hik hk

theorem poss_link {c : Chn} {l : List Gau} {xs : List Int} (h : chkM c l = 0) (hp : PossM c l xs) {i : Nat} (hi : i < c.n.toNat) : lowM c l i (i + 1) ≤ xs.getD i 0 ∧ xs.getD i 0 ≤ highM c l i (i + 1) := by
  have := poss_run h hp (i := i) (k := i + 1) (by omega) hi
  simp only [preM] at this
  omega

theorem wit_poss {c : Chn} {l : List Gau} (h : chkM c l = 0) (hag : agreeB c l = true) {a b : Nat} (hab : a ≤ b) (hb : b ≤ c.n.toNat) {m : Int} (h1 : lowM c l a b ≤ m) (h2 : m ≤ highM c l a b) :
    PossM c l (witM c (l ++ [gEx a b m])) ∧ preM (witM c (l ++ [gEx a b m])) b - preM (witM c (l ++ [gEx a b m])) a = m := by
  obtain ⟨hc, hl, _⟩ := chk_goks h
  have ag := (agreeB_iff hc hl).1 hag
  have hl' : GOks c (l ++ [gEx a b m]) := GOks.append hl (GOks.one (gEx_ok hc hl ag hab hb h1 h2))
  have ag' := between hc hl ag hab hb h1 h2
  have e := near_ends hc hl' ag'
  obtain ⟨e1, e2⟩ := gEx_ends.1 e
  refine ⟨ends_poss hl e1, ?_⟩
  unfold witM
  rw [preM_diff _ _ _ hb, preM_diff _ _ _ (by omega)]
  omega

theorem low_high {c : Chn} {l : List Gau} (h : chkM c l = 0) (hag : agreeB c l = true) {a b : Nat} (hab : a ≤ b) (hb : b ≤ c.n.toNat) : lowM c l a b ≤ highM c l a b := by
  obtain ⟨hc, hl, _⟩ := chk_goks h
  obtain ⟨x, hx⟩ := (agreeB_iff hc hl).1 hag
  have := run_in hc hl hx hab hb
  omega

theorem lon_most {c : Chn} {l : List Gau} (h : chkM c l = 0) (hag : agreeB c l = true) {m : Nat} (h1 : 1 ≤ m) (h2 : m ≤ c.n.toNat) : (lonM c l m).e = 0 ∧ 0 ≤ (lonM c l m).a ∧ (lonM c l m).a + m ≤ c.n.toNat ∧
    ∀ i, i + m ≤ c.n.toNat → highM c l i (i + m) ≤ (lonM c l m).m := by
  rw [← lon_ok h (by omega) hag]
  have a := lng_at (H := lonH c l m) (k := c.n.toNat - m + 1) (by omega)
  refine ⟨rfl, by dsimp only; omega, by dsimp only; omega, fun i hi => ?_⟩
  have := lng_ge (H := lonH c l m) (k := c.n.toNat - m + 1) (i := i) (by omega)
  exact this

/-! ### One more gauge -/
theorem chk_less {c : Chn} {l : List Gau} {g : Gau} (h : chkM c (l ++ [g]) = 0) : chkM c l = 0 := by
  unfold chkM at h ⊢
  split at h
  · omega
  · rename_i h1
    rw [if_neg h1]
    split at h
    · omega
    · rename_i h2
      rw [if_neg (by simp only [List.length_append, List.length_singleton] at h2; omega)]
      split at h
      · omega
      · rename_i h3
        rw [if_neg]
        intro h4
        apply h3
        rw [List.any_append, h4]; rfl

theorem agree_less {c : Chn} {l : List Gau} {g : Gau} (h : chkM c (l ++ [g]) = 0) (ha : agreeB c (l ++ [g]) = true) : agreeB c l = true := by
  obtain ⟨hc, hl, _⟩ := chk_goks h
  obtain ⟨_, hl2, _⟩ := chk_goks (chk_less h)
  exact (agreeB_iff hc hl2).2 ((agreeB_iff hc hl).1 ha).less

theorem RM_less {c : Chn} {l : List Gau} {g : Gau} (h : chkM c (l ++ [g]) = 0) (ha : agreeB c (l ++ [g]) = true) {i j : Nat} (hi : i ≤ c.n.toNat) (hj : j ≤ c.n.toNat) : RM c (l ++ [g]) i j ≤ RM c l i j := by
  obtain ⟨hc, hl, _⟩ := chk_goks h
  obtain ⟨_, hl2, _⟩ := chk_goks (chk_less h)
  exact RM_more hc hl2 (fun g' hg => hl g' (List.mem_append_right _ hg)) ((agreeB_iff hc hl).1 ha) hi hj

theorem RM_tri {c : Chn} {l : List Gau} (h : chkM c l = 0) (ha : agreeB c l = true) {i m j : Nat} (hi : i ≤ c.n.toNat) (hm : m ≤ c.n.toNat) (hj : j ≤ c.n.toNat) : RM c l i j ≤ RM c l i m + RM c l m j := by
  obtain ⟨hc, hl, _⟩ := chk_goks h
  have ag := (agreeB_iff hc hl).1 ha
  obtain ⟨_, x, hx, e⟩ := RM_max hc hl ag hi hj
  have h1 := (RM_max hc hl ag hi hm).1 x hx
  have h2 := (RM_max hc hl ag hm hj).1 x hx
  omega

/-! ### Gauges that are left -/
theorem chk_sel {c : Chn} {l : List Gau} (h : chkM c l = 0) {k : List Gau} (hk : ∃ q, k = selTo l q l.length) (hlen : k.length ≤ 40) : chkM c k = 0 := by
  obtain ⟨q, rfl⟩ := hk
  unfold chkM at h ⊢
  split at h
  · omega
  · rename_i h1
    rw [if_neg h1, if_neg (by omega)]
    split at h
    · omega
    · split at h
      · omega
      · rename_i h3
        rw [if_neg]
        intro h4
        apply h3
        rw [List.any_eq_true] at h4 ⊢
        obtain ⟨g, hg, hb⟩ := h4
        obtain ⟨i, hi, _, rfl⟩ := selTo_mem.1 hg
        exact ⟨_, gau_getD_mem hi, hb⟩

theorem clash_monoL {c : Chn} {l : List Gau} (h : chkM c l = 0) (q q' : Nat → Bool) (hq : ∀ j, q j = true → q' j = true) : clashB c (selTo l q l.length) = true → clashB c (selTo l q' l.length) = true := by
  obtain ⟨hc, hl, _⟩ := chk_goks h
  exact clash_mono hc hl q q' hq
theorem short_monoL {c : Chn} {l : List Gau} (h : chkM c l = 0) {a b : Nat} {m : Int} (ha : a ≤ c.n.toNat) (hb : b ≤ c.n.toNat) (q q' : Nat → Bool) (hq : ∀ j, q j = true → q' j = true) : shortB c a b m (selTo l q l.length) = true → shortB c a b m (selTo l q' l.length) = true := by
  obtain ⟨hc, hl, _⟩ := chk_goks h
  exact short_mono hc hl ha hb q q' hq

/-- What the statement of the reasons asks of the gauges that are left: all of them, and all but one. -/
theorem con_left {c : Chn} {l : List Gau} (h : chkM c l = 0) (h0 : clashB c l = true) {one : Int} (h1 : -1 ≤ one) (h2 : one < (leftM (clashB c) l).length) :
    chkM c (wo l (leftM (clashB c) l) one (leftM (clashB c) l).length) = 0 ∧ clashB c (wo l (leftM (clashB c) l) one (leftM (clashB c) l).length) = decide (one < 0) := by
  obtain ⟨_, _, h40⟩ := chk_goks h
  have hl := leftM_len (clashB c) l
  refine ⟨chk_sel h (wo_sel (by omega)) (Nat.le_trans (wo_len _) (by omega)), ?_⟩
  by_cases e : one < 0
  · obtain rfl : one = -1 := by omega
    rw [left_holds h0]; rfl
  · obtain ⟨p, rfl⟩ : ∃ p : Nat, one = p := ⟨one.toNat, by omega⟩
    rw [left_need (clash_monoL h) (by omega), decide_eq_false e]
theorem why_left {c : Chn} {l : List Gau} {a b : Nat} {m : Int} (ha : a ≤ c.n.toNat) (hb : b ≤ c.n.toNat) (h : chkM c l = 0) (h0 : shortB c a b m l = true) {one : Int} (h1 : -1 ≤ one) (h2 : one < (leftM (shortB c a b m) l).length) :
    chkM c (wo l (leftM (shortB c a b m) l) one (leftM (shortB c a b m) l).length) = 0 ∧ shortB c a b m (wo l (leftM (shortB c a b m) l) one (leftM (shortB c a b m) l).length) = decide (one < 0) := by
  obtain ⟨_, _, h40⟩ := chk_goks h
  have hl := leftM_len (shortB c a b m) l
  refine ⟨chk_sel h (wo_sel (by omega)) (Nat.le_trans (wo_len _) (by omega)), ?_⟩
  by_cases e : one < 0
  · obtain rfl : one = -1 := by omega
    rw [left_holds h0]; rfl
  · obtain ⟨p, rfl⟩ : ∃ p : Nat, one = p := ⟨one.toNat, by omega⟩
    rw [left_need (short_monoL h ha hb) (by omega), decide_eq_false e]

end Go.Proofs.Ythgcnakbbmknoaa

/- Two rows of one's own, of any types, apart from each other: what every layer uses. -/
namespace Go.Proofs.Ythgcnakbbmknoaa
open Go.RowKit

structure Two (w : World) (base : Nat) (e1 : TypeId) (s1 : Nat) (v1 : Value) (n1 : Nat) (xs : List Value) (e2 : TypeId) (s2 : Nat) (v2 : Value) (n2 : Nat) (ys : List Value) : Prop where
  a : w.ownsRow base e1 s1 v1 n1 xs
  b : w.ownsRow base e2 s2 v2 n2 ys
  ne : ∀ k, v1.ownBlock = some k → v2.ownBlock ≠ some k

section
variable {w w' : World} {base : Nat} {e1 : TypeId} {s1 : Nat} {v1 : Value} {n1 : Nat} {xs : List Value} {e2 : TypeId} {s2 : Nat} {v2 : Value} {n2 : Nat} {ys : List Value}

theorem Two.swap (h : Two w base e1 s1 v1 n1 xs e2 s2 v2 n2 ys) : Two w base e2 s2 v2 n2 ys e1 s1 v1 n1 xs := ⟨h.b, h.a, fun k h1 h2 => h.ne k h2 h1⟩
theorem Two.below (h : Two w base e1 s1 v1 n1 xs e2 s2 v2 n2 ys) (hb : Below w.heap.size w w') : Two w' base e1 s1 v1 n1 xs e2 s2 v2 n2 ys := ⟨ownsRow_below h.a hb, ownsRow_below h.b hb, h.ne⟩
theorem Two.alloc (h : Two w base e1 s1 v1 n1 xs e2 s2 v2 n2 ys) (o : Obj) : Two (w.alloc o) base e1 s1 v1 n1 xs e2 s2 v2 n2 ys := ⟨World.ownsRow.alloc h.a o, World.ownsRow.alloc h.b o, h.ne⟩

theorem own_lt2 {e : TypeId} {size n : Nat} {v : Value} {zs : List Value} (h : w.ownsRow base e size v n zs) {k : Nat} (hk : v.ownBlock = some k) : k < w.heap.size := by
  obtain ⟨_, h1 | ⟨g, cap, cur, rfl, _, h3, _⟩⟩ := h
  · obtain ⟨rfl, _⟩ := h1; cases hk
  · have : g = k := by simpa [Value.ownBlock] using hk
    subst this
    exact lt_of_block h3

/-- The first row has grown. -/
theorem Two.more {v1' : Value} {n1' : Nat} {xs' : List Value} (h : Two w base e1 s1 v1 n1 xs e2 s2 v2 n2 ys) (h2 : w'.ownsRow base e1 s1 v1' n1' xs')
    (hg : w.grownBy w' v1.ownBlock) (hv : v1'.ownBlock = v1.ownBlock ∨ v1'.ownBlock = some w.heap.size) : Two w' base e1 s1 v1' n1' xs' e2 s2 v2 n2 ys := by
  refine ⟨h2, World.ownsRow.kept h.b hg ?_, fun b h1 h3 => ?_⟩
  · cases hb : v2.ownBlock with
    | none => exact Or.inl rfl
    | some b => exact Or.inr (fun e => h.ne b e.symm hb)
  · rcases hv with hv | hv
    · exact h.ne b (by rw [← hv]; exact h1) h3
    · rw [hv] at h1
      injection h1 with h1
      subst h1
      exact absurd (own_lt2 h.b h3) (Nat.lt_irrefl _)

theorem Two.base_le (h : Two w base e1 s1 v1 n1 xs e2 s2 v2 n2 ys) : ∀ k, v1.ownBlock = some k → base ≤ k := by
  obtain ⟨_, _, _, h⟩ := ownsRow_shape h.a
  exact h

theorem Two.first (h : w.ownsRow base e1 s1 v1 n1 xs) : Two w base e1 s1 v1 n1 xs e2 s2 (.slice none 0 0) 0 [] := ⟨h, ⟨by simp, Or.inl ⟨rfl, rfl⟩⟩, fun _ _ h => by cases h⟩
end

theorem cells_newL (w : World) (cs : List Value) (t : TypeId) {g : Nat} (hg : g = w.heap.size) : ∀ j u, cs[j]? = some u → (w.alloc (.cells cs.toArray t)).cell? ((⟨g, 0, none⟩ : Addr).add j) = some u := by
  subst hg
  intro j u hj
  have h := cell_alloc_new w cs.toArray t (0, 0) w.heap.size j rfl
  have e9 : (⟨w.heap.size, 0, none⟩ : Addr).add j = ⟨w.heap.size, j, none⟩ := by unfold Addr.add; split <;> simp_all
  rw [e9, h]
  simpa using hj

end Go.Proofs.Ythgcnakbbmknoaa
