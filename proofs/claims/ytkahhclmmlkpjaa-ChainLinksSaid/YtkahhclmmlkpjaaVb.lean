/- Walks of layer 2 (chain): the specification's build. -/
import Derived.Test.YtkahhclmmlkpjaaVa
import Derived.Laws.AppendOwn
import Derived.OwnWalk
namespace Go.Proofs.Ytkahhclmmlkpjaa
open Go.RowKit

theorem infoInt : (Try.prog.info? 3).map (fun i => (i.zero, i.size, i.bytes)) = some (some (.int .i64 0), 1, 8) := by kernel_rfl
theorem infoInts : (Try.prog.info? 44).map (fun i => (i.zero, i.size, i.bytes)) = some (some (.slice none 0 0), 1, 24) := by kernel_rfl

def M00 : Net := fun i k => if i = k then 0 else 1099511627776
def rowP (f : Nat → Int) (q : Nat) : List Value := (List.range q).map fun k => .int .i64 (f k)
theorem rowP_succ (f : Nat → Int) (q : Nat) : rowP f (q + 1) = rowP f q ++ [.int .i64 (f q)] := by simp [rowP, List.range_succ]

theorem one_cell (w : World) (x : Value) (t : TypeId) {g : Nat} (hg : g = w.heap.size) : ∀ j u, [x][j]? = some u → (w.alloc (.cells #[x] t)).cell? ((⟨g, 0, none⟩ : Addr).add j) = some u := by
  subst hg
  intro j u hj
  have h := cell_alloc_new w #[x] t (0, 0) w.heap.size j rfl
  have e : (⟨w.heap.size, 0, none⟩ : Addr).add j = ⟨w.heap.size, j, none⟩ := by unfold Addr.add; split <;> simp_all
  rw [e, h, ← hj]
  simp

/-- The net when the first k links are told. -/
def MB (pi li : Int) (k : Nat) : Net := fun a b => if b = a + 1 ∧ a < k then li else if a = b + 1 ∧ b < k then -pi else M00 a b

theorem MB_zero (pi li : Int) (a b : Nat) : M00 a b = MB pi li 0 a b := by
  unfold MB; rw [if_neg (by omega), if_neg (by omega)]

theorem MB_succ (pi li : Int) (k a b : Nat) : (if a = k + 1 ∧ b = k then -pi else if a = k ∧ b = k + 1 then li else MB pi li k a b) = MB pi li (k + 1) a b := by
  unfold MB
  by_cases h1 : a = k + 1 ∧ b = k
  · rw [if_pos h1, if_neg (by omega), if_pos (by omega)]
  · rw [if_neg h1]
    by_cases h2 : a = k ∧ b = k + 1
    · rw [if_pos h2, if_pos (by omega)]
    · rw [if_neg h2]
      by_cases h3 : b = a + 1 ∧ a < k
      · rw [if_pos h3, if_pos (by omega)]
      · rw [if_neg h3, if_neg (by omega : ¬ (b = a + 1 ∧ a < k + 1))]
        by_cases h4 : a = b + 1 ∧ b < k
        · rw [if_pos h4, if_pos (by omega)]
        · rw [if_neg h4, if_neg (by omega)]

theorem MB_end {n : Nat} {pi li : Int} {a b : Nat} (ha : a ≤ n) (hb : b ≤ n) : MB pi li n a b = spec0 (CN n pi li) a b := by
  unfold MB spec0 M00
  dsimp only [CN]
  by_cases h1 : b = a + 1
  · rw [if_pos (by omega), if_neg (by omega), if_pos h1]
  · rw [if_neg (by omega)]
    by_cases h2 : a = b + 1
    · rw [if_pos (by omega), if_neg (by omega), if_neg h1, if_pos h2]
    · rw [if_neg (by omega)]
      by_cases h3 : a = b
      · rw [if_pos h3, if_pos h3]
      · rw [if_neg h3, if_neg h3, if_neg h1, if_neg h2]

def SiRel (n : Nat) (M0 : Net) (hd : Nat) (G C : Nat → Nat) (wA wr : World) (t i k : Nat) : Prop :=
  Below wA.heap.size wA wr ∧ ∃ M1, NetB wr n hd G C M1 ∧ ∀ i' k', i' ≤ n → k' ≤ n → M1 i' k' = mid (fw M0 t) t i k i' k'

theorem SiRel.step {n : Nat} {M0 : Net} {hd : Nat} {G C : Nat → Nat} {wA wr : World} {t i k : Nat} (h : SiRel n M0 hd G C wA wr t i k) (hG : wA.heap.size ≤ G i) (hi : i ≤ n) (hk : k ≤ n) {v : Int} (hv : v = rnd (fw M0 t) t i k) : SiRel n M0 hd G C wA (wr.setCell ⟨G i, k, none⟩ (.int .i64 v)).drew t i (k + 1) := by
  obtain ⟨h1, M1, h2, h3⟩ := h
  refine ⟨(h1.setCell (p := ⟨G i, k, none⟩) hG _).drew, _, (show NetB (wr.setCell ⟨G i, k, none⟩ (.int .i64 v)).drew n hd G C _ from h2.set hi hk v), fun i' k' hi' hk' => ?_⟩
  rw [mid_next]
  by_cases e : i' = i ∧ k' = k
  · rw [if_pos e, if_pos e]; exact hv
  · rw [if_neg e, if_neg e]; exact h3 i' k' hi' hk'

theorem SiRel.row {n : Nat} {M0 : Net} {hd : Nat} {G C : Nat → Nat} {wA wr : World} {t i : Nat} (h : SiRel n M0 hd G C wA wr t i (n + 1)) : SiRel n M0 hd G C wA wr t (i + 1) 0 := by
  obtain ⟨h1, M1, h2, h3⟩ := h
  exact ⟨h1, M1, h2, fun i' k' hi' hk' => (h3 i' k' hi' hk').trans (mid_row i i' k' hi' hk')⟩

theorem SiRel.turn {n : Nat} {M0 : Net} {hd : Nat} {G C : Nat → Nat} {wA wr : World} {t : Nat} (h : SiRel n M0 hd G C wA wr t (n + 1) 0) : SiRel n M0 hd G C wA wr (t + 1) 0 0 := by
  obtain ⟨h1, M1, h2, h3⟩ := h
  exact ⟨h1, M1, h2, fun i' k' hi' hk' => by rw [h3 i' k' hi' hk', mid_end i' k' hi' hk', mid_start]; rfl⟩

theorem SiRel.cell {n : Nat} {M0 : Net} {hd : Nat} {G C : Nat → Nat} {wA wr : World} {t i k : Nat} (h : SiRel n M0 hd G C wA wr t i k) {i' k' : Nat} (hi : i' ≤ n) (hk : k' ≤ n) : wr.cell? ⟨G i', k', none⟩ = some (.int .i64 (mid (fw M0 t) t i k i' k')) ∧ wr.frozen? ⟨G i', k', none⟩ = false := by
  obtain ⟨_, M1, h2, h3⟩ := h
  rw [← h3 i' k' hi hk]
  exact h2.2.2.2 i' k' hi hk

theorem SiRel.hdr {n : Nat} {M0 : Net} {hd : Nat} {G C : Nat → Nat} {wA wr : World} {t i k : Nat} (h : SiRel n M0 hd G C wA wr t i k) {i' : Nat} (hi : i' ≤ n) : wr.cell? ⟨hd, i', none⟩ = some (.slice (some ⟨G i', 0, none⟩) (n + 1) (C i')) ∧ G i' < wr.heap.size ∧ hd < wr.heap.size := by
  obtain ⟨_, M1, h2, h3⟩ := h
  obtain ⟨q1, q2, _⟩ := h2.2.1 i' hi
  exact ⟨q1, q2, h2.1⟩

/-- The answer of build. -/
def BuildRes (n : Nat) (pi li : Int) (l : List Gau) (w : World) (e : Ending) (w' : World) : Prop :=
  ∃ (hd c : Nat) (G C : Nat → Nat) (M1 : Net), e = .returned (.tuple #[.slice (some ⟨hd, 0, none⟩) (n + 1) c, .bool (agreeB (CN n pi li) l)]) ∧ Below w.heap.size w w' ∧ NetB w' n hd G C M1 ∧
    (agreeB (CN n pi li) l = true → ∀ i k, i ≤ n → k ≤ n → M1 i k = RM (CN n pi li) l i k)

theorem agreeB_S {n : Nat} {pi li : Int} {l : List Gau} (hc : COk (CN n pi li)) (hl : GOks (CN n pi li) l) : agreeB (CN n pi li) l = decide (Good n (netS (CN n pi li) l) (n + 1)) := by
  have hn : (CN n pi li).n.toNat = n := by simp
  have a := agreeB_iff hc hl
  have b := goodS hc hl
  rw [hn] at b
  cases e : agreeB (CN n pi li) l
  · symm
    rw [decide_eq_false_iff_not]
    intro h
    rw [a.2 (b.1 h)] at e
    cases e
  · symm
    rw [decide_eq_true_eq]
    exact b.2 (a.1 e)

theorem SiRel.out {n : Nat} {pi li : Int} {l : List Gau} {hd c : Nat} {G C : Nat → Nat} {w wA wr : World} {t : Nat} (hc : COk (CN n pi li)) (hl : GOks (CN n pi li) l) (hB : Below w.heap.size w wA) (h : SiRel n (netS (CN n pi li) l) hd G C wA wr t 0 0) {q : Bool} (hq : q = decide (Good n (netS (CN n pi li) l) (n + 1))) (ht : q = true → t = n + 1) :
    BuildRes n pi li l w (.returned (.tuple #[.slice (some ⟨hd, 0, none⟩) (n + 1) c, .bool q])) wr := by
  obtain ⟨h1, M1, h2, h3⟩ := h
  have hn : (CN n pi li).n.toNat = n := by simp
  refine ⟨hd, c, G, C, M1, by rw [agreeB_S hc hl, hq], hB.trans (h1.mono hB.size), h2, fun ha i k hi hk => ?_⟩
  have hag := (agreeB_iff hc hl).1 ha
  rw [agreeB_S hc hl, ← hq] at ha
  rw [h3 i k hi hk, ht ha, mid_start]
  have := fwS hc hl hag (i := i) (k := k) (by rw [hn]; exact hi) (by rw [hn]; exact hk)
  rw [hn] at this
  exact this

set_option maxRecDepth 100000 in
set_option maxHeartbeats 16000000 in
theorem rbuild_any (n : Nat) (pi li : Int) (l : List Gau) (v : Value) (w : World) (hv : GaAt w v l) (hc : COk (CN n pi li)) (hl : GOks (CN n pi li) l) (hlen : l.length ≤ 100) :
    Calls Try.prog 72 #[chnV (CN n pi li), v] w (BuildRes n pi li l w) := by
  obtain ⟨i0, hi0, hz0, hz1, hz2⟩ := info_parts infoInt
  obtain ⟨j0, hj0, hy0, hy1, hy2⟩ := info_parts infoInts
  have hb0 := (Below.refl w.heap.size w).alloc (Nat.le_refl _) (Obj.cells #[.int .i64 n, .int .i64 pi, .int .i64 li] 23)
  have k0 := block_new w (Obj.cells #[.int .i64 n, .int .i64 pi, .int .i64 li] 23) w.heap.size rfl
  have HC := Lib.hid hc
  have HL := Lib.hid hl
  have n24 := hc.n2
  have HV := Lib.hid (hv.below hb0 (Nat.le_refl _))
  obtain ⟨a, cap, rfl, hn, hcap, hcc⟩ := hv
  have HCC := Lib.hid hcc
  have HB := Lib.hid hb0
  have K0 := Lib.hid k0
  dsimp only [CN] at n24
  have n24' : n ≤ 24 := by omega
  clear hc hl hcc hb0 k0
  go_enter Try.func72, Try.ntmps72
  go_wp2_with fail
  generalize w.alloc (Obj.cells #[.int .i64 n, .int .i64 pi, .int .i64 li] 23) = wA at *
  go_loopw [6, 7] (fun s i wr => ∃ (m : Nat) (G C : Nat → Nat), m ≤ n + 1 ∧ i = .int .i64 m ∧ Hid (Below wA.heap.size wA wr) ∧ wr.ownsRow wA.heap.size 44 1 s m (hdrL n m G C) ∧ Hid (RowsIn wr wA.heap.size n m G C M00)) (fun _ i _ => n + 1 - (intOf i).toNat)
  case atStart => exact ⟨0, fun _ => 0, fun _ => 0, by omega, rfl, Below.refl _ _, ⟨rfl, .inl ⟨rfl, rfl⟩⟩, fun j hj => by omega, fun i j hi => by omega⟩
  case round =>
    obtain ⟨m, G, C, hm, rfl, hb, hown, hrows⟩ := hrel
    obtain ⟨sa, sc, rfl, hownb⟩ := ownsRow_shape hown
    have Hown := Lib.hid hown
    have HownB := Lib.hid hownb
    have kc := (hb.out.block _ (lt_of_block K0.out)).trans K0.out
    have hce := block_cell kc
    have zc := lt_of_block kc
    clear hown hownb kc
    obtain ⟨wo, rfl⟩ : ∃ wo : World, wo = wr := ⟨_, rfl⟩
    by_cases hlt : m < n + 1
    · have hlb : decide (m ≤ n) = true := by simp; omega
      go_wp2_with fail
      go_loopw [8, 9] (fun rv k wy => ∃ q : Nat, q ≤ n + 1 ∧ k = .int .i64 q ∧ Hid (Below wo.heap.size wo wy) ∧ wy.ownsRow wo.heap.size 3 1 rv q (rowP (M00 m) q)) (fun _ k _ => n + 1 - (intOf k).toNat)
      case atStart => exact ⟨0, by omega, rfl, Below.refl _ _, ⟨rfl, .inl ⟨rfl, rfl⟩⟩⟩
      case round =>
        obtain ⟨q, hq, rfl, hby, hrow⟩ := hrel
        obtain ⟨ra, rc, rfl, hrowb⟩ := ownsRow_shape hrow
        have Hrow := Lib.hid hrow
        have HrowB := Lib.hid hrowb
        have hsz := hby.out.size
        have kc := (hby.out.block _ zc).trans ((hb.out.block _ (lt_of_block K0.out)).trans K0.out)
        have hcy := block_cell kc
        have zcy := lt_of_block kc
        clear hrow hrowb kc
        by_cases hltq : q < n + 1
        · by_cases heq : m = q
          · have hqb : ((m : Int) == (q : Int)) = true := by simp; omega
            have HF := Lib.hid (show M00 m q = 0 by unfold M00; rw [if_pos heq])
            clear heq
            go_wp2_with (at_builtin; refine wpList_append_own _ rfl (.tmp 32) (.tmp 33) 44 rfl wo.heap.size 3 i0 (.int .i64 0) 1 8 Try.underlying44 hi0 hz0 hz1 hz2 rfl (by decide) _ q (rowP (M00 m) q) rfl ?e0 _ _ _ [.int .i64 0] rfl rfl ?e1 ?e2 ?e3 ?e4 ?e5 ?_)
            case e0 => exact World.ownsRow.alloc Hrow.out _
            try (case e1 => exact one_cell _ _ _ (by simp))
            case e2 => first | (intro u hu; simp only [List.mem_cons, List.not_mem_nil, or_false] at hu; subst hu; rfl) | rfl | simp
            case e3 => unfold maxLen; omega
            case e4 => omega
            case e5 => first | exact Nat.le_trans hsz (al_le _ _) | (simp; omega)
            intro v2 w4 hown2 hgrow _
            have hbX := ((Below.refl wo.heap.size wr).alloc hsz _).trans (below_grown hgrow HrowB.out (Nat.le_trans hsz (al_le _ _)))
            have HBX := Lib.hid (hby.out.trans hbX)
            rw [show rowP (M00 m) q ++ [.int .i64 0] = rowP (M00 m) (q + 1) by rw [rowP_succ, HF.out]] at hown2
            obtain ⟨r2, c2, rfl, _⟩ := ownsRow_shape hown2
            have Hown2 := Lib.hid hown2
            clear hown2 hgrow hbX hcy
            go_wp2
            go_roundw
            case rel => exact ⟨q + 1, by omega, by go_num, HBX.out, Hown2.out⟩
            case measure => simp [intOf]; omega
          · have hqb : ((m : Int) == (q : Int)) = false := by simp; omega
            have HF := Lib.hid (show M00 m q = 1099511627776 by unfold M00; rw [if_neg heq])
            clear heq
            go_wp2_with (at_builtin; refine wpList_append_own _ rfl (.tmp 35) (.tmp 36) 44 rfl wo.heap.size 3 i0 (.int .i64 0) 1 8 Try.underlying44 hi0 hz0 hz1 hz2 rfl (by decide) _ q (rowP (M00 m) q) rfl ?f0 _ _ _ [.int .i64 1099511627776] rfl rfl ?f1 ?f2 ?f3 ?f4 ?f5 ?_)
            case f0 => exact World.ownsRow.alloc Hrow.out _
            try (case f1 => exact one_cell _ _ _ (by simp))
            case f2 => first | (intro u hu; simp only [List.mem_cons, List.not_mem_nil, or_false] at hu; subst hu; rfl) | rfl | simp
            case f3 => unfold maxLen; omega
            case f4 => omega
            case f5 => first | exact Nat.le_trans hsz (al_le _ _) | (simp; omega)
            intro v2 w4 hown2 hgrow _
            have hbX := ((Below.refl wo.heap.size wr).alloc hsz _).trans (below_grown hgrow HrowB.out (Nat.le_trans hsz (al_le _ _)))
            have HBX := Lib.hid (hby.out.trans hbX)
            rw [show rowP (M00 m) q ++ [.int .i64 1099511627776] = rowP (M00 m) (q + 1) by rw [rowP_succ, HF.out]] at hown2
            obtain ⟨r2, c2, rfl, _⟩ := ownsRow_shape hown2
            have Hown2 := Lib.hid hown2
            clear hown2 hgrow hbX hcy
            go_wp2
            go_roundw
            case rel => exact ⟨q + 1, by omega, by go_num, HBX.out, Hown2.out⟩
            case measure => simp [intOf]; omega
        · obtain rfl : q = n + 1 := by omega
          obtain ⟨g, rcur, rfl, hgb, hgk, hcr, hcm, hct⟩ : ∃ g cur, ra = some ⟨g, 0, none⟩ ∧ wo.heap.size ≤ g ∧ wr.heap[g]? = some (.cells cur 3 (0, 0)) ∧ n + 1 ≤ rc ∧ rc ≤ maxLen ∧ cur.toList.take (n + 1) = rowL n (M00 m) := by
            rcases Hrow.out.2 with ⟨_, h⟩ | ⟨g, cp, cur, h, hb, hg, h1, h2, h3, h4⟩
            · omega
            · injection h with h _ h5
              subst h5
              exact ⟨g, cur, h, hb, hg, h1, h2, by simp only [Nat.mul_one] at h4; exact h4⟩
          have hrk := hrows.out.keep (w' := wr) (fun j hj => hby.out.block _ (hrows.out.lt hj))
          have HRK := Lib.hid hrk
          have hownY := ownsRow_below Hown.out hby.out
          have HownY := Lib.hid hownY
          have HGK := Lib.hid hgk
          have HCT := Lib.hid hct
          have hszA := hb.out.size
          clear hrk hownY hgk hct
          go_wp2_with (at_builtin; refine wpList_append_own _ rfl (.tmp 38) (.tmp 40) 106 rfl wA.heap.size 44 j0 (.slice none 0 0) 1 24 Try.underlying106 hj0 hy0 hy1 hy2 rfl (by decide) _ m (hdrL n m G C) rfl ?g0 _ _ _ [.slice (some ⟨g, 0, none⟩) (n + 1) rc] rfl rfl ?g1 ?g2 ?g3 ?g4 ?g5 ?_)
          case g0 => exact World.ownsRow.alloc HownY.out _
          try (case g1 => exact one_cell _ _ _ (by simp))
          case g2 => first | (intro u hu; simp only [List.mem_cons, List.not_mem_nil, or_false] at hu; subst hu; rfl) | rfl | simp
          case g3 => unfold maxLen; omega
          case g4 => omega
          case g5 => first | (simp; omega) | omega
          intro v2 w4 hown2 hgrow _
          have hAy : wA.heap.size ≤ wr.heap.size := Nat.le_trans hszA hsz
          have hbX := ((Below.refl wA.heap.size wr).alloc hAy _).trans (below_grown hgrow HownB.out (Nat.le_trans hAy (al_le _ _)))
          have HBX := Lib.hid ((hb.out.trans (hby.out.mono hszA)).trans hbX)
          have hsame : ∀ (b : Nat) (cur : Array Value), wr.heap[b]? = some (Obj.cells cur 3 (0, 0)) → w4.heap[b]? = wr.heap[b]? := fun b cur hk => by
            have hk' : (wr.alloc (Obj.cells #[.slice (some ⟨g, 0, none⟩) (n + 1) rc] 44)).heap[b]? = some (Obj.cells cur 3 (0, 0)) := block_alloc hk _
            rw [hgrow.block b (lt_of_block hk') (fun e => ?_), hk', hk]
            rcases HownY.out.2 with ⟨e2, _⟩ | ⟨g', cp, cu, e2, _, hg', _⟩
            · rw [e2] at e; simp [Value.ownBlock] at e
            · rw [e2] at e
              simp [Value.ownBlock] at e
              subst e
              rw [hg'] at hk
              injection hk with hk
              injection hk with _ hk _
              exact absurd hk (by decide)
          have hrk4 := HRK.out.keep (w' := w4) (fun j hj => by
            obtain ⟨_, _, _, cu, h4, _⟩ := HRK.out.1 j hj
            exact hsame _ _ h4)
          have hgk4 := (hsame _ _ HGK.out).trans HGK.out
          have hsn := hrk4.snoc (g := g) (c := rc) (by omega) hcr hcm hgk4 HCT.out (fun j hj e => by have := hrows.out.lt hj; omega)
          have HSN := Lib.hid hsn
          rw [← hdrL_snoc] at hown2
          obtain ⟨s2, c2, rfl, _⟩ := ownsRow_shape hown2
          have Hown2 := Lib.hid hown2
          clear hown2 hgrow hbX hsame hrk4 hgk4 hsn hcy hce
          go_wp2
          go_roundw
          case rel => exact ⟨m + 1, _, _, by omega, by go_num, HBX.out, Hown2.out, HSN.out⟩
          case measure => simp [intOf]; omega
    · obtain rfl : m = n + 1 := by omega
      obtain ⟨hd, hc', e, hcap', hbase, hN⟩ := netB_of Hown.out hrows.out
      injection e with e _ _
      subst e
      have HN := Lib.hid hN
      have hlb : decide (n + 1 ≤ n) = false := by simp
      have HG := Lib.hid (show ∀ i, i ≤ n → wA.heap.size ≤ G i from fun i hi => (hrows.out.1 i (by omega)).1)
      have hcp := HC.out.p1
      have hcl := HC.out.l2
      have hcl1 := HC.out.p2
      have hcl0 := HC.out.l1
      dsimp only [CN] at hcp hcl hcl1 hcl0
      clear hN
      go_wp2_with fail
      go_loopw [10] (fun i wr => ∃ k : Nat, k ≤ n ∧ i = .int .i64 k ∧ Hid (Below wA.heap.size wA wr) ∧ Hid (NetB wr n hd G C (MB pi li k))) (fun i _ => n - (intOf i).toNat)
      case atStart => exact ⟨0, Nat.zero_le _, rfl, hb.out, HN.out.congr (fun i k _ _ => MB_zero pi li i k)⟩
      case round =>
        obtain ⟨k, hk, rfl, hb, hN⟩ := hrel
        have kc := (hb.out.block _ (lt_of_block K0.out)).trans K0.out
        have hce := block_cell kc
        have zc := lt_of_block kc
        clear kc
        by_cases hlt : k < n
        · obtain ⟨q1, q2, q3⟩ := hN.out.2.1 k (by omega)
          obtain ⟨q4, q5⟩ := hN.out.2.2.2 k (k + 1) (by omega) (by omega)
          have zh := hN.out.1
          have k1 : (0 : Int) ≤ (k : Int) := by omega
          have k2 : (k : Int) < (n : Int) + 1 := by omega
          have k3 : (0 : Int) ≤ (k : Int) + 1 := by omega
          have k4 : (k : Int) + 1 < (n : Int) + 1 := by omega
          have k5 : ((k : Int) + 1).toNat = k + 1 := by omega
          have k6 : IntKind.i64.wrap ((k : Int) + 1) = (k : Int) + 1 := by rw [IntKind.wrap_i64]; omega
          have BX := Lib.hid ((hb.out.setCell (p := ⟨G k, k + 1, none⟩) (HG.out k (by omega)) (.int .i64 li)).drew)
          have NX := Lib.hid (show NetB (wr.setCell ⟨G k, k + 1, none⟩ (.int .i64 li)).drew n hd G C _ from hN.out.set (i := k) (k := k + 1) (by omega) (by omega) li)
          go_wp2_with fail
          refine wp_region_still_tail 9 (by kernel_rfl) (by kernel_rfl) ?_
          change wpStill _ _ (World.drew _) (fun a' => wpList _ _ _ _ a' (World.drew _)) _ _
          simp only [List.take_succ_cons, List.take_zero, List.drop_succ_cons, List.drop_zero]
          repeat still_step
          refine wpStill_nil ?_
          go_wp2_with fail
          generalize (wr.setCell ⟨G k, k + 1, none⟩ (.int .i64 li)).drew = ws at *
          obtain ⟨p1, p2, p3⟩ := NX.out.2.1 (k + 1) (by omega)
          obtain ⟨p4, p5⟩ := NX.out.2.2.2 (k + 1) k (by omega) (by omega)
          have zhs := NX.out.1
          have kc := (BX.out.block _ (lt_of_block K0.out)).trans K0.out
          clear hce zc q1 q2 q3 q4 q5
          have hce := block_cell kc
          have zc := lt_of_block kc
          have o1 : IntKind.i64.wrap (-pi) = -pi := by rw [IntKind.wrap_i64]; omega
          have BY := Lib.hid ((BX.out.setCell (p := ⟨G (k + 1), k, none⟩) (HG.out (k + 1) (by omega)) (.int .i64 (-pi))).drew)
          have NY := Lib.hid (NetB.congr (show NetB (ws.setCell ⟨G (k + 1), k, none⟩ (.int .i64 (-pi))).drew n hd G C _ from NX.out.set (i := k + 1) (k := k) (by omega) (by omega) (-pi)) (fun a b _ _ => MB_succ pi li k a b))
          clear kc
          go_wp2_with fail
          refine wp_region_still_tail 10 (by kernel_rfl) (by kernel_rfl) ?_
          change wpStill _ _ (World.drew _) (fun a' => wpList _ _ _ _ a' (World.drew _)) _ _
          simp only [List.take_succ_cons, List.take_zero, List.drop_succ_cons, List.drop_zero]
          repeat still_step
          refine wpStill_nil ?_
          go_wp2
          go_roundw
          case rel => exact ⟨k + 1, hlt, by go_num, BY.out, NY.out⟩
          case measure => simp [intOf]; omega
        · obtain rfl : n = k := by omega
          have HN2 := Lib.hid (hN.out.congr (fun a b ha hb => MB_end ha hb))
          clear hcp hcl hcl1 hcl0
          go_wp2_with fail
          clear hce zc
          go_loopw [11] (fun i wr => ∃ k : Nat, k ≤ l.length ∧ i = .int .i64 k ∧ Hid (Below wA.heap.size wA wr) ∧ Hid (NetB wr n hd G C (addGs (spec0 (CN n pi li)) (l.take k)))) (fun i _ => l.length - (intOf i).toNat)
          case atStart => exact ⟨0, Nat.zero_le _, rfl, hb.out, HN2.out⟩
          case round =>
            obtain ⟨k, hk, rfl, hb, hN⟩ := hrel
            by_cases hlt : k < l.length
            · obtain ⟨b, off, rfl, hbl, hcc⟩ := HCC.out (by omega)
              obtain ⟨g1, g2, g3, g4⟩ := ga_at (HB.out.trans (hb.out.mono HB.out.size)) hbl hcc hlt
              have hg := HL.out _ (gau_getD_mem hlt)
              have HMS := Lib.hid (show addGs (spec0 (CN n pi li)) (l.take (k + 1)) = addG (addGs (spec0 (CN n pi li)) (l.take k)) (l.getD k Gau.zero) by
                rw [List.take_succ_eq_append_getElem hlt, addGs, List.foldl_append, ← addGs]
                rw [List.getD_eq_getElem?_getD, List.getElem?_eq_getElem hlt]
                rfl)
              clear hcc
              generalize addGs (spec0 (CN n pi li)) (l.take k) = M at *
              generalize l.getD k Gau.zero = gg at *
              obtain ⟨ga, gb, lo, hi⟩ := gg
              obtain ⟨a0, ab, bn, lo0, lh, h0, _⟩ := hg
              dsimp only [CN] at *
              obtain ⟨ga, rfl⟩ : ∃ m : Nat, ga = m := ⟨ga.toNat, by omega⟩
              obtain ⟨gb, rfl⟩ : ∃ m : Nat, gb = m := ⟨gb.toNat, by omega⟩
              have HMS := Lib.hid (show addGs (spec0 (CN n pi li)) (l.take (k + 1)) = up (up M ga gb hi) gb ga (-lo) from HMS.out)
              have zb : b < wr.heap.size := by have := hb.out.size; have := HB.out.size; omega
              go_wp2_with fail
              have bU : Below wA.heap.size wA (wr.alloc (Obj.cells #[.int .i64 ga, .int .i64 gb, .int .i64 lo, .int .i64 hi] 74)) := hb.out.alloc hb.out.size _
              have kU : (wr.alloc (Obj.cells #[.int .i64 ga, .int .i64 gb, .int .i64 lo, .int .i64 hi] 74)).heap[wr.heap.size]? = some (Obj.cells #[.int .i64 ga, .int .i64 gb, .int .i64 lo, .int .i64 hi] 74) := block_new _ _ _ rfl
              have nU := hN.out.below (w' := wr.alloc (Obj.cells #[.int .i64 ga, .int .i64 gb, .int .i64 lo, .int .i64 hi] 74)) ((Below.refl _ _).alloc (Nat.le_refl _) _)
              generalize wr.alloc (Obj.cells #[.int .i64 ga, .int .i64 gb, .int .i64 lo, .int .i64 hi] 74) = wU at *
              have cg := block_cell kU
              have zg := lt_of_block kU
              obtain ⟨q1, q2, q3⟩ := nU.2.1 ga (by omega)
              obtain ⟨q4, q5⟩ := nU.2.2.2 ga gb (by omega) (by omega)
              have zh := nU.1
              have qlt : G ga ≠ wr.heap.size := fun e => by have := (hN.out.2.1 ga (by omega)).2.1; omega
              have HKG := Lib.hid (fun (V : Int) => show (wU.setCell ⟨G ga, gb, none⟩ (.int .i64 V)).drew.heap[wr.heap.size]? = _ from block_set_other kU (fun e => qlt e.symm) (.int .i64 V))
              have ga1 : (0 : Int) ≤ (ga : Int) := by omega
              have ga2 : (ga : Int) < (n : Int) + 1 := by omega
              have gb1 : (0 : Int) ≤ (gb : Int) := by omega
              have gb2 : (gb : Int) < (n : Int) + 1 := by omega
              generalize hx : M ga gb = x at *
              have BX := Lib.hid (fun (V : Int) => (bU.setCell (p := ⟨G ga, gb, none⟩) (HG.out ga (by omega)) (.int .i64 V)).drew)
              have NX := Lib.hid (fun (V : Int) (hV : V = min x hi) => show NetB (wU.setCell ⟨G ga, gb, none⟩ (.int .i64 V)).drew n hd G C (up M ga gb hi) from by
                have := nU.set (i := ga) (k := gb) (by omega) (by omega) V
                rw [hV, ← hx] at this ⊢
                exact this)
              clear g1 g2 g3 g4 hx kU bU nU qlt
              go_wp2_with fail
              refine wp_region_still_tail 21 (by kernel_rfl) (by kernel_rfl) ?_
              change wpStill _ _ (World.drew _) (fun a' => wpList _ _ _ _ a' (World.drew _)) _ _
              simp only [List.take_succ_cons, List.take_zero, List.drop_succ_cons, List.drop_zero]
              repeat still_step
              refine wpStill_nil ?_
              go_wp2_with fail
              · have HNX := Lib.hid (NX.out (hi) (by omega))
                have HBX := Lib.hid (BX.out (hi))
                have kgs := HKG.out (hi)
                generalize (wU.setCell ⟨G ga, gb, none⟩ (.int .i64 (hi))).drew = ws at *
                obtain ⟨p1, p2, p3⟩ := HNX.out.2.1 gb (by omega)
                obtain ⟨p4, p5⟩ := HNX.out.2.2.2 gb ga (by omega) (by omega)
                have zhs := HNX.out.1
                have cgs := block_cell kgs
                have zgs := lt_of_block kgs
                generalize hy : up M ga gb hi gb ga = y at *
                have BY := Lib.hid (fun (V : Int) => ((HBX.out.setCell (p := ⟨G gb, ga, none⟩) (HG.out gb (by omega)) (.int .i64 V)).drew))
                have NY := Lib.hid (fun (V : Int) (hV : V = min y (-lo)) => show NetB (ws.setCell ⟨G gb, ga, none⟩ (.int .i64 V)).drew n hd G C (up (up M ga gb hi) gb ga (-lo)) from by
                  have := HNX.out.set (i := gb) (k := ga) (by omega) (by omega) V
                  rw [hV, ← hy] at this ⊢
                  exact this)
                clear q1 q2 q3 q4 q5 cg zg kgs hy
                go_wp2_with fail
                refine wp_region_still_tail 22 (by kernel_rfl) (by kernel_rfl) ?_
                change wpStill _ _ (World.drew _) (fun a' => wpList _ _ _ _ a' (World.drew _)) _ _
                simp only [List.take_succ_cons, List.take_zero, List.drop_succ_cons, List.drop_zero]
                repeat still_step
                refine wpStill_nil ?_
                go_wp2
                all_goals
                  go_roundw
                  case rel => exact ⟨k + 1, hlt, by go_num, BY.out _, (NY.out _ (by omega)).congr (fun a b _ _ => (congrFun (congrFun HMS.out a) b).symm)⟩
                  case measure => simp [intOf]; omega
              · have HNX := Lib.hid (NX.out (x) (by omega))
                have HBX := Lib.hid (BX.out (x))
                have kgs := HKG.out (x)
                generalize (wU.setCell ⟨G ga, gb, none⟩ (.int .i64 (x))).drew = ws at *
                obtain ⟨p1, p2, p3⟩ := HNX.out.2.1 gb (by omega)
                obtain ⟨p4, p5⟩ := HNX.out.2.2.2 gb ga (by omega) (by omega)
                have zhs := HNX.out.1
                have cgs := block_cell kgs
                have zgs := lt_of_block kgs
                generalize hy : up M ga gb hi gb ga = y at *
                have BY := Lib.hid (fun (V : Int) => ((HBX.out.setCell (p := ⟨G gb, ga, none⟩) (HG.out gb (by omega)) (.int .i64 V)).drew))
                have NY := Lib.hid (fun (V : Int) (hV : V = min y (-lo)) => show NetB (ws.setCell ⟨G gb, ga, none⟩ (.int .i64 V)).drew n hd G C (up (up M ga gb hi) gb ga (-lo)) from by
                  have := HNX.out.set (i := gb) (k := ga) (by omega) (by omega) V
                  rw [hV, ← hy] at this ⊢
                  exact this)
                clear q1 q2 q3 q4 q5 cg zg kgs hy
                go_wp2_with fail
                refine wp_region_still_tail 22 (by kernel_rfl) (by kernel_rfl) ?_
                change wpStill _ _ (World.drew _) (fun a' => wpList _ _ _ _ a' (World.drew _)) _ _
                simp only [List.take_succ_cons, List.take_zero, List.drop_succ_cons, List.drop_zero]
                repeat still_step
                refine wpStill_nil ?_
                go_wp2
                all_goals
                  go_roundw
                  case rel => exact ⟨k + 1, hlt, by go_num, BY.out _, (NY.out _ (by omega)).congr (fun a b _ _ => (congrFun (congrFun HMS.out a) b).symm)⟩
                  case measure => simp [intOf]; omega
            · obtain rfl : k = l.length := by omega
              have hN0 := hN.out
              rw [List.take_length] at hN0
              have HM : Hid (NetOk n (netS (CN n pi li) l)) := by
                have := netS_ok HC.out HL.out
                rw [show (CN n pi li).n.toNat = n by simp] at this
                exact this
              have R0 := Lib.hid (show SiRel n (netS (CN n pi li) l) hd G C wA wr 0 0 0 from ⟨hb.out, _, hN0, fun i k hi hk => by rw [mid_start]; rfl⟩)
              have G0 := Lib.hid (show Good n (netS (CN n pi li) l) 0 from fun u hu i hi => by
                obtain rfl : u = 0 := by omega
                show 0 ≤ netS (CN n pi li) l i i
                rw [HM.out.self i hi]; exact Int.le_refl _)
              have HOUT := Lib.hid (fun (wr : World) (t : Nat) (q : Bool) (hh : SiRel n (netS (CN n pi li) l) hd G C wA wr t 0 0) (hq : q = decide (Good n (netS (CN n pi li) l) (n + 1))) (ht : q = true → t = n + 1) => SiRel.out (c := hc') HC.out HL.out HB.out hh hq ht)
              clear hN0 hN
              generalize netS (CN n pi li) l = M0 at *
              go_wp2_with fail
              go_loopw [13] (fun v wr => ∃ t : Nat, t ≤ n + 1 ∧ v = .int .i64 t ∧ Hid (SiRel n M0 hd G C wA wr t 0 0) ∧ Hid (Good n M0 t)) (fun v _ => n + 1 - (intOf v).toNat)
              case atStart => exact ⟨0, by omega, rfl, R0.out, G0.out⟩
              case round =>
                obtain ⟨t, ht, rfl, hR, hG⟩ := hrel
                obtain ⟨wo, rfl⟩ : ∃ wo : World, wo = wr := ⟨_, rfl⟩
                have kc := (hR.out.1.block _ (lt_of_block K0.out)).trans K0.out
                have hce := block_cell kc
                have zc := lt_of_block kc
                clear kc
                by_cases hlt : t < n + 1
                · have hlb : decide (t ≤ n) = true := by simp; omega
                  have HD := Lib.hid (hG.out t (Nat.le_refl _) t (by omega))
                  go_wp2_with fail
                  go_loopw [14] (fun v wr => ∃ i : Nat, i ≤ n + 1 ∧ v = .int .i64 i ∧ Hid (SiRel n M0 hd G C wA wr t i 0)) (fun v _ => n + 1 - (intOf v).toNat)
                  case atStart => exact ⟨0, by omega, rfl, hR.out⟩
                  case round =>
                    obtain ⟨i, hi, rfl, hQ⟩ := hrel
                    obtain ⟨wi, rfl⟩ : ∃ wi : World, wi = wr := ⟨_, rfl⟩
                    have kc := (hQ.out.1.block _ (lt_of_block K0.out)).trans K0.out
                    have hci := block_cell kc
                    have zci := lt_of_block kc
                    clear kc
                    by_cases hlti : i < n + 1
                    · have hlbi : decide (i ≤ n) = true := by simp; omega
                      go_wp2_with fail
                      go_loopw [15] (fun v wr => ∃ k : Nat, k ≤ n + 1 ∧ v = .int .i64 k ∧ Hid (SiRel n M0 hd G C wA wr t i k)) (fun v _ => n + 1 - (intOf v).toNat)
                      case atStart => exact ⟨0, by omega, rfl, hQ.out⟩
                      case round =>
                        obtain ⟨k, hk, rfl, hS⟩ := hrel
                        have kc := (hS.out.1.block _ (lt_of_block K0.out)).trans K0.out
                        have hck := block_cell kc
                        have zck := lt_of_block kc
                        clear kc
                        by_cases hltk : k < n + 1
                        · have hlbk : decide (k ≤ n) = true := by simp; omega
                          obtain ⟨c1, f1⟩ := hS.out.cell (i' := i) (k' := k) (by omega) (by omega)
                          obtain ⟨c2, _⟩ := hS.out.cell (i' := i) (k' := t) (by omega) (by omega)
                          obtain ⟨c3, _⟩ := hS.out.cell (i' := t) (k' := k) (by omega) (by omega)
                          obtain ⟨d1, e1, zh⟩ := hS.out.hdr (i' := i) (by omega)
                          obtain ⟨d2, e2, _⟩ := hS.out.hdr (i' := t) (by omega)
                          have b1 := mid_bd n24' HM.out (t := t) (by omega) i k (i' := i) (k' := k) (by omega) (by omega)
                          have b2 := mid_bd n24' HM.out (t := t) (by omega) i k (i' := i) (k' := t) (by omega) (by omega)
                          have b3 := mid_bd n24' HM.out (t := t) (by omega) i k (i' := t) (k' := k) (by omega) (by omega)
                          have HVV := Lib.hid (mid_step (M := fw M0 t) (b := t) (i := i) (k := k) HD.out)
                          generalize mid (fw M0 t) t i k i k = x at c1 b1 HVV
                          generalize mid (fw M0 t) t i k i t = y at c2 b2 HVV
                          generalize mid (fw M0 t) t i k t k = z at c3 b3 HVV
                          obtain ⟨x1, x2⟩ := b1
                          obtain ⟨y1, y2⟩ := b2
                          obtain ⟨z1, z2⟩ := b3
                          have t1 : (0 : Int) ≤ t := by omega
                          have t2 : (t : Int) < (n : Int) + 1 := by omega
                          have i1 : (0 : Int) ≤ i := by omega
                          have i2 : (i : Int) < (n : Int) + 1 := by omega
                          have k1 : (0 : Int) ≤ k := by omega
                          have k2 : (k : Int) < (n : Int) + 1 := by omega
                          go_wp2_with fail
                          refine wp_region_still_tail 29 (by kernel_rfl) (by kernel_rfl) ?_
                          change wpStill _ _ (World.drew _) (fun a' => wpList _ _ _ _ a' (World.drew _)) _ _
                          simp only [List.take_succ_cons, List.take_zero, List.drop_succ_cons, List.drop_zero]
                          repeat still_step
                          refine wpStill_nil ?_
                          go_wp2
                          all_goals
                            go_roundw
                            case rel => exact ⟨k + 1, by omega, by go_num, hS.out.step (HG.out i (by omega)) (by omega) (by omega) (by rw [← HVV.out]; first | exact if_min | omega)⟩
                            case measure => simp [intOf]; omega
                        · obtain rfl : k = n + 1 := by omega
                          have hlbk : decide (n + 1 ≤ n) = false := by simp
                          have HS := Lib.hid hS.out.row
                          go_wp2
                          go_roundw
                          case rel => exact ⟨i + 1, by omega, by go_num, HS.out⟩
                          case measure => simp [intOf]; omega
                    · obtain rfl : i = n + 1 := by omega
                      have hlbi : decide (n + 1 ≤ n) = false := by simp
                      have HQ := Lib.hid hQ.out.turn
                      go_wp2_with fail
                      go_loopw [16] (fun v wr => ∃ k : Nat, k ≤ n + 1 ∧ v = .int .i64 k ∧ Hid (SiRel n M0 hd G C wA wr (t + 1) 0 0) ∧ Hid (∀ i, i < k → 0 ≤ fw M0 (t + 1) i i)) (fun v _ => n + 1 - (intOf v).toNat)
                      case atStart => exact ⟨0, by omega, rfl, HQ.out, fun i hi => by omega⟩
                      case round =>
                        obtain ⟨k, hk, rfl, hS, hP⟩ := hrel
                        have kc := (hS.out.1.block _ (lt_of_block K0.out)).trans K0.out
                        have hck := block_cell kc
                        have zck := lt_of_block kc
                        clear kc
                        by_cases hltk : k < n + 1
                        · have hlbk : decide (k ≤ n) = true := by simp; omega
                          obtain ⟨c1, _⟩ := hS.out.cell (i' := k) (k' := k) (by omega) (by omega)
                          obtain ⟨d1, e1, zh⟩ := hS.out.hdr (i' := k) (by omega)
                          rw [mid_start] at c1
                          have k1 : (0 : Int) ≤ k := by omega
                          have k2 : (k : Int) < (n : Int) + 1 := by omega
                          generalize hx : fw M0 (t + 1) k k = x at c1
                          have HX := Lib.hid hx
                          clear hx
                          by_cases hneg : x < 0
                          · have HNN := Lib.hid (show false = decide (Good n M0 (n + 1)) by
                              symm
                              rw [decide_eq_false_iff_not]
                              intro hg
                              have := hg (t + 1) (by omega) k (by omega)
                              rw [HX.out] at this
                              omega)
                            go_wp2
                            go_ret2
                            exact HOUT.out _ _ _ hS.out HNN.out (fun h => by cases h)
                          · have HNN := Lib.hid hneg
                            go_wp2
                            go_roundw
                            case rel => exact ⟨k + 1, by omega, by go_num, hS.out, fun i hi => by
                              by_cases hik : i = k
                              · rw [hik, HX.out]; have := HNN.out; omega
                              · exact hP.out i (by omega)⟩
                            case measure => simp [intOf]; omega
                        · obtain rfl : k = n + 1 := by omega
                          have hlbk : decide (n + 1 ≤ n) = false := by simp
                          have HG2 := Lib.hid (hG.out.next (fun i hi => hP.out i (by omega)))
                          go_wp2
                          go_roundw
                          case rel => exact ⟨t + 1, by omega, by go_num, hS.out, HG2.out⟩
                          case measure => simp [intOf]; omega
                · obtain rfl : t = n + 1 := by omega
                  have hlb : decide (n + 1 ≤ n) = false := by simp
                  have HG2 := Lib.hid (decide_eq_true hG.out)
                  go_wp2
                  go_ret2
                  exact HOUT.out _ _ _ hR.out HG2.out.symm (fun _ => rfl)

end Go.Proofs.Ytkahhclmmlkpjaa
