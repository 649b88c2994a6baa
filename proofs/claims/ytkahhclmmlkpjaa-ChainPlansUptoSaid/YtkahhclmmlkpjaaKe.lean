/- Walks of layer 2 (chain): the bounds of the program: add, tighten. -/
import Derived.Test.YtkahhclmmlkpjaaKb
namespace Go.Proofs.Ytkahhclmmlkpjaa
open Go.RowKit

/-- The bounds before the pair j of what a gauge says. -/
def addStep (M : Net) (a e : Nat) (lo hi : Int) : Nat → Net
  | 0 => M
  | 1 => up M a e hi
  | _ + 2 => up (up M a e hi) e a (-lo)

theorem put_up (M : Net) (i k : Nat) (v : Int) : put M i k (min (M i k) v) = up M i k v := rfl

def AddRel (b f : Nat) (wA wr : World) (M : Net) : Prop := Below f wA wr ∧ Bd wr b M

theorem AddRel.step {b : Nat} {wA wr : World} {M : Net} (h : AddRel b b wA wr M) {i k : Nat} (hi : i < 25) (hk : k < 25) {v x : Int} (hx : x = min (M i k) v) (o : Obj) : AddRel b b wA ((wr.setCell ⟨b, i * 25 + k, none⟩ (.int .i64 x)).alloc o).drew (up M i k v) := by
  obtain ⟨h1, h2⟩ := h
  have hz := lt_of_block h2
  have h3 := bd_set h2 hi hk x
  rw [hx, put_up] at h3
  refine ⟨((h1.setCell (p := ⟨b, i * 25 + k, none⟩) (Nat.le_refl _) _).alloc (by simp; omega) o).drew, ?_⟩
  rw [hx]
  exact block_alloc h3 o

theorem if_min {m v : Int} : (if v < m then v else m) = min m v := by split <;> omega

set_option maxRecDepth 100000 in
set_option maxHeartbeats 4000000 in
theorem badd_any (M : Net) (b a e : Nat) (lo hi : Int) (w : World) (h : Bd w b M) (ha : a < 25) (he : e < 25) (h1 : -1000000000 ≤ lo) (h2 : lo ≤ 1000000000) :
    Calls Try.prog 95 #[.pointer (some ⟨b, 0, none⟩), .int .i64 a, .int .i64 e, .agg #[.int .i64 lo, .int .i64 hi]] w fun e' w' => e' = .returned (.tuple #[]) ∧ Below b w w' ∧ Bd w' b (up (up M a e hi) e a (-lo)) := by
  have hb := lt_of_block h
  have hb0 := (Below.refl w.heap.size w).alloc (Nat.le_refl _) (Obj.cells #[.int .i64 lo, .int .i64 hi] 37)
  have k0 := block_new w (Obj.cells #[.int .i64 lo, .int .i64 hi] 37) w.heap.size rfl
  have R0 := Lib.hid (show AddRel b b (w.alloc (Obj.cells #[.int .i64 lo, .int .i64 hi] 37)) (w.alloc (Obj.cells #[.int .i64 lo, .int .i64 hi] 37)) (addStep M a e lo hi 0) from ⟨Below.refl _ _, (hb0.block b hb).trans h⟩)
  have HB := Lib.hid hb0
  have K0 := Lib.hid k0
  have hz : b < (w.alloc (Obj.cells #[.int .i64 lo, .int .i64 hi] 37)).heap.size := by simp only [size_alloc]; omega
  clear h hb0 k0
  have i0 : ∀ W, (Instr.index 149 (.agg #[.int .i64 a, .int .i64 e, .int .i64 hi, .int .i64 e, .int .i64 a, .int .i64 (-lo)]) (.int .i64 0)).run Try.prog W = .ok (.agg #[.int .i64 a, .int .i64 e, .int .i64 hi]) W := fun _ => by kernel_rfl
  have i1 : ∀ W, (Instr.index 149 (.agg #[.int .i64 a, .int .i64 e, .int .i64 hi, .int .i64 e, .int .i64 a, .int .i64 (-lo)]) (.int .i64 1)).run Try.prog W = .ok (.agg #[.int .i64 e, .int .i64 a, .int .i64 (-lo)]) W := fun _ => by kernel_rfl
  go_enter Try.func95, Try.ntmps95
  go_wp2_with fail
  generalize hwA : w.alloc (Obj.cells #[.int .i64 lo, .int .i64 hi] 37) = wA at *
  clear hwA
  have hce := block_cell K0.out
  go_wp2_with fail
  clear hce
  go_loopw [22] (fun v wr => ∃ j : Nat, j ≤ 2 ∧ v = .int .i64 j ∧ Hid (AddRel b b wA wr (addStep M a e lo hi j))) (fun v _ => 2 - (intOf v).toNat)
  case atStart => exact ⟨0, by omega, rfl, R0.out⟩
  case round =>
    obtain ⟨j, hj, rfl, hR⟩ := hrel
    by_cases hlt : j < 2
    · have j0 : j = 0 ∨ j = 1 := by omega
      have a1 : (0 : Int) ≤ a := by omega
      have a2 : (a : Int) < 25 := by omega
      have e1 : (0 : Int) ≤ e := by omega
      have e2 : (e : Int) < 25 := by omega
      have hcf := block_free hR.out.2
      have c1 := bd_at hR.out.2 ha he
      have c2 := bd_at hR.out.2 he ha
      have hzr : b < wr.heap.size := lt_of_block hR.out.2
      rcases j0 with rfl | rfl
      · go_wp2_with fail
        refine wp_region_still_tail 20 (by kernel_rfl) (by kernel_rfl) ?_
        change wpStill _ _ (World.drew _) (fun a' => wpList _ _ _ _ a' (World.drew _)) _ _
        simp only [List.take_succ_cons, List.take_zero, List.drop_succ_cons, List.drop_zero]
        repeat still_step
        refine wpStill_nil ?_
        go_wp2
        go_roundw
        case rel => exact ⟨1, by omega, rfl, hR.out.step ha he if_min _⟩
        case measure => simp [intOf]
      · go_wp2_with fail
        refine wp_region_still_tail 20 (by kernel_rfl) (by kernel_rfl) ?_
        change wpStill _ _ (World.drew _) (fun a' => wpList _ _ _ _ a' (World.drew _)) _ _
        simp only [List.take_succ_cons, List.take_zero, List.drop_succ_cons, List.drop_zero]
        repeat still_step
        refine wpStill_nil ?_
        go_wp2
        go_roundw
        case rel => exact ⟨2, by omega, rfl, hR.out.step he ha if_min _⟩
        case measure => simp [intOf]
    · obtain rfl : j = 2 := by omega
      go_wp2
      go_end0
      exact ⟨rfl, (HB.out.mono (by omega)).trans hR.out.1, hR.out.2⟩

/-! ### tighten -/
def TiRel (n : Nat) (M0 : Net) (b : Nat) (w wr : World) (t i k : Nat) : Prop :=
  Below b w wr ∧ ∃ M1, Bd wr b M1 ∧ ∀ i' k', i' ≤ n → k' ≤ n → M1 i' k' = mid (fw M0 t) t i k i' k'

theorem TiRel.step {n : Nat} {M0 : Net} {b : Nat} {w wr : World} {t i k : Nat} (h : TiRel n M0 b w wr t i k) (hn : n ≤ 24) (hi : i ≤ n) (hk : k ≤ n) {v : Int} (hv : v = rnd (fw M0 t) t i k) : TiRel n M0 b w (wr.setCell ⟨b, i * 25 + k, none⟩ (.int .i64 v)).drew t i (k + 1) := by
  obtain ⟨h1, M1, h2, h3⟩ := h
  refine ⟨(h1.setCell (p := ⟨b, i * 25 + k, none⟩) (Nat.le_refl _) _).drew, _, bd_set h2 (by omega) (by omega) v, fun i' k' hi' hk' => ?_⟩
  rw [mid_next]
  unfold put
  by_cases e : i' = i ∧ k' = k
  · rw [if_pos e, if_pos e]; exact hv
  · rw [if_neg e, if_neg e]; exact h3 i' k' hi' hk'

theorem TiRel.row {n : Nat} {M0 : Net} {b : Nat} {w wr : World} {t i : Nat} (h : TiRel n M0 b w wr t i (n + 1)) : TiRel n M0 b w wr t (i + 1) 0 := by
  obtain ⟨h1, M1, h2, h3⟩ := h
  exact ⟨h1, M1, h2, fun i' k' hi' hk' => (h3 i' k' hi' hk').trans (mid_row i i' k' hi' hk')⟩

theorem TiRel.turn {n : Nat} {M0 : Net} {b : Nat} {w wr : World} {t : Nat} (h : TiRel n M0 b w wr t (n + 1) 0) : TiRel n M0 b w wr (t + 1) 0 0 := by
  obtain ⟨h1, M1, h2, h3⟩ := h
  exact ⟨h1, M1, h2, fun i' k' hi' hk' => by rw [h3 i' k' hi' hk', mid_end i' k' hi' hk', mid_start]; rfl⟩

theorem TiRel.cell {n : Nat} {M0 : Net} {b : Nat} {w wr : World} {t i k : Nat} (h : TiRel n M0 b w wr t i k) (hn : n ≤ 24) {i' k' : Nat} (hi : i' ≤ n) (hk : k' ≤ n) : wr.cell? ⟨b, i' * 25 + k', none⟩ = some (.int .i64 (mid (fw M0 t) t i k i' k')) := by
  obtain ⟨_, M1, h2, h3⟩ := h
  rw [bd_at h2 (by omega) (by omega), h3 i' k' hi hk]

theorem TiRel.free {n : Nat} {M0 : Net} {b : Nat} {w wr : World} {t i k : Nat} (h : TiRel n M0 b w wr t i k) (o : Nat) : wr.frozen? ⟨b, o, none⟩ = false := by
  obtain ⟨_, M1, h2, _⟩ := h
  exact block_free h2 o

theorem mid_bd {n : Nat} {M0 : Net} (hn : n ≤ 24) (hM : NetOk n M0) {t : Nat} (ht : t ≤ n) (i k : Nat) {i' k' : Nat} (hi : i' ≤ n) (hk : k' ≤ n) : -400000000000000 ≤ mid (fw M0 t) t i k i' k' ∧ mid (fw M0 t) t i k i' k' ≤ 400000000000000 := by
  have h1 := fw_small hn hM.small t (by omega) i' k' hi hk
  have h2 := fw_small hn hM.small (t + 1) (by omega) i' k' hi hk
  unfold mid
  split
  · have e : min (fw M0 t i' k') (fw M0 t i' t + fw M0 t t k') = fw M0 (t + 1) i' k' := rfl
    rw [e]; omega
  · omega

def TightRes (n : Nat) (M0 : Net) (b : Nat) (w : World) (e : Ending) (w' : World) : Prop :=
  e = .returned (.bool (decide (Good n M0 (n + 1)))) ∧ Below b w w' ∧ ∃ M1, Bd w' b M1 ∧ (Good n M0 (n + 1) → ∀ i k, i ≤ n → k ≤ n → M1 i k = fw M0 (n + 1) i k)

theorem TiRel.out {n : Nat} {M0 : Net} {b : Nat} {w wr : World} {t : Nat} (h : TiRel n M0 b w wr t 0 0) {q : Bool} (hq : q = decide (Good n M0 (n + 1))) (ht : q = true → t = n + 1) : TightRes n M0 b w (.returned (.bool q)) wr := by
  obtain ⟨h1, M1, h2, h3⟩ := h
  refine ⟨by rw [hq], h1, M1, h2, fun hg i k hi hk => ?_⟩
  rw [h3 i k hi hk, ht (by rw [hq]; exact decide_eq_true hg), mid_start]

set_option maxRecDepth 100000 in
set_option maxHeartbeats 8000000 in
theorem btight_any (n : Nat) (M M0 : Net) (b : Nat) (w : World) (h : Bd w b M) (hn : n ≤ 24) (hM : NetOk n M0) (he : ∀ i k, i ≤ n → k ≤ n → M i k = M0 i k) :
    Calls Try.prog 96 #[.pointer (some ⟨b, 0, none⟩), .int .i64 n] w (TightRes n M0 b w) := by
  have R0 := Lib.hid (show TiRel n M0 b w w 0 0 0 from ⟨Below.refl _ _, M, h, fun i k hi hk => by rw [mid_start]; exact he i k hi hk⟩)
  have G0 := Lib.hid (show Good n M0 0 from fun u hu i hi => by
    obtain rfl : u = 0 := by omega
    show 0 ≤ M0 i i
    rw [hM.self i hi]; exact Int.le_refl _)
  have HM := Lib.hid hM
  clear h he hM
  go_enter Try.func96, Try.ntmps96
  go_wp2_with fail
  go_loopw [11] (fun v wr => ∃ t : Nat, t ≤ n + 1 ∧ v = .int .i64 t ∧ Hid (TiRel n M0 b w wr t 0 0) ∧ Hid (Good n M0 t)) (fun v _ => n + 1 - (intOf v).toNat)
  case atStart => exact ⟨0, by omega, rfl, R0.out, G0.out⟩
  case round =>
    obtain ⟨t, ht, rfl, hR, hG⟩ := hrel
    obtain ⟨wo, rfl⟩ : ∃ wo : World, wo = wr := ⟨_, rfl⟩
    by_cases hlt : t < n + 1
    · have hlb : decide ((t : Int) < (n : Int) + 1) = true := by simp; omega
      have hd := hG.out t (Nat.le_refl _) t (by omega)
      have HD := Lib.hid hd
      go_wp2_with fail
      clear hd
      go_loopw [16] (fun v wr => ∃ i : Nat, i ≤ n + 1 ∧ v = .int .i64 i ∧ Hid (TiRel n M0 b w wr t i 0)) (fun v _ => n + 1 - (intOf v).toNat)
      case atStart => exact ⟨0, by omega, rfl, hR.out⟩
      case round =>
        obtain ⟨i, hi, rfl, hQ⟩ := hrel
        obtain ⟨wi, rfl⟩ : ∃ wi : World, wi = wr := ⟨_, rfl⟩
        by_cases hlti : i < n + 1
        · have hlbi : decide ((i : Int) < (n : Int) + 1) = true := by simp; omega
          go_wp2_with fail
          go_loopw [21] (fun v wr => ∃ k : Nat, k ≤ n + 1 ∧ v = .int .i64 k ∧ Hid (TiRel n M0 b w wr t i k)) (fun v _ => n + 1 - (intOf v).toNat)
          case atStart => exact ⟨0, by omega, rfl, hQ.out⟩
          case round =>
            obtain ⟨k, hk, rfl, hS⟩ := hrel
            by_cases hltk : k < n + 1
            · have c1 := hS.out.cell hn (i' := i) (k' := k) (by omega) (by omega)
              have c2 := hS.out.cell hn (i' := i) (k' := t) (by omega) (by omega)
              have c3 := hS.out.cell hn (i' := t) (k' := k) (by omega) (by omega)
              have b1 := mid_bd hn HM.out (t := t) (by omega) i k (i' := i) (k' := k) (by omega) (by omega)
              have b2 := mid_bd hn HM.out (t := t) (by omega) i k (i' := i) (k' := t) (by omega) (by omega)
              have b3 := mid_bd hn HM.out (t := t) (by omega) i k (i' := t) (k' := k) (by omega) (by omega)
              have hf := hS.out.free
              have HV := Lib.hid (mid_step (M := fw M0 t) (b := t) (i := i) (k := k) HD.out)
              generalize mid (fw M0 t) t i k i k = x at c1 b1 HV
              generalize mid (fw M0 t) t i k i t = y at c2 b2 HV
              generalize mid (fw M0 t) t i k t k = z at c3 b3 HV
              obtain ⟨x1, x2⟩ := b1
              obtain ⟨y1, y2⟩ := b2
              obtain ⟨z1, z2⟩ := b3
              have t1 : (0 : Int) ≤ t := by omega
              have t2 : (t : Int) < 25 := by omega
              have i1 : (0 : Int) ≤ i := by omega
              have i2 : (i : Int) < 25 := by omega
              have k1 : (0 : Int) ≤ k := by omega
              have k2 : (k : Int) < 25 := by omega
              go_wp2_with fail
              refine wp_region_still_tail 29 (by kernel_rfl) (by kernel_rfl) ?_
              change wpStill _ _ (World.drew _) (fun a' => wpList _ _ _ _ a' (World.drew _)) _ _
              simp only [List.take_succ_cons, List.take_zero, List.drop_succ_cons, List.drop_zero]
              repeat still_step
              refine wpStill_nil ?_
              go_wp2
              go_roundw
              case rel => exact ⟨k + 1, by omega, by go_num, hS.out.step hn (by omega) (by omega) (if_min.trans HV.out)⟩
              case measure => simp [intOf]; omega
            · obtain rfl : k = n + 1 := by omega
              have HS := Lib.hid hS.out.row
              go_wp2
              go_roundw
              case rel => exact ⟨i + 1, by omega, by go_num, HS.out⟩
              case measure => simp [intOf]; omega
        · obtain rfl : i = n + 1 := by omega
          have HQ := Lib.hid hQ.out.turn
          go_wp2_with fail
          go_loopw [57] (fun v wr => ∃ k : Nat, k ≤ n + 1 ∧ v = .int .i64 k ∧ Hid (TiRel n M0 b w wr (t + 1) 0 0) ∧ Hid (∀ i, i < k → 0 ≤ fw M0 (t + 1) i i)) (fun v _ => n + 1 - (intOf v).toNat)
          case atStart => exact ⟨0, by omega, rfl, HQ.out, fun i hi => by omega⟩
          case round =>
            obtain ⟨k, hk, rfl, hS, hP⟩ := hrel
            by_cases hltk : k < n + 1
            · have c1 := hS.out.cell hn (i' := k) (k' := k) (by omega) (by omega)
              rw [mid_start] at c1
              have k1 : (0 : Int) ≤ k := by omega
              have k2 : (k : Int) < 25 := by omega
              generalize hx : fw M0 (t + 1) k k = x at c1
              have HX := Lib.hid hx
              clear hx
              by_cases hneg : x < 0
              · have HN := Lib.hid (show false = decide (Good n M0 (n + 1)) by
                  symm
                  rw [decide_eq_false_iff_not]
                  intro hg
                  have := hg (t + 1) (by omega) k (by omega)
                  rw [HX.out] at this
                  omega)
                go_wp2
                go_ret
                exact hS.out.out HN.out (fun h => by cases h)
              · have HN := Lib.hid hneg
                go_wp2
                go_roundw
                case rel => exact ⟨k + 1, by omega, by go_num, hS.out, fun i hi => by
                  by_cases hik : i = k
                  · rw [hik, HX.out]; have := HN.out; omega
                  · exact hP.out i (by omega)⟩
                case measure => simp [intOf]; omega
            · have HG := Lib.hid (hG.out.next (fun i hi => hP.out i (by omega)))
              go_wp2
              go_roundw
              case rel => exact ⟨t + 1, by omega, by go_num, hS.out, HG.out⟩
              case measure => simp [intOf]; omega
    · obtain rfl : t = n + 1 := by omega
      have HG := Lib.hid (decide_eq_true hG.out)
      go_wp2
      go_ret
      exact hR.out.out HG.out.symm (fun _ => rfl)

end Go.Proofs.Ytkahhclmmlkpjaa
