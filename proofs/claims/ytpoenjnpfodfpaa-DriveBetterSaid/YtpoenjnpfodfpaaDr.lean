/- Walks of layer 1 (drive): roll. -/
import Derived.Test.YtpoenjnpfodfpaaDe
namespace Go.Proofs.Ytpoenjnpfodfpaa
open Go.RowKit

/-- The first tick, from k on, behind which the band of the extreme history is at rest, at most 100. -/
def restAux (E : Esc) (S : Stp) (most : Bool) : Nat → Nat → Nat
  | 0, k => k
  | f + 1, k => if pathM E S most k = 0 then k else restAux E S most f (k + 1)
def restN (E : Esc) (S : Stp) (most : Bool) : Nat := restAux E S most 100 0

theorem restAux_eq {E : Esc} {S : Stp} {most : Bool} {n : Nat} : ∀ f k, k + f = 100 → k ≤ n → n ≤ 100 → (∀ i, k ≤ i → i < n → pathM E S most i ≠ 0) → (n < 100 → pathM E S most n = 0) → restAux E S most f k = n := by
  intro f
  induction f with
  | zero => intro k h1 h2 h3 _ _; simp only [restAux]; omega
  | succ f ih =>
    intro k h1 h2 h3 h4 h5
    simp only [restAux]
    by_cases hk : k = n
    · subst hk
      rw [if_pos (h5 (by omega))]
    · rw [if_neg (h4 k (Nat.le_refl _) (by omega))]
      exact ih (k + 1) (by omega) (by omega) h3 (fun i hi hn => h4 i (by omega) hn) h5

theorem restN_eq {E : Esc} {S : Stp} {most : Bool} {n : Nat} (h3 : n ≤ 100) (h4 : ∀ i, i < n → pathM E S most i ≠ 0) (h5 : n < 100 → pathM E S most n = 0) : restN E S most = n :=
  restAux_eq 100 0 rfl (Nat.zero_le _) h3 (fun i _ hi => h4 i hi) h5

def loadAt (E : Esc) (S : Stp) (most : Bool) (t : Nat) : Int := (extM E S (pathM E S most t) t most).1
def loadsTo (E : Esc) (S : Stp) (most : Bool) (n : Nat) : List Int := (List.range n).map (loadAt E S most)
def wayTo (E : Esc) (S : Stp) (most : Bool) : Nat → Int
  | 0 => 0
  | t + 1 => wayTo E S most t + pathM E S most (t + 1)

theorem loadsTo_succ (E : Esc) (S : Stp) (most : Bool) (n : Nat) : loadsTo E S most (n + 1) = loadsTo E S most n ++ [loadAt E S most n] := by
  simp [loadsTo, List.range_succ]

theorem wayTo_bd {E : Esc} {S : Stp} (hE : E.ok = true) (hS : S.Num) (most : Bool) : ∀ t : Nat, t ≤ 100 → -(t * 20000000000) ≤ wayTo E S most t ∧ wayTo E S most t ≤ t * 20000000000 := by
  intro t
  induction t with
  | zero => intro _; simp [wayTo]
  | succ t ih =>
    intro ht
    have := ih (by omega)
    have := pathM_bd hE hS most (t + 1)
    simp only [wayTo]
    omega

/-- What the literal loop of roll leaves. -/
def RollRes (E : Esc) (S : Stp) (most : Bool) (w : World) (e : Ending) (w' : World) : Prop :=
  ∃ a c : _, e = .returned (.agg #[.slice a (restN E S most) c, .int .i64 (wayTo E S most (restN E S most)), .bool (pathM E S most (restN E S most) == 0)]) ∧
    w'.ownsRow w.heap.size 3 1 (.slice a (restN E S most) c) (restN E S most) ((loadsTo E S most (restN E S most)).map (Value.int .i64)) ∧ Below w.heap.size w w'

theorem infoInt : (Try.prog.info? 3).map (fun i => (i.zero, i.size, i.bytes)) = some (some (.int .i64 0), 1, 8) := by kernel_rfl

set_option maxRecDepth 100000 in
set_option maxHeartbeats 2000000 in
theorem roll_any (E : Esc) (S : Stp) (v : Value) (most : Bool) (w : World) (hv : BrAt w v E.bs) (hE : E.ok = true) (hS : S.Num) :
    Calls Try.prog 59 #[escV E v, stpV S, .bool most] w (RollRes E S most w) := by
  obtain ⟨i0, hi, hz0, hz1, hz2⟩ := info_parts infoInt
  have hbA := ((((Below.refl w.heap.size w).alloc (Nat.le_refl _) (Obj.cells #[.bool E.up, .int .i64 E.em, .int .i64 E.pu, .int .i64 E.dr, .int .i64 E.mo, v] 24)).alloc (by simp) (Obj.cells #[.int .i64 S.sp, .int .i64 S.lo, .int .i64 S.hi, .int .i64 S.fa] 38)).alloc (by simp; omega) (Obj.cells #[.slice none 0 0, .int .i64 0, .bool false] 85)).alloc (by simp; omega) (Obj.cells #[.slice none 0 0, .int .i64 0, .bool false] 85)
  have k1 := block_new w (Obj.cells #[.bool E.up, .int .i64 E.em, .int .i64 E.pu, .int .i64 E.dr, .int .i64 E.mo, v] 24) w.heap.size rfl
  have k1 := block_alloc k1 (Obj.cells #[.int .i64 S.sp, .int .i64 S.lo, .int .i64 S.hi, .int .i64 S.fa] 38)
  have k1 := block_alloc k1 (Obj.cells #[.slice none 0 0, .int .i64 0, .bool false] 85)
  have k1 := block_alloc k1 (Obj.cells #[.slice none 0 0, .int .i64 0, .bool false] 85)
  have k2 := block_new (w.alloc (Obj.cells #[.bool E.up, .int .i64 E.em, .int .i64 E.pu, .int .i64 E.dr, .int .i64 E.mo, v] 24)) (Obj.cells #[.int .i64 S.sp, .int .i64 S.lo, .int .i64 S.hi, .int .i64 S.fa] 38) (w.heap.size + 1) (by simp only [size_alloc])
  have k2 := block_alloc k2 (Obj.cells #[.slice none 0 0, .int .i64 0, .bool false] 85)
  have k2 := block_alloc k2 (Obj.cells #[.slice none 0 0, .int .i64 0, .bool false] 85)
  have k3 := block_new ((w.alloc (Obj.cells #[.bool E.up, .int .i64 E.em, .int .i64 E.pu, .int .i64 E.dr, .int .i64 E.mo, v] 24)).alloc (Obj.cells #[.int .i64 S.sp, .int .i64 S.lo, .int .i64 S.hi, .int .i64 S.fa] 38)) (Obj.cells #[.slice none 0 0, .int .i64 0, .bool false] 85) (w.heap.size + 1 + 1) (by simp only [size_alloc])
  have k3 := block_alloc k3 (Obj.cells #[.slice none 0 0, .int .i64 0, .bool false] 85)
  have k4 := block_new (((w.alloc (Obj.cells #[.bool E.up, .int .i64 E.em, .int .i64 E.pu, .int .i64 E.dr, .int .i64 E.mo, v] 24)).alloc (Obj.cells #[.int .i64 S.sp, .int .i64 S.lo, .int .i64 S.hi, .int .i64 S.fa] 38)).alloc (Obj.cells #[.slice none 0 0, .int .i64 0, .bool false] 85)) (Obj.cells #[.slice none 0 0, .int .i64 0, .bool false] 85) (w.heap.size + 1 + 1 + 1) (by simp only [size_alloc])
  have hsz : ((((w.alloc (Obj.cells #[.bool E.up, .int .i64 E.em, .int .i64 E.pu, .int .i64 E.dr, .int .i64 E.mo, v] 24)).alloc (Obj.cells #[.int .i64 S.sp, .int .i64 S.lo, .int .i64 S.hi, .int .i64 S.fa] 38)).alloc (Obj.cells #[.slice none 0 0, .int .i64 0, .bool false] 85)).alloc (Obj.cells #[.slice none 0 0, .int .i64 0, .bool false] 85)).heap.size = w.heap.size + 4 := by simp only [size_alloc]
  have HV := Lib.hid hv
  have HP := Lib.hid (pathM_bd hE hS most)
  have HW := Lib.hid (wayTo_bd hE hS most)
  obtain ⟨a, cap, rfl, hn, hcap, hc⟩ := hv
  clear hc
  go_enter Try.func59, Try.ntmps59
  go_wp2_with fail
  generalize (((w.alloc (Obj.cells #[.bool E.up, .int .i64 E.em, .int .i64 E.pu, .int .i64 E.dr, .int .i64 E.mo, .slice a E.bs.length cap] 24)).alloc (Obj.cells #[.int .i64 S.sp, .int .i64 S.lo, .int .i64 S.hi, .int .i64 S.fa] 38)).alloc (Obj.cells #[.slice none 0 0, .int .i64 0, .bool false] 85)).alloc (Obj.cells #[.slice none 0 0, .int .i64 0, .bool false] 85) = wA at *
  have K1 := Lib.hid k1
  have K2 := Lib.hid k2
  have K3 := Lib.hid k3
  have K4 := Lib.hid k4
  have HSZ := Lib.hid hsz
  clear k1 k2 k3 k4 hsz
  go_loopw [8, 14] (fun s i wr => ∃ (k : Nat) (al : Option Addr) (cl : Nat), k ≤ 100 ∧ i = .int .i64 k ∧ s = .int .i64 (pathM E S most k) ∧ Below (w.heap.size + 3) wA wr ∧
      Hid (wr.heap[w.heap.size + 1 + 1 + 1]? = some (.cells #[.slice al k cl, .int .i64 (wayTo E S most k), .bool false] 85 (0, 0))) ∧
      wr.ownsRow (w.heap.size + 4) 3 1 (.slice al k cl) k ((loadsTo E S most k).map (Value.int .i64)) ∧ Hid (∀ i, i < k → pathM E S most i ≠ 0)) (fun _ i _ => 100 - (intOf i).toNat)
  case atStart => exact ⟨0, none, 0, Nat.zero_le _, rfl, rfl, Below.refl _ _, K4.out, ⟨by simp [loadsTo], .inl ⟨rfl, rfl⟩⟩, fun i hi => by omega⟩
  case round =>
    obtain ⟨k, al, cl, hk, rfl, rfl, hb, hR, hown, hne⟩ := hrel
    have hbw : Below w.heap.size w wr := hbA.trans (hb.mono (by omega))
    have hszr : w.heap.size + 4 ≤ wr.heap.size := by have := hb.size; have := HSZ.out; omega
    have HK1 := Lib.hid ((hb.block w.heap.size (by omega)).trans K1.out)
    have HK2 := Lib.hid ((hb.block (w.heap.size + 1) (by omega)).trans K2.out)
    have HK3 := Lib.hid ((hb.block (w.heap.size + 1 + 1) (by omega)).trans K3.out)
    obtain ⟨p1, p2⟩ := HP.out k
    obtain ⟨p3, p4⟩ := HP.out (k + 1)
    obtain ⟨q1, q2⟩ := HW.out k hk
    have hce := block_cell HK1.out
    have hcs := block_cell HK2.out
    by_cases hlt : k < 100
    · by_cases hz : pathM E S most k = 0
      · have Hz := Lib.hid hz
        have hzb : (pathM E S most k == 0) = true := by simpa using hz
        clear hz
        have r0 := block_cell hR.out
        have r0' := block_free hR.out
        have r3 := block_cell HK3.out
        have r3' := block_free HK3.out
        have HR := Lib.hid (restN_eq (E := E) (S := S) (most := most) (n := k) hk hne.out (fun _ => Hz.out))
        clear hce hcs
        go_wp2
        refine bodyPost_ret (v := .agg #[.slice al k cl, .int .i64 (wayTo E S most k), .bool true]) (by simp [results, Try.results59, go_sem, r3]) rfl ?_
        unfold RollRes
        rw [HR.out]
        refine ⟨al, cl, by rw [hzb], ownsRow_mono (ownsRow_setCell (ownsRow_setCell (ownsRow_setCell (ownsRow_setCell hown (by show _ < w.heap.size + 4; simp) _) (by show _ < w.heap.size + 4; simp) _) (by show _ < w.heap.size + 4; simp) _) (by show _ < w.heap.size + 4; simp) _) (by omega), ?_⟩
        exact (((hbw.setCell (by simp; omega) _).setCell (by simp; omega) _).setCell (by simp; omega) _).setCell (by simp; omega) _
      · have hzb : (pathM E S most k == 0) = false := by simpa using hz
        go_wp2_with fail
        refine (extreme_any E S _ (pathM E S most k) k most _ (HV.out.below hbw (Nat.le_refl _)) hE hS (by omega) (by omega)).mono ?_
        rintro e w1 ⟨rfl, hb1⟩
        have e1 : (extM E S (pathM E S most k) k most).2 = pathM E S most (k + 1) := rfl
        have e2 : (extM E S (pathM E S most k) k most).1 = loadAt E S most k := rfl
        rw [e1, e2]
        have hR1 := (hb1.block (w.heap.size + 1 + 1 + 1) (by omega)).trans hR.out
        have hown1 := ownsRow_below hown hb1
        have hb1' := hb.trans (hb1.mono (by omega))
        have hszr1 : w.heap.size + 4 ≤ w1.heap.size := by have := hb1.size; omega
        clear e1 e2 hce hcs hzb
        have r0 := block_cell hR1
        have r0' := block_free hR1
        go_wp2_with (at_builtin; refine wpList_append_own _ rfl _ _ 39 rfl (w.heap.size + 4) 3 i0 (.int .i64 0) 1 8 Try.underlying39 hi hz0 hz1 hz2 rfl (by decide) _ _ _ rfl (hown1.alloc _) ⟨w1.heap.size, 0, none⟩ 1 1 [.int .i64 (loadAt E S most k)] rfl rfl ?c1 ?c2 ?c3 ?c4 ?c5 ?_)
        case c1 => exact cell_one_new _ _ _
        case c2 => intro u hu; simp only [List.mem_singleton] at hu; subst hu; rfl
        case c3 => unfold maxLen; omega
        case c4 => omega
        case c5 => rw [size_alloc]; omega
        intro v2 w2 hown2 hgrow _
        obtain ⟨al2, cl2, rfl, hown2b⟩ := ownsRow_shape hown2
        obtain ⟨_, _, hal, halb⟩ := ownsRow_shape hown1
        have hb2 : Below (w.heap.size + 4) w1 w2 := ((Below.refl (w.heap.size + 4) w1).alloc hszr1 _).trans (below_grown hgrow halb (by rw [size_alloc]; omega))
        have hb2' := hb1'.trans (hb2.mono (by omega))
        have hR2 := (hb2.block (w.heap.size + 1 + 1 + 1) (by omega)).trans hR1
        have hR3 := block_set hR2 0 (.slice al2 (k + 1) cl2)
        have hR4 := block_set hR3 1 (.int .i64 (wayTo E S most k + pathM E S most (k + 1)))
        have HR4 := Lib.hid hR4
        have Hown := Lib.hid (ownsRow_setCell (ownsRow_setCell hown2 (p := ⟨w.heap.size + 1 + 1 + 1, 0, none⟩) (by show w.heap.size + 1 + 1 + 1 < w.heap.size + 4; omega) (.slice al2 (k + 1) cl2)) (p := ⟨w.heap.size + 1 + 1 + 1, 1, none⟩) (by show w.heap.size + 1 + 1 + 1 < w.heap.size + 4; omega) (.int .i64 (wayTo E S most k + pathM E S most (k + 1))))
        have Hb := Lib.hid ((hb2'.setCell (p := ⟨w.heap.size + 1 + 1 + 1, 0, none⟩) (by show w.heap.size + 3 ≤ w.heap.size + 1 + 1 + 1; omega) (.slice al2 (k + 1) cl2)).setCell (p := ⟨w.heap.size + 1 + 1 + 1, 1, none⟩) (by show w.heap.size + 3 ≤ w.heap.size + 1 + 1 + 1; omega) (.int .i64 (wayTo E S most k + pathM E S most (k + 1))))
        have r2 := block_cell hR2
        have r2' := block_free hR2
        clear hR4 hR3 hR2 hal halb hown2 hown2b hgrow hown1 hb2 hb1 hb hb1' hb2' hR1 r0 r0' hown hR
        go_wp2
        go_roundw
        case rel => exact ⟨k + 1, al2, cl2, hlt, by go_num, rfl, Hb.out, HR4.out, by rw [loadsTo_succ, List.map_append]; exact Hown.out, fun i hi => by
          by_cases hik : i = k
          · rw [hik]; exact hz
          · exact hne.out i (by omega)⟩
        case measure => simp [intOf]; omega
    · have hk100 : ¬ k < 100 := hlt
      all_goals
        have r0 := block_cell hR.out
        have r0' := block_free hR.out
        have r3 := block_cell HK3.out
        have r3' := block_free HK3.out
        have HR := Lib.hid (restN_eq (E := E) (S := S) (most := most) (n := k) hk hne.out (fun h => by omega))
        clear hce hcs
        go_wp2
        refine bodyPost_ret (v := .agg #[.slice al k cl, .int .i64 (wayTo E S most k), .bool (pathM E S most k == 0)]) (by simp [results, Try.results59, go_sem, r3]) rfl ?_
        unfold RollRes
        rw [HR.out]
        refine ⟨al, cl, by rfl, ownsRow_mono (ownsRow_setCell (ownsRow_setCell (ownsRow_setCell (ownsRow_setCell hown (by show _ < w.heap.size + 4; simp) _) (by show _ < w.heap.size + 4; simp) _) (by show _ < w.heap.size + 4; simp) _) (by show _ < w.heap.size + 4; simp) _) (by omega), ?_⟩
        exact (((hbw.setCell (by simp; omega) _).setCell (by simp; omega) _).setCell (by simp; omega) _).setCell (by simp; omega) _

end Go.Proofs.Ytpoenjnpfodfpaa
