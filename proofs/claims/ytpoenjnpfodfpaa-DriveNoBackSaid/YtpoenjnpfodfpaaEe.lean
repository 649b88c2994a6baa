/- Walks of layer 1 (drive): the specification's edge and Path. -/
import Derived.Test.YtpoenjnpfodfpaaEd
import Derived.Test.YtpoenjnpfodfpaaDr
import Derived.Deep.RegionHeld3
import Derived.Deep.AppendLies
namespace Go.Proofs.Ytpoenjnpfodfpaa
open Go.RowKit

set_option maxHeartbeats 2000000 in
theorem edge_any (E : Esc) (S : Stp) (v : Value) (sp tick : Int) (most : Bool) (w : World) (hv : BrAt w v E.bs) (hE : E.ok = true) (hS : S.Num) (v1 : -100000000000 ≤ sp) (v2 : sp ≤ 100000000000) :
    Calls Try.prog 75 #[escV E v, stpV S, .int .i64 sp, .int .i64 tick, .bool most] w fun e w' => e = .returned (.tuple #[.int .i64 (extM E S sp tick most).2, .int .i64 (extM E S sp tick most).1]) ∧ Below w.heap.size w w' := by
  have hN := Esc.ok_num hE
  have hbA := ((Below.refl w.heap.size w).alloc (Nat.le_refl _) (Obj.cells #[.bool E.up, .int .i64 E.em, .int .i64 E.pu, .int .i64 E.dr, .int .i64 E.mo, v] 24)).alloc (by simp) (Obj.cells #[.int .i64 S.sp, .int .i64 S.lo, .int .i64 S.hi, .int .i64 S.fa] 38)
  have k1 := block_alloc (block_new w (Obj.cells #[.bool E.up, .int .i64 E.em, .int .i64 E.pu, .int .i64 E.dr, .int .i64 E.mo, v] 24) w.heap.size rfl) (Obj.cells #[.int .i64 S.sp, .int .i64 S.lo, .int .i64 S.hi, .int .i64 S.fa] 38)
  have k2 := block_new (w.alloc (Obj.cells #[.bool E.up, .int .i64 E.em, .int .i64 E.pu, .int .i64 E.dr, .int .i64 E.mo, v] 24)) (Obj.cells #[.int .i64 S.sp, .int .i64 S.lo, .int .i64 S.hi, .int .i64 S.fa] 38) (w.heap.size + 1) (by simp only [size_alloc])
  have hsz : ((w.alloc (Obj.cells #[.bool E.up, .int .i64 E.em, .int .i64 E.pu, .int .i64 E.dr, .int .i64 E.mo, v] 24)).alloc (Obj.cells #[.int .i64 S.sp, .int .i64 S.lo, .int .i64 S.hi, .int .i64 S.fa] 38)).heap.size = w.heap.size + 2 := by simp only [size_alloc]
  have hv1 := hv.below hbA (Nat.le_refl _)
  have fb := forceTo_bd3 hE (gripB E S tick)
  have HX := Lib.hid (show extM E S sp tick most = (if (most = true ∧ nextM E sp S.lo (gripM E S tick) < nextM E sp S.hi (gripM E S tick)) ∨ (most = false ∧ nextM E sp S.hi (gripM E S tick) < nextM E sp S.lo (gripM E S tick)) then (S.hi, nextM E sp S.hi (gripM E S tick)) else (S.lo, nextM E sp S.lo (gripM E S tick))) from rfl)
  have l0 := hS.lo0
  have l1 := hS.lohi
  have l2 := hS.hi1
  have f0 := hS.fa0
  have f7 := hS.fa7
  have g1 : 0 ≤ gripM E S tick := fb.1
  have g2 : gripM E S tick ≤ 30000000 := fb.2
  clear fb
  obtain ⟨a, cap, rfl, hn, hcap, hc⟩ := hv
  clear hc
  go_enter Try.func75, Try.ntmps75
  go_wp2_with fail
  generalize (w.alloc (Obj.cells #[.bool E.up, .int .i64 E.em, .int .i64 E.pu, .int .i64 E.dr, .int .i64 E.mo, .slice a E.bs.length cap] 24)).alloc (Obj.cells #[.int .i64 S.sp, .int .i64 S.lo, .int .i64 S.hi, .int .i64 S.fa] 38) = wA at *
  have HSZ := Lib.hid hsz
  have HV := Lib.hid hv1
  clear hsz hv1
  refine (rgrip_any E S _ tick _ HV.out hE f0 f7).mono ?_
  rintro e w1 ⟨rfl, hb1⟩
  have k1' := (hb1.block w.heap.size (by have := HSZ.out; omega)).trans k1
  have k2' := (hb1.block (w.heap.size + 1) (by have := HSZ.out; omega)).trans k2
  have b1 := bw_cells (B := w1.heap.size) k1' (lt_of_block k1')
  have b2 := bw_cells (B := w1.heap.size) k2' (lt_of_block k2')
  generalize gripM E S tick = g at *
  clear k1 k2 k1' k2'
  go_wp2_with fail
  refine wp_region_below (by kernel_rfl) (by kernel_rfl) (Below.refl w1.heap.size w1) ?_
  repeat (refine wpQuiet_step (fun K hK => ?_); go_simp; first | (refine hK _ ?_; clear hK K) | (apply Exists.intro; refine ⟨fun _ => ?_, hK _ ?_⟩; ((go_at_call 48; exact bw_call (Nat.le_refl _) (rnext_any E _ _ _ _ _ hN (by omega) (by omega) (by omega) (by omega) (by omega) (by omega)))); clear hK K))
  refine wpQuiet_nil ?_
  intro wq hwq0
  have hwq := bw_out hwq0
  clear hwq0
  have c2 : ∀ o, wq.cell? ⟨w.heap.size + 1, o, none⟩ = _ := fun o => b2 ⟨wq, hwq⟩ o
  have hbz := hbA.trans ((hb1.trans (hwq.mono hb1.size)).mono hbA.size)
  clear b1 b2
  generalize nextM E sp S.lo g = p at *
  generalize nextM E sp S.hi g = q at *
  cases most
  · by_cases hpq : q < p
    · have HR : Hid (extM E S sp tick false = (S.hi, q)) := HX.out.trans (if_pos (Or.inr ⟨rfl, hpq⟩))
      go_wp2_with fail
      go_quiet (fail)
      go_wp2
      go_ret2
      refine ⟨?_, below_drewN hbz _⟩
      rw [HR.out]
      rfl
    · have HR : Hid (extM E S sp tick false = (S.lo, p)) := HX.out.trans (if_neg (fun h => by rcases h with h | h; exact absurd h.1 (by decide); exact hpq h.2))
      go_wp2_with fail
      go_quiet (fail)
      go_wp2
      go_ret2
      refine ⟨?_, below_drewN hbz _⟩
      rw [HR.out]
      rfl
  · by_cases hpq : p < q
    · have HR : Hid (extM E S sp tick true = (S.hi, q)) := HX.out.trans (if_pos (Or.inl ⟨rfl, hpq⟩))
      go_wp2_with fail
      go_quiet (fail)
      go_wp2
      go_ret2
      refine ⟨?_, below_drewN hbz _⟩
      rw [HR.out]
      rfl
    · have HR : Hid (extM E S sp tick true = (S.lo, p)) := HX.out.trans (if_neg (fun h => by rcases h with h | h; exact hpq h.2; exact absurd h.1 (by decide)))
      go_wp2_with fail
      go_quiet (fail)
      go_wp2
      go_ret2
      refine ⟨?_, below_drewN hbz _⟩
      rw [HR.out]
      rfl

def spdTo (E : Esc) (S : Stp) (most : Bool) (n : Nat) : List Int := (List.range n).map (fun t => pathM E S most (t + 1))
theorem spdTo_succ (E : Esc) (S : Stp) (most : Bool) (n : Nat) : spdTo E S most (n + 1) = spdTo E S most n ++ [pathM E S most (n + 1)] := by
  simp [spdTo, List.range_succ]

/-- What Path leaves. -/
def PathRes (E : Esc) (S : Stp) (most : Bool) (w : World) (e : Ending) (w' : World) : Prop :=
  ∃ v1 v2, e = .returned (.tuple #[v1, v2]) ∧ InAt w' v1 (spdTo E S most 100) ∧ InAt w' v2 (loadsTo E S most 100) ∧ Below w.heap.size w w'

set_option maxRecDepth 100000 in
set_option maxHeartbeats 2000000 in
theorem path_any (E : Esc) (S : Stp) (v : Value) (most : Bool) (w : World) (hv : BrAt w v E.bs) (hE : E.ok = true) (hS : S.Num) :
    Calls Try.prog 60 #[escV E v, stpV S, .bool most] w (PathRes E S most w) := by
  obtain ⟨i0, hi, hz0, hz1, hz2⟩ := info_parts infoInt
  have hbA := ((Below.refl w.heap.size w).alloc (Nat.le_refl _) (Obj.cells #[.bool E.up, .int .i64 E.em, .int .i64 E.pu, .int .i64 E.dr, .int .i64 E.mo, v] 24)).alloc (by simp) (Obj.cells #[.int .i64 S.sp, .int .i64 S.lo, .int .i64 S.hi, .int .i64 S.fa] 38)
  have k1 := block_alloc (block_new w (Obj.cells #[.bool E.up, .int .i64 E.em, .int .i64 E.pu, .int .i64 E.dr, .int .i64 E.mo, v] 24) w.heap.size rfl) (Obj.cells #[.int .i64 S.sp, .int .i64 S.lo, .int .i64 S.hi, .int .i64 S.fa] 38)
  have k2 := block_new (w.alloc (Obj.cells #[.bool E.up, .int .i64 E.em, .int .i64 E.pu, .int .i64 E.dr, .int .i64 E.mo, v] 24)) (Obj.cells #[.int .i64 S.sp, .int .i64 S.lo, .int .i64 S.hi, .int .i64 S.fa] 38) (w.heap.size + 1) (by simp only [size_alloc])
  have hsz : ((w.alloc (Obj.cells #[.bool E.up, .int .i64 E.em, .int .i64 E.pu, .int .i64 E.dr, .int .i64 E.mo, v] 24)).alloc (Obj.cells #[.int .i64 S.sp, .int .i64 S.lo, .int .i64 S.hi, .int .i64 S.fa] 38)).heap.size = w.heap.size + 2 := by simp only [size_alloc]
  have hv1 := hv.below hbA (Nat.le_refl _)
  have HP := Lib.hid (pathM_bd hE hS most)
  obtain ⟨a, cap, rfl, hn, hcap, hc⟩ := hv
  clear hc
  go_enter Try.func60, Try.ntmps60
  go_wp2_with fail
  generalize (w.alloc (Obj.cells #[.bool E.up, .int .i64 E.em, .int .i64 E.pu, .int .i64 E.dr, .int .i64 E.mo, .slice a E.bs.length cap] 24)).alloc (Obj.cells #[.int .i64 S.sp, .int .i64 S.lo, .int .i64 S.hi, .int .i64 S.fa] 38) = wA at *
  have HSZ := Lib.hid hsz
  have HV := Lib.hid hv1
  have K1 := Lib.hid k1
  have K2 := Lib.hid k2
  clear hsz hv1 k1 k2
  go_loopw [6, 7, 8, 10] (fun s6 s7 s8 i wr => ∃ k : Nat, k ≤ 100 ∧ i = .int .i64 k ∧ s8 = .int .i64 (pathM E S most k) ∧ Below (w.heap.size + 2) wA wr ∧
      wr.ownsRow (w.heap.size + 2) 3 1 s6 k ((spdTo E S most k).map (Value.int .i64)) ∧ wr.ownsRow (w.heap.size + 2) 3 1 s7 k ((loadsTo E S most k).map (Value.int .i64)) ∧ Hid (s7.ownBlock = none ∨ s7.ownBlock ≠ s6.ownBlock)) (fun _ _ _ i _ => 100 - (intOf i).toNat)
  case atStart => exact ⟨0, Nat.zero_le _, rfl, rfl, Below.refl _ _, ⟨rfl, .inl ⟨rfl, rfl⟩⟩, ⟨rfl, .inl ⟨rfl, rfl⟩⟩, .inl rfl⟩
  case round =>
    obtain ⟨k, hk, rfl, rfl, hb, ho6, ho7, hd⟩ := hrel
    have hbw : Below w.heap.size w wr := hbA.trans (hb.mono (by omega))
    have hszr : w.heap.size + 2 ≤ wr.heap.size := by have := hb.size; have := HSZ.out; omega
    by_cases hlt : k < 100
    · obtain ⟨p1, p2⟩ := HP.out k
      have hce := block_cell ((hb.block w.heap.size (by omega)).trans K1.out)
      have hcs := block_cell ((hb.block (w.heap.size + 1) (by omega)).trans K2.out)
      obtain ⟨a6, c6, hs6, hb6⟩ := ownsRow_shape ho6
      obtain ⟨a7, c7, hs7, hb7⟩ := ownsRow_shape ho7
      subst hs6 hs7
      go_wp2_with fail
      refine (edge_any E S _ _ k most _ (HV.out.below hb (by have := HSZ.out; omega)) hE hS (by omega) (by omega)).mono ?_
      rintro e w1 ⟨rfl, hb1⟩
      have e1 : (extM E S (pathM E S most k) k most).2 = pathM E S most (k + 1) := rfl
      have e2 : (extM E S (pathM E S most k) k most).1 = loadAt E S most k := rfl
      rw [e1, e2]
      have ho61 := ownsRow_below ho6 hb1
      have ho71 := ownsRow_below ho7 hb1
      have hb1' := hb.trans (hb1.mono (by omega))
      have hszr1 : w.heap.size + 2 ≤ w1.heap.size := by have := hb1.size; omega
      clear e1 e2 hce hcs hbw ho6 ho7 hb
      go_wp2_with (at_builtin; refine wpList_append_lies _ rfl (.tmp 26) (.tmp 28) 39 rfl (w.heap.size + 2) 3 i0 (.int .i64 0) 1 8 Try.underlying39 hi hz0 hz1 hz2 rfl (by decide) _ _ _ rfl (ho61.alloc _) ⟨w1.heap.size, 0, none⟩ 1 1 [.int .i64 (pathM E S most (k + 1))] rfl rfl ?c1 ?c2 ?c3 ?c4 ?c5 ?c6 (w1.heap.size + 1) ?c7 ?_)
      case c1 => exact cell_one_new _ _ _
      case c2 => intro u hu; simp only [List.mem_singleton] at hu; subst hu; rfl
      case c3 => omega
      case c4 => unfold maxLen; omega
      case c5 => omega
      case c6 => rw [size_alloc]; omega
      case c7 => rw [size_alloc]
      intro g1 cap1 w2 hown2 hgrow2 hat2 hlt2
      have hne7 : (Value.slice a7 k c7).ownBlock = none ∨ (Value.slice a7 k c7).ownBlock ≠ (Value.slice a6 k c6).ownBlock := hd.out
      have ho72 := World.ownsRow.kept (ho71.alloc (Obj.cells #[.int .i64 (pathM E S most (k + 1))] 3)) hgrow2 hne7
      have hb2 : Below (w.heap.size + 2) w1 w2 := ((Below.refl (w.heap.size + 2) w1).alloc hszr1 _).trans (below_grown hgrow2 hb6 (by rw [size_alloc]; omega))
      have hz2' : w1.heap.size + 1 ≤ w2.heap.size := by have := hgrow2.size; rw [size_alloc] at this; exact this
      have ho71' := Lib.hid ho71
      clear hgrow2 ho71
      go_wp2_with (at_builtin; refine wpList_append_lies _ rfl (.tmp 30) (.tmp 32) 39 rfl (w.heap.size + 2) 3 i0 (.int .i64 0) 1 8 Try.underlying39 hi hz0 hz1 hz2 rfl (by decide) _ _ _ rfl (ho72.alloc _) ⟨w2.heap.size, 0, none⟩ 1 1 [.int .i64 (loadAt E S most k)] rfl rfl ?d1 ?d2 ?d3 ?d4 ?d5 ?d6 (w2.heap.size + 1) ?d7 ?_)
      case d1 => exact cell_one_new _ _ _
      case d2 => intro u hu; simp only [List.mem_singleton] at hu; subst hu; rfl
      case d3 => omega
      case d4 => unfold maxLen; omega
      case d5 => omega
      case d6 => rw [size_alloc]; omega
      case d7 => rw [size_alloc]
      intro g2 cap2 w3 hown3 hgrow3 hat3 hlt3
      have hne6 : (Value.slice (some ⟨g1, 0, none⟩) (k + 1) cap1).ownBlock = none ∨ (Value.slice (some ⟨g1, 0, none⟩) (k + 1) cap1).ownBlock ≠ (Value.slice a7 k c7).ownBlock := by
        right
        intro h
        have h' : (Value.slice a7 k c7).ownBlock = some g1 := h.symm
        rcases hat2 with e | e
        · rcases hne7 with h7 | h7
          · rw [h7] at h'; cases h'
          · exact h7 (h'.trans e.symm)
        · have := (ho71'.out.lt g1 h').2
          omega
      have ho63 := World.ownsRow.kept (hown2.alloc (Obj.cells #[.int .i64 (loadAt E S most k)] 3)) hgrow3 hne6
      have hb3 : Below (w.heap.size + 2) w2 w3 := ((Below.refl (w.heap.size + 2) w2).alloc (by omega) _).trans (below_grown hgrow3 hb7 (by rw [size_alloc]; omega))
      have hbz := (hb1'.trans hb2).trans hb3
      have hd3 : (Value.slice (some ⟨g2, 0, none⟩) (k + 1) cap2).ownBlock = none ∨ (Value.slice (some ⟨g2, 0, none⟩) (k + 1) cap2).ownBlock ≠ (Value.slice (some ⟨g1, 0, none⟩) (k + 1) cap1).ownBlock := by
        right
        intro h
        have h' : g2 = g1 := by simpa [Value.ownBlock] using h
        subst h'
        rcases hat3 with e | e
        · rcases hne6 with h6 | h6
          · simp [Value.ownBlock] at h6
          · exact h6 e.symm
        · omega
      have HD := Lib.hid hd3
      have HBZ := Lib.hid hbz
      have HO6 := Lib.hid ho63
      have HO7 := Lib.hid hown3
      clear hd3 hbz ho63 hown3 hb3 hb2 hgrow3 hat3 hat2 hne6 hne7 ho72 hown2 ho61 hb1' hb1 hd ho71'
      go_wp2
      go_roundw
      case rel => exact ⟨k + 1, hlt, by go_num, rfl, HBZ.out, by rw [spdTo_succ, List.map_append]; exact HO6.out, by rw [loadsTo_succ, List.map_append]; exact HO7.out, HD.out⟩
      case measure => simp [intOf]; omega
    · have hk100 : k = 100 := by omega
      subst hk100
      go_wp2
      go_ret2
      exact ⟨_, _, rfl, InAt.of_own ho6, InAt.of_own ho7, hbw⟩

end Go.Proofs.Ytpoenjnpfodfpaa
