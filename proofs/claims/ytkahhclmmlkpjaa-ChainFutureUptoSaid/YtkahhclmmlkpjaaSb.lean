/- Walks of layer 2 (chain), parts: the specification's forward. -/
import Derived.Test.YtkahhclmmlkpjaaSa
import Derived.Test.YtkahhclmmlkpjaaBt
namespace Go.Proofs.Ytkahhclmmlkpjaa
open Go.RowKit

/-- The answer of forward. -/
def FwdRes (P : Prt) (l : List Us) (w : World) (e : Ending) (w' : World) : Prop :=
  Below w.heap.size w w' ∧ ((reachN P l < l.length ∧ e = .returned (.tuple #[.slice none 0 0, .int .i64 (reachN P l)])) ∨
    (reachN P l = l.length ∧ ∃ v, e = .returned (.tuple #[v, .int .i64 (-1)]) ∧ w'.ownsRow w.heap.size 37 2 v l.length ((sprL P l l.length).flatMap spnL)))

theorem FwdRes.no {P : Prt} {l : List Us} {w w' : World} {k : Nat} (hk : reachN P l = k) (hlt : k < l.length) (hb : Below w.heap.size w w') : FwdRes P l w (.returned (.tuple #[.slice none 0 0, .int .i64 k])) w' := by
  subst hk; exact ⟨hb, .inl ⟨hlt, rfl⟩⟩

theorem FwdRes.yes {P : Prt} {l : List Us} {w w' : World} {v : Value} (hk : reachN P l = l.length) (h : w'.ownsRow w.heap.size 37 2 v l.length ((sprL P l l.length).flatMap spnL)) (hb : Below w.heap.size w w') : FwdRes P l w (.returned (.tuple #[v, .int .i64 (-1)])) w' :=
  ⟨hb, .inr ⟨hk, _, rfl, h⟩⟩

set_option maxRecDepth 100000 in
set_option maxHeartbeats 4000000 in
theorem rforward_any (P : Prt) (l : List Us) (bv v : Value) (w : World) (hv : SpAt w bv P.rs) (hl : UsAt w v l) (hf : partM P l = 0) :
    Calls Try.prog 84 #[prtV P bv, v] w (FwdRes P l w) := by
  obtain ⟨hP, h40, hU⟩ := partM_ok hf
  have hb0 := ((Below.refl w.heap.size w).alloc (Nat.le_refl _) (Obj.cells #[bv, .int .i64 P.wo, .int .i64 P.tu, .int .i64 P.ag] 54)).alloc (by simp only [size_alloc]; omega) (Obj.cells #[.int .i64 0, .int .i64 0] 37)
  have k0 := block_alloc (block_new w (Obj.cells #[bv, .int .i64 P.wo, .int .i64 P.tu, .int .i64 P.ag] 54) w.heap.size rfl) (Obj.cells #[.int .i64 0, .int .i64 0] 37)
  have k1 := block_new (w.alloc (Obj.cells #[bv, .int .i64 P.wo, .int .i64 P.tu, .int .i64 P.ag] 54)) (Obj.cells #[.int .i64 0, .int .i64 0] 37) (w.heap.size + 1) (by simp only [size_alloc])
  have hsz : ((w.alloc (Obj.cells #[bv, .int .i64 P.wo, .int .i64 P.tu, .int .i64 P.ag] 54)).alloc (Obj.cells #[.int .i64 0, .int .i64 0] 37)).heap.size = w.heap.size + 2 := by simp only [size_alloc]
  have HV := Lib.hid hv
  obtain ⟨a, cap, rfl, hn, hcap, hc⟩ := hv
  clear hc
  obtain ⟨ua, ucap, rfl, un, ucl, uc⟩ := hl
  have HUC := Lib.hid uc
  have HP := Lib.hid hP
  have HU := Lib.hid hU
  have HBD := Lib.hid (fun i (hi : i ≤ l.length) => rch_bd40 hP h40 hU hi)
  have HB := Lib.hid hb0
  have K0 := Lib.hid k0
  have K1 := Lib.hid k1
  have HSZ := Lib.hid hsz
  obtain ⟨i0, hi, hz0, hz1, hz2⟩ := info_parts infoSpan
  clear uc hf hP hU hb0 k0 k1 hsz
  go_enter Try.func84, Try.ntmps84
  go_wp2_with fail
  generalize (w.alloc (Obj.cells #[Value.slice a P.rs.length cap, .int .i64 P.wo, .int .i64 P.tu, .int .i64 P.ag] 54)).alloc (Obj.cells #[.int .i64 0, .int .i64 0] 37) = wA at *
  go_loopw [6, 8] (fun s i wr => ∃ k : Nat, k ≤ l.length ∧ i = .int .i64 k ∧ Below (w.heap.size + 1) wA wr ∧ Hid (wr.heap[w.heap.size + 1]? = some (Obj.cells #[.int .i64 (rch P l k).1, .int .i64 (rch P l k).2] 37)) ∧
      wr.ownsRow (w.heap.size + 2) 37 2 s k ((sprL P l k).flatMap spnL) ∧ Hid (∀ i, i < k → noneAt P l i = false)) (fun _ i _ => l.length - (intOf i).toNat)
  case atStart => exact ⟨0, Nat.zero_le _, rfl, Below.refl _ _, K1.out, ⟨by simp [sprL], .inl ⟨rfl, rfl⟩⟩, fun i hi => by omega⟩
  case round =>
    obtain ⟨k, hk, rfl, hb, hW, hown, hne⟩ := hrel
    have hszr : w.heap.size + 2 ≤ wr.heap.size := by have := hb.size; have := HSZ.out; omega
    have hbw : Below w.heap.size w wr := HB.out.trans (hb.mono (by omega))
    have kP := (hb.block w.heap.size (by omega)).trans K0.out
    obtain ⟨sa, sc, rfl, hownb⟩ := ownsRow_shape hown
    have Hown := Lib.hid hown
    have HownB := Lib.hid hownb
    clear hown hownb
    by_cases hlt : k < l.length
    · obtain ⟨b, off, rfl, hbl, hc⟩ := HUC.out (by omega)
      obtain ⟨g1, g2, g3, g4, g5, g6⟩ := us_at hbw hbl hc hlt
      have hu := HU.out k hlt
      have hbd := HBD.out k (by omega)
      have hbd2 := HBD.out (k + 1) (by omega)
      clear hc
      have HUU := Lib.hid hu
      have HG := Lib.hid (show rch P l (k + 1) = grown P (rch P l k) (l.getD k Us.zero) from rfl)
      generalize hq0 : l.getD k Us.zero = u at *
      clear hq0 hu
      have hz2' : b < wr.heap.size := by have := hbw.size; omega
      have zP := lt_of_block kP
      have zW := lt_of_block hW.out
      have x0 := bw_cells (B := wr.heap.size) kP zP
      have x1 := bw_cells (B := wr.heap.size) hW.out zW
      have y1 := bw_cell (B := wr.heap.size) g1 hz2'
      have y2 := bw_cell (B := wr.heap.size) g2 hz2'
      have y3 := bw_cell (B := wr.heap.size) g3 hz2'
      have y4 := bw_cell (B := wr.heap.size) g4 hz2'
      have y5 := bw_cell (B := wr.heap.size) g5 hz2'
      have y6 := bw_cell (B := wr.heap.size) g6 hz2'
      have k1 : (0 : Int) ≤ k := by omega
      have k2 : (k : Int) < l.length := by omega
      have HBW := Lib.hid hbw
      have HBR := Lib.hid hb
      have HB1 := Lib.hid hbd
      have KP := Lib.hid kP
      have hX : Hid (∀ x : BW wr.heap.size wr, Below w.heap.size w x.w) := fun x => HBW.out.trans (x.b.mono HBW.out.size)
      clear hbw hb kP g1 g2 g3 g4 g5 g6
      go_wp2_with fail
      refine wp_region_belowtail 7 (by kernel_rfl) (by kernel_rfl) (Below.refl wr.heap.size wr) ?_
      simp only [List.take_succ_cons, List.take_zero, List.drop_succ_cons, List.drop_zero]
      repeat (refine wpQuiet_step (fun K hK => ?_); go_simp; first | (refine hK _ ?_; clear hK K) | (apply Exists.intro; refine ⟨fun _ => ?_, hK _ ?_⟩; (go_at_call 104; exact bw_call (Nat.le_refl _) (rgrown_any P _ _ u _ _ (HV.out.below (hX.out _) (Nat.le_refl _)) HP.out HUU.out HB1.out)); clear hK K))
      refine wpQuiet_nil ?_
      intro wq hwq0
      have hwq := bw_out hwq0
      clear hwq0
      have kW3 := (hwq.block (w.heap.size + 1) zW).trans hW.out
      have cW := block_cell kW3
      have fW := block_free kW3
      have zW3 := lt_of_block kW3
      rw [← HG.out]
      rw [← HG.out] at *
      generalize hC : rch P l (k + 1) = C at *
      have HN := Lib.hid (show rch P l (k + 1) = (C.1, C.2) by rw [hC])
      have OX := Lib.hid (own2 (ownsRow_below Hown.out hwq) (b := w.heap.size + 1) (by omega) (.int .i64 C.1) (.int .i64 C.2))
      have KX := Lib.hid (set2 kW3 (.int .i64 C.1) (.int .i64 C.2))
      have BX := Lib.hid (bel2' HBR.out hwq hszr (b := w.heap.size + 1) (Nat.le_refl _) (.int .i64 C.1) (.int .i64 C.2))
      clear kW3 hwq x0 x1 y1 y2 y3 y4 y5 y6
      by_cases hno : C.2 < C.1
      · have HE := Lib.hid (show noneAt P l k = true by unfold noneAt; rw [HN.out]; exact decide_eq_true hno)
        have HR := Lib.hid (reachN_at hk hne.out (fun _ => HE.out))
        clear hC
        go_wp2
        go_ret2
        exact FwdRes.no HR.out hlt (HB.out.trans (BX.out.1.mono (by omega)))
      · have HE := Lib.hid (show noneAt P l k = false by unfold noneAt; rw [HN.out]; exact decide_eq_false hno)
        clear hC
        go_wp2_with (at_builtin; refine wpList_append_own _ rfl _ _ 32 rfl (w.heap.size + 2) 37 i0 (.agg #[.int .i64 0, .int .i64 0]) 2 16 Try.underlying32 hi hz0 hz1 hz2 rfl (by decide) _ k ((sprL P l k).flatMap spnL) rfl ?d0 _ _ _ [.int .i64 C.1, .int .i64 C.2] rfl rfl ?d1 ?d2 ?d3 ?d4 ?d5 ?_)
        case d0 => exact World.ownsRow.alloc (OX).out _
        try (case d1 => exact cells_new _ _ _ _ (by simp))
        case d2 => first | (intro u hu; simp only [List.mem_cons, List.not_mem_nil, or_false] at hu; rcases hu with rfl | rfl <;> rfl) | exact ⟨rfl, rfl⟩
        case d3 => unfold maxLen; omega
        case d4 => omega
        case d5 => first | exact Nat.le_trans (BX).out.2 (le_alloc _ _) | (have := (BX).out.2; simp at this; omega)
        intro v2 w4 hown2 hgrow _
        have hbX := ((Below.refl (w.heap.size + 2) _).alloc (BX).out.2 _).trans (below_grown hgrow HownB.out (Nat.le_trans (BX).out.2 (le_alloc _ _)))
        have HW4 := Lib.hid ((hbX.block (w.heap.size + 1) (by omega)).trans (KX).out)
        have HB4 := Lib.hid ((BX).out.1.trans (hbX.mono (by omega)))
        clear hgrow hbX
        rw [show (sprL P l k).flatMap spnL ++ [.int .i64 C.1, .int .i64 C.2] = (sprL P l (k + 1)).flatMap spnL by rw [sprL_succ, flat_snoc, HN.out]] at hown2
        rw [show C.1 = (rch P l (k + 1)).1 by rw [HN.out], show C.2 = (rch P l (k + 1)).2 by rw [HN.out]] at HW4
        obtain ⟨sa2, sc2, rfl, _⟩ := ownsRow_shape hown2
        have Hown2 := Lib.hid hown2
        clear hown2
        go_wp2
        go_roundw
        case rel => exact ⟨k + 1, hlt, by go_num, HB4.out, HW4.out, Hown2.out, fun i hi => by
          by_cases hik : i = k
          · rw [hik]; exact HE.out
          · exact hne.out i (by omega)⟩
        case measure => simp [intOf]; omega
    · obtain rfl : k = l.length := by omega
      have HR := Lib.hid (reachN_at hk hne.out (fun h => absurd h (by omega)))
      go_wp2
      go_ret2
      exact FwdRes.yes HR.out (ownsRow_mono Hown.out (by omega)) hbw

end Go.Proofs.Ytkahhclmmlkpjaa
