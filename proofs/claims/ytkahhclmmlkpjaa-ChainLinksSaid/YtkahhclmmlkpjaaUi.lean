/- ChainLinks, the walk. -/
import Derived.Test.YtkahhclmmlkpjaaUh
import Derived.Test.YtkahhclmmlkpjaaVh
namespace Go.Proofs.Ytkahhclmmlkpjaa
open Go.RowKit

theorem LnkRes.at {c : Chn} {l : List Gau} {w w' : World} {e : Ending} (h : LnkRes c l w e w') : ∃ v, e = .returned (.tuple #[v, .int .i64 (CkM c l 0 0)]) ∧ SpAt w' v (lnkL c l) ∧ Below w.heap.size w w' := by
  obtain ⟨v, rfl, hb, ho⟩ := h
  exact ⟨v, rfl, ElAt.of_own (m := 2) (f := spnL) (xs := lnkL c l) (fun _ => rfl) ho, hb⟩

set_option maxRecDepth 100000 in
set_option maxHeartbeats 8000000 in
theorem links_any (c : Chn) (l : List Gau) (v : Value) (a b m : Int) (w : World) (hv : GaAt w v l) (hn : l.length * 32 ≤ 140737488351232) :
    Calls Try.prog 3 #[chnV c, v, .agg #[.int .i64 a, .int .i64 b, .int .i64 m]] w fun e w' => e = .returned (.bool true) ∧ Below w.heap.size w w' := by
  have hb0 := ((Below.refl w.heap.size w).alloc (Nat.le_refl _) (Obj.cells #[.int .i64 c.n, .int .i64 c.pi, .int .i64 c.li] 23)).alloc (by simp only [size_alloc]; omega) (Obj.cells #[.int .i64 a, .int .i64 b, .int .i64 m] 26)
  have k0 := block_alloc (block_new w (Obj.cells #[.int .i64 c.n, .int .i64 c.pi, .int .i64 c.li] 23) w.heap.size rfl) (Obj.cells #[.int .i64 a, .int .i64 b, .int .i64 m] 26)
  have k1 := block_new (w.alloc (Obj.cells #[.int .i64 c.n, .int .i64 c.pi, .int .i64 c.li] 23)) (Obj.cells #[.int .i64 a, .int .i64 b, .int .i64 m] 26) (w.heap.size + 1) (by simp only [size_alloc])
  have HV := Lib.hid (hv.below hb0 (Nat.le_refl _))
  obtain ⟨va, cap, rfl, hn1, hcap, hc⟩ := hv
  have HB := Lib.hid hb0
  have K0 := Lib.hid k0
  have K1 := Lib.hid k1
  clear hc hb0 k0 k1
  cases hfar : decide (42 < l.length)
  · obtain ⟨⟨r1, r2, r3⟩, hr⟩ : ∃ x, runM c l a b = x := ⟨_, rfl⟩
    have HR := Lib.hid hr
    clear hr
    go_enter Try.func3, Try.ntmps3
    go_wp2_with fail
    generalize (w.alloc (Obj.cells #[.int .i64 c.n, .int .i64 c.pi, .int .i64 c.li] 23)).alloc (Obj.cells #[.int .i64 a, .int .i64 b, .int .i64 m] 26) = wA at *
    go_wp2_with (go_at_call 17; refine (far_any l _ _ HV.out).mono ?_; rintro e w' ⟨rfl, rfl⟩; rw [hfar])
    refine (copyGauges_any _ l _ HV.out hn).mono ?_
    rintro e w1 ⟨v1, rfl, ho1, hb1⟩
    have HU := Lib.hid (ElAt.of_own (m := 4) (f := gauL) (xs := l) (fun _ => rfl) ho1)
    obtain ⟨a1, cap1, rfl, _⟩ := ownsRow_shape ho1
    have HV := Lib.hid (HV.out.below hb1 (Nat.le_refl _))
    have K0 := Lib.hid ((hb1.block _ (lt_of_block K0.out)).trans K0.out)
    have K1 := Lib.hid ((hb1.block _ (lt_of_block K1.out)).trans K1.out)
    have HB := Lib.hid (HB.out.trans (hb1.mono HB.out.size))
    clear hb1 ho1
    have c0 := block_cell K0.out
    have c1 := block_cell K1.out
    have z0 := lt_of_block K0.out
    have z1 := lt_of_block K1.out
    have HN0 := Lib.hid (Below.refl w1.heap.size w1)
    go_wp2_with fail
    have x0 := bw_cells (B := w1.heap.size) K0.out z0
    refine wp_region_below (by kernel_rfl) (by kernel_rfl) (Below.refl w1.heap.size w1) ?_
    repeat (refine wpQuiet_step (fun K hK => ?_); go_simp; first | (refine hK _ ?_; clear hK K) | (apply Exists.intro; refine ⟨fun _ => ?_, hK _ ?_⟩; (first | (go_at_call 20; exact bw_call (Nat.le_refl _) (kcheck_any c l _ _ (HU.out.below (BW.b _) (Nat.le_refl _)))) | (go_at_call 21; exact bw_call (Nat.le_refl _) (rcheck_any c l _ _ (HV.out.below (BW.b _) (Nat.le_refl _))))); clear hK K))
    refine wpQuiet_nil ?_
    intro wq hwq0
    have hwq := bw_out hwq0
    clear hwq0
    clear x0
    have HN1 := Lib.hid (HN0.out.trans (hwq.mono HN0.out.size))
    clear hwq c0 c1 z0 z1
    have c0 := block_cell ((HN1.out.block _ (lt_of_block K0.out)).trans K0.out)
    have c1 := block_cell ((HN1.out.block _ (lt_of_block K1.out)).trans K1.out)
    have z0 := Nat.lt_of_lt_of_le (lt_of_block K0.out) HN1.out.size
    have z1 := Nat.lt_of_lt_of_le (lt_of_block K1.out) HN1.out.size
    have hpp : (chkM c l != chkM c l) = false := by simp
    generalize chkM c l = pm at *
    go_wp2_with fail
    refine (kLinks_any c l _ _ (HU.out.below HN1.out (Nat.le_refl _))).mono ?_
    rintro e w3 hres
    obtain ⟨v3, rfl, h3, hb3⟩ := hres.at
    have H3 := Lib.hid h3
    obtain ⟨a3, c3, rfl, _, _, _⟩ := h3
    clear hres
    have HN2 := Lib.hid (HN1.out.trans (hb3.mono HN1.out.size))
    clear hb3 c0 c1 z0 z1
    have c0 := block_cell ((HN2.out.block _ (lt_of_block K0.out)).trans K0.out)
    have c1 := block_cell ((HN2.out.block _ (lt_of_block K1.out)).trans K1.out)
    have z0 := Nat.lt_of_lt_of_le (lt_of_block K0.out) HN2.out.size
    have z1 := Nat.lt_of_lt_of_le (lt_of_block K1.out) HN2.out.size
    go_wp2_with fail
    refine (rLinks_any c l _ _ (HV.out.below HN2.out (Nat.le_refl _))).mono ?_
    rintro e w4 hres
    obtain ⟨v4, rfl, h4, hb4⟩ := hres.at
    have H4 := Lib.hid h4
    have H3 := Lib.hid (H3.out.below hb4 (Nat.le_refl _))
    obtain ⟨a4, c4, rfl, _, _, _⟩ := h4
    clear hres
    have HN3 := Lib.hid (HN2.out.trans (hb4.mono HN2.out.size))
    clear hb4 c0 c1 z0 z1
    have c0 := block_cell ((HN3.out.block _ (lt_of_block K0.out)).trans K0.out)
    have c1 := block_cell ((HN3.out.block _ (lt_of_block K1.out)).trans K1.out)
    have z0 := Nat.lt_of_lt_of_le (lt_of_block K0.out) HN3.out.size
    have z1 := Nat.lt_of_lt_of_le (lt_of_block K1.out) HN3.out.size
    have hww : (CkM c l 0 0 != CkM c l 0 0) = false := by simp
    generalize hL : lnkL c l = L at *
    generalize CkM c l 0 0 = we at *
    go_wp2_with fail
    refine (sameSpans_any _ _ L L _ H3.out H4.out).mono ?_
    rintro e w5 ⟨rfl, hb5⟩
    rw [show decide (L = L) = true by simp]
    have HN4 := Lib.hid (HN3.out.trans (hb5.mono HN3.out.size))
    clear hb5 c0 c1 z0 z1
    have c0 := block_cell ((HN4.out.block _ (lt_of_block K0.out)).trans K0.out)
    have c1 := block_cell ((HN4.out.block _ (lt_of_block K1.out)).trans K1.out)
    have z0 := Nat.lt_of_lt_of_le (lt_of_block K0.out) HN4.out.size
    have z1 := Nat.lt_of_lt_of_le (lt_of_block K1.out) HN4.out.size
    go_wp2_with fail
    refine (krun_any c l _ _ _ _ (HU.out.below HN4.out (Nat.le_refl _))).mono ?_
    rintro e w6 ⟨rfl, hb6⟩
    rw [HR.out]
    have HN5 := Lib.hid (HN4.out.trans (hb6.mono HN4.out.size))
    clear hb6 c0 c1 z0 z1
    have c0 := block_cell ((HN5.out.block _ (lt_of_block K0.out)).trans K0.out)
    have c1 := block_cell ((HN5.out.block _ (lt_of_block K1.out)).trans K1.out)
    have z0 := Nat.lt_of_lt_of_le (lt_of_block K0.out) HN5.out.size
    have z1 := Nat.lt_of_lt_of_le (lt_of_block K1.out) HN5.out.size
    go_wp2_with fail
    have hx : Below w6.heap.size w6 (w6.alloc (Obj.cells #[.int .i64 r1, .int .i64 r2] 37)) := (Below.refl _ _).alloc (Nat.le_refl _) _
    have HN6 := Lib.hid (HN5.out.trans (hx.mono HN5.out.size))
    clear hx c0 c1 z0 z1
    have c0 := block_cell ((HN6.out.block _ (lt_of_block K0.out)).trans K0.out)
    have c1 := block_cell ((HN6.out.block _ (lt_of_block K1.out)).trans K1.out)
    have z0 := Nat.lt_of_lt_of_le (lt_of_block K0.out) HN6.out.size
    have z1 := Nat.lt_of_lt_of_le (lt_of_block K1.out) HN6.out.size
    have KX := Lib.hid (block_new w6 (Obj.cells #[.int .i64 r1, .int .i64 r2] 37) w6.heap.size rfl)
    generalize w6.alloc (Obj.cells #[.int .i64 r1, .int .i64 r2] 37) = w7 at *
    refine (rRun_any c l _ _ _ _ (HV.out.below HN6.out (Nat.le_refl _))).mono ?_
    rintro e w8 ⟨rfl, hb8⟩
    rw [HR.out]
    have KX8 := (hb8.block _ (lt_of_block KX.out)).trans KX.out
    have cx := block_cell (block_alloc KX8 (Obj.cells #[.int .i64 r1, .int .i64 r2] 37))
    have zx := lt_of_block KX8
    have HN7 := Lib.hid (HN6.out.trans (hb8.mono HN6.out.size))
    clear hb8 c0 c1 z0 z1
    have c0 := block_cell ((HN7.out.block _ (lt_of_block K0.out)).trans K0.out)
    have c1 := block_cell ((HN7.out.block _ (lt_of_block K1.out)).trans K1.out)
    have z0 := Nat.lt_of_lt_of_le (lt_of_block K0.out) HN7.out.size
    have z1 := Nat.lt_of_lt_of_le (lt_of_block K1.out) HN7.out.size
    have e1 : (r1 == r1) = true := by simp
    have e2 : (r2 == r2) = true := by simp
    have e3 : (r3 == r3) = true := by simp
    go_wp2_with fail
    refine (works_any _).mono ?_
    rintro e w12 ⟨rfl, hb12⟩
    go_wp2
    go_ret
    exact ⟨rfl, HB.out.trans ((((HN7.out.alloc HN7.out.size _)).trans (hb12.mono (Nat.le_trans HN7.out.size (le_alloc _ _)))).mono HB.out.size)⟩
  · go_enter Try.func3, Try.ntmps3
    go_wp2_with fail
    generalize (w.alloc (Obj.cells #[.int .i64 c.n, .int .i64 c.pi, .int .i64 c.li] 23)).alloc (Obj.cells #[.int .i64 a, .int .i64 b, .int .i64 m] 26) = wA at *
    go_wp2_with (go_at_call 17; refine (far_any l _ _ HV.out).mono ?_; rintro e w' ⟨rfl, rfl⟩; rw [hfar])
    refine (works_any _).mono ?_
    rintro e w6 ⟨rfl, hb6⟩
    go_wp2
    go_ret
    exact ⟨rfl, HB.out.trans (hb6.mono HB.out.size)⟩

end Go.Proofs.Ytkahhclmmlkpjaa
