/- CircuitRuns walked. -/
import Derived.Test.YtbkhfmigaehgaaaMa
namespace Go.Proofs.Ytbkhfmigaehgaaa
open Go.RowKit

abbrev staV (h k o : Int) : Value := .agg #[.int .i64 h, .int .i64 k, .int .i64 o]
abbrev staO (h k o : Int) : Obj := .cells #[.int .i64 h, .int .i64 k, .int .i64 o] 27

set_option maxRecDepth 100000 in
set_option maxHeartbeats 4000000 in
theorem lawRuns_any (c : Cir) (sv wv : Value) (h k o : Int) (w : World) (hv : CirAt w sv wv c) :
    Calls Try.prog 3 #[cirV c sv wv, staV h k o] w fun e w' => e = .returned (.bool true) ∧ Below w.heap.size w w' := by
  have HB := Lib.hid (blw2 w (cirO c sv wv) (staO h k o))
  have K0 := Lib.hid (two_od w (cirO c sv wv) (staO h k o))
  have K1 := Lib.hid (two_nw w (cirO c sv wv) (staO h k o))
  have HV := Lib.hid (hv.below HB.out (Nat.le_refl _))
  go_enter Try.func3, Try.ntmps3
  go_wp2_with fail
  generalize (w.alloc (cirO c sv wv)).alloc (staO h k o) = wA at *
  refine (far_any c sv wv _ HV.out).mono ?_
  rintro e w1 ⟨q, rfl, hb1⟩
  have HB1 := Lib.hid hb1
  clear hb1
  cases q
  rotate_left
  · go_wp2_with fail
    refine (works_any _).mono ?_
    rintro e w2 ⟨rfl, hb2⟩
    go_wp2
    go_ret
    exact ⟨rfl, HB.out.trans ((HB1.out.trans (hb2.mono HB1.out.size)).mono HB.out.size)⟩
  have c0 := block_cell (keepZ K0.out HB1.out)
  have c1 := block_cell (keepZ K1.out HB1.out)
  go_wp2_with fail
  refine (cruns_any c sv wv h k o _ (HV.out.below HB1.out (Nat.le_refl _))).mono ?_
  rintro e w2 ⟨rfl, hb2⟩
  have HB2 := Lib.hid (HB1.out.trans (hb2.mono HB1.out.size))
  clear c0 c1 hb2
  have c0 := block_cell (keepZ K0.out HB2.out)
  have c1 := block_cell (keepZ K1.out HB2.out)
  go_wp2_with fail
  refine (rruns_any c sv wv h k o _ (HV.out.below HB2.out (Nat.le_refl _))).mono ?_
  rintro e w3 ⟨rfl, hb3⟩
  have HB3 := Lib.hid (HB2.out.trans (hb3.mono HB2.out.size))
  clear c0 c1 hb3
  have b1 := bw_cells (B := w3.heap.size) (keepZ K0.out HB3.out) (lt_of_block (keepZ K0.out HB3.out))
  have HV3 := Lib.hid (HV.out.below HB3.out (Nat.le_refl _))
  generalize runC c h k o = R at *
  obtain ⟨rb, re⟩ := R
  generalize hm : chkC c = m at *
  have HM := Lib.hid hm
  clear hm
  go_wp2_with fail
  refine wp_region_below (by kernel_rfl) (by kernel_rfl) (Below.refl w3.heap.size w3) ?_
  repeat ((with_reducible refine wpQuiet_step (fun K hK => ?_)); go_simp; first | (refine hK _ ?_; clear hK K) | (apply Exists.intro; refine ⟨fun _ => ?_, hK _ ?_⟩; (first | (go_at_call 22; exact bw_call (Nat.le_refl _) (int_is HM.out (ccheck_any c sv wv _ (HV3.out.below (BW.b _) (Nat.le_refl _))))) | (go_at_call 23; exact bw_call (Nat.le_refl _) (int_is HM.out (rcheck_any c sv wv _ (HV3.out.below (BW.b _) (Nat.le_refl _))))) | (go_at_call 19; exact bw_call (Nat.le_refl _) (works_any _))); clear hK K))
  refine wpQuiet_nil ?_
  intro wq hwq0
  have hwq := bw_out hwq0
  clear hwq0
  go_wp2
  go_ret
  exact ⟨rfl, HB.out.trans ((HB3.out.trans (hwq.mono HB3.out.size)).mono HB.out.size)⟩

end Go.Proofs.Ytbkhfmigaehgaaa
