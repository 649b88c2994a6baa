/- LiftSides walked. -/
import Derived.Test.YtnefbiaopconkaaJi
namespace Go.Proofs.Ytnefbiaopconkaa
open Go.RowKit

abbrev placeV (h ld a : Int) : Value := .agg #[.int .i64 h, .int .i64 ld, .int .i64 a]
abbrev placeO (h ld a : Int) : Obj := .cells #[.int .i64 h, .int .i64 ld, .int .i64 a] 26

set_option maxRecDepth 100000 in
set_option maxHeartbeats 4000000 in
theorem lawSides_any (L : Lif) (fv : Value) (h ld a : Int) (w : World) (hv : InAt w fv L.fl) :
    Calls Try.prog 3 #[lifV L fv, placeV h ld a] w fun e w' => e = .returned (.bool true) ∧ Below w.heap.size w w' := by
  have HB := Lib.hid (blw2 w (lifO L fv) (placeO h ld a))
  have K0 := Lib.hid (two_od w (lifO L fv) (placeO h ld a))
  have K1 := Lib.hid (two_nw w (lifO L fv) (placeO h ld a))
  have HV := Lib.hid (hv.below HB.out (Nat.le_refl _))
  go_enter Try.func3, Try.ntmps3
  go_wp2_with fail
  generalize (w.alloc (lifO L fv)).alloc (placeO h ld a) = wA at *
  refine (far_any L fv _ HV.out).mono ?_
  rintro e w1 ⟨rfl, hb1⟩
  have HB1 := Lib.hid hb1
  clear hb1
  cases hfar : decide (30 < (L.fl.length : Int))
  rotate_left
  · go_wp2_with fail
    refine (works_any _).mono ?_
    rintro e w2 ⟨rfl, hb2⟩
    go_wp2
    go_ret
    exact ⟨rfl, HB.out.trans ((HB1.out.trans (hb2.mono HB1.out.size)).mono HB.out.size)⟩
  clear hfar
  have c0 := block_cell (keepZ K0.out HB1.out)
  have c1 := block_cell (keepZ K1.out HB1.out)
  go_wp2_with fail
  refine (lSides_any L fv h ld _ (HV.out.below HB1.out (Nat.le_refl _))).mono ?_
  rintro e w2 ⟨rfl, hb2⟩
  have HB2 := Lib.hid (HB1.out.trans (hb2.mono HB1.out.size))
  clear hb2
  clear c0 c1
  have c0 := block_cell (keepZ K0.out HB2.out)
  have c1 := block_cell (keepZ K1.out HB2.out)
  go_wp2_with fail
  refine (rSides_any L fv h ld _ (HV.out.below HB2.out (Nat.le_refl _))).mono ?_
  rintro e w3 ⟨rfl, hb3⟩
  have HB3 := Lib.hid (HB2.out.trans (hb3.mono HB2.out.size))
  clear hb3
  clear c0 c1
  have c0 := block_cell (keepZ K0.out HB3.out)
  have c1 := block_cell (keepZ K1.out HB3.out)
  generalize sidR L h ld = R at *
  obtain ⟨r1, r2, r3⟩ := R
  dsimp only
  go_wp2_with fail
  refine (lSlips_any L fv h ld a _ (HV.out.below HB3.out (Nat.le_refl _))).mono ?_
  rintro e w4 ⟨rfl, hb4⟩
  have HB4 := Lib.hid (HB3.out.trans (hb4.mono HB3.out.size))
  clear hb4
  clear c0 c1
  have c0 := block_cell (keepZ K0.out HB4.out)
  have c1 := block_cell (keepZ K1.out HB4.out)
  go_wp2_with fail
  refine (rSlips_any L fv h ld a _ (HV.out.below HB4.out (Nat.le_refl _))).mono ?_
  rintro e w5 ⟨rfl, hb5⟩
  have HB5 := Lib.hid (HB4.out.trans (hb5.mono HB4.out.size))
  clear hb5
  clear c0 c1
  have b1 := five_bw K0.out HB5.out
  have HV5 := Lib.hid (HV.out.below HB5.out (Nat.le_refl _))
  generalize slpR L h ld a = S at *
  obtain ⟨s1, s2⟩ := S
  generalize hm : chkE L 0 = m at *
  have HM := Lib.hid hm
  clear hm
  dsimp only
  go_wp2_with fail
  refine wp_region_below (by kernel_rfl) (by kernel_rfl) (Below.refl w5.heap.size w5) ?_
  repeat ((with_reducible refine wpQuiet_step (fun K hK => ?_)); go_simp; first | (refine hK _ ?_; clear hK K) | (apply Exists.intro; refine ⟨fun _ => ?_, hK _ ?_⟩; (first | (go_at_call 21; exact bw_call (Nat.le_refl _) (int_is HM.out (lCheck_any L fv _ (HV5.out.below (BW.b _) (Nat.le_refl _))))) | (go_at_call 22; exact bw_call (Nat.le_refl _) (int_is HM.out (rCheck_any L fv _ (HV5.out.below (BW.b _) (Nat.le_refl _))))) | (go_at_call 16; exact bw_call (Nat.le_refl _) (works_any _))); clear hK K))
  refine wpQuiet_nil ?_
  intro wq hwq0
  have hwq := bw_out hwq0
  clear hwq0
  go_wp2
  go_ret
  exact ⟨rfl, HB.out.trans ((HB5.out.trans (hwq.mono HB5.out.size)).mono HB.out.size)⟩

end Go.Proofs.Ytnefbiaopconkaa
