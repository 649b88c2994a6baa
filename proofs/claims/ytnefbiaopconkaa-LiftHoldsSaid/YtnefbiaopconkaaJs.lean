/- LiftGrips walked. -/
import Derived.Test.YtnefbiaopconkaaJr
import Derived.Test.YtnefbiaopconkaaJl
namespace Go.Proofs.Ytnefbiaopconkaa
open Go.RowKit

abbrev spsV (s t : Spn) : Value := .agg #[.int .i64 s.lo, .int .i64 s.hi, .int .i64 t.lo, .int .i64 t.hi]
abbrev spsO (s t : Spn) : Obj := .cells #[.int .i64 s.lo, .int .i64 s.hi, .int .i64 t.lo, .int .i64 t.hi] 39

set_option maxRecDepth 100000 in
set_option maxHeartbeats 4000000 in
theorem lawGrips_any (L : Lif) (fv : Value) (s t : Spn) (w : World) (hv : InAt w fv L.fl) :
    Calls Try.prog 4 #[lifV L fv, spsV s t] w fun e w' => e = .returned (.bool true) ∧ Below w.heap.size w w' := by
  have HB := Lib.hid (blw2 w (lifO L fv) (spsO s t))
  have K0 := Lib.hid (two_od w (lifO L fv) (spsO s t))
  have K1 := Lib.hid (two_nw w (lifO L fv) (spsO s t))
  have HV := Lib.hid (hv.below HB.out (Nat.le_refl _))
  go_enter Try.func4, Try.ntmps4
  go_wp2_with fail
  generalize (w.alloc (lifO L fv)).alloc (spsO s t) = wA at *
  refine (far_any L fv _ HV.out).mono ?_
  rintro e w1 ⟨rfl, hb1⟩
  have HB1 := Lib.hid hb1
  clear hb1
  cases hfar : decide (30 < (L.fl.length : Int))
  rotate_left
  · go_wp2_with fail
    refine (works_any _).mono ?_
    rintro e w2 ⟨rfl, hb2⟩
    go_wp2
    go_ret
    exact ⟨rfl, HB.out.trans ((HB1.out.trans (hb2.mono HB1.out.size)).mono HB.out.size)⟩
  clear hfar
  have c0 := block_cell (keepZ K0.out HB1.out)
  have c1 := block_cell (keepZ K1.out HB1.out)
  go_wp2_with fail
  refine (lGrip_any L fv s t _ (HV.out.below HB1.out (Nat.le_refl _))).mono ?_
  rintro e w2 ⟨rfl, hb2⟩
  have HB2 := Lib.hid (HB1.out.trans (hb2.mono HB1.out.size))
  clear hb2
  clear c0 c1
  have c0 := block_cell (keepZ K0.out HB2.out)
  have c1 := block_cell (keepZ K1.out HB2.out)
  go_wp2_with fail
  refine (rGrip_any L fv s t _ (HV.out.below HB2.out (Nat.le_refl _))).mono ?_
  rintro e w3 ⟨rfl, hb3⟩
  have HB3 := Lib.hid (HB2.out.trans (hb3.mono HB2.out.size))
  clear hb3
  clear c0 c1
  have c0 := block_cell (keepZ K0.out HB3.out)
  have c1 := block_cell (keepZ K1.out HB3.out)
  generalize gripR L s t = R at *
  obtain ⟨r1, r2⟩ := R
  dsimp only
  go_wp2_with fail
  refine (lBalance_any L fv t _ (HV.out.below HB3.out (Nat.le_refl _))).mono ?_
  rintro e w4 ⟨rfl, hb4⟩
  have HB4 := Lib.hid (HB3.out.trans (hb4.mono HB3.out.size))
  clear hb4
  clear c0 c1
  have c0 := block_cell (keepZ K0.out HB4.out)
  have c1 := block_cell (keepZ K1.out HB4.out)
  go_wp2_with fail
  refine (rBalance_any L fv t _ (HV.out.below HB4.out (Nat.le_refl _))).mono ?_
  rintro e w5 ⟨rfl, hb5⟩
  have HB5 := Lib.hid (HB4.out.trans (hb5.mono HB4.out.size))
  clear hb5
  clear c0 c1
  generalize balR L t = S at *
  obtain ⟨s1, s2, s3⟩ := S
  dsimp only
  go_wp2_with fail
  refine (works_any _).mono ?_
  rintro e w6 ⟨rfl, hb6⟩
  have HB6 := Lib.hid (HB5.out.trans (hb6.mono HB5.out.size))
  clear hb6
  go_wp2
  go_ret
  exact ⟨rfl, HB.out.trans (HB6.out.mono HB.out.size)⟩

end Go.Proofs.Ytnefbiaopconkaa
