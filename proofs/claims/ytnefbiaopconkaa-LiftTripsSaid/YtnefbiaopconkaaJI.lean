/- LiftTrips walked. -/
import Derived.Test.YtnefbiaopconkaaJG
import Derived.Test.YtnefbiaopconkaaJD
namespace Go.Proofs.Ytnefbiaopconkaa
open Go.RowKit

set_option maxRecDepth 100000 in
set_option maxHeartbeats 4000000 in
theorem lawTrips_any (L : Lif) (fv : Value) (fa fb ft : Int) (w : World) (hv : InAt w fv L.fl) :
    Calls Try.prog 6 #[lifV L fv, placeV fa fb ft] w fun e w' => e = .returned (.bool true) ∧ Below w.heap.size w w' := by
  have HB := Lib.hid (blw2 w (lifO L fv) (wayO fa fb ft))
  have K0 := Lib.hid (two_od w (lifO L fv) (wayO fa fb ft))
  have K1 := Lib.hid (two_nw w (lifO L fv) (wayO fa fb ft))
  have HV := Lib.hid (hv.below HB.out (Nat.le_refl _))
  go_enter Try.func6, Try.ntmps6
  go_wp2_with fail
  generalize (w.alloc (lifO L fv)).alloc (wayO fa fb ft) = wA at *
  refine (far_any L fv _ HV.out).mono ?_
  rintro e w1 ⟨rfl, hb1⟩
  have HB1 := Lib.hid hb1
  clear hb1
  cases hfar : decide (30 < (L.fl.length : Int))
  rotate_left
  · go_wp2_with fail
    refine (works_any _).mono ?_
    rintro e w2 ⟨rfl, hb2⟩
    go_wp2
    go_ret
    exact ⟨rfl, HB.out.trans ((HB1.out.trans (hb2.mono HB1.out.size)).mono HB.out.size)⟩
  clear hfar
  have c0 := block_cell (keepZ K0.out HB1.out)
  have c1 := block_cell (keepZ K1.out HB1.out)
  go_wp2_with fail
  refine (lReach_any L fv ft _ (HV.out.below HB1.out (Nat.le_refl _))).mono ?_
  rintro e w2 ⟨rfl, hb2⟩
  have HB2 := Lib.hid (HB1.out.trans (hb2.mono HB1.out.size))
  clear hb2
  clear c0 c1
  have c0 := block_cell (keepZ K0.out HB2.out)
  have c1 := block_cell (keepZ K1.out HB2.out)
  go_wp2_with fail
  refine (rReach_any L fv ft _ (HV.out.below HB2.out (Nat.le_refl _))).mono ?_
  rintro e w3 ⟨rfl, hb3⟩
  have HB3 := Lib.hid (HB2.out.trans (hb3.mono HB2.out.size))
  clear hb3
  clear c0 c1
  have c0 := block_cell (keepZ K0.out HB3.out)
  have c1 := block_cell (keepZ K1.out HB3.out)
  generalize reaR L ft = R at *
  obtain ⟨r1, r2⟩ := R
  dsimp only
  go_wp2_with fail
  refine (lTrip_any L fv fa fb _ (HV.out.below HB3.out (Nat.le_refl _))).mono ?_
  rintro e w4 ⟨va, rfl, hia, hb4⟩
  have HB4 := Lib.hid (HB3.out.trans (hb4.mono HB3.out.size))
  have HIA := Lib.hid hia
  obtain ⟨xa, xc, rfl, _⟩ := hia
  clear c0 c1 hb4
  have c0 := block_cell (keepZ K0.out HB4.out)
  have c1 := block_cell (keepZ K1.out HB4.out)
  go_wp2_with fail
  refine (rTrip_any L fv fa fb _ (HV.out.below HB4.out (Nat.le_refl _))).mono ?_
  rintro e w5 ⟨va2, rfl, hia2, hb5⟩
  have HB5 := Lib.hid (HB4.out.trans (hb5.mono HB4.out.size))
  have HIA1 := Lib.hid (HIA.out.below hb5 (Nat.le_refl _))
  have HIA2 := Lib.hid hia2
  obtain ⟨xa2, xc2, rfl, _⟩ := hia2
  clear c0 c1 hb5 HIA
  generalize triR L fa fb = TR at *
  obtain ⟨OL, E⟩ := TR
  dsimp only at *
  go_wp2_with fail
  refine (sameInts_any _ _ OL _ HIA1.out HIA2.out).mono ?_
  rintro e w6 ⟨rfl, hb6⟩
  have HB6 := Lib.hid (HB.out.trans ((HB5.out.trans (hb6.mono HB5.out.size)).mono HB.out.size))
  go_wp2_with fail
  refine (works_any _).mono ?_
  rintro e wz ⟨rfl, hbz⟩
  go_wp2
  go_ret
  exact ⟨rfl, (HB6.out).trans (hbz.mono (HB6.out).size)⟩

end Go.Proofs.Ytnefbiaopconkaa
