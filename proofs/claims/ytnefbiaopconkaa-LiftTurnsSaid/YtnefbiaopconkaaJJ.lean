/- LiftTurns walked. -/
import Derived.Test.YtnefbiaopconkaaJH
import Derived.Test.YtnefbiaopconkaaJD
namespace Go.Proofs.Ytnefbiaopconkaa
open Go.RowKit

set_option maxRecDepth 100000 in
set_option maxHeartbeats 4000000 in
theorem lawTurns_any (L : Lif) (fv : Value) (d : Dor) (fa fb ft : Int) (w : World) (hv : InAt w fv L.fl) :
    Calls Try.prog 8 #[lifV L fv, dorV d, placeV fa fb ft] w fun e w' => e = .returned (.bool true) ∧ Below w.heap.size w w' := by
  have HB := Lib.hid (blw3 w (lifO L fv) (dorO d) (wayO fa fb ft))
  have K0 := Lib.hid (three_0 w (lifO L fv) (dorO d) (wayO fa fb ft))
  have K1 := Lib.hid (three_1 w (lifO L fv) (dorO d) (wayO fa fb ft))
  have K2 := Lib.hid (three_2 w (lifO L fv) (dorO d) (wayO fa fb ft))
  have HV := Lib.hid (hv.below HB.out (Nat.le_refl _))
  go_enter Try.func8, Try.ntmps8
  go_wp2_with fail
  generalize ((w.alloc (lifO L fv)).alloc (dorO d)).alloc (wayO fa fb ft) = wA at *
  refine (far_any L fv _ HV.out).mono ?_
  rintro e w1 ⟨rfl, hb1⟩
  have HB1 := Lib.hid hb1
  clear hb1
  cases hfar : decide (30 < (L.fl.length : Int))
  rotate_left
  · go_wp2_with fail
    refine (works_any _).mono ?_
    rintro e w2 ⟨rfl, hb2⟩
    go_wp2
    go_ret
    exact ⟨rfl, HB.out.trans ((HB1.out.trans (hb2.mono HB1.out.size)).mono HB.out.size)⟩
  clear hfar
  have c0 := block_cell (keepZ K0.out HB1.out)
  have c1 := block_cell (keepZ K1.out HB1.out)
  have c2 := block_cell (keepZ K2.out HB1.out)
  go_wp2_with fail
  refine (lTurn_any L fv d fa fb ft _ (HV.out.below HB1.out (Nat.le_refl _))).mono ?_
  rintro e w2 ⟨rfl, hb2⟩
  have HB2 := Lib.hid (HB1.out.trans (hb2.mono HB1.out.size))
  clear hb2
  clear c0 c1 c2
  have c0 := block_cell (keepZ K0.out HB2.out)
  have c1 := block_cell (keepZ K1.out HB2.out)
  have c2 := block_cell (keepZ K2.out HB2.out)
  go_wp2_with fail
  refine (rTurn_any L fv d fa fb ft _ (HV.out.below HB2.out (Nat.le_refl _))).mono ?_
  rintro e w3 ⟨rfl, hb3⟩
  have HB3 := Lib.hid (HB2.out.trans (hb3.mono HB2.out.size))
  clear hb3
  clear c0 c1 c2
  generalize turR L d fa fb ft = R at *
  obtain ⟨r1, r2⟩ := R
  dsimp only
  have HB6 := Lib.hid (HB.out.trans (HB3.out.mono HB.out.size))
  go_wp2_with fail
  refine (works_any _).mono ?_
  rintro e wz ⟨rfl, hbz⟩
  go_wp2
  go_ret
  exact ⟨rfl, (HB6.out).trans (hbz.mono (HB6.out).size)⟩

end Go.Proofs.Ytnefbiaopconkaa
