/- LiftLevels walked. -/
import Derived.Test.YtnefbiaopconkaaJb
import Derived.Test.YtnefbiaopconkaaJl
namespace Go.Proofs.Ytnefbiaopconkaa
open Go.RowKit

abbrev changeO (a b c : Int) : Obj := .cells #[.int .i64 a, .int .i64 b, .int .i64 c] 45

set_option maxRecDepth 100000 in
set_option maxHeartbeats 4000000 in
theorem lawLevels_any (L : Lif) (fv : Value) (cf ca cb : Int) (l : List Int) (v : Value) (w : World) (hv : InAt w fv L.fl) (hl : InAt w v l) :
    Calls Try.prog 5 #[lifV L fv, placeV cf ca cb, v] w fun e w' => e = .returned (.bool true) ∧ Below w.heap.size w w' := by
  have HB := Lib.hid (blw2 w (lifO L fv) (changeO cf ca cb))
  have K0 := Lib.hid (two_od w (lifO L fv) (changeO cf ca cb))
  have K1 := Lib.hid (two_nw w (lifO L fv) (changeO cf ca cb))
  have HV := Lib.hid (hv.below HB.out (Nat.le_refl _))
  have HLv := Lib.hid (hl.below HB.out (Nat.le_refl _))
  obtain ⟨la, lcap, rfl, ln, lcp, lc⟩ := hl
  clear lc hv
  go_enter Try.func5, Try.ntmps5
  go_wp2_with fail
  generalize (w.alloc (lifO L fv)).alloc (changeO cf ca cb) = wA at *
  refine (far_any L fv _ HV.out).mono ?_
  rintro e w1 ⟨rfl, hb1⟩
  have HB1 := Lib.hid hb1
  clear hb1
  cases hfar : decide (30 < (L.fl.length : Int))
  rotate_left
  · go_wp2_with fail
    refine (works_any _).mono ?_
    rintro e w2 ⟨rfl, hb2⟩
    go_wp2
    go_ret
    exact ⟨rfl, HB.out.trans ((HB1.out.trans (hb2.mono HB1.out.size)).mono HB.out.size)⟩
  clear hfar
  by_cases hlen : 80 < (l.length : Int)
  · have HBW := Lib.hid (HB.out.trans (HB1.out.mono HB.out.size))
    go_wp2_with fail
    refine (works_any _).mono ?_
    rintro e wz ⟨rfl, hbz⟩
    go_wp2
    go_ret
    exact ⟨rfl, (HBW.out).trans (hbz.mono (HBW.out).size)⟩
  have c0 := block_cell (keepZ K0.out HB1.out)
  have c1 := block_cell (keepZ K1.out HB1.out)
  go_wp2_with fail
  refine (lSink_any L fv cf ca cb _ (HV.out.below HB1.out (Nat.le_refl _))).mono ?_
  rintro e w2 ⟨rfl, hb2⟩
  have HB2 := Lib.hid (HB1.out.trans (hb2.mono HB1.out.size))
  clear hb2
  clear c0 c1
  have c0 := block_cell (keepZ K0.out HB2.out)
  have c1 := block_cell (keepZ K1.out HB2.out)
  go_wp2_with fail
  refine (rSink_any L fv cf ca cb _ (HV.out.below HB2.out (Nat.le_refl _))).mono ?_
  rintro e w3 ⟨rfl, hb3⟩
  have HB3 := Lib.hid (HB2.out.trans (hb3.mono HB2.out.size))
  clear hb3
  clear c0 c1
  have c0 := block_cell (keepZ K0.out HB3.out)
  have c1 := block_cell (keepZ K1.out HB3.out)
  generalize snkR L cf ca cb = R at *
  obtain ⟨r1, r2⟩ := R
  dsimp only
  go_wp2_with fail
  refine (lLevels_any L fv _ cf l _ (HV.out.below HB3.out (Nat.le_refl _)) (HLv.out.below HB3.out (Nat.le_refl _))).mono ?_
  rintro e w4 ⟨va, vb, rfl, hia, hib, hb4⟩
  have HB4 := Lib.hid (HB3.out.trans (hb4.mono HB3.out.size))
  have HIA := Lib.hid hia
  have HIB := Lib.hid hib
  obtain ⟨xa, xc, rfl, _⟩ := hia
  obtain ⟨ya, yc, rfl, _⟩ := hib
  clear c0 c1 hb4
  have c0 := block_cell (keepZ K0.out HB4.out)
  have c1 := block_cell (keepZ K1.out HB4.out)
  go_wp2_with fail
  refine (rLevels_any L fv _ cf l _ (HV.out.below HB4.out (Nat.le_refl _)) (HLv.out.below HB4.out (Nat.le_refl _))).mono ?_
  rintro e w5 ⟨va2, vb2, rfl, hia2, hib2, hb5⟩
  have HB5 := Lib.hid (HB4.out.trans (hb5.mono HB4.out.size))
  have HIA1 := Lib.hid (HIA.out.below hb5 (Nat.le_refl _))
  have HIB1 := Lib.hid (HIB.out.below hb5 (Nat.le_refl _))
  have HIA2 := Lib.hid hia2
  have HIB2 := Lib.hid hib2
  obtain ⟨xa2, xc2, rfl, _⟩ := hia2
  obtain ⟨ya2, yc2, rfl, _⟩ := hib2
  clear c0 c1 hb5 HIA HIB
  generalize levE L cf l = E at *
  generalize levO L cf l = OL at *
  generalize levA L cf l = AL at *
  go_wp2_with fail
  refine (sameInts_any _ _ OL _ HIA1.out HIA2.out).mono ?_
  rintro e w6 ⟨rfl, hb6⟩
  have HB6 := Lib.hid (HB5.out.trans (hb6.mono HB5.out.size))
  have HIB3 := Lib.hid (HIB1.out.below hb6 (Nat.le_refl _))
  have HIB4 := Lib.hid (HIB2.out.below hb6 (Nat.le_refl _))
  go_wp2_with fail
  refine (sameInts_any _ _ AL _ HIB3.out HIB4.out).mono ?_
  rintro e w7 ⟨rfl, hb7⟩
  have HB7 := Lib.hid (HB.out.trans ((HB6.out.trans (hb7.mono HB6.out.size)).mono HB.out.size))
  go_wp2_with fail
  refine (works_any _).mono ?_
  rintro e wz ⟨rfl, hbz⟩
  go_wp2
  go_ret
  exact ⟨rfl, (HB7.out).trans (hbz.mono (HB7.out).size)⟩

end Go.Proofs.Ytnefbiaopconkaa
