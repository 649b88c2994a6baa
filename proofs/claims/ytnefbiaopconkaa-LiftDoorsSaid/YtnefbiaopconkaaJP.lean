/- LiftDoors walked. -/
import Derived.Test.YtnefbiaopconkaaJO
import Derived.Test.YtnefbiaopconkaaJD
namespace Go.Proofs.Ytnefbiaopconkaa
open Go.RowKit

set_option maxRecDepth 100000 in
set_option maxHeartbeats 4000000 in
theorem lawDoors_any (d : Dor) (l : List Int) (v : Value) (n : Int) (w : World) (hv : InAt w v l) :
    Calls Try.prog 7 #[dorV d, v, .int .i64 n] w fun e w' => e = .returned (.bool true) ∧ Below w.heap.size w w' := by
  have HB := Lib.hid ((Below.refl w.heap.size w).alloc (Nat.le_refl _) (dorO d))
  have K0 := Lib.hid (block_new w (dorO d) w.heap.size rfl)
  have HV := Lib.hid (hv.below HB.out (Nat.le_refl _))
  obtain ⟨la, lcap, rfl, ln, lcp, lc⟩ := hv
  clear lc
  go_enter Try.func7, Try.ntmps7
  go_upto_region 1 with fail
  generalize w.alloc (dorO d) = wA at *
  have c0 := block_cell K0.out
  by_cases hbig : (40 : Int) < (l.length : Int)
  · go_wp2_with fail
    refine (works_any _).mono ?_
    rintro e wz ⟨rfl, hbz⟩
    go_wp2
    go_ret
    exact ⟨rfl, (HB.out).trans (hbz.mono (HB.out).size)⟩
  go_wp2_with fail
  refine (lDoors_any d _ l _ HV.out).mono ?_
  rintro e w1 ⟨va, rfl, hia, hb1⟩
  have HB1 := Lib.hid hb1
  have HIA := Lib.hid hia
  obtain ⟨xa, xc, rfl, _⟩ := hia
  clear c0 hb1
  have c0 := block_cell (keepZ K0.out HB1.out)
  go_wp2_with fail
  refine (rDoors_any d _ l _ (HV.out.below HB1.out (Nat.le_refl _))).mono ?_
  rintro e w2 ⟨va2, rfl, hia2, hb2⟩
  have HB2 := Lib.hid (HB1.out.trans (hb2.mono HB1.out.size))
  have HIA1 := Lib.hid (HIA.out.below hb2 (Nat.le_refl _))
  have HIA2 := Lib.hid hia2
  obtain ⟨xa2, xc2, rfl, _⟩ := hia2
  clear c0 hb2 HIA
  have c0 := block_cell (keepZ K0.out HB2.out)
  go_wp2_with fail
  refine (lDwell_any d n _).mono ?_
  rintro e w3 ⟨rfl, hb3⟩
  have HB3 := Lib.hid (HB2.out.trans (hb3.mono HB2.out.size))
  have HIB1 := Lib.hid (HIA1.out.below hb3 (Nat.le_refl _))
  have HIB2 := Lib.hid (HIA2.out.below hb3 (Nat.le_refl _))
  clear c0 hb3 HIA1 HIA2
  have c0 := block_cell (keepZ K0.out HB3.out)
  go_wp2_with fail
  refine (rDwell_any d n _).mono ?_
  rintro e w4 ⟨rfl, hb4⟩
  have HB4 := Lib.hid (HB3.out.trans (hb4.mono HB3.out.size))
  have HIC1 := Lib.hid (HIB1.out.below hb4 (Nat.le_refl _))
  have HIC2 := Lib.hid (HIB2.out.below hb4 (Nat.le_refl _))
  clear c0 hb4 HIB1 HIB2
  generalize dweR d n = R at *
  obtain ⟨r1, r2⟩ := R
  generalize dooE d l = E at *
  generalize dooO d l = OL at *
  dsimp only
  go_wp2_with fail
  refine (sameInts_any _ _ OL _ HIC1.out HIC2.out).mono ?_
  rintro e w6 ⟨rfl, hb6⟩
  have HB6 := Lib.hid (HB.out.trans ((HB4.out.trans (hb6.mono HB4.out.size)).mono HB.out.size))
  go_wp2_with fail
  refine (works_any _).mono ?_
  rintro e wz ⟨rfl, hbz⟩
  go_wp2
  go_ret
  exact ⟨rfl, (HB6.out).trans (hbz.mono (HB6.out).size)⟩

end Go.Proofs.Ytnefbiaopconkaa
