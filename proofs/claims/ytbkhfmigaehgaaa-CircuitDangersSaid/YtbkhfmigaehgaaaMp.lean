/- CircuitDangers walked. -/
import Derived.Test.YtbkhfmigaehgaaaMn
import Derived.Test.YtbkhfmigaehgaaaMo
namespace Go.Proofs.Ytbkhfmigaehgaaa
open Go.RowKit

set_option maxRecDepth 100000 in
set_option maxHeartbeats 8000000 in
theorem lawDangers_any (c : Cir) (sv wv : Value) (ki hi : Int) (w : World) (hv : CirAt w sv wv c) :
    Calls Try.prog 4 #[cirV c sv wv, .int .i64 ki, .int .i64 hi] w fun e w' => e = .returned (.bool true) ∧ Below w.heap.size w w' := by
  have HB := Lib.hid ((Below.refl w.heap.size w).alloc (Nat.le_refl _) (cirO c sv wv))
  have K0 := Lib.hid (block_new w (cirO c sv wv) w.heap.size rfl)
  have HV := Lib.hid (hv.below HB.out (Nat.le_refl _))
  obtain ⟨⟨sa, scap, rfl, _⟩, _⟩ := hv
  go_enter Try.func4, Try.ntmps4
  go_wp2_with fail
  generalize w.alloc (cirO c (.slice sa c.sw.length scap) wv) = wA at *
  refine (far_any c _ wv _ HV.out).mono ?_
  rintro e w1 ⟨q, rfl, hb1⟩
  have HB1 := Lib.hid hb1
  clear hb1
  cases q
  rotate_left
  · go_wp2_with fail
    refine (works_any _).mono ?_
    rintro e wz ⟨rfl, hbz⟩
    go_wp2_with fail
    go_ret
    exact ⟨rfl, HB.out.trans ((HB1.out.trans (hbz.mono HB1.out.size)).mono HB.out.size)⟩
  have c0 := block_cell (keepZ K0.out HB1.out)
  go_wp2_with fail
  refine (cweak_any c _ wv ki _ (HV.out.below HB1.out (Nat.le_refl _))).mono ?_
  rintro e w2 ⟨v, rfl, hin, hb2⟩
  have HB2 := Lib.hid (HB1.out.trans (hb2.mono HB1.out.size))
  clear hb2
  have HI := Lib.hid hin
  obtain ⟨va, vcap, rfl, _⟩ := hin
  clear c0
  have c0 := block_cell (keepZ K0.out HB2.out)
  go_wp2_with fail
  refine (rWeak_any c _ wv ki _ (HV.out.below HB2.out (Nat.le_refl _))).mono ?_
  rintro e w3 ⟨v, rfl, hin, hb3⟩
  have H1 := Lib.hid (HI.out.below hb3 (Nat.le_refl _))
  have H2 := Lib.hid hin
  obtain ⟨va2, vcap2, rfl, _⟩ := hin
  have HB3 := Lib.hid (HB2.out.trans (hb3.mono HB2.out.size))
  clear hb3
  clear HI c0
  generalize weakE c ki = E at *
  generalize weakR c ki = R at *
  go_wp2_with fail
  refine (sameInts_any _ _ _ _ H1.out H2.out).mono ?_
  rintro e w4 ⟨rfl, hb4⟩
  have HB4 := Lib.hid (HB3.out.trans (hb4.mono HB3.out.size))
  clear hb4
  clear H1 H2
  have c0 := block_cell (keepZ K0.out HB4.out)
  go_wp2_with fail
  refine (ccritical_any c _ wv _ (HV.out.below HB4.out (Nat.le_refl _))).mono ?_
  rintro e w5 ⟨v, rfl, hin, hb5⟩
  have HB5 := Lib.hid (HB4.out.trans (hb5.mono HB4.out.size))
  clear hb5
  have HI := Lib.hid hin
  obtain ⟨ca, ccap, rfl, _⟩ := hin
  clear c0
  have c0 := block_cell (keepZ K0.out HB5.out)
  go_wp2_with fail
  refine (rcritical_any c _ wv _ (HV.out.below HB5.out (Nat.le_refl _))).mono ?_
  rintro e w6 ⟨v, rfl, hin, hb6⟩
  have H1 := Lib.hid (HI.out.below hb6 (Nat.le_refl _))
  have H2 := Lib.hid hin
  obtain ⟨ca2, ccap2, rfl, _⟩ := hin
  have HB6 := Lib.hid (HB5.out.trans (hb6.mono HB5.out.size))
  clear hb6
  clear HI c0
  generalize chkC c = E2 at *
  generalize critR c = R2 at *
  go_wp2_with fail
  refine (sameInts_any _ _ _ _ H1.out H2.out).mono ?_
  rintro e w7 ⟨rfl, hb7⟩
  have HB7 := Lib.hid (HB6.out.trans (hb7.mono HB6.out.size))
  clear hb7
  clear H1 H2
  have c0 := block_cell (keepZ K0.out HB7.out)
  go_wp2_with fail
  refine (cpairs_any c _ wv _ (HV.out.below HB7.out (Nat.le_refl _))).mono ?_
  rintro e w8 ⟨v, rfl, hin, hb8⟩
  have HB8 := Lib.hid (HB7.out.trans (hb8.mono HB7.out.size))
  clear hb8
  have HI := Lib.hid hin
  obtain ⟨pa, pcap, rfl, _⟩ := hin
  clear c0
  have c0 := block_cell (keepZ K0.out HB8.out)
  go_wp2_with fail
  refine (rpairs_any c _ wv _ (HV.out.below HB8.out (Nat.le_refl _))).mono ?_
  rintro e w9 ⟨v, rfl, hin, hb9⟩
  have H1 := Lib.hid (HI.out.below hb9 (Nat.le_refl _))
  have H2 := Lib.hid hin
  obtain ⟨pa2, pcap2, rfl, _⟩ := hin
  have HB9 := Lib.hid (HB8.out.trans (hb9.mono HB8.out.size))
  clear hb9
  clear HI c0
  generalize chkC c = E3 at *
  have c0 := block_cell (keepZ K0.out HB9.out)
  go_wp2_with fail
  refine (cleast_any c _ wv hi _ (HV.out.below HB9.out (Nat.le_refl _))).mono ?_
  rintro e w10 ⟨rfl, hb10⟩
  have H3 := Lib.hid (H1.out.below hb10 (Nat.le_refl _))
  have H4 := Lib.hid (H2.out.below hb10 (Nat.le_refl _))
  have HB10 := Lib.hid (HB9.out.trans (hb10.mono HB9.out.size))
  clear hb10
  clear H1 H2 c0
  have HM := Lib.hid (show ∃ m er : Int, lstV (lstR c hi) = .tuple #[.int .i64 m, .int .i64 er] from ⟨_, _, rfl⟩)
  obtain ⟨m, er, hm⟩ := HM.out
  have HMM := Lib.hid hm
  rw [hm]
  clear hm HM
  have c0 := block_cell (keepZ K0.out HB10.out)
  go_wp2_with fail
  refine (rleast_any c _ wv hi _ (HV.out.below HB10.out (Nat.le_refl _))).mono ?_
  rintro e w11 ⟨rfl, hb11⟩
  have H5 := Lib.hid (H3.out.below hb11 (Nat.le_refl _))
  have H6 := Lib.hid (H4.out.below hb11 (Nat.le_refl _))
  have HB11 := Lib.hid (HB10.out.trans (hb11.mono HB10.out.size))
  clear hb11
  clear H3 H4 c0
  rw [HMM.out]
  generalize pairsR c = PR at *
  go_wp2_with fail
  refine (samePairs_any _ _ _ _ H5.out H6.out).mono ?_
  rintro e w12 ⟨rfl, hb12⟩
  have HB12 := Lib.hid (HB11.out.trans (hb12.mono HB11.out.size))
  clear hb12
  go_wp2_with fail
  refine (works_any _).mono ?_
  rintro e wz ⟨rfl, hbz⟩
  go_wp2_with fail
  go_ret
  exact ⟨rfl, HB.out.trans ((HB12.out.trans (hbz.mono HB12.out.size)).mono HB.out.size)⟩

end Go.Proofs.Ytbkhfmigaehgaaa
