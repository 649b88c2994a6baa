/- DriveWithin, the walk. -/
import Derived.Test.YtpoenjnpfodfpaaHr
import Derived.Test.YtpoenjnpfodfpaaLf
import Derived.BigGuardPart
namespace Go.Proofs.Ytpoenjnpfodfpaa
open Go.RowKit

set_option maxRecDepth 100000 in
set_option maxHeartbeats 8000000 in
theorem within_main (E : Esc) (v : Value) (S : Stp) (lv : Value) (xs : List Int) (w : World) (hv : BrAt w v E.bs) (hx : InAt w lv xs) (hf : checkStopM E S = 0) (hh : histB S xs = true) (hr : pathM E S true (restN E S true) = 0) :
    Calls Try.prog 9 #[escV E v, stpV S, lv] w fun e w' => e = .returned (.bool true) ∧ Below w.heap.size w w' := by
  have hbA := ((Below.refl w.heap.size w).alloc (Nat.le_refl _) (Obj.cells #[.bool E.up, .int .i64 E.em, .int .i64 E.pu, .int .i64 E.dr, .int .i64 E.mo, v] 24)).alloc (by simp) (Obj.cells #[.int .i64 S.sp, .int .i64 S.lo, .int .i64 S.hi, .int .i64 S.fa] 38)
  have k1 := block_alloc (block_new w (Obj.cells #[.bool E.up, .int .i64 E.em, .int .i64 E.pu, .int .i64 E.dr, .int .i64 E.mo, v] 24) w.heap.size rfl) (Obj.cells #[.int .i64 S.sp, .int .i64 S.lo, .int .i64 S.hi, .int .i64 S.fa] 38)
  have k2 := block_new (w.alloc (Obj.cells #[.bool E.up, .int .i64 E.em, .int .i64 E.pu, .int .i64 E.dr, .int .i64 E.mo, v] 24)) (Obj.cells #[.int .i64 S.sp, .int .i64 S.lo, .int .i64 S.hi, .int .i64 S.fa] 38) (w.heap.size + 1) (by simp only [size_alloc])
  have hsz : ((w.alloc (Obj.cells #[.bool E.up, .int .i64 E.em, .int .i64 E.pu, .int .i64 E.dr, .int .i64 E.mo, v] 24)).alloc (Obj.cells #[.int .i64 S.sp, .int .i64 S.lo, .int .i64 S.hi, .int .i64 S.fa] 38)).heap.size = w.heap.size + 2 := by simp only [size_alloc]
  have hv1 := hv.below hbA (Nat.le_refl _)
  obtain ⟨a, cap, rfl, hn, hcap, hc⟩ := hv
  clear hc
  have hx1 := hx.below hbA (Nat.le_refl _)
  obtain ⟨xa, xc, rfl, xn, xm, hxc⟩ := hx
  clear hxc
  obtain ⟨hE, hS⟩ := checkStopM_num hf
  obtain ⟨hin, hlen⟩ := histB_span hh
  have Hfar := Lib.hid (far_no hf)
  have Hf := Lib.hid hf
  have Hh := Lib.hid hh
  have HIn := Lib.hid hin
  have HD := Lib.hid (show distM E S = ⟨wayTo E S false (restN E S false), wayTo E S true (restN E S true), restN E S false, restN E S true, 0⟩ by unfold distM; rw [if_pos hf, if_pos hr])
  have HW := Lib.hid (fun most => show witL E S most = loadsTo E S most (restN E S most) by unfold witL; rw [if_pos (by rw [HD.out])])
  have HLo := Lib.hid (path_low hE hS hr).1
  have HHi := Lib.hid hr
  obtain ⟨q1, q2, q3⟩ := within_says hE hS hin hr
  have HP := Lib.hid (playR_ok hf hh)
  have HQ2 := Lib.hid q2
  have HQ3 := Lib.hid q3
  have hrl := (restN_spec E S false).1
  have hrh := (restN_spec E S true).1
  have gn := (restG_spec (playM E S xs) xs.length).1
  clear hf hh hin hr q2 q3
  go_enter Try.func9, Try.ntmps9
  go_wp2_with fail
  generalize ((w.alloc (Obj.cells #[.bool E.up, .int .i64 E.em, .int .i64 E.pu, .int .i64 E.dr, .int .i64 E.mo, .slice a E.bs.length cap] 24)).alloc (Obj.cells #[.int .i64 S.sp, .int .i64 S.lo, .int .i64 S.hi, .int .i64 S.fa] 38)) = wA at *
  have HSZ := Lib.hid hsz
  have HV := Lib.hid hv1
  have K1 := Lib.hid k1
  have K2 := Lib.hid k2
  clear hsz hv1 k1 k2
  have HX := Lib.hid hx1
  clear hx1
  refine (far_any _ _ _ HV.out).mono ?_
  rintro e w1 ⟨rfl, hb1⟩
  rw [Hfar.out]
  have c1 := block_cell ((hb1.block w.heap.size (by have := HSZ.out; omega)).trans K1.out)
  have c2 := block_cell ((hb1.block (w.heap.size + 1) (by have := HSZ.out; omega)).trans K2.out)
  go_wp2_with fail
  refine (rcheckStop_any E S _ _ (HV.out.below hb1 (Nat.le_refl _))).mono ?_
  rintro e w2 ⟨rfl, hb2⟩
  rw [Hf.out]
  have hb12 := hb1.trans (hb2.mono hb1.size)
  clear c1 c2
  have c1 := block_cell ((hb12.block w.heap.size (by have := HSZ.out; omega)).trans K1.out)
  have c2 := block_cell ((hb12.block (w.heap.size + 1) (by have := HSZ.out; omega)).trans K2.out)
  go_wp2_with fail
  refine (history_any S _ xs _ (HX.out.below hb12 (Nat.le_refl _))).mono ?_
  rintro e w3 ⟨rfl, hb3⟩
  rw [Hh.out]
  have hb13 := hb12.trans (hb3.mono hb12.size)
  clear c1 c2
  have c1 := block_cell ((hb13.block w.heap.size (by have := HSZ.out; omega)).trans K1.out)
  have c2 := block_cell ((hb13.block (w.heap.size + 1) (by have := HSZ.out; omega)).trans K2.out)
  go_wp2_with fail
  refine (distance_any E S _ _ (HV.out.below hb13 (Nat.le_refl _))).mono ?_
  rintro e w4 ⟨rfl, hb4⟩
  rw [HD.out]
  unfold distV
  have hb14 := hb13.trans (hb4.mono hb13.size)
  clear c1 c2
  have c1 := block_cell ((hb14.block w.heap.size (by have := HSZ.out; omega)).trans K1.out)
  have c2 := block_cell ((hb14.block (w.heap.size + 1) (by have := HSZ.out; omega)).trans K2.out)
  have z1 : w.heap.size < w4.heap.size := by have := HSZ.out; have := hb14.size; omega
  have z2 : w.heap.size + 1 < w4.heap.size := by have := HSZ.out; have := hb14.size; omega
  go_wp2_with fail
  have hbD := ((hb14.alloc (by have := hb14.size; omega) (Obj.cells #[.int .i64 (wayTo E S false (restN E S false)), .int .i64 (wayTo E S true (restN E S true))] 36)).alloc (by have := hb14.size; simp; omega) (Obj.cells #[.int .i64 (restN E S false), .int .i64 (restN E S true)] 36))
  have kW := block_alloc (block_new w4 (Obj.cells #[.int .i64 (wayTo E S false (restN E S false)), .int .i64 (wayTo E S true (restN E S true))] 36) w4.heap.size rfl) (Obj.cells #[.int .i64 (restN E S false), .int .i64 (restN E S true)] 36)
  have kT := block_new (w4.alloc (Obj.cells #[.int .i64 (wayTo E S false (restN E S false)), .int .i64 (wayTo E S true (restN E S true))] 36)) (Obj.cells #[.int .i64 (restN E S false), .int .i64 (restN E S true)] 36) (w4.heap.size + 1) (by simp only [size_alloc])
  have kE := (hbD.block _ (lt_of_block K1.out)).trans K1.out
  have kS := (hbD.block _ (lt_of_block K2.out)).trans K2.out
  generalize (w4.alloc (Obj.cells #[.int .i64 (wayTo E S false (restN E S false)), .int .i64 (wayTo E S true (restN E S true))] 36)).alloc (Obj.cells #[.int .i64 (restN E S false), .int .i64 (restN E S true)] 36) = wD at *
  have KE := Lib.hid kE
  have KS := Lib.hid kS
  have KW := Lib.hid kW
  have KT := Lib.hid kT
  have HVD := Lib.hid (HV.out.below hbD (Nat.le_refl _))
  have hbwD := hbA.trans (hbD.mono hbA.size)
  have HXD := Lib.hid (HX.out.below hbD (Nat.le_refl _))
  clear c1 c2 z1 z2 kE kS kW kT hb1 hb2 hb12 hb3 hb13 hb4 hb14 hbD
  refine (play_any E S _ _ xs _ HVD.out HXD.out).mono ?_
  rintro e w5 ⟨v5, rfl, hi5, hb5⟩
  rw [HP.out] at hi5 ⊢
  have HI5 := Lib.hid hi5
  obtain ⟨a5, c5, rfl, n5, m5, _⟩ := hi5
  rw [speedsL_len] at *
  have c2 := block_cell ((hb5.block _ (lt_of_block KS.out)).trans KS.out)
  have hxx : ((xs.length : Int) != (xs.length : Int)) = false := by simp
  go_wp2_with fail
  clear hxx c2
  refine (rest_play hE hS _ xs _ HIn.out hlen HI5.out).mono ?_
  rintro e w6 ⟨rfl, rfl⟩
  have c3 := block_cell ((hb5.block _ (lt_of_block KW.out)).trans KW.out)
  have c4 := block_cell ((hb5.block _ (lt_of_block KT.out)).trans KT.out)
  have hbL := hb5
  generalize wayG (playM E S xs) (restG (playM E S xs) xs.length) = gw at *
  generalize playM E S xs (restG (playM E S xs) xs.length) = gu at *
  generalize restG (playM E S xs) xs.length = gn' at *
  generalize hwF : wayTo E S false (restN E S false) = wF at *
  generalize hwT : wayTo E S true (restN E S true) = wT at *
  generalize hM : restN E S false = M at *
  generalize hN : restN E S true = N at *
  have HwF := Lib.hid hwF
  have HwT := Lib.hid hwT
  have HM := Lib.hid hM
  have HN := Lib.hid hN
  clear hwF hwT hM hN
  by_cases hz : gu = 0
  all_goals
    first
      | (obtain ⟨t1, t2, t3⟩ := HQ2.out hz
         have hzb : (gu == 0) = true := by simpa using hz)
      | (have t1 := HQ3.out hz
         have hzb : (gu == 0) = false := by simpa using hz)
    clear hz
    go_wp2_with fail
    clear c3 c4 hzb hb5
    go_loopw [15] (fun i wr => ∃ k : Nat, k ≤ 2 ∧ i = .int .i64 k ∧ Below wD.heap.size wD wr) (fun i _ => 2 - (intOf i).toNat)
    case atStart => exact ⟨0, by omega, rfl, hbL⟩
    case round =>
      obtain ⟨k, hk, rfl, hb⟩ := hrel
      by_cases hlt : k < 2
      · by_cases hk0 : k = 0
        all_goals
          first
            | (have hm0 : ((k : Int) == 0) = true := by simpa using hk0
               have hm1 : ((k : Int) == 1) = false := by simp; omega
               have HWI := Lib.hid (HW.out true)
               have HRL := Lib.hid (@rest_loads E S hS true)
               have HLH := Lib.hid (@loads_hist E S hS true)
               have HPL := Lib.hid (playR_ok Hf.out HLH.out)
               have hll : (loadsTo E S true (restN E S true)).length = N := by rw [loadsTo_len, HN.out]
               have hz0 := HHi.out
               have HNx := Lib.hid HN.out
               have Hwx := Lib.hid HwT.out)
            | (have hm0 : ((k : Int) == 0) = false := by simp; omega
               have hm1 : ((k : Int) == 1) = true := by simp; omega
               have HWI := Lib.hid (HW.out false)
               have HRL := Lib.hid (@rest_loads E S hS false)
               have HLH := Lib.hid (@loads_hist E S hS false)
               have HPL := Lib.hid (playR_ok Hf.out HLH.out)
               have hll : (loadsTo E S false (restN E S false)).length = M := by rw [loadsTo_len, HM.out]
               have hz0 := HLo.out
               have HNx := Lib.hid HM.out
               have Hwx := Lib.hid HwF.out)
          have HZ0 := Lib.hid hz0
          have HLL := Lib.hid hll
          have HW' := Lib.hid HW.out
          clear hz0 hll HW
          have c1 := block_cell ((hb.block _ (lt_of_block KE.out)).trans KE.out)
          have c2 := block_cell ((hb.block _ (lt_of_block KS.out)).trans KS.out)
          go_wp2_with fail
          refine (witness_any E S _ _ _ (HVD.out.below hb (Nat.le_refl _))).mono ?_
          rintro e w7 ⟨v7, rfl, hi7, hb7⟩
          rw [HWI.out] at hi7
          rw [HD.out]
          have hb17 := hb.trans (hb7.mono hb.size)
          have hi7' := hi7
          obtain ⟨a7, c7, rfl, n7, m7, _⟩ := hi7
          rw [HLL.out] at hi7' n7 ⊢
          have HI7 := Lib.hid hi7'
          clear c1 c2 hi7'
          have c1 := block_cell ((hb17.block _ (lt_of_block KE.out)).trans KE.out)
          have c2 := block_cell ((hb17.block _ (lt_of_block KS.out)).trans KS.out)
          go_wp2_with fail
          refine (history_any S _ _ _ HI7.out).mono ?_
          rintro e w8 ⟨rfl, hb8⟩
          rw [HLH.out]
          have hb18 := hb17.trans (hb8.mono hb17.size)
          clear c1 c2
          have c1 := block_cell ((hb18.block _ (lt_of_block KE.out)).trans KE.out)
          have c2 := block_cell ((hb18.block _ (lt_of_block KS.out)).trans KS.out)
          go_wp2_with fail
          refine (play_any E S _ _ _ _ (HVD.out.below hb18 (Nat.le_refl _)) (HI7.out.below hb8 (Nat.le_refl _))).mono ?_
          rintro e w9 ⟨v9, rfl, hi9, hb9⟩
          rw [HPL.out] at hi9 ⊢
          have hb19 := hb18.trans (hb9.mono hb18.size)
          have HI9 := Lib.hid hi9
          clear c1 c2 hi9
          have c2 := block_cell ((hb19.block _ (lt_of_block KS.out)).trans KS.out)
          go_wp2_with fail
          refine (rest_play hE hS _ _ _ (histB_span HLH.out).1 (histB_span HLH.out).2 HI9.out).mono ?_
          rintro e w10 ⟨rfl, rfl⟩
          rw [HRL.out.1, HRL.out.2.1, HRL.out.2.2, HNx.out, Hwx.out, HZ0.out]
          clear c2
          have c3 := block_cell ((hb19.block _ (lt_of_block KW.out)).trans KW.out)
          have c4 := block_cell ((hb19.block _ (lt_of_block KT.out)).trans KT.out)
          have HB := Lib.hid hb19
          clear hb hb7 hb17 hb8 hb18 hb9 hb19
          go_wp2
          go_roundw
          case rel => exact ⟨k + 1, by omega, by go_num, HB.out⟩
          case measure => simp [intOf]; omega
      · go_wp2_with fail
        refine (works_any _).mono ?_
        rintro e w7 ⟨rfl, hb7⟩
        go_wp2
        go_ret
        exact ⟨rfl, hbwD.trans ((hb.trans (hb7.mono hb.size)).mono hbwD.size)⟩

end Go.Proofs.Ytpoenjnpfodfpaa
