/- LiftFar walked. -/
import Derived.Test.YtnefbiaopconkaaJD
namespace Go.Proofs.Ytnefbiaopconkaa
open Go.RowKit

theorem reaR_in {L : Lif} (hok : okB L = true) {n : Nat} (hn : n ≤ 1000) : reaR L (n : Int) = (reaM L.spd L.acc n, 0) := by
  rw [reaR_ok (chk_zero.2 ⟨hok, inB_iff.2 ⟨by omega, by omega⟩⟩), Int.toNat_natCast]

theorem rea_bd2 {spd acc : Int} (hs : 1 ≤ spd) (hs2 : spd ≤ 100) (ha : 1 ≤ acc) {n : Nat} (hn : n ≤ 1000) : 0 ≤ reaM spd acc n ∧ reaM spd acc n ≤ 100000 := pk_sum hs hs2 ha (Nat.le_refl n) hn

set_option maxRecDepth 100000 in
set_option maxHeartbeats 8000000 in
theorem lawFar_any (L : Lif) (fv : Value) (fa fb ft : Int) (l : List Int) (v : Value) (w : World) (hv : InAt w fv L.fl) (hl : InAt w v l) :
    Calls Try.prog 13 #[lifV L fv, placeV fa fb ft, v] w fun e w' => e = .returned (.bool true) ∧ Below w.heap.size w w' := by
  have HB := Lib.hid (blw2 w (lifO L fv) (wayO fa fb ft))
  have K0 := Lib.hid (two_od w (lifO L fv) (wayO fa fb ft))
  have K1 := Lib.hid (two_nw w (lifO L fv) (wayO fa fb ft))
  have HV := Lib.hid (hv.below HB.out (Nat.le_refl _))
  have HLv := Lib.hid (hl.below HB.out (Nat.le_refl _))
  obtain ⟨la, lcap, rfl, ln, lcp, lc⟩ := hl
  clear lc
  go_enter Try.func13, Try.ntmps13
  go_wp2_with fail
  generalize (w.alloc (lifO L fv)).alloc (wayO fa fb ft) = wA at *
  refine (far_any L fv _ HV.out).mono ?_
  rintro e w1 ⟨rfl, hb1⟩
  have HB1 := Lib.hid hb1
  clear hb1
  cases hfar : decide (30 < (L.fl.length : Int))
  rotate_left
  · go_wp2_with fail
    refine (works_any _).mono ?_
    rintro e w2 ⟨rfl, hb2⟩
    go_wp2
    go_ret
    exact ⟨rfl, HB.out.trans ((HB1.out.trans (hb2.mono HB1.out.size)).mono HB.out.size)⟩
  clear hfar
  by_cases hlen : 1000 < (l.length : Int)
  · have HBW := Lib.hid (HB.out.trans (HB1.out.mono HB.out.size))
    go_wp2_with fail
    refine (works_any _).mono ?_
    rintro e wz ⟨rfl, hbz⟩
    go_wp2
    go_ret
    exact ⟨rfl, (HBW.out).trans (hbz.mono (HBW.out).size)⟩
  have c0 := block_cell (keepZ K0.out HB1.out)
  cases hok : okB L
  · have HK := Lib.hid (chkE_no (x := 0) hok).symm
    clear hok
    go_wp2_with fail
    refine (int_is HK.out (rCheck_any L fv _ (HV.out.below HB1.out (Nat.le_refl _)))).mono ?_
    rintro e w2 ⟨rfl, hb2⟩
    have HB2 := Lib.hid (HB.out.trans ((HB1.out.trans (hb2.mono HB1.out.size)).mono HB.out.size))
    go_wp2_with fail
    refine (works_any _).mono ?_
    rintro e wz ⟨rfl, hbz⟩
    go_wp2
    go_ret
    exact ⟨rfl, (HB2.out).trans (hbz.mono (HB2.out).size)⟩
  have HOK := Lib.hid hok
  have HK := Lib.hid (chkE_ok (x := 0) hok).symm
  have hL := ok_of hok
  have hs1 := hL.s1
  have hs2 := hL.s2
  have ha1 := hL.a1
  have HRE := Lib.hid (fun (n : Nat) (hn : n ≤ 1000) w1 (h : InAt w1 fv L.fl) => (show Calls Try.prog 32 #[lifV L fv, .int .i64 n] w1 fun e w' => e = .returned (.tuple #[.int .i64 (reaM L.spd L.acc n), .int .i64 0]) ∧ Below w1.heap.size w1 w' from by
    have h3 := lReach_any L fv n w1 h
    rw [reaR_in HOK.out hn] at h3
    exact h3))
  have HRB := Lib.hid (fun (n : Nat) (hn : n ≤ 1000) => rea_bd2 hs1 hs2 ha1 hn)
  have HRL := Lib.hid (fun (n : Nat) => rea_last ha1 hs1 n)
  have HRG := Lib.hid (fun (n : Nat) => rea_grow (spd := L.spd) ha1 n)
  have HTB := Lib.hid (fun l (h : IsTr L.spd L.acc 0 l) => (tr_bound ha1 l 0 (Int.le_refl _) h).2)
  have HIT := Lib.hid (fun (v : Value) (l : List Int) w1 (hl : InAt w1 v l) (h : l.length ≤ 1000000) => rIsTrip_any L fv v l w1 hl hL h)
  clear hok
  go_wp2_with fail
  refine (int_is HK.out (rCheck_any L fv _ (HV.out.below HB1.out (Nat.le_refl _)))).mono ?_
  rintro e w2 ⟨rfl, hb2⟩
  have HB2 := Lib.hid (HB1.out.trans (hb2.mono HB1.out.size))
  clear c0 hb2
  have c0 := block_cell (keepZ K0.out HB2.out)
  have c1 := block_cell (keepZ K1.out HB2.out)
  go_upto_region 3 with fail
  go_cut [42] (fun s42 wx => ∃ q : Bool, s42 = .bool q ∧ Hid (q = true → 0 ≤ ft ∧ ft < 1000) ∧ w2 = wx)
  case first =>
    go_wp2
    all_goals
      go_meet
      exact ⟨_, rfl, Lib.hid (by intro h; first | (simp_all; done) | (simp_all; omega)), rfl⟩
  case rest =>
  obtain ⟨q, rfl, HQI, rfl⟩ := hcut
  go_upto_if 42 with (fail)
  go_cut [] (fun wx => Hid (Below wA.heap.size wA wx))
  case first =>
    cases q
    · go_wp2_with fail
      go_meet
      exact HB2
    · obtain ⟨p0, p1⟩ := HQI.out rfl
      obtain ⟨n, hn⟩ : ∃ n : Nat, ft = n := ⟨ft.toNat, by omega⟩
      subst hn
      have G1 := Lib.hid (HRE.out n (by omega))
      have G2 := Lib.hid (HRE.out (n + 1) (by omega))
      have x1 := HRL.out n
      have x2 := HRG.out n
      obtain ⟨y1, y2⟩ := HRB.out n (by omega)
      obtain ⟨y3, y4⟩ := HRB.out (n + 1) (by omega)
      rw [show ((n + 1 : Nat) : Int) = (n : Int) + 1 by omega] at G2
      generalize reaM L.spd L.acc n = X at *
      generalize reaM L.spd L.acc (n + 1) = Y at *
      clear HQI
      go_wp2_with fail
      refine (G1.out _ (HV.out.below HB2.out (Nat.le_refl _))).mono ?_
      rintro e w5 ⟨rfl, hb5⟩
      have HB5 := Lib.hid (HB2.out.trans (hb5.mono HB2.out.size))
      clear c0 c1 hb5
      have c0 := block_cell (keepZ K0.out HB5.out)
      have c1 := block_cell (keepZ K1.out HB5.out)
      go_wp2_with fail
      refine (G2.out _ (HV.out.below HB5.out (Nat.le_refl _))).mono ?_
      rintro e w6 ⟨rfl, hb6⟩
      have HB6 := Lib.hid (HB5.out.trans (hb6.mono HB5.out.size))
      clear c0 c1 hb6
      have c0 := block_cell (keepZ K0.out HB6.out)
      go_wp2_with fail
      go_meet
      exact HB6
  case rest =>
  have HB3 := hcut
  clear hcut c0 c1 HQI
  have c0 := block_cell (keepZ K0.out HB3.out)
  have HLW := Lib.hid (HLv.out.below HB3.out (Nat.le_refl _))
  obtain ⟨q, hqq⟩ : ∃ q, isTrG L.spd L.acc 0 l = q := ⟨_, rfl⟩
  have HQQ := Lib.hid hqq
  have HQJ := Lib.hid (show q = true → IsTr L.spd L.acc 0 l from fun h => (isTr_iff hs1 l 0 (Int.le_refl _)).1 (by rw [hqq]; exact h))
  clear hqq
  go_wp2_with fail
  refine (bool_is HQQ.out (HIT.out _ l _ HLW.out (by omega))).mono ?_
  rintro e w7 ⟨rfl, hb7⟩
  have HB7 := Lib.hid (HB3.out.trans (hb7.mono HB3.out.size))
  clear c0 hb7
  have c0 := block_cell (keepZ K0.out HB7.out)
  go_upto_if 79 with (fail)
  go_cut [] (fun wx => Hid (Below wA.heap.size wA wx))
  case first =>
    cases q
    · go_wp2_with fail
      go_meet
      exact HB7
    · have hT := HQJ.out rfl
      have HSL := Lib.hid (tr_sums hT hs2 (by omega))
      have hsum := HTB.out l hT
      have G1 := Lib.hid (HRE.out l.length (by omega))
      obtain ⟨y1, y2⟩ := HRB.out l.length (by omega)
      have HSN := Lib.hid (show sumN (atL l) l.length ≤ reaM L.spd L.acc l.length from hsum)
      generalize reaM L.spd L.acc l.length = X at *
      clear hT hsum HQJ
      go_wp2_with fail
      refine (G1.out _ (HV.out.below HB7.out (Nat.le_refl _))).mono ?_
      rintro e w8 ⟨rfl, hb8⟩
      have HB8 := Lib.hid (HB7.out.trans (hb8.mono HB7.out.size))
      have HLW2 := Lib.hid (HLv.out.below HB8.out (Nat.le_refl _))
      clear c0 hb8
      generalize w8 = wB at *
      go_wp2_with fail
      go_loopw [13, 14] (fun x i wr => ∃ k : Nat, k ≤ (l).length ∧ i = .int .i64 k ∧ x = .int .i64 (sumN (atL (l)) k) ∧ Hid (Below wB.heap.size wB wr)) (fun _ i _ => (l).length - (intOf i).toNat)
      case atStart => exact ⟨0, Nat.zero_le _, rfl, rfl, Lib.hid (Below.refl _ _)⟩
      case round =>
        obtain ⟨k, hk, rfl, rfl, hb⟩ := hrel
        by_cases hlt : k < (l).length
        · obtain ⟨b, off, rfl, hbl, hc⟩ := in_get (HLW2).out hlt
          have g1 := (hb.out.cell (p := ⟨b, off + k, none⟩) hbl).trans hc
          obtain ⟨b1, b2, b3, b4⟩ := (HSL).out k hlt
          have HS := Lib.hid (show sumN (atL (l)) (k + 1) = sumN (atL (l)) k + (l).getD k 0 from rfl)
          have j0 : (0 : Int) ≤ k := by omega
          have j1 : (k : Int) < (l).length := by omega
          generalize sumN (atL (l)) k = S at *
          generalize (l).getD k 0 = x at *
          clear hc
          go_wp2_with fail
          go_roundw
          case rel => exact ⟨k + 1, hlt, by go_num, by rw [HS.out], hb⟩
          case measure => simp [intOf]; omega
        obtain rfl : k = (l).length := by omega
        have hle := HSN.out
        have HB9 := Lib.hid (HB8.out.trans (hb.out.mono HB8.out.size))
        generalize sumN (atL l) l.length = SL at *
        go_wp2_with fail
        go_meet
        exact HB9
  case rest =>
  have HB4 := hcut
  clear hcut c0 HQJ
  have c0 := block_cell (keepZ K0.out HB4.out)
  have c1 := block_cell (keepZ K1.out HB4.out)
  have HBW := Lib.hid (HB.out.trans (HB4.out.mono HB.out.size))
  cases hq : flrB L fa fb
  · have HQ := Lib.hid hq
    clear hq hL
    go_wp2_with fail
    refine (bool_is HQ.out (rFloors_any L fv fa fb _ (HV.out.below HB4.out (Nat.le_refl _)))).mono ?_
    rintro e w9 ⟨rfl, hb9⟩
    have HB9 := Lib.hid (HBW.out.trans (hb9.mono HBW.out.size))
    go_wp2_with fail
    refine (works_any _).mono ?_
    rintro e wz ⟨rfl, hbz⟩
    go_wp2
    go_ret
    exact ⟨rfl, (HB9.out).trans (hbz.mono (HB9.out).size)⟩
  have HQ := Lib.hid hq
  by_cases hab : fa = fb
  · have habb : (fa == fb) = true := by simpa using hab
    clear hq hL hab
    go_wp2_with fail
    refine (bool_is HQ.out (rFloors_any L fv fa fb _ (HV.out.below HB4.out (Nat.le_refl _)))).mono ?_
    rintro e w9 ⟨rfl, hb9⟩
    have HB9 := Lib.hid (HBW.out.trans (hb9.mono HBW.out.size))
    have HBA := Lib.hid (HB4.out.trans (hb9.mono HB4.out.size))
    clear c0 c1
    have c1 := block_cell (keepZ K1.out HBA.out)
    go_wp2_with fail
    refine (works_any _).mono ?_
    rintro e wz ⟨rfl, hbz⟩
    go_wp2
    go_ret
    exact ⟨rfl, (HB9.out).trans (hbz.mono (HB9.out).size)⟩
  have habb : (fa == fb) = false := by simpa using hab
  obtain ⟨f1, f2, f3, f4⟩ := flr_of hq
  obtain ⟨t1, t2, t3, t4⟩ := trip_all hL hq
  have hR1 : triR L fa fb = (tripL L.spd L.acc (fewM L.spd L.acc (wayM L fa fb)) 0 (wayM L fa fb), 0) := triR_ok (chk_zero.2 ⟨HOK.out, hq⟩)
  have HTA := Lib.hid (fun w1 (h : InAt w1 fv L.fl) => (show Calls Try.prog 34 #[lifV L fv, .int .i64 fa, .int .i64 fb] w1 (ListErr (tripL L.spd L.acc (fewM L.spd L.acc (wayM L fa fb)) 0 (wayM L fa fb)) 0 w1) from by
    have h3 := lTrip_any L fv fa fb w1 h
    rw [hR1] at h3
    exact h3))
  have HW := Lib.hid (show wayM L fa fb = max (L.fl.getD fb.toNat 0 - L.fl.getD fa.toNat 0) (-(L.fl.getD fb.toNat 0 - L.fl.getD fa.toNat 0)) from rfl)
  have hx1 := hL.floor (i := fa.toNat) (by omega)
  have hx2 := hL.floor (i := fb.toNat) (by omega)
  have htp := hL.top
  have hwb := way_bd hL f1 f2 f3 f4
  have hwp : 1 ≤ wayM L fa fb := by
    rcases Int.lt_trichotomy fa fb with h | h | h
    · have := asc_lt hL.fa (fb.toNat - fa.toNat) fa.toNat (by omega)
      rw [show fa.toNat + (fb.toNat - fa.toNat) = fb.toNat by omega] at this
      rw [HW.out]; omega
    · exact absurd h hab
    · have := asc_lt hL.fa (fa.toNat - fb.toNat) fb.toNat (by omega)
      rw [show fb.toNat + (fa.toNat - fb.toNat) = fa.toNat by omega] at this
      rw [HW.out]; omega
  obtain ⟨k1, k2, k3⟩ := few_spec ha1 hs1 hwb.2
  have hN1 : 1 ≤ fewM L.spd L.acc (wayM L fa fb) := by
    rcases Nat.eq_zero_or_pos (fewM L.spd L.acc (wayM L fa fb)) with h | h
    · rw [h] at k2
      have : reaM L.spd L.acc 0 = 0 := rfl
      omega
    · exact h
  have HK2 := Lib.hid k2
  have HK3 := Lib.hid (k3 (fewM L.spd L.acc (wayM L fa fb) - 1) (by omega))
  rw [← t3] at HK2 HK3 hN1
  have hT3 : (tripL L.spd L.acc (fewM L.spd L.acc (wayM L fa fb)) 0 (wayM L fa fb)).length ≤ 1000 := by rw [t3]; exact t4
  generalize tripL L.spd L.acc (fewM L.spd L.acc (wayM L fa fb)) 0 (wayM L fa fb) = T at *
  generalize wayM L fa fb = WY at *
  have G1 := Lib.hid (HRE.out T.length (by omega))
  have G2 := Lib.hid (HRE.out (T.length - 1) (by omega))
  rw [show ((T.length - 1 : Nat) : Int) = (T.length : Int) - 1 by omega] at G2
  have z1 := HK2.out
  have z2 := HK3.out
  generalize reaM L.spd L.acc T.length = X at *
  generalize reaM L.spd L.acc (T.length - 1) = Y at *
  clear hq t1 t2 t3 t4 hR1 hL hab k1 k2 k3
  have HV0 := Lib.hid hv
  obtain ⟨sa, scap, rfl, sn, scp, sc⟩ := hv
  obtain ⟨sb, soff, rfl, sbl, sc⟩ := sc (by omega)
  have HSC := Lib.hid sc
  clear sc
  go_wp2_with fail
  refine (bool_is HQ.out (rFloors_any L _ fa fb _ (HV.out.below HB4.out (Nat.le_refl _)))).mono ?_
  rintro e w9 ⟨rfl, hb9⟩
  have HB9 := Lib.hid (HB4.out.trans (hb9.mono HB4.out.size))
  clear c0 c1 hb9
  have c0 := block_cell (keepZ K0.out HB9.out)
  have c1 := block_cell (keepZ K1.out HB9.out)
  go_wp2_with fail
  refine (HTA.out _ (HV.out.below HB9.out (Nat.le_refl _))).mono ?_
  rintro e w10 ⟨tv, rfl, hta, hb10⟩
  have HB10 := Lib.hid (HB9.out.trans (hb10.mono HB9.out.size))
  obtain ⟨ta, tcap, rfl, tn, tcp, tc⟩ := hta
  clear c0 c1 hb10 tc
  have HBG := Lib.hid (HB.out.trans (HB10.out.mono HB.out.size))
  have c0 := block_cell (keepZ K0.out HB10.out)
  have c1 := block_cell (keepZ K1.out HB10.out)
  have g1 := in_at HBG.out sbl HSC.out (k := fa.toNat) (by omega)
  have g2 := in_at HBG.out sbl HSC.out (k := fb.toNat) (by omega)
  generalize L.fl.getD fa.toNat 0 = x at *
  generalize L.fl.getD fb.toNat 0 = y at *
  have e1 : IntKind.i64.wrap (y - x) = y - x := wrap_i64_in (by omega) (by omega)
  have e2 : IntKind.i64.wrap (x - y) = x - y := wrap_i64_in (by omega) (by omega)
  have j0 : 0 ≤ fa := f1
  have j1 : fa < (L.fl.length : Int) := f2
  have j2 : 0 ≤ fb := f3
  have j3 : fb < (L.fl.length : Int) := f4
  have hln0 : ((T.length : Int) == 0) = false := by simp; intro h; rw [h] at hN1; simp at hN1
  go_wp2_with fail
  go_cut [17] (fun s17 wx => s17 = .int .i64 WY ∧ Hid (Below w10.heap.size w10 wx))
  case first =>
    go_quiet (fail)
    go_wp2_with fail
    all_goals
      go_meet
      exact ⟨ret_val (by rw [HW.out]; omega), Lib.hid (below_drewN (Below.refl _ _) _)⟩
  case rest =>
    obtain ⟨rfl, HBC⟩ := hcut
    have HBD := Lib.hid (HB10.out.trans (HBC.out.mono HB10.out.size))
    clear c0 c1 g1 g2 e1 e2 hln0
    have c0 := block_cell (keepZ K0.out HBD.out)
    go_wp2_with fail
    refine (G1.out _ (HV.out.below HBD.out (Nat.le_refl _))).mono ?_
    rintro e w11 ⟨rfl, hb11⟩
    have HBE := Lib.hid (HBD.out.trans (hb11.mono HBD.out.size))
    clear c0 hb11
    have c0 := block_cell (keepZ K0.out HBE.out)
    go_wp2_with fail
    refine (G2.out _ (HV.out.below HBE.out (Nat.le_refl _))).mono ?_
    rintro e w12 ⟨rfl, hb12⟩
    have HBF := Lib.hid (HB.out.trans ((HBE.out.trans (hb12.mono HBE.out.size)).mono HB.out.size))
    go_wp2_with fail
    refine (works_any _).mono ?_
    rintro e wz ⟨rfl, hbz⟩
    go_wp2
    go_ret
    exact ⟨rfl, (HBF.out).trans (hbz.mono (HBF.out).size)⟩

end Go.Proofs.Ytnefbiaopconkaa
