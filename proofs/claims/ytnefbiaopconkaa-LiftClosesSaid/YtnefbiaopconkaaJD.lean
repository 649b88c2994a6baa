/- LiftQuick walked. -/
import Derived.Test.YtnefbiaopconkaaJC
import Derived.Test.YtnefbiaopconkaaJl
namespace Go.Proofs.Ytnefbiaopconkaa
open Go.RowKit

abbrev wayO (a b c : Int) : Obj := .cells #[.int .i64 a, .int .i64 b, .int .i64 c] 52

theorem way_symm (L : Lif) (a b : Int) : wayM L b a = wayM L a b := by unfold wayM; omega

theorem isTr_in {spd acc : Int} : ∀ (l : List Int) (s : Int), IsTr spd acc s l → ∀ k, k < l.length → 0 ≤ l.getD k 0 ∧ l.getD k 0 ≤ spd
  | [], _, _, k, hk => by simp at hk
  | v :: l, s, h, 0, _ => ⟨h.1, h.2.1⟩
  | v :: l, s, h, k + 1, hk => by
    have := isTr_in l v h.2.2.2.2 k (by simpa using hk)
    simpa using this

/-- The sums of a trip, number by number. -/
theorem tr_sums {spd acc : Int} {l : List Int} {s : Int} (h : IsTr spd acc s l) (hs : spd ≤ 100) (hlen : l.length ≤ 1200) :
    ∀ k, k < l.length → 0 ≤ sumN (atL l) k ∧ sumN (atL l) k ≤ 120000 ∧ 0 ≤ l.getD k 0 ∧ l.getD k 0 ≤ 100 := by
  intro k hk
  have h1 := isTr_in l s h
  have h2 : sumN (atL l) k ≤ 100 * k := sumN_le fun i hi => by
    have := h1 i (by omega)
    show l.getD i 0 ≤ 100
    omega
  have h3 := h1 k hk
  exact ⟨sumN_nonneg fun i hi => (h1 i (by omega)).1, by omega, h3.1, by omega⟩

theorem in_get {w : World} {a : Option Addr} {n c : Nat} {l : List Int} (h : InAt w (.slice a n c) l) {k : Nat} (hk : k < l.length) : ∃ b off, a = some ⟨b, off, none⟩ ∧ b < w.heap.size ∧ w.cell? ⟨b, off + k, none⟩ = some (.int .i64 (l.getD k 0)) := by
  obtain ⟨a', c', e, _, _, hc⟩ := h
  injection e with e1 _ _
  subst e1
  obtain ⟨b, off, rfl, hb, hc⟩ := hc (by omega)
  exact ⟨b, off, rfl, hb, hc k hk⟩

theorem ret_val {a b : Int} (h : a = b) : Value.int .i64 a = Value.int .i64 b := by rw [h]
theorem max_two (a b : Int) : (if b < a then a else b) = max b a := by split <;> omega

set_option maxRecDepth 100000 in
/-- What a trip between floors is. -/
theorem trip_all {L : Lif} (hL : LOk L) {a b : Int} (f : flrB L a b = true) :
    IsTr L.spd L.acc 0 (tripL L.spd L.acc (fewM L.spd L.acc (wayM L a b)) 0 (wayM L a b)) ∧ sumL (tripL L.spd L.acc (fewM L.spd L.acc (wayM L a b)) 0 (wayM L a b)) = wayM L a b ∧
    (tripL L.spd L.acc (fewM L.spd L.acc (wayM L a b)) 0 (wayM L a b)).length = fewM L.spd L.acc (wayM L a b) ∧ fewM L.spd L.acc (wayM L a b) ≤ 1000 := by
  obtain ⟨f1, f2, f3, f4⟩ := flr_of f
  obtain ⟨w0, w1⟩ := way_bd hL f1 f2 f3 f4
  obtain ⟨h1, h2⟩ := trip_is hL.a1 hL.s1 hL.s2 _ _ _ (few_feas hL.a1 hL.s1 w0 w1)
  exact ⟨h1, h2, tripL_len _ _ _ _ _, (few_spec hL.a1 hL.s1 w1).1⟩

set_option maxRecDepth 100000 in
set_option maxHeartbeats 8000000 in
theorem lawQuick_any (L : Lif) (fv : Value) (fa fb ft : Int) (l : List Int) (v : Value) (w : World) (hv : InAt w fv L.fl) (hl : InAt w v l) :
    Calls Try.prog 12 #[lifV L fv, placeV fa fb ft, v] w fun e w' => e = .returned (.bool true) ∧ Below w.heap.size w w' := by
  have HB := Lib.hid (blw2 w (lifO L fv) (wayO fa fb ft))
  have K0 := Lib.hid (two_od w (lifO L fv) (wayO fa fb ft))
  have K1 := Lib.hid (two_nw w (lifO L fv) (wayO fa fb ft))
  have HV := Lib.hid (hv.below HB.out (Nat.le_refl _))
  have HLv := Lib.hid (hl.below HB.out (Nat.le_refl _))
  obtain ⟨la, lcap, rfl, ln, lcp, lc⟩ := hl
  clear lc
  go_enter Try.func12, Try.ntmps12
  go_wp2_with fail
  generalize (w.alloc (lifO L fv)).alloc (wayO fa fb ft) = wA at *
  refine (far_any L fv _ HV.out).mono ?_
  rintro e w1 ⟨rfl, hb1⟩
  have HB1 := Lib.hid hb1
  clear hb1
  cases hfar : decide (30 < (L.fl.length : Int))
  rotate_left
  · go_wp2_with fail
    refine (works_any _).mono ?_
    rintro e w2 ⟨rfl, hb2⟩
    go_wp2
    go_ret
    exact ⟨rfl, HB.out.trans ((HB1.out.trans (hb2.mono HB1.out.size)).mono HB.out.size)⟩
  clear hfar
  by_cases hlen : 1200 < (l.length : Int)
  · have HBW := Lib.hid (HB.out.trans (HB1.out.mono HB.out.size))
    go_wp2_with fail
    refine (works_any _).mono ?_
    rintro e wz ⟨rfl, hbz⟩
    go_wp2
    go_ret
    exact ⟨rfl, (HBW.out).trans (hbz.mono (HBW.out).size)⟩
  have c0 := block_cell (keepZ K0.out HB1.out)
  cases hok : okB L
  · have HK := Lib.hid (chkE_no (x := 0) hok).symm
    clear hok
    go_wp2_with fail
    refine (int_is HK.out (rCheck_any L fv _ (HV.out.below HB1.out (Nat.le_refl _)))).mono ?_
    rintro e w2 ⟨rfl, hb2⟩
    have HB2 := Lib.hid (HB.out.trans ((HB1.out.trans (hb2.mono HB1.out.size)).mono HB.out.size))
    go_wp2_with fail
    refine (works_any _).mono ?_
    rintro e wz ⟨rfl, hbz⟩
    go_wp2
    go_ret
    exact ⟨rfl, (HB2.out).trans (hbz.mono (HB2.out).size)⟩
  have HOK := Lib.hid hok
  have HK := Lib.hid (chkE_ok (x := 0) hok).symm
  have hL := ok_of hok
  clear hok
  go_wp2_with fail
  refine (int_is HK.out (rCheck_any L fv _ (HV.out.below HB1.out (Nat.le_refl _)))).mono ?_
  rintro e w2 ⟨rfl, hb2⟩
  have HB2 := Lib.hid (HB1.out.trans (hb2.mono HB1.out.size))
  clear c0 hb2
  have c0 := block_cell (keepZ K0.out HB2.out)
  have c1 := block_cell (keepZ K1.out HB2.out)
  cases hq : flrB L fa fb
  · have HQ := Lib.hid hq
    clear hq hL
    go_wp2_with fail
    refine (bool_is HQ.out (rFloors_any L fv fa fb _ (HV.out.below HB2.out (Nat.le_refl _)))).mono ?_
    rintro e w3 ⟨rfl, hb3⟩
    have HB3 := Lib.hid (HB.out.trans ((HB2.out.trans (hb3.mono HB2.out.size)).mono HB.out.size))
    go_wp2_with fail
    refine (works_any _).mono ?_
    rintro e wz ⟨rfl, hbz⟩
    go_wp2
    go_ret
    exact ⟨rfl, (HB3.out).trans (hbz.mono (HB3.out).size)⟩
  have HQ := Lib.hid hq
  obtain ⟨f1, f2, f3, f4⟩ := flr_of hq
  have hq2 : flrB L fb fa = true := by rw [← hq]; unfold flrB; rw [Bool.and_comm]
  obtain ⟨t1, t2, t3, t4⟩ := trip_all hL hq
  have hR1 : triR L fa fb = (tripL L.spd L.acc (fewM L.spd L.acc (wayM L fa fb)) 0 (wayM L fa fb), 0) := triR_ok (chk_zero.2 ⟨HOK.out, hq⟩)
  have hR2 : triR L fb fa = (tripL L.spd L.acc (fewM L.spd L.acc (wayM L fa fb)) 0 (wayM L fa fb), 0) := by
    rw [triR_ok (chk_zero.2 ⟨HOK.out, hq2⟩), way_symm L fa fb]
  have HTA := Lib.hid (fun w1 (h : InAt w1 fv L.fl) => (show Calls Try.prog 34 #[lifV L fv, .int .i64 fa, .int .i64 fb] w1 (ListErr (tripL L.spd L.acc (fewM L.spd L.acc (wayM L fa fb)) 0 (wayM L fa fb)) 0 w1) from by
    have h3 := lTrip_any L fv fa fb w1 h
    rw [hR1] at h3
    exact h3))
  have HTB := Lib.hid (fun w1 (h : InAt w1 fv L.fl) => (show Calls Try.prog 34 #[lifV L fv, .int .i64 fb, .int .i64 fa] w1 (ListErr (tripL L.spd L.acc (fewM L.spd L.acc (wayM L fa fb)) 0 (wayM L fa fb)) 0 w1) from by
    have h3 := lTrip_any L fv fb fa w1 h
    rw [hR2] at h3
    exact h3))
  have HW := Lib.hid (show wayM L fa fb = max (L.fl.getD fb.toNat 0 - L.fl.getD fa.toNat 0) (-(L.fl.getD fb.toNat 0 - L.fl.getD fa.toNat 0)) from rfl)
  have hx1 := hL.floor (i := fa.toNat) (by omega)
  have hx2 := hL.floor (i := fb.toNat) (by omega)
  have htp := hL.top
  have hs1 := hL.s1
  have HFW := Lib.hid (fun l (h1 : IsTr L.spd L.acc 0 l) (h2 : sumL l = wayM L fa fb) => few_le hL.a1 hL.s1 (way_bd hL f1 f2 f3 f4).2 h1 h2)
  have HIT := Lib.hid (fun (v : Value) (l : List Int) w1 (hl : InAt w1 v l) (h : l.length ≤ 1000000) => rIsTrip_any L fv v l w1 hl hL h)
  have HI1 := Lib.hid ((isTr_iff hs1 _ 0 (Int.le_refl _)).2 t1)
  have hwb := way_bd hL f1 f2 f3 f4
  have HSU := Lib.hid (tr_sums t1 hL.s2 (by omega))
  have HSUM := Lib.hid t2
  have HSP := Lib.hid hL.s2
  rw [← t3] at HFW
  have hT3 : (tripL L.spd L.acc (fewM L.spd L.acc (wayM L fa fb)) 0 (wayM L fa fb)).length ≤ 1000 := by rw [t3]; exact t4
  generalize tripL L.spd L.acc (fewM L.spd L.acc (wayM L fa fb)) 0 (wayM L fa fb) = T at *
  generalize wayM L fa fb = WY at *
  clear hq hq2 t1 t2 t3 t4 hR1 hR2 hL
  obtain ⟨sa, scap, rfl, sn, scp, sc⟩ := hv
  obtain ⟨sb, soff, rfl, sbl, sc⟩ := sc (by omega)
  have HSC := Lib.hid sc
  clear sc
  go_wp2_with fail
  refine (bool_is HQ.out (rFloors_any L _ fa fb _ (HV.out.below HB2.out (Nat.le_refl _)))).mono ?_
  rintro e w3 ⟨rfl, hb3⟩
  have HB3 := Lib.hid (HB2.out.trans (hb3.mono HB2.out.size))
  clear c0 c1 hb3
  have c0 := block_cell (keepZ K0.out HB3.out)
  have c1 := block_cell (keepZ K1.out HB3.out)
  go_wp2_with fail
  refine (HTA.out _ (HV.out.below HB3.out (Nat.le_refl _))).mono ?_
  rintro e w4 ⟨tv, rfl, hta, hb4⟩
  have HB4 := Lib.hid (HB3.out.trans (hb4.mono HB3.out.size))
  have HTV := Lib.hid hta
  obtain ⟨ta, tcap, rfl, tn, tcp, tc⟩ := hta
  clear c0 c1 hb4 tc
  have c0 := block_cell (keepZ K0.out HB4.out)
  have c1 := block_cell (keepZ K1.out HB4.out)
  go_wp2_with fail
  refine (HTB.out _ (HV.out.below HB4.out (Nat.le_refl _))).mono ?_
  rintro e w5 ⟨tv2, rfl, hta2, hb5⟩
  have HB5 := Lib.hid (HB4.out.trans (hb5.mono HB4.out.size))
  have HTV1 := Lib.hid (HTV.out.below hb5 (Nat.le_refl _))
  obtain ⟨ta2, tcap2, rfl, tn2, tcp2, tc2⟩ := hta2
  clear c0 c1 hb5 tc2
  have c0 := block_cell (keepZ K0.out HB5.out)
  have c1 := block_cell (keepZ K1.out HB5.out)
  have hln1 : ((T.length : Int) != (T.length : Int)) = false := by simp
  go_wp2_with fail
  refine (bool_is HI1.out (HIT.out _ T _ HTV1.out (by omega))).mono ?_
  rintro e w6 ⟨rfl, hb6⟩
  have HB6 := Lib.hid (HB5.out.trans (hb6.mono HB5.out.size))
  have HTV2 := Lib.hid (HTV1.out.below hb6 (Nat.le_refl _))
  clear c0 c1 hb6 hln1
  have HBG := Lib.hid (HB.out.trans (HB6.out.mono HB.out.size))
  have c0 := block_cell (keepZ K0.out HB6.out)
  have c1 := block_cell (keepZ K1.out HB6.out)
  have g1 := in_at HBG.out sbl HSC.out (k := fa.toNat) (by omega)
  have g2 := in_at HBG.out sbl HSC.out (k := fb.toNat) (by omega)
  generalize L.fl.getD fa.toNat 0 = x at *
  generalize L.fl.getD fb.toNat 0 = y at *
  have e1 : IntKind.i64.wrap (y - x) = y - x := wrap_i64_in (by omega) (by omega)
  have e2 : IntKind.i64.wrap (x - y) = x - y := wrap_i64_in (by omega) (by omega)
  have j0 : 0 ≤ fa := f1
  have j1 : fa < (L.fl.length : Int) := f2
  have j2 : 0 ≤ fb := f3
  have j3 : fb < (L.fl.length : Int) := f4
  go_wp2_with fail
  go_cut [11] (fun s11 wx => s11 = .int .i64 WY ∧ Hid (Below w6.heap.size w6 wx))
  case first =>
    go_quiet (fail)
    go_wp2_with fail
    all_goals
      go_meet
      exact ⟨ret_val (by rw [HW.out]; omega), Lib.hid (below_drewN (Below.refl _ _) _)⟩
  case rest =>
    obtain ⟨rfl, HBC⟩ := hcut
    have HTV3 := Lib.hid (HTV2.out.below HBC.out (Nat.le_refl _))
    have HBD := Lib.hid (HB6.out.trans (HBC.out.mono HB6.out.size))
    clear c0 c1 g1 g2 e1 e2
    generalize wc = wB at *
    go_wp2_with fail
    go_loopw [12, 13] (fun x i wr => ∃ k : Nat, k ≤ (T).length ∧ i = .int .i64 k ∧ x = .int .i64 (sumN (atL (T)) k) ∧ Hid (Below wB.heap.size wB wr)) (fun _ i _ => (T).length - (intOf i).toNat)
    case atStart => exact ⟨0, Nat.zero_le _, rfl, rfl, Lib.hid (Below.refl _ _)⟩
    case round =>
      obtain ⟨k, hk, rfl, rfl, hb⟩ := hrel
      by_cases hlt : k < (T).length
      · obtain ⟨b, off, rfl, hbl, hc⟩ := in_get (HTV3).out hlt
        have g1 := (hb.out.cell (p := ⟨b, off + k, none⟩) hbl).trans hc
        obtain ⟨b1, b2, b3, b4⟩ := (HSU).out k hlt
        have HS := Lib.hid (show sumN (atL (T)) (k + 1) = sumN (atL (T)) k + (T).getD k 0 from rfl)
        have j0 : (0 : Int) ≤ k := by omega
        have j1 : (k : Int) < (T).length := by omega
        generalize sumN (atL (T)) k = S at *
        generalize (T).getD k 0 = x at *
        clear hc
        go_wp2_with fail
        go_roundw
        case rel => exact ⟨k + 1, hlt, by go_num, by rw [HS.out], hb⟩
        case measure => simp [intOf]; omega
      obtain rfl : k = (T).length := by omega
      have HSX := Lib.hid (show sumN (atL T) T.length = WY from HSUM.out)
      rw [HSX.out]
      have HBE := Lib.hid (HBD.out.trans (hb.out.mono HBD.out.size))
      have c0 := block_cell (keepZ K0.out HBE.out)
      have hww : (WY != WY) = false := by simp
      have HLW := Lib.hid (HLv.out.below HBE.out (Nat.le_refl _))
      have HBF := Lib.hid (HB.out.trans (HBE.out.mono HB.out.size))
      generalize wr = wB at *
      cases hi : isTrG L.spd L.acc 0 l
      · have HI := Lib.hid hi
        clear hi
        go_wp2_with fail
        refine (bool_is HI.out (HIT.out _ l _ HLW.out (by omega))).mono ?_
        rintro e w8 ⟨rfl, hb8⟩
        have HB8 := Lib.hid (HBF.out.trans (hb8.mono HBF.out.size))
        go_wp2_with fail
        refine (works_any _).mono ?_
        rintro e wz ⟨rfl, hbz⟩
        go_wp2
        go_ret
        exact ⟨rfl, (HB8.out).trans (hbz.mono (HB8.out).size)⟩
      · have HI := Lib.hid hi
        have hT := (isTr_iff hs1 l 0 (Int.le_refl _)).1 hi
        have HSL := Lib.hid (tr_sums hT HSP.out (by omega))
        have HFL := Lib.hid (fun h => HFW.out l hT h)
        clear hi hT
        go_wp2_with fail
        refine (bool_is HI.out (HIT.out _ l _ HLW.out (by omega))).mono ?_
        rintro e w8 ⟨rfl, hb8⟩
        have HB8 := Lib.hid (HBF.out.trans (hb8.mono HBF.out.size))
        have HLW2 := Lib.hid (HLW.out.below hb8 (Nat.le_refl _))
        clear hb8 c0
        generalize w8 = wB at *
        go_wp2_with fail
        go_loopw [12, 14] (fun x i wr => ∃ k : Nat, k ≤ (l).length ∧ i = .int .i64 k ∧ x = .int .i64 (sumN (atL (l)) k) ∧ Hid (Below wB.heap.size wB wr)) (fun _ i _ => (l).length - (intOf i).toNat)
        case atStart => exact ⟨0, Nat.zero_le _, rfl, rfl, Lib.hid (Below.refl _ _)⟩
        case round =>
          obtain ⟨k, hk, rfl, rfl, hb⟩ := hrel
          by_cases hlt : k < (l).length
          · obtain ⟨b, off, rfl, hbl, hc⟩ := in_get (HLW2).out hlt
            have g1 := (hb.out.cell (p := ⟨b, off + k, none⟩) hbl).trans hc
            obtain ⟨b1, b2, b3, b4⟩ := (HSL).out k hlt
            have HS := Lib.hid (show sumN (atL (l)) (k + 1) = sumN (atL (l)) k + (l).getD k 0 from rfl)
            have j0 : (0 : Int) ≤ k := by omega
            have j1 : (k : Int) < (l).length := by omega
            generalize sumN (atL (l)) k = S at *
            generalize (l).getD k 0 = x at *
            clear hc
            go_wp2_with fail
            go_roundw
            case rel => exact ⟨k + 1, hlt, by go_num, by rw [HS.out], hb⟩
            case measure => simp [intOf]; omega
          obtain rfl : k = (l).length := by omega
          have HB9 := Lib.hid (HB8.out.trans (hb.out.mono HB8.out.size))
          by_cases hsw : sumN (atL l) l.length = WY
          · have hle := HFL.out hsw
            have hle2 : (T.length : Int) ≤ l.length := by omega
            rw [hsw]
            go_wp2_with fail
            refine (works_any _).mono ?_
            rintro e wz ⟨rfl, hbz⟩
            go_wp2
            go_ret
            exact ⟨rfl, (HB9.out).trans (hbz.mono (HB9.out).size)⟩
          · have hne : (sumN (atL l) l.length != WY) = true := by simpa using hsw
            generalize sumN (atL l) l.length = SL at *
            clear hsw
            go_wp2_with fail
            refine (works_any _).mono ?_
            rintro e wz ⟨rfl, hbz⟩
            go_wp2
            go_ret
            exact ⟨rfl, (HB9.out).trans (hbz.mono (HB9.out).size)⟩

end Go.Proofs.Ytnefbiaopconkaa
