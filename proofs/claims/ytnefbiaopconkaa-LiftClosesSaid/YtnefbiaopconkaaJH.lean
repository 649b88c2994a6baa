/- Walks of layer 5 (lift): CheckDoor, Dwell, Turn of the specification. -/
import Derived.Test.YtnefbiaopconkaaJG
namespace Go.Proofs.Ytnefbiaopconkaa
open Go.RowKit

set_option maxHeartbeats 1000000 in
theorem rCheckDoor_any (d : Dor) (w : World) :
    Calls Try.prog 46 #[dorV d] w fun e w' => e = .returned (.int .i64 (dorE d true)) ∧ Below w.heap.size w w' := by
  have HB := Lib.hid ((Below.refl w.heap.size w).alloc (Nat.le_refl _) (dorO d))
  have K0 := Lib.hid (block_new w (dorO d) w.heap.size rfl)
  have HN := Lib.hid (@dorE_no d true)
  have HO := Lib.hid (@dorE_ok d true)
  have HD := Lib.hid (show dorB d = (inB d.wide 1 50 && inB d.wait 0 200) from rfl)
  go_enter Try.func46, Try.ntmps46
  go_upto_region 1 with fail
  generalize w.alloc (dorO d) = wA at *
  have c0 := block_cell K0.out
  go_wp2_with (go_at_call 55; refine (rwithin_any _ _ _ _).mono ?_; rintro e w3 ⟨rfl, rfl⟩)
  all_goals
    go_ret
    first
      | exact ⟨ret_int (HO.out (by rw [HD.out]; simp_all)), HB.out⟩
      | exact ⟨ret_int (HN.out (by rw [HD.out]; simp_all)), HB.out⟩

def dweE (d : Dor) (n : Int) : Int := dorE d (inB n 0 20)
def dweR (d : Dor) (n : Int) : Int × Int := if dweE d n = 0 then (dweM d n, 0) else (0, dweE d n)
theorem dweR_ok {d : Dor} {n : Int} (he : dweE d n = 0) : dweR d n = (dweM d n, 0) := by unfold dweR; rw [if_pos he]
theorem dweR_no {d : Dor} {n : Int} (he : dweE d n ≠ 0) : dweR d n = (0, dweE d n) := by unfold dweR; rw [if_neg he]

set_option maxHeartbeats 1000000 in
theorem rDwell_any (d : Dor) (n : Int) (w : World) :
    Calls Try.prog 39 #[dorV d, .int .i64 n] w fun e w' => e = .returned (pairV (dweR d n)) ∧ Below w.heap.size w w' := by
  have HB := Lib.hid ((Below.refl w.heap.size w).alloc (Nat.le_refl _) (dorO d))
  have K0 := Lib.hid (block_new w (dorO d) w.heap.size rfl)
  have HO := Lib.hid (@dweR_ok d n)
  have HN := Lib.hid (@dweR_no d n)
  cases hd : dorB d
  · have HD := Lib.hid (@dorE_no d true hd).symm
    have hE : dweE d n = 51 := (dorE_no hd).symm
    have HR := Lib.hid ((HN.out (by rw [hE]; decide)).trans (by rw [hE]))
    clear hE hd
    go_enter Try.func39, Try.ntmps39
    go_upto_region 1 with fail
    generalize w.alloc (dorO d) = wA at *
    have c0 := block_cell K0.out
    go_wp2_with (go_at_call 46; refine (int_is HD.out (rCheckDoor_any d _)).mono ?_; rintro e w1 ⟨rfl, hb1⟩)
    go_ret2
    exact ⟨by first | (rw [HR.out]; done) | (rw [HR.out]; rfl), HB.out.trans (hb1.mono HB.out.size)⟩
  · have HD := Lib.hid (@dorE_ok d true hd).symm
    cases hq : inB n 0 20
    · have HQ := Lib.hid hq
      have hE : dweE d n = 1 := (show dorE d (inB n 0 20) = 1 by rw [← dorE_ok hd, hq]; rfl)
      have HR := Lib.hid ((HN.out (by rw [hE]; decide)).trans (by rw [hE]))
      clear hE hd hq
      go_enter Try.func39, Try.ntmps39
      go_upto_region 1 with fail
      generalize w.alloc (dorO d) = wA at *
      have c0 := block_cell K0.out
      go_wp2_with (first | (go_at_call 46; refine (int_is HD.out (rCheckDoor_any d _)).mono ?_; rintro e w1 ⟨rfl, hb1⟩) | (go_at_call 55; refine (rwithin_is false _ _ _ _ HQ.out).mono ?_; rintro e w3 ⟨rfl, rfl⟩))
      go_ret2
      exact ⟨by first | (rw [HR.out]; done) | (rw [HR.out]; rfl), HB.out.trans (hb1.mono HB.out.size)⟩
    · have HQ := Lib.hid hq
      have hE : dweE d n = 0 := (show dorE d (inB n 0 20) = 0 by rw [← dorE_ok hd, hq]; rfl)
      have HR := Lib.hid (HO.out hE)
      obtain ⟨n0, n1⟩ := inB_iff.1 hq
      obtain ⟨b1, b2⟩ := dwe_bd hd n0 n1
      obtain ⟨d1, d2, d3, d4⟩ := dor_of hd
      have HM := Lib.hid (show 2 * d.wide + d.wait + n * (2 * (d.wide - 1) + d.wait) = dweM d n from rfl)
      have e1 : wrap64 (n * (2 * (d.wide - 1) + d.wait)) = n * (2 * (d.wide - 1) + d.wait) := wrap64_in (by omega) (by omega)
      clear hE hd hq
      go_enter Try.func39, Try.ntmps39
      go_upto_region 1 with fail
      generalize w.alloc (dorO d) = wA at *
      have c0 := block_cell K0.out
      go_wp2_with (first | (go_at_call 46; refine (int_is HD.out (rCheckDoor_any d _)).mono ?_; rintro e w1 ⟨rfl, hb1⟩; clear c0; have c0 := block_cell (keepZ K0.out hb1)) | (go_at_call 55; refine (rwithin_is true _ _ _ _ HQ.out).mono ?_; rintro e w3 ⟨rfl, rfl⟩))
      go_ret2
      exact ⟨by rw [HR.out, ← HM.out]; rfl, HB.out.trans (hb1.mono HB.out.size)⟩

theorem tur_eq {L : Lif} {d : Dor} {a b n : Int} (hok : okB L = true) (hd : dorB d = true) (ht : triE L a b ≠ 0) : turE L d a b n = triE L a b := by
  have h1 : triE L a b = fitE (flrB L a b) := (chkE_ok hok).symm
  have h2 : turE L d a b n = fitE (flrB L a b && inB n 0 20) := by
    show chkE L (dorE d (flrB L a b && inB n 0 20)) = _
    rw [← chkE_ok hok, ← dorE_ok hd]
  rw [h2, h1]
  rw [h1] at ht
  cases h : flrB L a b
  · rfl
  · rw [h] at ht; exact absurd rfl ht

theorem tur_eq2 {L : Lif} {d : Dor} {a b n : Int} (hok : okB L = true) (_hd : dorB d = true) (ht : triE L a b = 0) : turE L d a b n = dweE d n := by
  have h1 : flrB L a b = true := (chk_zero.1 ht).2
  show chkE L (dorE d (flrB L a b && inB n 0 20)) = dorE d (inB n 0 20)
  rw [← chkE_ok hok, h1, Bool.true_and]

set_option maxRecDepth 100000 in
set_option maxHeartbeats 2000000 in
theorem rTurn_any (L : Lif) (fv : Value) (d : Dor) (a b n : Int) (w : World) (hv : InAt w fv L.fl) :
    Calls Try.prog 41 #[lifV L fv, dorV d, .int .i64 a, .int .i64 b, .int .i64 n] w fun e w' => e = .returned (pairV (turR L d a b n)) ∧ Below w.heap.size w w' := by
  have HB := Lib.hid (blw2 w (lifO L fv) (dorO d))
  have K0 := Lib.hid (two_od w (lifO L fv) (dorO d))
  have K1 := Lib.hid (two_nw w (lifO L fv) (dorO d))
  have HV := Lib.hid (hv.below HB.out (Nat.le_refl _))
  have HO := Lib.hid (@turR_ok L d a b n)
  have HN := Lib.hid (@turR_no L d a b n)
  cases hok : okB L
  · have HK := Lib.hid (chkE_no (x := 0) hok).symm
    have HE : turE L d a b n = 50 := (chkE_no hok).symm
    have HR := Lib.hid ((HN.out (by rw [HE]; decide)).trans (by rw [HE]))
    clear hok HE
    go_enter Try.func41, Try.ntmps41
    go_upto_region 1 with fail
    generalize (w.alloc (lifO L fv)).alloc (dorO d) = wA at *
    have c0 := block_cell K0.out
    go_wp2_with (go_at_call 22; refine (int_is HK.out (rCheck_any L fv _ HV.out)).mono ?_; rintro e w1 ⟨rfl, hb1⟩)
    go_ret2
    exact ⟨by first | (rw [HR.out]; done) | (rw [HR.out]; rfl), HB.out.trans (hb1.mono HB.out.size)⟩
  have HK := Lib.hid (chkE_ok (x := 0) hok).symm
  cases hd : dorB d
  · have HD := Lib.hid (@dorE_no d true hd).symm
    have HE : turE L d a b n = 51 := by show chkE L (dorE d _) = 51; rw [← chkE_ok hok, ← dorE_no hd]
    have HR := Lib.hid ((HN.out (by rw [HE]; decide)).trans (by rw [HE]))
    clear hok HE hd
    go_enter Try.func41, Try.ntmps41
    go_upto_region 1 with fail
    generalize (w.alloc (lifO L fv)).alloc (dorO d) = wA at *
    have c0 := block_cell K0.out
    go_wp2_with (first | (go_at_call 22; refine (int_is HK.out (rCheck_any L fv _ HV.out)).mono ?_; rintro e w1 ⟨rfl, hb1⟩; clear c0; have c1 := block_cell (keepZ K1.out hb1)) | (go_at_call 46; refine (int_is HD.out (rCheckDoor_any d _)).mono ?_; rintro e w2 ⟨rfl, hb2⟩))
    go_ret2
    exact ⟨by first | (rw [HR.out]; done) | (rw [HR.out]; rfl), HB.out.trans ((hb1.trans (hb2.mono hb1.size)).mono HB.out.size)⟩
  have HD := Lib.hid (@dorE_ok d true hd).symm
  have hL := ok_of hok
  by_cases ht : triE L a b = 0
  · have HT2 := Lib.hid (tur_eq2 (n := n) hok hd ht)
    have HTR := Lib.hid (triR_ok ht)
    obtain ⟨_, f1, f2, f3, f4⟩ := tri_in ht
    have hwb := way_bd hL f1 f2 f3 f4
    have HTL := Lib.hid (tripL_len L.spd L.acc (fewM L.spd L.acc (wayM L a b)) 0 (wayM L a b))
    have hfw := (few_spec (w := wayM L a b) hL.a1 hL.s1 hwb.2).1
    have HTA := Lib.hid (fun w1 (h : InAt w1 fv L.fl) => (show Calls Try.prog 35 #[lifV L fv, .int .i64 a, .int .i64 b] w1 (ListErr (tripL L.spd L.acc (fewM L.spd L.acc (wayM L a b)) 0 (wayM L a b)) 0 w1) from by
      have h3 := rTrip_any L fv a b w1 h
      rw [HTR.out] at h3
      exact h3))
    have HDD := Lib.hid (show dorB d = true from hd)
    have hTN : (tripL L.spd L.acc (fewM L.spd L.acc (wayM L a b)) 0 (wayM L a b)).length ≤ 1000 := by rw [HTL.out]; exact hfw
    by_cases hde : dweE d n = 0
    · have HDR := Lib.hid (dweR_ok hde)
      have HR := Lib.hid (HO.out (HT2.out.trans hde))
      have hn := inB_iff.1 (dor_zero.1 hde).2
      have hdw := dwe_bd hd hn.1 hn.2
      have hdd := dor_of hd
      have hdm : 0 ≤ dweM d n ∧ dweM d n ≤ 10000 := by unfold dweM; omega
      rw [← HTL.out] at HR
      generalize tripL L.spd L.acc (fewM L.spd L.acc (wayM L a b)) 0 (wayM L a b) = T at *
      clear hok hd hL hde hdw hdd hwb hfw f1 f2 f3 f4 hn
      go_enter Try.func41, Try.ntmps41
      go_upto_region 1 with fail
      generalize (w.alloc (lifO L fv)).alloc (dorO d) = wA at *
      have c0 := block_cell K0.out
      go_wp2_with (first | (go_at_call 22; refine (int_is HK.out (rCheck_any L fv _ HV.out)).mono ?_; rintro e w1 ⟨rfl, hb1⟩; clear c0; have c0 := block_cell (keepZ K0.out hb1); have c1 := block_cell (keepZ K1.out hb1)) | (go_at_call 46; refine (int_is HD.out (rCheckDoor_any d _)).mono ?_; rintro e w2 ⟨rfl, hb2⟩; have HB2 := Lib.hid (hb1.trans (hb2.mono hb1.size)); clear c0 c1; have c0 := block_cell (keepZ K0.out HB2.out)) | fail)
      refine (HTA.out _ (HV.out.below HB2.out (Nat.le_refl _))).mono ?_
      rintro e w3 ⟨tv, rfl, hta, hb3⟩
      have HB3 := Lib.hid (HB2.out.trans (hb3.mono HB2.out.size))
      obtain ⟨xa, xc, rfl, _⟩ := hta
      clear c0 hb3
      have c1 := block_cell (keepZ K1.out HB3.out)
      have HDW := Lib.hid (fun w1 => (show Calls Try.prog 39 #[dorV d, .int .i64 n] w1 fun e w' => e = .returned (.tuple #[.int .i64 (dweM d n), .int .i64 0]) ∧ Below w1.heap.size w1 w' from by
        have h3 := rDwell_any d n w1
        rw [HDR.out] at h3
        exact h3))
      go_wp2_with fail
      refine (HDW.out _).mono ?_
      rintro e w4 ⟨rfl, hb4⟩
      have HB4 := Lib.hid (HB3.out.trans (hb4.mono HB3.out.size))
      generalize dweM d n = DM at *
      clear c1 hb4
      go_wp2
      go_ret2
      exact ⟨by first | (rw [HR.out]; done) | (rw [HR.out]; rfl), HB.out.trans (HB4.out.mono HB.out.size)⟩
    · have HDR := Lib.hid (dweR_no hde)
      have HR := Lib.hid ((HN.out (by rw [HT2.out]; exact hde)).trans (by rw [HT2.out]))
      have HDW := Lib.hid (fun w1 => (show Calls Try.prog 39 #[dorV d, .int .i64 n] w1 fun e w' => e = .returned (.tuple #[.int .i64 0, .int .i64 (dweE d n)]) ∧ Below w1.heap.size w1 w' from by
        have h3 := rDwell_any d n w1
        rw [HDR.out] at h3
        exact h3))
      have hne : (dweE d n != 0) = true := by simpa using hde
      generalize dweE d n = E at *
      generalize tripL L.spd L.acc (fewM L.spd L.acc (wayM L a b)) 0 (wayM L a b) = T at *
      clear hok hd hL hde hwb hfw f1 f2 f3 f4
      go_enter Try.func41, Try.ntmps41
      go_upto_region 1 with fail
      generalize (w.alloc (lifO L fv)).alloc (dorO d) = wA at *
      have c0 := block_cell K0.out
      go_wp2_with (first | (go_at_call 22; refine (int_is HK.out (rCheck_any L fv _ HV.out)).mono ?_; rintro e w1 ⟨rfl, hb1⟩; clear c0; have c0 := block_cell (keepZ K0.out hb1); have c1 := block_cell (keepZ K1.out hb1)) | (go_at_call 46; refine (int_is HD.out (rCheckDoor_any d _)).mono ?_; rintro e w2 ⟨rfl, hb2⟩; have HB2 := Lib.hid (hb1.trans (hb2.mono hb1.size)); clear c0 c1; have c0 := block_cell (keepZ K0.out HB2.out)) | fail)
      refine (HTA.out _ (HV.out.below HB2.out (Nat.le_refl _))).mono ?_
      rintro e w3 ⟨tv, rfl, hta, hb3⟩
      have HB3 := Lib.hid (HB2.out.trans (hb3.mono HB2.out.size))
      obtain ⟨xa, xc, rfl, _⟩ := hta
      clear c0 hb3
      have c1 := block_cell (keepZ K1.out HB3.out)
      go_wp2_with fail
      refine (HDW.out _).mono ?_
      rintro e w4 ⟨rfl, hb4⟩
      have HB4 := Lib.hid (HB3.out.trans (hb4.mono HB3.out.size))
      clear c1 hb4
      go_wp2
      go_ret2
      exact ⟨by first | (rw [HR.out]; done) | (rw [HR.out]; rfl), HB.out.trans (HB4.out.mono HB.out.size)⟩
  · have HT2 := (tur_eq (n := n) hok hd ht)
    have HTR := Lib.hid (triR_no ht)
    have HR := Lib.hid ((HN.out (by rw [HT2]; exact ht)).trans (by rw [HT2]))
    have HTA := Lib.hid (fun w1 (h : InAt w1 fv L.fl) => (show Calls Try.prog 35 #[lifV L fv, .int .i64 a, .int .i64 b] w1 (ListErr [] (triE L a b) w1) from by
      have h3 := rTrip_any L fv a b w1 h
      rw [HTR.out] at h3
      exact h3))
    have hne : (triE L a b != 0) = true := by simpa using ht
    clear HT2
    generalize triE L a b = E at *
    clear hok hd hL ht
    go_enter Try.func41, Try.ntmps41
    go_upto_region 1 with fail
    generalize (w.alloc (lifO L fv)).alloc (dorO d) = wA at *
    have c0 := block_cell K0.out
    go_wp2_with (first | (go_at_call 22; refine (int_is HK.out (rCheck_any L fv _ HV.out)).mono ?_; rintro e w1 ⟨rfl, hb1⟩; clear c0; have c0 := block_cell (keepZ K0.out hb1); have c1 := block_cell (keepZ K1.out hb1)) | (go_at_call 46; refine (int_is HD.out (rCheckDoor_any d _)).mono ?_; rintro e w2 ⟨rfl, hb2⟩; have HB2 := Lib.hid (hb1.trans (hb2.mono hb1.size)); clear c0 c1; have c0 := block_cell (keepZ K0.out HB2.out)) | fail)
    refine (HTA.out _ (HV.out.below HB2.out (Nat.le_refl _))).mono ?_
    rintro e w3 ⟨tv, rfl, hta, hb3⟩
    have HB3 := Lib.hid (HB2.out.trans (hb3.mono HB2.out.size))
    obtain ⟨xa, xc, rfl, _⟩ := hta
    clear c0 hb3
    go_wp2
    go_ret2
    exact ⟨by first | (rw [HR.out]; done) | (rw [HR.out]; rfl), HB.out.trans (HB3.out.mono HB.out.size)⟩

end Go.Proofs.Ytnefbiaopconkaa
