/- Walks of layer 5 (lift): Balance of the specification. -/
import Derived.Test.YtnefbiaopconkaaJq
namespace Go.Proofs.Ytnefbiaopconkaa
open Go.RowKit

theorem spZero {L : Lif} (hL : LOk L) : spB ⟨0, 0⟩ L.top = true := by
  have := hL.top
  simp [spB, inB]
  omega

theorem bal_mid {L : Lif} (hL : LOk L) {lo hi : Int} (h1 : lo ≤ hi) (h0 : 0 ≤ lo) (_h2 : hi ≤ L.rat) :
    L.carS 0 hi + (L.car + lo - L.rop * L.top) = 2 * L.car + (lo + hi) ∧ (2 * L.car + (lo + hi)) / 2 = L.car + (lo + hi) / 2 ∧ balN L ⟨lo, hi⟩ = min (L.car + (lo + hi) / 2) 100000 ∧ 1 ≤ L.car + (lo + hi) / 2 := by
  have c1 := hL.c1
  refine ⟨?_, by omega, ?_, by omega⟩
  · unfold Lif.carS
    rw [Int.sub_zero]
    omega
  · rw [bal_is, Int.tdiv_eq_ediv_of_nonneg (by dsimp only; omega)]

set_option maxRecDepth 100000 in
set_option maxHeartbeats 4000000 in
theorem rBalance_any (L : Lif) (fv : Value) (t : Spn) (w : World) (hv : InAt w fv L.fl) :
    Calls Try.prog 26 #[lifV L fv, spnV t] w fun e w' => e = .returned (sidV (balR L t)) ∧ Below w.heap.size w w' := by
  obtain ⟨lo, hi⟩ := t
  have HB := Lib.hid (blw2 w (lifO L fv) (spnO ⟨lo, hi⟩))
  have K0 := Lib.hid (two_od w (lifO L fv) (spnO ⟨lo, hi⟩))
  have K1 := Lib.hid (two_nw w (lifO L fv) (spnO ⟨lo, hi⟩))
  have HV := Lib.hid (hv.below HB.out (Nat.le_refl _))
  have HO := Lib.hid (@balR_ok L ⟨lo, hi⟩)
  have HN := Lib.hid (@balR_no L ⟨lo, hi⟩)
  clear hv
  cases hok : okB L
  · have HK := Lib.hid (chkE_no (x := 0) hok).symm
    have HE : balE L ⟨lo, hi⟩ = 50 := (chkE_no hok).symm
    have HR := Lib.hid ((HN.out (by rw [HE]; decide)).trans (by rw [HE]))
    clear hok HE
    go_enter Try.func26, Try.ntmps26
    go_wp2_with fail
    generalize (w.alloc (lifO L fv)).alloc (spnO ⟨lo, hi⟩) = wA at *
    refine (int_is HK.out (rCheck_any L fv _ HV.out)).mono ?_
    rintro e w1 ⟨rfl, hb1⟩
    go_wp2
    go_ret3
    exact ⟨by first | (rw [HR.out]; done) | (rw [HR.out]; rfl), HB.out.trans (hb1.mono HB.out.size)⟩
  · have HK := Lib.hid (chkE_ok (x := 0) hok).symm
    have hL := ok_of hok
    have f1 := Nat.le_of_succ_le hL.f1
    have HE := (show balE L ⟨lo, hi⟩ = fitE (spB ⟨lo, hi⟩ L.rat) from (chkE_ok hok).symm)
    cases hq : spB ⟨lo, hi⟩ L.rat
    · have HQ := Lib.hid (show (spB ⟨0, 0⟩ L.top && spB ⟨lo, hi⟩ L.rat) = false by rw [hq, Bool.and_false])
      rw [hq] at HE
      have HR := Lib.hid ((HN.out (by rw [HE]; decide)).trans (by rw [HE]))
      clear hok HE hq hL
      go_enter Try.func26, Try.ntmps26
      go_wp2_with fail
      generalize (w.alloc (lifO L fv)).alloc (spnO ⟨lo, hi⟩) = wA at *
      refine (int_is HK.out (rCheck_any L fv _ HV.out)).mono ?_
      rintro e w1 ⟨rfl, hb1⟩
      have c0 := block_cell (keepZ K0.out hb1)
      have c1 := block_cell (keepZ K1.out hb1)
      go_wp2_with fail
      refine (bool_is HQ.out (rSpans_any L fv ⟨0, 0⟩ ⟨lo, hi⟩ _ (HV.out.below hb1 (Nat.le_refl _)) f1)).mono ?_
      rintro e w2 ⟨rfl, hb2⟩
      go_wp2
      go_ret3
      exact ⟨by first | (rw [HR.out]; done) | (rw [HR.out]; rfl), HB.out.trans ((hb1.trans (hb2.mono hb1.size)).mono HB.out.size)⟩
    · have HQ := Lib.hid (show (spB ⟨0, 0⟩ L.top && spB ⟨lo, hi⟩ L.rat) = true by rw [hq, spZero hL]; rfl)
      rw [hq] at HE
      have HR := Lib.hid (HO.out HE)
      obtain ⟨t1, t2, t3⟩ := sp_of hq
      dsimp only at t1 t2 t3
      have hc1 := hL.c1
      have hc2 := hL.c2
      have hr2 := hL.r2
      have htp := hL.top
      obtain ⟨w1e, w2e, w3e, n1, n2⟩ := bal_wor hL hq
      obtain ⟨m1, m2, m3, m4⟩ := bal_mid hL t1 t2 t3
      have hrt := mul_bd (A := 100) (B := 1000) hL.p1 hL.p2 (show 0 ≤ L.top by omega) htp.2
      have hcs := (hL.car (x := 0) (ld := hi) (Int.le_refl _) (by omega) (by omega) t3).2.2
      have HS := Lib.hid (fun w1 (h : InAt w1 fv L.fl) => rsides_any L fv 0 hi w1 h hL (Int.le_refl _) (by omega) (by omega) t3)
      have HT := Lib.hid (fun w1 (hv : InAt w1 fv L.fl) => rtop_any L fv w1 hv f1)
      have HWn := Lib.hid (fun (n : Int) (n1 : 1 ≤ n) (n2 : n ≤ 100000) w1 (h : InAt w1 fv L.fl) => rWorst_any L fv ⟨lo, hi⟩ n w1 h hL hq n1 n2)
      have HW1 := Lib.hid w1e
      have HW2 := Lib.hid (w2e (balN L ⟨lo, hi⟩ - 1) (by omega))
      have e0 : wrap64 (L.rop * L.top) = L.rop * L.top := wrap64_in (by omega) (by omega)
      have HM1 := Lib.hid m1
      have HM2 := Lib.hid m2
      have HM3 := Lib.hid (show (if 100000 < L.car + (lo + hi) / 2 then 100000 else L.car + (lo + hi) / 2) = balN L ⟨lo, hi⟩ by rw [min_is, m3])
      clear hok HE hq hL w1e w2e w3e m1 m2 m3
      go_enter Try.func26, Try.ntmps26
      go_wp2_with fail
      generalize (w.alloc (lifO L fv)).alloc (spnO ⟨lo, hi⟩) = wA at *
      refine (int_is HK.out (rCheck_any L fv _ HV.out)).mono ?_
      rintro e w1 ⟨rfl, hb1⟩
      have c0 := block_cell (keepZ K0.out hb1)
      have c1 := block_cell (keepZ K1.out hb1)
      go_wp2_with fail
      refine (bool_is HQ.out (rSpans_any L fv ⟨0, 0⟩ ⟨lo, hi⟩ _ (HV.out.below hb1 (Nat.le_refl _)) f1)).mono ?_
      rintro e w2 ⟨rfl, hb2⟩
      have hbc := hb1.trans (hb2.mono hb1.size)
      clear hb1 hb2 c0 c1
      have c0 := block_cell (keepZ K0.out hbc)
      have c1 := block_cell (keepZ K1.out hbc)
      go_wp2_with fail
      refine (HS.out _ (HV.out.below hbc (Nat.le_refl _))).mono ?_
      rintro e w3 ⟨rfl, hb3⟩
      have hbd := hbc.trans (hb3.mono hbc.size)
      clear hbc hb3 c0 c1
      have c0 := block_cell (keepZ K0.out hbd)
      have c1 := block_cell (keepZ K1.out hbd)
      go_wp2_with fail
      refine (HT.out _ (HV.out.below hbd (Nat.le_refl _))).mono ?_
      rintro e w4 ⟨rfl, hb4⟩
      have hbe := hbd.trans (hb4.mono hbd.size)
      clear hbd hb4 c0 c1
      have c0 := block_cell (keepZ K0.out hbe)
      have c1 := block_cell (keepZ K1.out hbe)
      go_upto_region 8 with fail
      generalize L.rop * L.top = RT at *
      generalize L.carS 0 hi = C at *
      generalize balN L ⟨lo, hi⟩ = N at *
      generalize balW L ⟨lo, hi⟩ = BW0 at *
      go_cut [4] (fun s wx => s = .int .i64 N ∧ w4 = wx)
      case first =>
        go_wp2
        all_goals
          go_meet
          exact ⟨by
            have h1 := HM1.out
            have h2 := HM2.out
            have h3 := Int.tdiv_eq_ediv_of_nonneg (a := C + (L.car + lo - RT)) (b := 2) (by omega)
            rw [← HM3.out]
            split <;> (first | rfl | (congr 1; omega) | (exfalso; omega)), rfl⟩
      case rest =>
        obtain ⟨rfl, rfl⟩ := hcut
        have HBE := Lib.hid hbe
        clear hbe c0 c1
        go_wp2_with fail
        go_loopw [4] (fun x wr => x = .int .i64 N ∧ Hid (Below wA.heap.size wA wr)) (fun _ _ => 0)
        case atStart => exact ⟨rfl, HBE⟩
        case round =>
          obtain ⟨rfl, hb⟩ := hrel
          have hbc := hb.out
          have y0 := bw_cells (B := wr.heap.size) (keepZ K0.out hbc) (lt_of_block (keepZ K0.out hbc))
          have y1 := bw_cells (B := wr.heap.size) (keepZ K1.out hbc) (lt_of_block (keepZ K1.out hbc))
          have HVr := Lib.hid (HV.out.below hbc (Nat.le_refl _))
          by_cases hN : 1 < N
          · have hd : decide (1 < N) = true := decide_eq_true hN
            have hd2 : decide (worM L ⟨lo, hi⟩ (N - 1) ≤ worM L ⟨lo, hi⟩ N) = false := decide_eq_false (by have := HW1.out; have := HW2.out; omega)
            have e5 : IntKind.i64.wrap (N - 1) = N - 1 := wrap_i64_in (by omega) (by omega)
            have G1 := Lib.hid (HWn.out (N - 1) (by omega) (by omega))
            have G2 := Lib.hid (HWn.out N (by omega) (by omega))
            go_wp2_with fail
            refine wp_region_below (by kernel_rfl) (by kernel_rfl) (Below.refl wr.heap.size wr) ?_
            repeat ((with_reducible refine wpQuiet_step (fun K hK => ?_)); go_simp; first | (refine hK _ ?_; clear hK K) | (apply Exists.intro; refine ⟨fun _ => ?_, hK _ ?_⟩; (first | (go_at_call 43; with_reducible exact bw_call (Nat.le_refl _) (G1.out _ (HVr.out.below (BW.b _) (Nat.le_refl _)))) | (go_at_call 43; with_reducible exact bw_call (Nat.le_refl _) (G2.out _ (HVr.out.below (BW.b _) (Nat.le_refl _))))); clear hK K))
            refine wpQuiet_nil ?_
            intro wq hwq0
            have hwq := bw_out hwq0
            clear hwq0
            have hbq := hbc.trans (hwq.mono hbc.size)
            have c0 := block_cell (keepZ K0.out hbq)
            have c1 := block_cell (keepZ K1.out hbq)
            go_wp2_with fail
            refine (G2.out _ (HV.out.below hbq (Nat.le_refl _))).mono ?_
            rintro e w6 ⟨rfl, hb6⟩
            rw [HW1.out]
            go_wp2
            go_ret3
            exact ⟨by first | (rw [HR.out]; done) | (rw [HR.out]; rfl), HB.out.trans ((hbq.trans (hb6.mono hbq.size)).mono HB.out.size)⟩
          · have hd : decide (1 < N) = false := decide_eq_false hN
            have G2 := Lib.hid (HWn.out N (by omega) (by omega))
            go_wp2_with fail
            refine wp_region_below (by kernel_rfl) (by kernel_rfl) (Below.refl wr.heap.size wr) ?_
            repeat ((with_reducible refine wpQuiet_step (fun K hK => ?_)); go_simp; first | (refine hK _ ?_; clear hK K) | (apply Exists.intro; refine ⟨fun _ => ?_, hK _ ?_⟩; (fail); clear hK K))
            refine wpQuiet_nil ?_
            intro wq hwq0
            have hwq := bw_out hwq0
            clear hwq0
            have hbq := hbc.trans (hwq.mono hbc.size)
            have c0 := block_cell (keepZ K0.out hbq)
            have c1 := block_cell (keepZ K1.out hbq)
            go_wp2_with fail
            refine (G2.out _ (HV.out.below hbq (Nat.le_refl _))).mono ?_
            rintro e w6 ⟨rfl, hb6⟩
            rw [HW1.out]
            go_wp2
            go_ret3
            exact ⟨by first | (rw [HR.out]; done) | (rw [HR.out]; rfl), HB.out.trans ((hbq.trans (hb6.mono hbq.size)).mono HB.out.size)⟩

end Go.Proofs.Ytnefbiaopconkaa
