/- LiftBalanced walked. -/
import Derived.Test.YtnefbiaopconkaaJs
namespace Go.Proofs.Ytnefbiaopconkaa
open Go.RowKit

theorem sidR_in {L : Lif} (hok : okB L = true) {h ld : Int} (h1 : 0 ≤ h) (h2 : h ≤ L.top) (l1 : 0 ≤ ld) (l2 : ld ≤ L.rat) : sidR L h ld = (L.carS h ld, L.couS h, 0) :=
  sidR_ok (chk_zero.2 ⟨hok, by simp only [Bool.and_eq_true, inB_iff]; exact ⟨⟨h1, h2⟩, l1, l2⟩⟩)

theorem ok_setC {L : Lif} (hok : okB L = true) {n : Int} (n1 : 1 ≤ n) (n2 : n ≤ 100000) : okB (L.setC n) = true := by
  have h : okB L = (wtB L && flB L.fl && grB L && moB L && stB L) := rfl
  rw [hok] at h
  have h2 := h.symm
  simp only [Bool.and_eq_true] at h2
  obtain ⟨⟨⟨⟨a, b⟩, c⟩, d⟩, e⟩ := h2
  have ha : wtB (L.setC n) = true := by
    simp only [wtB, Bool.and_eq_true, inB_iff] at a ⊢
    exact ⟨⟨⟨a.1.1.1, n1, n2⟩, a.1.2⟩, a.2⟩
  show (wtB (L.setC n) && flB L.fl && grB L && moB L && stB L) = true
  rw [ha, b, c, d, e]
  rfl

theorem sid_arg {L : Lif} (hok : okB L = true) {h ld : Int} (hn : (inB h 0 L.top && inB ld 0 L.rat) = false) : sidR L h ld = (0, 0, 1) := by
  have he : sidE L h ld = 1 := (chk_arg hok hn).symm
  rw [sidR_no (by rw [he]; decide), he]

/-- Inside the spans no difference is greater than the one of the best counterweight. -/
theorem bal_in_all {L : Lif} (hL : LOk L) {t : Spn} (ht : spB t L.rat = true) {h ld : Int} (h1 : 0 ≤ h) (h2 : h ≤ L.top) (l1 : t.lo ≤ ld) (l2 : ld ≤ t.hi) :
    max ((L.setC (balN L t)).carS h ld - (L.setC (balN L t)).couS h) ((L.setC (balN L t)).couS h - (L.setC (balN L t)).carS h ld) ≤ balW L t := by
  obtain ⟨t1, t2, t3⟩ := sp_of ht
  obtain ⟨b1, _, _, _, _⟩ := bal_wor hL ht
  rw [wor_eq hL ht] at b1
  have c1 := Int.mul_le_mul_of_nonneg_left (show L.top - h ≤ L.top by omega) hL.p1
  have c2 := Int.mul_nonneg hL.p1 h1
  have c3 := Int.mul_le_mul_of_nonneg_left h2 hL.p1
  have c4 : 0 ≤ L.rop * (L.top - h) := Int.mul_nonneg hL.p1 (by omega)
  show max (L.car + ld + L.rop * (L.top - h) - (balN L t + L.rop * h)) (balN L t + L.rop * h - (L.car + ld + L.rop * (L.top - h))) ≤ balW L t
  generalize L.rop * (L.top - h) = x at *
  generalize L.rop * h = y at *
  generalize L.rop * L.top = z at *
  omega

set_option maxRecDepth 100000 in
set_option maxHeartbeats 4000000 in
theorem lawBalanced_any (L : Lif) (fv : Value) (t : Spn) (ph pl pa : Int) (w : World) (hv : InAt w fv L.fl) :
    Calls Try.prog 10 #[lifV L fv, spnV t, placeV ph pl pa] w fun e w' => e = .returned (.bool true) ∧ Below w.heap.size w w' := by
  obtain ⟨lo, hi⟩ := t
  have HB := Lib.hid (blw3 w (lifO L fv) (spnO ⟨lo, hi⟩) (placeO ph pl pa))
  have K0 := Lib.hid (three_0 w (lifO L fv) (spnO ⟨lo, hi⟩) (placeO ph pl pa))
  have K1 := Lib.hid (three_1 w (lifO L fv) (spnO ⟨lo, hi⟩) (placeO ph pl pa))
  have K2 := Lib.hid (three_2 w (lifO L fv) (spnO ⟨lo, hi⟩) (placeO ph pl pa))
  have HV := Lib.hid (hv.below HB.out (Nat.le_refl _))
  have HV0 := Lib.hid hv
  go_enter Try.func10, Try.ntmps10
  go_wp2_with fail
  generalize ((w.alloc (lifO L fv)).alloc (spnO ⟨lo, hi⟩)).alloc (placeO ph pl pa) = wA at *
  refine (far_any L fv _ HV.out).mono ?_
  rintro e w1 ⟨rfl, hb1⟩
  have HB1 := Lib.hid hb1
  clear hb1
  cases hfar : decide (30 < (L.fl.length : Int))
  rotate_left
  · go_wp2_with fail
    refine (works_any _).mono ?_
    rintro e w2 ⟨rfl, hb2⟩
    go_wp2
    go_ret
    exact ⟨rfl, HB.out.trans ((HB1.out.trans (hb2.mono HB1.out.size)).mono HB.out.size)⟩
  clear hfar
  have c0 := block_cell (keepZ K0.out HB1.out)
  cases hok : okB L
  · have HK := Lib.hid (chkE_no (x := 0) hok).symm
    clear hok
    go_wp2_with fail
    refine (int_is HK.out (rCheck_any L fv _ (HV.out.below HB1.out (Nat.le_refl _)))).mono ?_
    rintro e w2 ⟨rfl, hb2⟩
    have HB2 := Lib.hid (HB.out.trans ((HB1.out.trans (hb2.mono HB1.out.size)).mono HB.out.size))
    go_wp2_with fail
    refine (works_any _).mono ?_
    rintro e wz ⟨rfl, hbz⟩
    go_wp2
    go_ret
    exact ⟨rfl, (HB2.out).trans (hbz.mono (HB2.out).size)⟩
  have HOK := Lib.hid hok
  have HK := Lib.hid (chkE_ok (x := 0) hok).symm
  have hL := ok_of hok
  have f1 := Nat.le_of_succ_le hL.f1
  clear hok
  go_wp2_with fail
  refine (int_is HK.out (rCheck_any L fv _ (HV.out.below HB1.out (Nat.le_refl _)))).mono ?_
  rintro e w2 ⟨rfl, hb2⟩
  have HB2 := Lib.hid (HB1.out.trans (hb2.mono HB1.out.size))
  clear c0 hb2
  have c0 := block_cell (keepZ K0.out HB2.out)
  have c1 := block_cell (keepZ K1.out HB2.out)
  cases hq : spB ⟨lo, hi⟩ L.rat
  · have HQ := Lib.hid (show (spB ⟨0, 0⟩ L.top && spB ⟨lo, hi⟩ L.rat) = false by rw [hq, Bool.and_false])
    clear hq hL
    go_wp2_with fail
    refine (bool_is HQ.out (rSpans_any L fv ⟨0, 0⟩ ⟨lo, hi⟩ _ (HV.out.below HB2.out (Nat.le_refl _)) f1)).mono ?_
    rintro e w3 ⟨rfl, hb3⟩
    have HB3 := Lib.hid (HB.out.trans ((HB2.out.trans (hb3.mono HB2.out.size)).mono HB.out.size))
    go_wp2_with fail
    refine (works_any _).mono ?_
    rintro e wz ⟨rfl, hbz⟩
    go_wp2
    go_ret
    exact ⟨rfl, (HB3.out).trans (hbz.mono (HB3.out).size)⟩
  have HQ := Lib.hid (show (spB ⟨0, 0⟩ L.top && spB ⟨lo, hi⟩ L.rat) = true by rw [hq, spZero hL]; rfl)
  have HR := Lib.hid (balR_ok (chk_zero.2 ⟨HOK.out, hq⟩))
  obtain ⟨t1, t2, t3⟩ := sp_of hq
  dsimp only at t1 t2 t3
  obtain ⟨_, w2e, w3e, n1, n2⟩ := bal_wor hL hq
  have HW2 := Lib.hid w2e
  have HW3 := Lib.hid w3e
  have HWn := Lib.hid (fun (n : Int) (n1 : 1 ≤ n) (n2 : n ≤ 100000) w1 (h : InAt w1 fv L.fl) => rWorst_any L fv ⟨lo, hi⟩ n w1 h hL hq n1 n2)
  have HIN := Lib.hid (fun (h ld : Int) h1 h2 l1 l2 => bal_in_all hL hq (h := h) (ld := ld) h1 h2 l1 l2)
  have HOK2 := Lib.hid (ok_setC HOK.out n1 n2)
  have HL2 := Lib.hid (hL.setC n1 n2)
  clear hq hL w2e w3e
  go_wp2_with fail
  refine (bool_is HQ.out (rSpans_any L fv ⟨0, 0⟩ ⟨lo, hi⟩ _ (HV.out.below HB2.out (Nat.le_refl _)) f1)).mono ?_
  rintro e w3 ⟨rfl, hb3⟩
  have HB3 := Lib.hid (HB2.out.trans (hb3.mono HB2.out.size))
  clear c0 c1 hb3
  have c0 := block_cell (keepZ K0.out HB3.out)
  have c1 := block_cell (keepZ K1.out HB3.out)
  go_wp2_with fail
  refine (lBalance_any L fv ⟨lo, hi⟩ _ (HV.out.below HB3.out (Nat.le_refl _))).mono ?_
  rintro e w4 ⟨rfl, hb4⟩
  have HB4 := Lib.hid (HB3.out.trans (hb4.mono HB3.out.size))
  rw [HR.out]
  clear c0 c1 hb4
  have c0 := block_cell (keepZ K0.out HB4.out)
  have c1 := block_cell (keepZ K1.out HB4.out)
  have c2 := block_cell (keepZ K2.out HB4.out)
  generalize balN L ⟨lo, hi⟩ = N at *
  generalize balW L ⟨lo, hi⟩ = BW0 at *
  dsimp only
  go_upto_region 6 with fail
  go_cut [53] (fun s53 wx => ∃ q : Bool, s53 = .bool q ∧ Hid (q = true → 1 ≤ pa ∧ pa ≤ 100000) ∧ w4 = wx)
  case first =>
    go_wp2
    all_goals
      go_meet
      exact ⟨_, rfl, Lib.hid (by intro h; first | (simp_all; done) | (simp_all; omega)), rfl⟩
  case rest =>
    obtain ⟨q, rfl, HQI, rfl⟩ := hcut
    go_upto_if 53 with (fail)
    go_cut [] (fun wx => Hid (Below wA.heap.size wA wx))
    case first =>
      cases q
      · go_wp2_with fail
        go_meet
        exact HB4
      · obtain ⟨p0, p1⟩ := HQI.out rfl
        have G := Lib.hid (HWn.out pa p0 p1)
        go_wp2_with fail
        refine (G.out _ (HV.out.below HB4.out (Nat.le_refl _))).mono ?_
        rintro e w5 ⟨rfl, hb5⟩
        have HB5 := Lib.hid (HB4.out.trans (hb5.mono HB4.out.size))
        clear c0 c1 c2
        have c2 := block_cell (keepZ K2.out HB5.out)
        have hx : BW0 ≤ worM L ⟨lo, hi⟩ pa ∧ (pa < N → BW0 < worM L ⟨lo, hi⟩ pa) := by
          by_cases hp : pa < N
          · have := HW2.out pa hp; exact ⟨by omega, fun _ => this⟩
          · have := HW3.out pa (by omega) p1; exact ⟨this, fun h => absurd h hp⟩
        generalize worM L ⟨lo, hi⟩ pa = X at *
        obtain ⟨x1, x2⟩ := hx
        by_cases hp : pa < N
        · have x3 := x2 hp
          have x4 : (X == BW0) = false := by simp; omega
          clear x2
          go_wp2_with fail
          go_meet
          exact HB5
        · clear x2
          go_wp2_with fail
          all_goals
            go_meet
            exact HB5
    case rest =>
      have HBX := hcut
      clear hcut c0 c1 c2 HQI
      have c0 := block_cell (keepZ K0.out HBX.out)
      have c1 := block_cell (keepZ K1.out HBX.out)
      have c2 := block_cell (keepZ K2.out HBX.out)
      have f0 := block_free (keepZ K0.out HBX.out)
      have HBW := Lib.hid (HB.out.trans (HBX.out.mono HB.out.size))
      by_cases hl1 : pl < lo
      · go_wp2_with fail
        refine (works_any _).mono ?_
        rintro e wz ⟨rfl, hbz⟩
        go_wp2
        go_ret
        exact ⟨rfl, (HBW.out).trans (hbz.mono (HBW.out).size)⟩
      by_cases hl2 : hi < pl
      · go_wp2_with fail
        refine (works_any _).mono ?_
        rintro e wz ⟨rfl, hbz⟩
        go_wp2
        go_ret
        exact ⟨rfl, (HBW.out).trans (hbz.mono (HBW.out).size)⟩
      have k0 := block_set (keepZ K0.out HBX.out) 1 (.int .i64 N)
      have k2 := block_set_other (keepZ K2.out HBX.out) (p := ⟨w.heap.size, 1, none⟩) (by simp) (.int .i64 N)
      have HB6 := Lib.hid (HBW.out.setCell (p := ⟨w.heap.size, 1, none⟩) (Nat.le_refl _) (.int .i64 N))
      have HV6 := Lib.hid (HV0.out.below HB6.out (Nat.le_refl _))
      go_wp2_with fail
      generalize wc.setCell ⟨w.heap.size, 1, none⟩ (.int .i64 N) = wB at *
      refine (lSides_any (L.setC N) fv ph pl _ HV6.out).mono ?_
      rintro e w7 ⟨rfl, hb7⟩
      have HB7 := Lib.hid (HB6.out.trans (hb7.mono HB6.out.size))
      cases hh : inB ph 0 L.top
      · have HR2 := Lib.hid (sid_arg HOK2.out (h := ph) (ld := pl) (show (inB ph 0 (L.setC N).top && inB pl 0 (L.setC N).rat) = false by rw [show (L.setC N).top = L.top from rfl, hh]; rfl))
        rw [HR2.out]
        clear c0 c1 c2 f0 k0 k2 hb7
        go_wp2_with fail
        refine (works_any _).mono ?_
        rintro e wz ⟨rfl, hbz⟩
        go_wp2
        go_ret
        exact ⟨rfl, (HB7.out).trans (hbz.mono (HB7.out).size)⟩
      · have hh2 := inB_iff.1 hh
        have HR2 := Lib.hid (sidR_in HOK2.out (h := ph) (ld := pl) hh2.1 hh2.2 (show 0 ≤ pl by omega) (show pl ≤ (L.setC N).rat by show pl ≤ L.rat; omega))
        have hcs := (HL2.out.car (x := ph) (ld := pl) hh2.1 hh2.2 (by omega) (show pl ≤ L.rat by omega)).2.2
        have hus := (HL2.out.cou (x := ph) hh2.1 hh2.2).2.2
        have hin := HIN.out ph pl hh2.1 hh2.2 (by omega) (by omega)
        rw [HR2.out]
        generalize (L.setC N).carS ph pl = C at *
        generalize (L.setC N).couS ph = U at *
        clear c0 c1 c2 f0 k0 k2 hb7
        by_cases hcu : C - U < U - C
        · have hy : U - C ≤ BW0 := by omega
          go_wp2_with fail
          refine (works_any _).mono ?_
          rintro e wz ⟨rfl, hbz⟩
          go_wp2
          go_ret
          exact ⟨rfl, (HB7.out).trans (hbz.mono (HB7.out).size)⟩
        · have hy : C - U ≤ BW0 := by omega
          go_wp2_with fail
          refine (works_any _).mono ?_
          rintro e wz ⟨rfl, hbz⟩
          go_wp2
          go_ret
          exact ⟨rfl, (HB7.out).trans (hbz.mono (HB7.out).size)⟩

end Go.Proofs.Ytnefbiaopconkaa
