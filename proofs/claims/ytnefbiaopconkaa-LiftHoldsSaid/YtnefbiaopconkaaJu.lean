/- LiftHolds walked. -/
import Derived.Test.YtnefbiaopconkaaJs
namespace Go.Proofs.Ytnefbiaopconkaa
open Go.RowKit

def horH (s : Spn) (k : Nat) : Int := if k % 2 = 1 then s.hi else s.lo
def orK (L : Lif) (s t : Spn) (a : Int) : Nat → Bool
  | 0 => false
  | k + 1 => orK L s t a k || slipM L (horH s k) (worL t k) a

theorem or_four {L : Lif} (hL : LOk L) {s t : Spn} (hs : spB s L.top = true) (ht : spB t L.rat = true) {a : Int} (ha : 0 ≤ a) (ha2 : a ≤ 1000) : orK L s t a 4 = swM L s t a := by
  have h := sw_four hL hs ht ha ha2
  have e : orK L s t a 4 = ((((false || slipM L s.lo t.lo a) || slipM L s.hi t.lo a) || slipM L s.lo t.hi a) || slipM L s.hi t.hi a) := rfl
  rw [e]
  revert h
  cases slipM L s.lo t.lo a <;> cases slipM L s.hi t.lo a <;> cases slipM L s.lo t.hi a <;> cases slipM L s.hi t.hi a <;> cases swM L s t a <;> simp

theorem slpR_in {L : Lif} (hok : okB L = true) {h ld a : Int} (h1 : 0 ≤ h) (h2 : h ≤ L.top) (l1 : 0 ≤ ld) (l2 : ld ≤ L.rat) (a1 : 0 ≤ a) (a2 : a ≤ 999) : slpR L h ld a = (slipM L h ld a, 0) :=
  slpR_ok (chk_zero.2 ⟨hok, by simp only [Bool.and_eq_true, inB_iff]; exact ⟨⟨⟨h1, h2⟩, l1, l2⟩, a1, a2⟩⟩)

set_option maxRecDepth 100000 in
set_option maxHeartbeats 4000000 in
theorem lawHolds_any (L : Lif) (fv : Value) (s t : Spn) (ph pl pa : Int) (w : World) (hv : InAt w fv L.fl) :
    Calls Try.prog 9 #[lifV L fv, spsV s t, placeV ph pl pa] w fun e w' => e = .returned (.bool true) ∧ Below w.heap.size w w' := by
  obtain ⟨slo, shi⟩ := s
  obtain ⟨tlo, thi⟩ := t
  have HB := Lib.hid (blw3 w (lifO L fv) (spsO ⟨slo, shi⟩ ⟨tlo, thi⟩) (placeO ph pl pa))
  have K0 := Lib.hid (three_0 w (lifO L fv) (spsO ⟨slo, shi⟩ ⟨tlo, thi⟩) (placeO ph pl pa))
  have K1 := Lib.hid (three_1 w (lifO L fv) (spsO ⟨slo, shi⟩ ⟨tlo, thi⟩) (placeO ph pl pa))
  have K2 := Lib.hid (three_2 w (lifO L fv) (spsO ⟨slo, shi⟩ ⟨tlo, thi⟩) (placeO ph pl pa))
  have HV := Lib.hid (hv.below HB.out (Nat.le_refl _))
  go_enter Try.func9, Try.ntmps9
  go_wp2_with fail
  generalize ((w.alloc (lifO L fv)).alloc (spsO ⟨slo, shi⟩ ⟨tlo, thi⟩)).alloc (placeO ph pl pa) = wA at *
  refine (far_any L fv _ HV.out).mono ?_
  rintro e w1 ⟨rfl, hb1⟩
  have HB1 := Lib.hid hb1
  clear hb1
  cases hfar : decide (30 < (L.fl.length : Int))
  rotate_left
  · go_wp2_with fail
    refine (works_any _).mono ?_
    rintro e w2 ⟨rfl, hb2⟩
    go_wp2
    go_ret
    exact ⟨rfl, HB.out.trans ((HB1.out.trans (hb2.mono HB1.out.size)).mono HB.out.size)⟩
  clear hfar
  have c0 := block_cell (keepZ K0.out HB1.out)
  cases hok : okB L
  · have HK := Lib.hid (chkE_no (x := 0) hok).symm
    clear hok
    go_wp2_with fail
    refine (int_is HK.out (rCheck_any L fv _ (HV.out.below HB1.out (Nat.le_refl _)))).mono ?_
    rintro e w2 ⟨rfl, hb2⟩
    have HB2 := Lib.hid (HB.out.trans ((HB1.out.trans (hb2.mono HB1.out.size)).mono HB.out.size))
    go_wp2_with fail
    refine (works_any _).mono ?_
    rintro e wz ⟨rfl, hbz⟩
    go_wp2
    go_ret
    exact ⟨rfl, (HB2.out).trans (hbz.mono (HB2.out).size)⟩
  have HOK := Lib.hid hok
  have HK := Lib.hid (chkE_ok (x := 0) hok).symm
  have hL := ok_of hok
  have f1 := Nat.le_of_succ_le hL.f1
  clear hok
  go_wp2_with fail
  refine (int_is HK.out (rCheck_any L fv _ (HV.out.below HB1.out (Nat.le_refl _)))).mono ?_
  rintro e w2 ⟨rfl, hb2⟩
  have HB2 := Lib.hid (HB1.out.trans (hb2.mono HB1.out.size))
  clear c0 hb2
  have c0 := block_cell (keepZ K0.out HB2.out)
  have c1 := block_cell (keepZ K1.out HB2.out)
  cases hq : (spB ⟨slo, shi⟩ L.top && spB ⟨tlo, thi⟩ L.rat)
  · have HQ := Lib.hid hq
    clear hq hL
    go_wp2_with fail
    refine (bool_is HQ.out (rSpans_any L fv ⟨slo, shi⟩ ⟨tlo, thi⟩ _ (HV.out.below HB2.out (Nat.le_refl _)) f1)).mono ?_
    rintro e w3 ⟨rfl, hb3⟩
    have HB3 := Lib.hid (HB.out.trans ((HB2.out.trans (hb3.mono HB2.out.size)).mono HB.out.size))
    go_wp2_with fail
    refine (works_any _).mono ?_
    rintro e wz ⟨rfl, hbz⟩
    go_wp2
    go_ret
    exact ⟨rfl, (HB3.out).trans (hbz.mono (HB3.out).size)⟩
  have HQ := Lib.hid hq
  rw [Bool.and_eq_true] at hq
  obtain ⟨hs, ht⟩ := hq
  have hG := lst_spec (fun a => swM L ⟨slo, shi⟩ ⟨tlo, thi⟩ a) 1000
  obtain ⟨h0, h1⟩ := gripR_ok (s := ⟨slo, shi⟩) (t := ⟨tlo, thi⟩) (chk_zero.2 ⟨HOK.out, HQ.out⟩)
  rw [show lstN (fun a => swM L ⟨slo, shi⟩ ⟨tlo, thi⟩ a) 1000 = gripN L ⟨slo, shi⟩ ⟨tlo, thi⟩ from rfl] at hG
  obtain ⟨s1, s2, s3⟩ := sp_of hs
  obtain ⟨t1, t2, t3⟩ := sp_of ht
  dsimp only at s1 s2 s3 t1 t2 t3
  have HSW := Lib.hid (fun (h ld a a' : Int) h1 h2 l1 l2 ha haa ha2 hp => sw_of hL hs ht (h := h) (ld := ld) (a := a) (a' := a') h1 h2 l1 l2 ha haa ha2 hp)
  have HOR := Lib.hid (fun (a : Int) (h1 : 0 ≤ a) (h2 : a ≤ 1000) => or_four hL hs ht h1 h2)
  generalize gripN L ⟨slo, shi⟩ ⟨tlo, thi⟩ = g at *
  obtain ⟨g1, g2, g3⟩ := hG
  have HG2 := Lib.hid g2
  have HG3 := Lib.hid g3
  have H0 := Lib.hid h0
  have H1 := Lib.hid h1
  have HSLa := Lib.hid (fun (h ld a : Int) h1 h2 l1 l2 a1 a2 w1 (hv : InAt w1 fv L.fl) => (show Calls Try.prog 19 #[lifV L fv, .int .i64 h, .int .i64 ld, .int .i64 a] w1 fun e w' => e = .returned (.tuple #[.bool (slipM L h ld a), .int .i64 0]) ∧ Below w1.heap.size w1 w' from by
    have h3 := lSlips_any L fv h ld a w1 hv
    rw [slpR_in HOK.out h1 h2 l1 l2 a1 a2] at h3
    exact h3))
  clear hs ht g2 g3 h0 h1 hL
  go_wp2_with fail
  refine (bool_is HQ.out (rSpans_any L fv ⟨slo, shi⟩ ⟨tlo, thi⟩ _ (HV.out.below HB2.out (Nat.le_refl _)) f1)).mono ?_
  rintro e w3 ⟨rfl, hb3⟩
  have HB3 := Lib.hid (HB2.out.trans (hb3.mono HB2.out.size))
  clear c0 c1 hb3
  have c0 := block_cell (keepZ K0.out HB3.out)
  have c1 := block_cell (keepZ K1.out HB3.out)
  go_wp2_with fail
  refine (lGrip_any L fv ⟨slo, shi⟩ ⟨tlo, thi⟩ _ (HV.out.below HB3.out (Nat.le_refl _))).mono ?_
  rintro e w4 ⟨rfl, hb4⟩
  have HB4 := Lib.hid (HB3.out.trans (hb4.mono HB3.out.size))
  clear c0 c1 hb4
  have c0 := block_cell (keepZ K0.out HB4.out)
  have c1 := block_cell (keepZ K1.out HB4.out)
  have c2 := block_cell (keepZ K2.out HB4.out)
  by_cases hg : g = 0
  · have HR := Lib.hid (H0.out hg)
    rw [HR.out]
    have HSWN := Lib.hid (HG3.out (by omega))
    subst hg
    go_upto_region 6 with fail
    go_cut [9] (fun s9 wx => ∃ q : Bool, s9 = .bool q ∧ w4 = wx)
    case first =>
      go_wp2
      all_goals
        go_meet
        exact ⟨_, rfl, rfl⟩
    case rest =>
      obtain ⟨q, rfl, rfl⟩ := hcut
      clear c0 c1 c2
      have n0 : (0 : Int) ≤ 0 := Int.le_refl _
      have n1 : (0 : Int) ≤ 999 := by decide
      rw [show ((0 : Nat) : Int) = 0 from rfl] at HSWN
      go_wp2_with fail
      generalize w4 = wB at *
      have HVB := Lib.hid (HV.out.below HB4.out (Nat.le_refl _))
      have HSL := Lib.hid (fun (h ld : Int) h1 h2 l1 l2 => HSLa.out h ld 0 h1 h2 l1 l2 n0 n1)
      have HORN := Lib.hid (HOR.out 0 n0 (by omega))
      go_loopw [13, 14] (fun x i wr => ∃ k : Nat, k ≤ 4 ∧ i = .int .i64 k ∧ x = .bool (orK L ⟨slo, shi⟩ ⟨tlo, thi⟩ 0 k) ∧ Hid (Below wB.heap.size wB wr)) (fun _ i _ => 4 - (intOf i).toNat)
      case atStart => exact ⟨0, Nat.zero_le _, rfl, rfl, Lib.hid (Below.refl _ _)⟩
      case round =>
        obtain ⟨k, hk, rfl, rfl, hb⟩ := hrel
        have hbc := hb.out
        have hbx := HB4.out.trans (hbc.mono HB4.out.size)
        have c0 := block_cell (keepZ K0.out hbx)
        have c1 := block_cell (keepZ K1.out hbx)
        clear hbx
        by_cases hlt : k < 4
        · have hk4 : k = 0 ∨ k = 1 ∨ k = 2 ∨ k = 3 := by omega
          rcases hk4 with rfl | rfl | rfl | rfl
          · have HK := Lib.hid (show orK L ⟨slo, shi⟩ ⟨tlo, thi⟩ 0 (0 + 1) = (orK L ⟨slo, shi⟩ ⟨tlo, thi⟩ 0 0 || slipM L slo tlo 0) from rfl)
            generalize orK L ⟨slo, shi⟩ ⟨tlo, thi⟩ 0 0 = W at *
            have G := Lib.hid (HSL.out slo tlo (by omega) (by omega) (by omega) (by omega))
            go_wp2_with fail
            go_quiet (fail)
            go_wp2_with (go_at_call 19; refine (calls_big (A := wB) (B := wB.heap.size) (below_drewN hbc _) (Nat.le_refl _) (G.out _ (HVB.out.below (below_drewN hbc _) (Nat.le_refl _)))).mono ?_; rintro e w5 ⟨rfl, hb5⟩)
            all_goals
              go_roundw
              case rel => exact ⟨0 + 1, by omega, rfl, (by rw [HK.out]; simp_all), Lib.hid hb5⟩
              case measure => simp [intOf] <;> omega
          · have HK := Lib.hid (show orK L ⟨slo, shi⟩ ⟨tlo, thi⟩ 0 (1 + 1) = (orK L ⟨slo, shi⟩ ⟨tlo, thi⟩ 0 1 || slipM L shi tlo 0) from rfl)
            generalize orK L ⟨slo, shi⟩ ⟨tlo, thi⟩ 0 1 = W at *
            have G := Lib.hid (HSL.out shi tlo (by omega) (by omega) (by omega) (by omega))
            go_wp2_with fail
            go_quiet (fail)
            go_wp2_with (go_at_call 19; refine (calls_big (A := wB) (B := wB.heap.size) (below_drewN hbc _) (Nat.le_refl _) (G.out _ (HVB.out.below (below_drewN hbc _) (Nat.le_refl _)))).mono ?_; rintro e w5 ⟨rfl, hb5⟩)
            all_goals
              go_roundw
              case rel => exact ⟨1 + 1, by omega, rfl, (by rw [HK.out]; simp_all), Lib.hid hb5⟩
              case measure => simp [intOf] <;> omega
          · have HK := Lib.hid (show orK L ⟨slo, shi⟩ ⟨tlo, thi⟩ 0 (2 + 1) = (orK L ⟨slo, shi⟩ ⟨tlo, thi⟩ 0 2 || slipM L slo thi 0) from rfl)
            generalize orK L ⟨slo, shi⟩ ⟨tlo, thi⟩ 0 2 = W at *
            have G := Lib.hid (HSL.out slo thi (by omega) (by omega) (by omega) (by omega))
            go_wp2_with fail
            go_quiet (fail)
            go_wp2_with (go_at_call 19; refine (calls_big (A := wB) (B := wB.heap.size) (below_drewN hbc _) (Nat.le_refl _) (G.out _ (HVB.out.below (below_drewN hbc _) (Nat.le_refl _)))).mono ?_; rintro e w5 ⟨rfl, hb5⟩)
            all_goals
              go_roundw
              case rel => exact ⟨2 + 1, by omega, rfl, (by rw [HK.out]; simp_all), Lib.hid hb5⟩
              case measure => simp [intOf] <;> omega
          · have HK := Lib.hid (show orK L ⟨slo, shi⟩ ⟨tlo, thi⟩ 0 (3 + 1) = (orK L ⟨slo, shi⟩ ⟨tlo, thi⟩ 0 3 || slipM L shi thi 0) from rfl)
            generalize orK L ⟨slo, shi⟩ ⟨tlo, thi⟩ 0 3 = W at *
            have G := Lib.hid (HSL.out shi thi (by omega) (by omega) (by omega) (by omega))
            go_wp2_with fail
            go_quiet (fail)
            go_wp2_with (go_at_call 19; refine (calls_big (A := wB) (B := wB.heap.size) (below_drewN hbc _) (Nat.le_refl _) (G.out _ (HVB.out.below (below_drewN hbc _) (Nat.le_refl _)))).mono ?_; rintro e w5 ⟨rfl, hb5⟩)
            all_goals
              go_roundw
              case rel => exact ⟨3 + 1, by omega, rfl, (by rw [HK.out]; simp_all), Lib.hid hb5⟩
              case measure => simp [intOf] <;> omega
        · obtain rfl : k = 4 := by omega
          have HBZ := Lib.hid (HB.out.trans ((HB4.out.trans (hbc.mono HB4.out.size)).mono HB.out.size))
          rw [HORN.out, HSWN.out]
          clear c0 c1 hbc
          go_wp2_with fail
          refine (works_any _).mono ?_
          rintro e wz ⟨rfl, hbz⟩
          go_wp2
          go_ret
          exact ⟨rfl, (HBZ.out).trans (hbz.mono (HBZ.out).size)⟩
  · have HR := Lib.hid (H1.out hg)
    rw [HR.out]
    obtain ⟨m, rfl⟩ : ∃ m, g = m + 1 := ⟨g - 1, by omega⟩
    have e1 : ((m + 1 : Nat) : Int) - 1 = m := by omega
    rw [e1]
    clear e1 hg HR H0 H1
    have HSF := Lib.hid (HG2.out m (by omega))
    have HSN := Lib.hid (fun (h : m + 1 < 1000) => (show swM L ⟨slo, shi⟩ ⟨tlo, thi⟩ ((m : Int) + 1) = true from HG3.out h))
    go_upto_region 6 with fail
    go_cut [9] (fun s9 wx => ∃ q : Bool, s9 = .bool q ∧ Hid (q = true → slo ≤ ph ∧ ph ≤ shi ∧ tlo ≤ pl ∧ pl ≤ thi) ∧ w4 = wx)
    case first =>
      go_wp2
      all_goals
        go_meet
        exact ⟨_, rfl, Lib.hid (by intro h; first | (simp_all; done) | (simp_all; omega)), rfl⟩
    case rest =>
      obtain ⟨q, rfl, HQI, rfl⟩ := hcut
      go_upto_region 7 with fail
      go_cut [9, 96] (fun _ s96 wx => ∃ q2 : Bool, s96 = .bool q2 ∧ Hid (q2 = true → q = true ∧ 0 ≤ pa ∧ pa ≤ m) ∧ w4 = wx)
      case first =>
        go_wp2
        all_goals
          go_meet
          exact ⟨_, rfl, Lib.hid (by intro h; first | (simp_all; done) | (simp_all; omega)), rfl⟩
      case rest =>
        obtain ⟨q2, rfl, HQJ, rfl⟩ := hcut
        go_upto_if 96 with (fail)
        go_cut [] (fun wx => Hid (Below wA.heap.size wA wx))
        case first =>
          cases q2
          · go_wp2_with fail
            go_meet
            exact HB4
          · obtain ⟨rfl, p0, p1⟩ := HQJ.out rfl
            obtain ⟨i1, i2, i3, i4⟩ := HQI.out rfl
            have HF : Hid (slipM L ph pl pa = false) := Lib.hid (by
              cases hp : slipM L ph pl pa
              · rfl
              · have := HSW.out ph pl pa m i1 i2 i3 i4 p0 p1 (by omega) hp
                rw [HSF.out] at this
                cases this)
            have G := Lib.hid (HSLa.out ph pl pa (by omega) (by omega) (by omega) (by omega) p0 (by omega))
            rw [HF.out] at G
            clear i1 i2 i3 i4 HQI HQJ
            go_wp2_with fail
            refine (G.out _ (HV.out.below HB4.out (Nat.le_refl _))).mono ?_
            rintro e w5 ⟨rfl, hb5⟩
            have HB5 := Lib.hid (HB4.out.trans (hb5.mono HB4.out.size))
            go_wp2_with fail
            go_meet
            exact HB5
        case rest =>
          have HBX := hcut
          clear hcut c0 c1 c2 HQI HQJ
          by_cases hm : m + 1 < 1000
          · have HSWN := Lib.hid (HSN.out hm)
            have n0 : (0 : Int) ≤ (m : Int) + 1 := by omega
            have n1 : (m : Int) + 1 ≤ 999 := by omega
            clear HSN HG2 HG3
            go_wp2_with fail
            generalize wc = wB at *
            have HVB := Lib.hid (HV.out.below HBX.out (Nat.le_refl _))
            have HSL := Lib.hid (fun (h ld : Int) h1 h2 l1 l2 => HSLa.out h ld ((m : Int) + 1) h1 h2 l1 l2 n0 n1)
            have HORN := Lib.hid (HOR.out ((m : Int) + 1) n0 (by omega))
            go_loopw [13, 14] (fun x i wr => ∃ k : Nat, k ≤ 4 ∧ i = .int .i64 k ∧ x = .bool (orK L ⟨slo, shi⟩ ⟨tlo, thi⟩ ((m : Int) + 1) k) ∧ Hid (Below wB.heap.size wB wr)) (fun _ i _ => 4 - (intOf i).toNat)
            case atStart => exact ⟨0, Nat.zero_le _, rfl, rfl, Lib.hid (Below.refl _ _)⟩
            case round =>
              obtain ⟨k, hk, rfl, rfl, hb⟩ := hrel
              have hbc := hb.out
              have hbx := HBX.out.trans (hbc.mono HBX.out.size)
              have c0 := block_cell (keepZ K0.out hbx)
              have c1 := block_cell (keepZ K1.out hbx)
              clear hbx
              by_cases hlt : k < 4
              · have hk4 : k = 0 ∨ k = 1 ∨ k = 2 ∨ k = 3 := by omega
                rcases hk4 with rfl | rfl | rfl | rfl
                · have HK := Lib.hid (show orK L ⟨slo, shi⟩ ⟨tlo, thi⟩ ((m : Int) + 1) (0 + 1) = (orK L ⟨slo, shi⟩ ⟨tlo, thi⟩ ((m : Int) + 1) 0 || slipM L slo tlo ((m : Int) + 1)) from rfl)
                  generalize orK L ⟨slo, shi⟩ ⟨tlo, thi⟩ ((m : Int) + 1) 0 = W at *
                  have G := Lib.hid (HSL.out slo tlo (by omega) (by omega) (by omega) (by omega))
                  go_wp2_with fail
                  go_quiet (fail)
                  go_wp2_with (go_at_call 19; refine (calls_big (A := wB) (B := wB.heap.size) (below_drewN hbc _) (Nat.le_refl _) (G.out _ (HVB.out.below (below_drewN hbc _) (Nat.le_refl _)))).mono ?_; rintro e w5 ⟨rfl, hb5⟩)
                  all_goals
                    go_roundw
                    case rel => exact ⟨0 + 1, by omega, rfl, (by rw [HK.out]; simp_all), Lib.hid hb5⟩
                    case measure => simp [intOf] <;> omega
                · have HK := Lib.hid (show orK L ⟨slo, shi⟩ ⟨tlo, thi⟩ ((m : Int) + 1) (1 + 1) = (orK L ⟨slo, shi⟩ ⟨tlo, thi⟩ ((m : Int) + 1) 1 || slipM L shi tlo ((m : Int) + 1)) from rfl)
                  generalize orK L ⟨slo, shi⟩ ⟨tlo, thi⟩ ((m : Int) + 1) 1 = W at *
                  have G := Lib.hid (HSL.out shi tlo (by omega) (by omega) (by omega) (by omega))
                  go_wp2_with fail
                  go_quiet (fail)
                  go_wp2_with (go_at_call 19; refine (calls_big (A := wB) (B := wB.heap.size) (below_drewN hbc _) (Nat.le_refl _) (G.out _ (HVB.out.below (below_drewN hbc _) (Nat.le_refl _)))).mono ?_; rintro e w5 ⟨rfl, hb5⟩)
                  all_goals
                    go_roundw
                    case rel => exact ⟨1 + 1, by omega, rfl, (by rw [HK.out]; simp_all), Lib.hid hb5⟩
                    case measure => simp [intOf] <;> omega
                · have HK := Lib.hid (show orK L ⟨slo, shi⟩ ⟨tlo, thi⟩ ((m : Int) + 1) (2 + 1) = (orK L ⟨slo, shi⟩ ⟨tlo, thi⟩ ((m : Int) + 1) 2 || slipM L slo thi ((m : Int) + 1)) from rfl)
                  generalize orK L ⟨slo, shi⟩ ⟨tlo, thi⟩ ((m : Int) + 1) 2 = W at *
                  have G := Lib.hid (HSL.out slo thi (by omega) (by omega) (by omega) (by omega))
                  go_wp2_with fail
                  go_quiet (fail)
                  go_wp2_with (go_at_call 19; refine (calls_big (A := wB) (B := wB.heap.size) (below_drewN hbc _) (Nat.le_refl _) (G.out _ (HVB.out.below (below_drewN hbc _) (Nat.le_refl _)))).mono ?_; rintro e w5 ⟨rfl, hb5⟩)
                  all_goals
                    go_roundw
                    case rel => exact ⟨2 + 1, by omega, rfl, (by rw [HK.out]; simp_all), Lib.hid hb5⟩
                    case measure => simp [intOf] <;> omega
                · have HK := Lib.hid (show orK L ⟨slo, shi⟩ ⟨tlo, thi⟩ ((m : Int) + 1) (3 + 1) = (orK L ⟨slo, shi⟩ ⟨tlo, thi⟩ ((m : Int) + 1) 3 || slipM L shi thi ((m : Int) + 1)) from rfl)
                  generalize orK L ⟨slo, shi⟩ ⟨tlo, thi⟩ ((m : Int) + 1) 3 = W at *
                  have G := Lib.hid (HSL.out shi thi (by omega) (by omega) (by omega) (by omega))
                  go_wp2_with fail
                  go_quiet (fail)
                  go_wp2_with (go_at_call 19; refine (calls_big (A := wB) (B := wB.heap.size) (below_drewN hbc _) (Nat.le_refl _) (G.out _ (HVB.out.below (below_drewN hbc _) (Nat.le_refl _)))).mono ?_; rintro e w5 ⟨rfl, hb5⟩)
                  all_goals
                    go_roundw
                    case rel => exact ⟨3 + 1, by omega, rfl, (by rw [HK.out]; simp_all), Lib.hid hb5⟩
                    case measure => simp [intOf] <;> omega
              · obtain rfl : k = 4 := by omega
                have HBZ := Lib.hid (HB.out.trans ((HBX.out.trans (hbc.mono HBX.out.size)).mono HB.out.size))
                rw [HORN.out, HSWN.out]
                clear c0 c1 hbc
                go_wp2_with fail
                refine (works_any _).mono ?_
                rintro e wz ⟨rfl, hbz⟩
                go_wp2
                go_ret
                exact ⟨rfl, (HBZ.out).trans (hbz.mono (HBZ.out).size)⟩
          · have HBW := Lib.hid (HB.out.trans (HBX.out.mono HB.out.size))
            have hm2 : 1000 ≤ (m : Int) + 1 := by omega
            go_wp2_with fail
            refine (works_any _).mono ?_
            rintro e wz ⟨rfl, hbz⟩
            go_wp2
            go_ret
            exact ⟨rfl, (HBW.out).trans (hbz.mono (HBW.out).size)⟩

end Go.Proofs.Ytnefbiaopconkaa
