/- Walks of layer 5 (lift): Spans, Grip of the specification. -/
import Derived.Test.YtnefbiaopconkaaJi
namespace Go.Proofs.Ytnefbiaopconkaa
open Go.RowKit

theorem spans_eq (L : Lif) (slo shi tlo thi : Int) : (spB ⟨slo, shi⟩ L.top && spB ⟨tlo, thi⟩ L.rat) =
    (decide (0 ≤ slo) && decide (slo ≤ shi) && decide (shi ≤ L.top) && decide (0 ≤ tlo) && decide (tlo ≤ thi) && decide (thi ≤ L.rat)) := by
  simp only [spB, inB, ← Bool.decide_and]
  congr 1
  exact propext ⟨fun h => by omega, fun h => by omega⟩

set_option maxRecDepth 100000 in
set_option maxHeartbeats 4000000 in
theorem rSpans_any (L : Lif) (fv : Value) (s t : Spn) (w : World) (hv : InAt w fv L.fl) (f1 : 1 ≤ L.fl.length) :
    Calls Try.prog 42 #[lifV L fv, spnV s, spnV t] w fun e w' => e = .returned (.bool (spB s L.top && spB t L.rat)) ∧ Below w.heap.size w w' := by
  obtain ⟨slo, shi⟩ := s
  obtain ⟨tlo, thi⟩ := t
  have HB := Lib.hid (blw3 w (lifO L fv) (spnO ⟨slo, shi⟩) (spnO ⟨tlo, thi⟩))
  have K0 := Lib.hid (three_0 w (lifO L fv) (spnO ⟨slo, shi⟩) (spnO ⟨tlo, thi⟩))
  have K1 := Lib.hid (three_1 w (lifO L fv) (spnO ⟨slo, shi⟩) (spnO ⟨tlo, thi⟩))
  have K2 := Lib.hid (three_2 w (lifO L fv) (spnO ⟨slo, shi⟩) (spnO ⟨tlo, thi⟩))
  have HV := Lib.hid (hv.below HB.out (Nat.le_refl _))
  have HS := Lib.hid (spans_eq L slo shi tlo thi)
  clear hv
  cases hb1 : decide (0 ≤ slo)
  · go_enter Try.func42, Try.ntmps42
    go_wp2_with fail
    generalize ((w.alloc (lifO L fv)).alloc (spnO ⟨slo, shi⟩)).alloc (spnO ⟨tlo, thi⟩) = wA at *
    have y0 := bw_cells (B := wA.heap.size) K0.out (lt_of_block K0.out)
    have y1 := bw_cells (B := wA.heap.size) K1.out (lt_of_block K1.out)
    have y2 := bw_cells (B := wA.heap.size) K2.out (lt_of_block K2.out)
    refine wp_region_below (by kernel_rfl) (by kernel_rfl) (Below.refl wA.heap.size wA) ?_
    repeat ((with_reducible refine wpQuiet_step (fun K hK => ?_)); go_simp; first | (refine hK _ ?_; clear hK K) | (apply Exists.intro; refine ⟨fun _ => ?_, hK _ ?_⟩; ((go_at_call 56; exact bw_call (Nat.le_refl _) (rtop_any L fv _ (HV.out.below (BW.b _) (Nat.le_refl _)) f1))); clear hK K))
    refine wpQuiet_nil ?_
    intro wq hwq0
    have hwq := bw_out hwq0
    clear hwq0
    go_wp2
    go_ret
    exact ⟨ret_bool (by rw [HS.out]; first | (simp_all; done) | (simp_all; intros; omega)), HB.out.trans (hwq.mono HB.out.size)⟩
  cases hb2 : decide (slo ≤ shi)
  · go_enter Try.func42, Try.ntmps42
    go_wp2_with fail
    generalize ((w.alloc (lifO L fv)).alloc (spnO ⟨slo, shi⟩)).alloc (spnO ⟨tlo, thi⟩) = wA at *
    have y0 := bw_cells (B := wA.heap.size) K0.out (lt_of_block K0.out)
    have y1 := bw_cells (B := wA.heap.size) K1.out (lt_of_block K1.out)
    have y2 := bw_cells (B := wA.heap.size) K2.out (lt_of_block K2.out)
    refine wp_region_below (by kernel_rfl) (by kernel_rfl) (Below.refl wA.heap.size wA) ?_
    repeat ((with_reducible refine wpQuiet_step (fun K hK => ?_)); go_simp; first | (refine hK _ ?_; clear hK K) | (apply Exists.intro; refine ⟨fun _ => ?_, hK _ ?_⟩; ((go_at_call 56; exact bw_call (Nat.le_refl _) (rtop_any L fv _ (HV.out.below (BW.b _) (Nat.le_refl _)) f1))); clear hK K))
    refine wpQuiet_nil ?_
    intro wq hwq0
    have hwq := bw_out hwq0
    clear hwq0
    go_wp2
    go_ret
    exact ⟨ret_bool (by rw [HS.out]; first | (simp_all; done) | (simp_all; intros; omega)), HB.out.trans (hwq.mono HB.out.size)⟩
  cases hb3 : decide (shi ≤ L.top)
  · go_enter Try.func42, Try.ntmps42
    go_wp2_with fail
    generalize ((w.alloc (lifO L fv)).alloc (spnO ⟨slo, shi⟩)).alloc (spnO ⟨tlo, thi⟩) = wA at *
    have y0 := bw_cells (B := wA.heap.size) K0.out (lt_of_block K0.out)
    have y1 := bw_cells (B := wA.heap.size) K1.out (lt_of_block K1.out)
    have y2 := bw_cells (B := wA.heap.size) K2.out (lt_of_block K2.out)
    refine wp_region_below (by kernel_rfl) (by kernel_rfl) (Below.refl wA.heap.size wA) ?_
    repeat ((with_reducible refine wpQuiet_step (fun K hK => ?_)); go_simp; first | (refine hK _ ?_; clear hK K) | (apply Exists.intro; refine ⟨fun _ => ?_, hK _ ?_⟩; ((go_at_call 56; exact bw_call (Nat.le_refl _) (rtop_any L fv _ (HV.out.below (BW.b _) (Nat.le_refl _)) f1))); clear hK K))
    refine wpQuiet_nil ?_
    intro wq hwq0
    have hwq := bw_out hwq0
    clear hwq0
    go_wp2
    go_ret
    exact ⟨ret_bool (by rw [HS.out]; first | (simp_all; done) | (simp_all; intros; omega)), HB.out.trans (hwq.mono HB.out.size)⟩
  cases hb4 : decide (0 ≤ tlo)
  · go_enter Try.func42, Try.ntmps42
    go_wp2_with fail
    generalize ((w.alloc (lifO L fv)).alloc (spnO ⟨slo, shi⟩)).alloc (spnO ⟨tlo, thi⟩) = wA at *
    have y0 := bw_cells (B := wA.heap.size) K0.out (lt_of_block K0.out)
    have y1 := bw_cells (B := wA.heap.size) K1.out (lt_of_block K1.out)
    have y2 := bw_cells (B := wA.heap.size) K2.out (lt_of_block K2.out)
    refine wp_region_below (by kernel_rfl) (by kernel_rfl) (Below.refl wA.heap.size wA) ?_
    repeat ((with_reducible refine wpQuiet_step (fun K hK => ?_)); go_simp; first | (refine hK _ ?_; clear hK K) | (apply Exists.intro; refine ⟨fun _ => ?_, hK _ ?_⟩; ((go_at_call 56; exact bw_call (Nat.le_refl _) (rtop_any L fv _ (HV.out.below (BW.b _) (Nat.le_refl _)) f1))); clear hK K))
    refine wpQuiet_nil ?_
    intro wq hwq0
    have hwq := bw_out hwq0
    clear hwq0
    go_wp2
    go_ret
    exact ⟨ret_bool (by rw [HS.out]; first | (simp_all; done) | (simp_all; intros; omega)), HB.out.trans (hwq.mono HB.out.size)⟩
  cases hb5 : decide (tlo ≤ thi)
  · go_enter Try.func42, Try.ntmps42
    go_wp2_with fail
    generalize ((w.alloc (lifO L fv)).alloc (spnO ⟨slo, shi⟩)).alloc (spnO ⟨tlo, thi⟩) = wA at *
    have y0 := bw_cells (B := wA.heap.size) K0.out (lt_of_block K0.out)
    have y1 := bw_cells (B := wA.heap.size) K1.out (lt_of_block K1.out)
    have y2 := bw_cells (B := wA.heap.size) K2.out (lt_of_block K2.out)
    refine wp_region_below (by kernel_rfl) (by kernel_rfl) (Below.refl wA.heap.size wA) ?_
    repeat ((with_reducible refine wpQuiet_step (fun K hK => ?_)); go_simp; first | (refine hK _ ?_; clear hK K) | (apply Exists.intro; refine ⟨fun _ => ?_, hK _ ?_⟩; ((go_at_call 56; exact bw_call (Nat.le_refl _) (rtop_any L fv _ (HV.out.below (BW.b _) (Nat.le_refl _)) f1))); clear hK K))
    refine wpQuiet_nil ?_
    intro wq hwq0
    have hwq := bw_out hwq0
    clear hwq0
    go_wp2
    go_ret
    exact ⟨ret_bool (by rw [HS.out]; first | (simp_all; done) | (simp_all; intros; omega)), HB.out.trans (hwq.mono HB.out.size)⟩
  cases hb6 : decide (thi ≤ L.rat)
  · go_enter Try.func42, Try.ntmps42
    go_wp2_with fail
    generalize ((w.alloc (lifO L fv)).alloc (spnO ⟨slo, shi⟩)).alloc (spnO ⟨tlo, thi⟩) = wA at *
    have y0 := bw_cells (B := wA.heap.size) K0.out (lt_of_block K0.out)
    have y1 := bw_cells (B := wA.heap.size) K1.out (lt_of_block K1.out)
    have y2 := bw_cells (B := wA.heap.size) K2.out (lt_of_block K2.out)
    refine wp_region_below (by kernel_rfl) (by kernel_rfl) (Below.refl wA.heap.size wA) ?_
    repeat ((with_reducible refine wpQuiet_step (fun K hK => ?_)); go_simp; first | (refine hK _ ?_; clear hK K) | (apply Exists.intro; refine ⟨fun _ => ?_, hK _ ?_⟩; ((go_at_call 56; exact bw_call (Nat.le_refl _) (rtop_any L fv _ (HV.out.below (BW.b _) (Nat.le_refl _)) f1))); clear hK K))
    refine wpQuiet_nil ?_
    intro wq hwq0
    have hwq := bw_out hwq0
    clear hwq0
    go_wp2
    go_ret
    exact ⟨ret_bool (by rw [HS.out]; first | (simp_all; done) | (simp_all; intros; omega)), HB.out.trans (hwq.mono HB.out.size)⟩
  · go_enter Try.func42, Try.ntmps42
    go_wp2_with fail
    generalize ((w.alloc (lifO L fv)).alloc (spnO ⟨slo, shi⟩)).alloc (spnO ⟨tlo, thi⟩) = wA at *
    have y0 := bw_cells (B := wA.heap.size) K0.out (lt_of_block K0.out)
    have y1 := bw_cells (B := wA.heap.size) K1.out (lt_of_block K1.out)
    have y2 := bw_cells (B := wA.heap.size) K2.out (lt_of_block K2.out)
    refine wp_region_below (by kernel_rfl) (by kernel_rfl) (Below.refl wA.heap.size wA) ?_
    repeat ((with_reducible refine wpQuiet_step (fun K hK => ?_)); go_simp; first | (refine hK _ ?_; clear hK K) | (apply Exists.intro; refine ⟨fun _ => ?_, hK _ ?_⟩; ((go_at_call 56; exact bw_call (Nat.le_refl _) (rtop_any L fv _ (HV.out.below (BW.b _) (Nat.le_refl _)) f1))); clear hK K))
    refine wpQuiet_nil ?_
    intro wq hwq0
    have hwq := bw_out hwq0
    clear hwq0
    go_wp2
    go_ret
    exact ⟨ret_bool (by rw [HS.out]; first | (simp_all; done) | (simp_all; intros; omega)), HB.out.trans (hwq.mono HB.out.size)⟩

theorem grip_eq {L : Lif} (hL : LOk L) {s t : Spn} (hs : spB s L.top = true) (ht : spB t L.rat = true) {k : Nat} (hk : k ≤ 1000) (h1 : ∀ i : Nat, k ≤ i → i < 1000 → swM L s t i = true) (h2 : ∀ i : Nat, i + 1 = k → swM L s t i = false) : gripN L s t = k :=
  lst_eq hk (fun i hi => by
    cases hq : swM L s t i
    · rfl
    · have h3 := sw_mono hL hs ht (a := i) (a' := ((k - 1 : Nat) : Int)) (by omega) (by omega) (by omega) hq
      rw [h2 (k - 1) (by omega)] at h3
      cases h3) (fun hlt => h1 k (Nat.le_refl _) hlt)

set_option maxRecDepth 100000 in
set_option maxHeartbeats 4000000 in
theorem rGrip_any (L : Lif) (fv : Value) (s t : Spn) (w : World) (hv : InAt w fv L.fl) :
    Calls Try.prog 24 #[lifV L fv, spnV s, spnV t] w fun e w' => e = .returned (pairV (gripR L s t)) ∧ Below w.heap.size w w' := by
  obtain ⟨slo, shi⟩ := s
  obtain ⟨tlo, thi⟩ := t
  have HB := Lib.hid (blw3 w (lifO L fv) (spnO ⟨slo, shi⟩) (spnO ⟨tlo, thi⟩))
  have K0 := Lib.hid (three_0 w (lifO L fv) (spnO ⟨slo, shi⟩) (spnO ⟨tlo, thi⟩))
  have K1 := Lib.hid (three_1 w (lifO L fv) (spnO ⟨slo, shi⟩) (spnO ⟨tlo, thi⟩))
  have K2 := Lib.hid (three_2 w (lifO L fv) (spnO ⟨slo, shi⟩) (spnO ⟨tlo, thi⟩))
  have HV := Lib.hid (hv.below HB.out (Nat.le_refl _))
  have HO := Lib.hid (@gripR_ok L ⟨slo, shi⟩ ⟨tlo, thi⟩)
  have HN := Lib.hid (@gripR_no L ⟨slo, shi⟩ ⟨tlo, thi⟩)
  clear hv
  cases hok : okB L
  · have HK := Lib.hid (chkE_no (x := 0) hok).symm
    have HE : gripE L ⟨slo, shi⟩ ⟨tlo, thi⟩ = 50 := (chkE_no hok).symm
    have HR := Lib.hid ((HN.out (by rw [HE]; decide)).trans (by rw [HE]))
    clear hok HE
    go_enter Try.func24, Try.ntmps24
    go_wp2_with fail
    generalize ((w.alloc (lifO L fv)).alloc (spnO ⟨slo, shi⟩)).alloc (spnO ⟨tlo, thi⟩) = wA at *
    refine (int_is HK.out (rCheck_any L fv _ HV.out)).mono ?_
    rintro e w1 ⟨rfl, hb1⟩
    go_wp2
    go_ret2
    exact ⟨by first | (rw [HR.out]; done) | (rw [HR.out]; rfl), HB.out.trans (hb1.mono HB.out.size)⟩
  · have HK := Lib.hid (chkE_ok (x := 0) hok).symm
    have hL := ok_of hok
    have f1 := Nat.le_of_succ_le hL.f1
    have HE := (show gripE L ⟨slo, shi⟩ ⟨tlo, thi⟩ = fitE (spB ⟨slo, shi⟩ L.top && spB ⟨tlo, thi⟩ L.rat) from (chkE_ok hok).symm)
    cases hq : (spB ⟨slo, shi⟩ L.top && spB ⟨tlo, thi⟩ L.rat)
    · have HQ := Lib.hid hq
      rw [hq] at HE
      have HR := Lib.hid ((HN.out (by rw [HE]; decide)).trans (by rw [HE]))
      clear hok HE hq hL
      go_enter Try.func24, Try.ntmps24
      go_wp2_with fail
      generalize ((w.alloc (lifO L fv)).alloc (spnO ⟨slo, shi⟩)).alloc (spnO ⟨tlo, thi⟩) = wA at *
      refine (int_is HK.out (rCheck_any L fv _ HV.out)).mono ?_
      rintro e w1 ⟨rfl, hb1⟩
      have c0 := block_cell (keepZ K0.out hb1)
      have c1 := block_cell (keepZ K1.out hb1)
      have c2 := block_cell (keepZ K2.out hb1)
      go_wp2_with fail
      refine (bool_is HQ.out (rSpans_any L fv ⟨slo, shi⟩ ⟨tlo, thi⟩ _ (HV.out.below hb1 (Nat.le_refl _)) f1)).mono ?_
      rintro e w2 ⟨rfl, hb2⟩
      go_wp2
      go_ret2
      exact ⟨by first | (rw [HR.out]; done) | (rw [HR.out]; rfl), HB.out.trans ((hb1.trans (hb2.mono hb1.size)).mono HB.out.size)⟩
    · have HQ := Lib.hid hq
      rw [hq] at HE
      have hE : gripE L ⟨slo, shi⟩ ⟨tlo, thi⟩ = 0 := HE
      obtain ⟨h0, h1⟩ := HO.out hE
      have HR0 := Lib.hid h0
      have HR1 := Lib.hid h1
      rw [Bool.and_eq_true] at hq
      obtain ⟨hs, ht⟩ := hq
      have HG := Lib.hid (fun (k : Nat) h1 h2 h3 => grip_eq (k := k) hL hs ht h1 h2 h3)
      obtain ⟨s1, s2, s3⟩ := sp_of hs
      obtain ⟨t1, t2, t3⟩ := sp_of ht
      dsimp only at s1 s2 s3 t1 t2 t3
      have H1 := Lib.hid (fun (a : Int) (q : Bool) (ha : 0 ≤ a) (ha2 : a ≤ 1000) (hq : slipM L slo tlo a = q) w1 (h : InAt w1 fv L.fl) => bool_is hq (rslips_any L fv slo tlo a w1 h hL (by omega) (by omega) (by omega) (by omega) ha ha2))
      have H2 := Lib.hid (fun (a : Int) (q : Bool) (ha : 0 ≤ a) (ha2 : a ≤ 1000) (hq : slipM L slo thi a = q) w1 (h : InAt w1 fv L.fl) => bool_is hq (rslips_any L fv slo thi a w1 h hL (by omega) (by omega) (by omega) (by omega) ha ha2))
      have H3 := Lib.hid (fun (a : Int) (q : Bool) (ha : 0 ≤ a) (ha2 : a ≤ 1000) (hq : slipM L shi tlo a = q) w1 (h : InAt w1 fv L.fl) => bool_is hq (rslips_any L fv shi tlo a w1 h hL (by omega) (by omega) (by omega) (by omega) ha ha2))
      have H4 := Lib.hid (fun (a : Int) (q : Bool) (ha : 0 ≤ a) (ha2 : a ≤ 1000) (hq : slipM L shi thi a = q) w1 (h : InAt w1 fv L.fl) => bool_is hq (rslips_any L fv shi thi a w1 h hL (by omega) (by omega) (by omega) (by omega) ha ha2))
      have HF := Lib.hid (fun (a : Int) (ha : 0 ≤ a) (ha2 : a ≤ 1000) => sw_four hL hs ht ha ha2)
      dsimp only at HF
      clear hok HE hL hs ht h0 h1 hE s1 s2 s3 t1 t2 t3
      go_enter Try.func24, Try.ntmps24
      go_wp2_with fail
      generalize ((w.alloc (lifO L fv)).alloc (spnO ⟨slo, shi⟩)).alloc (spnO ⟨tlo, thi⟩) = wA at *
      refine (int_is HK.out (rCheck_any L fv _ HV.out)).mono ?_
      rintro e w1 ⟨rfl, hb1⟩
      have c0 := block_cell (keepZ K0.out hb1)
      have c1 := block_cell (keepZ K1.out hb1)
      have c2 := block_cell (keepZ K2.out hb1)
      go_wp2_with fail
      refine (bool_is HQ.out (rSpans_any L fv ⟨slo, shi⟩ ⟨tlo, thi⟩ _ (HV.out.below hb1 (Nat.le_refl _)) f1)).mono ?_
      rintro e w2 ⟨rfl, hb2⟩
      have HB2 := Lib.hid (hb1.trans (hb2.mono hb1.size))
      clear hb1 hb2 c0 c1 c2
      go_wp2_with fail
      go_loopw [8] (fun x wr => ∃ k : Nat, k ≤ 1000 ∧ x = .int .i64 ((k : Int) - 1) ∧ Hid (∀ i : Nat, k ≤ i → i < 1000 → swM L ⟨slo, shi⟩ ⟨tlo, thi⟩ i = true) ∧ Hid (Below wA.heap.size wA wr)) (fun x _ => ((intOf x) + 1).toNat)
      case atStart => exact ⟨1000, Nat.le_refl _, rfl, Lib.hid (fun i h1 h2 => by omega), HB2⟩
      case round =>
        obtain ⟨k, hk, rfl, hA, hb⟩ := hrel
        have hbc := hb.out
        by_cases h0 : k = 0
        · have hG := HG.out k hk hA.out (fun i hi => by omega)
          have HR := Lib.hid (HR0.out (by rw [hG, h0]))
          clear hG
          subst h0
          go_wp2
          go_ret2
          exact ⟨by first | (rw [HR.out]; done) | (rw [HR.out]; rfl), HB.out.trans (hbc.mono HB.out.size)⟩
        · obtain ⟨m, rfl⟩ : ∃ m, k = m + 1 := ⟨k - 1, by omega⟩
          have c0 := block_cell (keepZ K0.out hbc)
          have c1 := block_cell (keepZ K1.out hbc)
          have c2 := block_cell (keepZ K2.out hbc)
          have m1 : ((m + 1 : Nat) : Int) - 1 = m := by omega
          rw [m1]
          clear m1
          have HFm := Lib.hid (HF.out (m : Int) (by omega) (by omega))
          obtain ⟨q1, hq1⟩ : ∃ q, slipM L slo tlo m = q := ⟨_, rfl⟩
          obtain ⟨q2, hq2⟩ : ∃ q, slipM L slo thi m = q := ⟨_, rfl⟩
          obtain ⟨q3, hq3⟩ : ∃ q, slipM L shi tlo m = q := ⟨_, rfl⟩
          obtain ⟨q4, hq4⟩ : ∃ q, slipM L shi thi m = q := ⟨_, rfl⟩
          have G1 := Lib.hid (H1.out m q1 (by omega) (by omega) hq1)
          have G2 := Lib.hid (H2.out m q2 (by omega) (by omega) hq2)
          have G3 := Lib.hid (H3.out m q3 (by omega) (by omega) hq3)
          have G4 := Lib.hid (H4.out m q4 (by omega) (by omega) hq4)
          have HFq := HFm.out
          rw [hq1, hq2, hq3, hq4] at HFq
          clear hq1 hq2 hq3 hq4 HFm
          cases hsw : swM L ⟨slo, shi⟩ ⟨tlo, thi⟩ m
          · rw [hsw] at HFq
            simp only [Bool.not_false, Bool.and_eq_true, Bool.not_eq_true'] at HFq
            obtain ⟨⟨⟨rfl, rfl⟩, rfl⟩, rfl⟩ := HFq
            have hG := HG.out (m + 1) hk hA.out (fun i hi => by
              obtain rfl : i = m := by omega
              exact hsw)
            have HR := Lib.hid (HR1.out (by rw [hG]; omega))
            rw [hG] at HR
            clear hG hsw
            go_wp2_with (first | (go_at_call 61; with_reducible refine (G1.out _ (HV.out.below hbc (Nat.le_refl _))).mono ?_; rintro e w9 ⟨rfl, hb9⟩; have hbn := hbc.trans (hb9.mono hbc.size); clear hbc hb9 c0 c1 c2; have hbc := hbn; clear hbn; have c0 := block_cell (keepZ K0.out hbc); have c1 := block_cell (keepZ K1.out hbc); have c2 := block_cell (keepZ K2.out hbc)) | (go_at_call 61; with_reducible refine (G2.out _ (HV.out.below hbc (Nat.le_refl _))).mono ?_; rintro e w9 ⟨rfl, hb9⟩; have hbn := hbc.trans (hb9.mono hbc.size); clear hbc hb9 c0 c1 c2; have hbc := hbn; clear hbn; have c0 := block_cell (keepZ K0.out hbc); have c1 := block_cell (keepZ K1.out hbc); have c2 := block_cell (keepZ K2.out hbc)) | (go_at_call 61; with_reducible refine (G3.out _ (HV.out.below hbc (Nat.le_refl _))).mono ?_; rintro e w9 ⟨rfl, hb9⟩; have hbn := hbc.trans (hb9.mono hbc.size); clear hbc hb9 c0 c1 c2; have hbc := hbn; clear hbn; have c0 := block_cell (keepZ K0.out hbc); have c1 := block_cell (keepZ K1.out hbc); have c2 := block_cell (keepZ K2.out hbc)) | (go_at_call 61; with_reducible refine (G4.out _ (HV.out.below hbc (Nat.le_refl _))).mono ?_; rintro e w9 ⟨rfl, hb9⟩; have hbn := hbc.trans (hb9.mono hbc.size); clear hbc hb9 c0 c1 c2; have hbc := hbn; clear hbn; have c0 := block_cell (keepZ K0.out hbc); have c1 := block_cell (keepZ K1.out hbc); have c2 := block_cell (keepZ K2.out hbc)))
            go_ret2
            exact ⟨by rw [HR.out]; simp, HB.out.trans (hbc.mono HB.out.size)⟩
          · rw [hsw] at HFq
            have HSW := Lib.hid hsw
            clear hsw
            have hRel : Hid (∀ i : Nat, m ≤ i → i < 1000 → swM L ⟨slo, shi⟩ ⟨tlo, thi⟩ i = true) := Lib.hid (fun i h1 h2 => by
              by_cases him : i = m
              · rw [him]; exact HSW.out
              · exact hA.out i (by omega) h2)
            have HQ4 := Lib.hid HFq
            clear HFq
            cases q1
            · cases q2
              · cases q3
                · cases q4
                  · have := HQ4.out; cases this
                  · go_wp2_with (first | (go_at_call 61; with_reducible refine (G1.out _ (HV.out.below hbc (Nat.le_refl _))).mono ?_; rintro e w9 ⟨rfl, hb9⟩; have hbn := hbc.trans (hb9.mono hbc.size); clear hbc hb9 c0 c1 c2; have hbc := hbn; clear hbn; have c0 := block_cell (keepZ K0.out hbc); have c1 := block_cell (keepZ K1.out hbc); have c2 := block_cell (keepZ K2.out hbc)) | (go_at_call 61; with_reducible refine (G2.out _ (HV.out.below hbc (Nat.le_refl _))).mono ?_; rintro e w9 ⟨rfl, hb9⟩; have hbn := hbc.trans (hb9.mono hbc.size); clear hbc hb9 c0 c1 c2; have hbc := hbn; clear hbn; have c0 := block_cell (keepZ K0.out hbc); have c1 := block_cell (keepZ K1.out hbc); have c2 := block_cell (keepZ K2.out hbc)) | (go_at_call 61; with_reducible refine (G3.out _ (HV.out.below hbc (Nat.le_refl _))).mono ?_; rintro e w9 ⟨rfl, hb9⟩; have hbn := hbc.trans (hb9.mono hbc.size); clear hbc hb9 c0 c1 c2; have hbc := hbn; clear hbn; have c0 := block_cell (keepZ K0.out hbc); have c1 := block_cell (keepZ K1.out hbc); have c2 := block_cell (keepZ K2.out hbc)) | (go_at_call 61; with_reducible refine (G4.out _ (HV.out.below hbc (Nat.le_refl _))).mono ?_; rintro e w9 ⟨rfl, hb9⟩; have hbn := hbc.trans (hb9.mono hbc.size); clear hbc hb9 c0 c1 c2; have hbc := hbn; clear hbn; have c0 := block_cell (keepZ K0.out hbc); have c1 := block_cell (keepZ K1.out hbc); have c2 := block_cell (keepZ K2.out hbc)))
                    go_roundw
                    case rel => exact ⟨m, by omega, rfl, hRel, Lib.hid hbc⟩
                    case measure => simp [intOf] <;> omega
                · go_wp2_with (first | (go_at_call 61; with_reducible refine (G1.out _ (HV.out.below hbc (Nat.le_refl _))).mono ?_; rintro e w9 ⟨rfl, hb9⟩; have hbn := hbc.trans (hb9.mono hbc.size); clear hbc hb9 c0 c1 c2; have hbc := hbn; clear hbn; have c0 := block_cell (keepZ K0.out hbc); have c1 := block_cell (keepZ K1.out hbc); have c2 := block_cell (keepZ K2.out hbc)) | (go_at_call 61; with_reducible refine (G2.out _ (HV.out.below hbc (Nat.le_refl _))).mono ?_; rintro e w9 ⟨rfl, hb9⟩; have hbn := hbc.trans (hb9.mono hbc.size); clear hbc hb9 c0 c1 c2; have hbc := hbn; clear hbn; have c0 := block_cell (keepZ K0.out hbc); have c1 := block_cell (keepZ K1.out hbc); have c2 := block_cell (keepZ K2.out hbc)) | (go_at_call 61; with_reducible refine (G3.out _ (HV.out.below hbc (Nat.le_refl _))).mono ?_; rintro e w9 ⟨rfl, hb9⟩; have hbn := hbc.trans (hb9.mono hbc.size); clear hbc hb9 c0 c1 c2; have hbc := hbn; clear hbn; have c0 := block_cell (keepZ K0.out hbc); have c1 := block_cell (keepZ K1.out hbc); have c2 := block_cell (keepZ K2.out hbc)) | (go_at_call 61; with_reducible refine (G4.out _ (HV.out.below hbc (Nat.le_refl _))).mono ?_; rintro e w9 ⟨rfl, hb9⟩; have hbn := hbc.trans (hb9.mono hbc.size); clear hbc hb9 c0 c1 c2; have hbc := hbn; clear hbn; have c0 := block_cell (keepZ K0.out hbc); have c1 := block_cell (keepZ K1.out hbc); have c2 := block_cell (keepZ K2.out hbc)))
                  go_roundw
                  case rel => exact ⟨m, by omega, rfl, hRel, Lib.hid hbc⟩
                  case measure => simp [intOf] <;> omega
              · go_wp2_with (first | (go_at_call 61; with_reducible refine (G1.out _ (HV.out.below hbc (Nat.le_refl _))).mono ?_; rintro e w9 ⟨rfl, hb9⟩; have hbn := hbc.trans (hb9.mono hbc.size); clear hbc hb9 c0 c1 c2; have hbc := hbn; clear hbn; have c0 := block_cell (keepZ K0.out hbc); have c1 := block_cell (keepZ K1.out hbc); have c2 := block_cell (keepZ K2.out hbc)) | (go_at_call 61; with_reducible refine (G2.out _ (HV.out.below hbc (Nat.le_refl _))).mono ?_; rintro e w9 ⟨rfl, hb9⟩; have hbn := hbc.trans (hb9.mono hbc.size); clear hbc hb9 c0 c1 c2; have hbc := hbn; clear hbn; have c0 := block_cell (keepZ K0.out hbc); have c1 := block_cell (keepZ K1.out hbc); have c2 := block_cell (keepZ K2.out hbc)) | (go_at_call 61; with_reducible refine (G3.out _ (HV.out.below hbc (Nat.le_refl _))).mono ?_; rintro e w9 ⟨rfl, hb9⟩; have hbn := hbc.trans (hb9.mono hbc.size); clear hbc hb9 c0 c1 c2; have hbc := hbn; clear hbn; have c0 := block_cell (keepZ K0.out hbc); have c1 := block_cell (keepZ K1.out hbc); have c2 := block_cell (keepZ K2.out hbc)) | (go_at_call 61; with_reducible refine (G4.out _ (HV.out.below hbc (Nat.le_refl _))).mono ?_; rintro e w9 ⟨rfl, hb9⟩; have hbn := hbc.trans (hb9.mono hbc.size); clear hbc hb9 c0 c1 c2; have hbc := hbn; clear hbn; have c0 := block_cell (keepZ K0.out hbc); have c1 := block_cell (keepZ K1.out hbc); have c2 := block_cell (keepZ K2.out hbc)))
                go_roundw
                case rel => exact ⟨m, by omega, rfl, hRel, Lib.hid hbc⟩
                case measure => simp [intOf] <;> omega
            · go_wp2_with (first | (go_at_call 61; with_reducible refine (G1.out _ (HV.out.below hbc (Nat.le_refl _))).mono ?_; rintro e w9 ⟨rfl, hb9⟩; have hbn := hbc.trans (hb9.mono hbc.size); clear hbc hb9 c0 c1 c2; have hbc := hbn; clear hbn; have c0 := block_cell (keepZ K0.out hbc); have c1 := block_cell (keepZ K1.out hbc); have c2 := block_cell (keepZ K2.out hbc)) | (go_at_call 61; with_reducible refine (G2.out _ (HV.out.below hbc (Nat.le_refl _))).mono ?_; rintro e w9 ⟨rfl, hb9⟩; have hbn := hbc.trans (hb9.mono hbc.size); clear hbc hb9 c0 c1 c2; have hbc := hbn; clear hbn; have c0 := block_cell (keepZ K0.out hbc); have c1 := block_cell (keepZ K1.out hbc); have c2 := block_cell (keepZ K2.out hbc)) | (go_at_call 61; with_reducible refine (G3.out _ (HV.out.below hbc (Nat.le_refl _))).mono ?_; rintro e w9 ⟨rfl, hb9⟩; have hbn := hbc.trans (hb9.mono hbc.size); clear hbc hb9 c0 c1 c2; have hbc := hbn; clear hbn; have c0 := block_cell (keepZ K0.out hbc); have c1 := block_cell (keepZ K1.out hbc); have c2 := block_cell (keepZ K2.out hbc)) | (go_at_call 61; with_reducible refine (G4.out _ (HV.out.below hbc (Nat.le_refl _))).mono ?_; rintro e w9 ⟨rfl, hb9⟩; have hbn := hbc.trans (hb9.mono hbc.size); clear hbc hb9 c0 c1 c2; have hbc := hbn; clear hbn; have c0 := block_cell (keepZ K0.out hbc); have c1 := block_cell (keepZ K1.out hbc); have c2 := block_cell (keepZ K2.out hbc)))
              go_roundw
              case rel => exact ⟨m, by omega, rfl, hRel, Lib.hid hbc⟩
              case measure => simp [intOf] <;> omega

end Go.Proofs.Ytnefbiaopconkaa
