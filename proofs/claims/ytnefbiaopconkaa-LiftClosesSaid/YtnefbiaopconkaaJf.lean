/- Walks of layer 5 (lift): sides, slips, Sides, Slips of the specification. -/
import Derived.Test.YtnefbiaopconkaaJe
namespace Go.Proofs.Ytnefbiaopconkaa
open Go.RowKit

set_option maxHeartbeats 1000000 in
theorem rsides_any (L : Lif) (fv : Value) (h ld : Int) (w : World) (hv : InAt w fv L.fl) (hL : LOk L) (h1 : 0 ≤ h) (h2 : h ≤ L.top) (l1 : 0 ≤ ld) (l2 : ld ≤ L.rat) :
    Calls Try.prog 57 #[lifV L fv, .int .i64 h, .int .i64 ld] w fun e w' => e = .returned (.tuple #[.int .i64 (L.carS h ld), .int .i64 (L.couS h)]) ∧ Below w.heap.size w w' := by
  have HB := Lib.hid ((Below.refl w.heap.size w).alloc (Nat.le_refl _) (lifO L fv))
  have K0 := Lib.hid (block_new w (lifO L fv) w.heap.size rfl)
  have HSZ := Lib.hid (size_alloc w (lifO L fv))
  have HV := Lib.hid (hv.below HB.out (Nat.le_refl _))
  obtain ⟨a1, a2, a3, a4⟩ := hL.car h1 h2 l1 l2
  obtain ⟨b1, b2, b3, b4⟩ := hL.cou h1 h2
  have f1 := hL.f1
  have ht := hL.top
  have hc1 := hL.c1
  have hc2 := hL.c2
  have hr2 := hL.r2
  have e1 : IntKind.i64.wrap (L.car + ld) = L.car + ld := wrap_i64_in (by omega) (by omega)
  have e2 : IntKind.i64.wrap (L.top - h) = L.top - h := wrap_i64_in (by omega) (by omega)
  have e3 : IntKind.i64.wrap (L.rop * (L.top - h)) = L.rop * (L.top - h) := wrap_i64_in (by omega) (by omega)
  have e4 : IntKind.i64.wrap (L.car + ld + L.rop * (L.top - h)) = L.carS h ld := wrap_i64_in (by unfold Lif.carS at a3; omega) (by unfold Lif.carS at a4; omega)
  have e5 : IntKind.i64.wrap (L.rop * h) = L.rop * h := wrap_i64_in (by omega) (by omega)
  have e6 : IntKind.i64.wrap (L.cou + L.rop * h) = L.couS h := wrap_i64_in (by unfold Lif.couS at b3; omega) (by unfold Lif.couS at b4; omega)
  clear a1 a2 a3 a4 b1 b2 b3 b4 hL
  go_enter Try.func57, Try.ntmps57
  go_wp2_with fail
  generalize w.alloc (lifO L fv) = wA at *
  have y0 := bw_cells (B := wA.heap.size) K0.out (lt_of_block K0.out)
  refine wp_region_below (by kernel_rfl) (by kernel_rfl) (Below.refl wA.heap.size wA) ?_
  repeat ((with_reducible refine wpQuiet_step (fun K hK => ?_)); go_simp; first | (refine hK _ ?_; clear hK K) | (apply Exists.intro; refine ⟨fun _ => ?_, hK _ ?_⟩; ((go_at_call 56; exact bw_call (Nat.le_refl _) (rtop_any L fv _ (HV.out.below (BW.b _) (Nat.le_refl _)) (by omega)))); clear hK K))
  refine wpQuiet_nil ?_
  intro wq hwq0
  have hwq := bw_out hwq0
  clear hwq0
  go_wp2
  go_ret2
  exact ⟨rfl, HB.out.trans (hwq.mono HB.out.size)⟩

set_option maxHeartbeats 1000000 in
theorem rslips_any (L : Lif) (fv : Value) (h ld a : Int) (w : World) (hv : InAt w fv L.fl) (hL : LOk L) (h1 : 0 ≤ h) (h2 : h ≤ L.top) (l1 : 0 ≤ ld) (l2 : ld ≤ L.rat) (a1 : 0 ≤ a) (a2 : a ≤ 1000) :
    Calls Try.prog 61 #[lifV L fv, .int .i64 h, .int .i64 ld, .int .i64 a] w fun e w' => e = .returned (.bool (slipM L h ld a)) ∧ Below w.heap.size w w' := by
  have HB := Lib.hid ((Below.refl w.heap.size w).alloc (Nat.le_refl _) (lifO L fv))
  have K0 := Lib.hid (block_new w (lifO L fv) w.heap.size rfl)
  have HSZ := Lib.hid (size_alloc w (lifO L fv))
  have HV := Lib.hid (hv.below HB.out (Nat.le_refl _))
  have HS := Lib.hid (fun w1 h => rsides_any L fv _ _ w1 h hL h1 h2 l1 l2)
  obtain ⟨_, _, c1, c2⟩ := hL.car h1 h2 l1 l2
  obtain ⟨_, _, u1, u2⟩ := hL.cou h1 h2
  have hn1 := hL.n1
  have hn2 := hL.n2
  have hd1 := hL.d1
  have hd2 := hL.d2
  have HM := Lib.hid (show decide (min (L.carS h ld) (L.couS h) * (1000 - a) * L.num < max (L.carS h ld) (L.couS h) * (1000 + a) * L.den) = slipM L h ld a from rfl)
  clear hL
  go_enter Try.func61, Try.ntmps61
  go_wp2_with fail
  generalize w.alloc (lifO L fv) = wA at *
  have c0 := block_cell K0.out
  go_wp2_with fail
  refine (HS.out _ HV.out).mono ?_
  rintro e w1 ⟨rfl, hb1⟩
  clear c0
  have c0 := block_cell (keepZ K0.out hb1)
  generalize L.carS h ld = C at *
  generalize L.couS h = U at *
  have m1 : 1 ≤ max C U := by omega
  have m2 : max C U ≤ 300000 := by omega
  have n1 : 1 ≤ min C U := by omega
  have n2 : min C U ≤ 300000 := by omega
  have p1 := mul_bd (A := 300000) (B := 2000) (show 0 ≤ max C U by omega) m2 (show 0 ≤ 1000 + a by omega) (by omega)
  have p2 := mul_bd (A := 600000000) (B := 100) p1.1 p1.2 (show 0 ≤ L.den by omega) (by omega)
  have p3 := mul_bd (A := 300000) (B := 1000) (show 0 ≤ min C U by omega) n2 (show 0 ≤ 1000 - a by omega) (by omega)
  have p4 := mul_bd (A := 300000000) (B := 100) p3.1 p3.2 (show 0 ≤ L.num by omega) (by omega)
  have e1 : wrap64 (max C U * (1000 + a)) = max C U * (1000 + a) := wrap64_in (by omega) (by omega)
  have e2 : wrap64 (max C U * (1000 + a) * L.den) = max C U * (1000 + a) * L.den := wrap64_in (by omega) (by omega)
  have e3 : wrap64 (min C U * (1000 - a)) = min C U * (1000 - a) := wrap64_in (by omega) (by omega)
  have e4 : wrap64 (min C U * (1000 - a) * L.num) = min C U * (1000 - a) * L.num := wrap64_in (by omega) (by omega)
  rw [← max_is C U] at e1 e2 HM
  rw [← min_is C U] at e3 e4 HM
  clear p1 p2 p3 p4 m1 m2 n1 n2
  go_wp2
  all_goals
    go_ret
    exact ⟨ret_bool (by rw [← HM.out, max_is, min_is]; first | (rw [show max C U = C by omega, show min C U = U by omega]; done) | (rw [show max C U = U by omega, show min C U = C by omega]; done) | (rw [show C = U by omega]; simp)), HB.out.trans (hb1.mono HB.out.size)⟩

set_option maxHeartbeats 1000000 in
theorem rSides_any (L : Lif) (fv : Value) (h ld : Int) (w : World) (hv : InAt w fv L.fl) :
    Calls Try.prog 18 #[lifV L fv, .int .i64 h, .int .i64 ld] w fun e w' => e = .returned (sidV (sidR L h ld)) ∧ Below w.heap.size w w' := by
  have HB := Lib.hid ((Below.refl w.heap.size w).alloc (Nat.le_refl _) (lifO L fv))
  have K0 := Lib.hid (block_new w (lifO L fv) w.heap.size rfl)
  have HSZ := Lib.hid (size_alloc w (lifO L fv))
  have HV := Lib.hid (hv.below HB.out (Nat.le_refl _))
  cases hok : okB L
  · have HK := Lib.hid (chkE_no (x := 0) hok).symm
    have HE := Lib.hid (show sidE L h ld = 50 from (chkE_no hok).symm)
    have HR := Lib.hid (show sidR L h ld = (0, 0, 50) by rw [sidR_no (by rw [HE.out]; decide), HE.out])
    clear hok
    go_enter Try.func18, Try.ntmps18
    go_wp2_with fail
    generalize w.alloc (lifO L fv) = wA at *
    have c0 := block_cell K0.out
    go_wp2_with (go_at_call 22; refine (int_is HK.out (rCheck_any L fv _ HV.out)).mono ?_; rintro e w1 ⟨rfl, hb1⟩)
    go_ret3
    exact ⟨by first | (rw [HR.out]; done) | (rw [HR.out]; rfl), HB.out.trans (hb1.mono HB.out.size)⟩
  · have HK := Lib.hid (chkE_ok (x := 0) hok).symm
    have hL := ok_of hok
    have f1 := Nat.le_of_succ_le hL.f1
    have HI := Lib.hid (@sid_in L h ld)
    have HO := Lib.hid (@sidR_ok L h ld)
    have HE := Lib.hid (show sidE L h ld = fitE (inB h 0 L.top && inB ld 0 L.rat) from (chkE_ok hok).symm)
    have HN := Lib.hid (fun (hq : fitE (inB h 0 L.top && inB ld 0 L.rat) = 1) => (sidR_no (L := L) (h := h) (ld := ld) (by rw [HE.out, hq]; decide)).trans (by rw [HE.out, hq]))
    clear hok hL
    go_enter Try.func18, Try.ntmps18
    go_wp2_with fail
    generalize w.alloc (lifO L fv) = wA at *
    have c0 := block_cell K0.out
    go_wp2_with (first | (go_at_call 22; refine (int_is HK.out (rCheck_any L fv _ HV.out)).mono ?_; rintro e w1 ⟨rfl, hb1⟩; clear c0; have c0 := block_cell (keepZ K0.out hb1)) | (go_at_call 56; refine (rtop_any L fv _ (HV.out.below hb1 (Nat.le_refl _)) f1).mono ?_; rintro e w2 ⟨rfl, hb2⟩; have HB2 := Lib.hid (hb1.trans (hb2.mono hb1.size)); clear c0; have c0 := block_cell (keepZ K0.out HB2.out)) | (go_at_call 55; refine (rwithin_any _ _ _ _).mono ?_; rintro e w3 ⟨rfl, rfl⟩) | (go_at_call 57; obtain ⟨hL, i1, i2, i3, i4⟩ := HI.out (by rw [HE.out]; simp_all [fitE]); refine (rsides_any L fv _ _ _ (HV.out.below HB2.out (Nat.le_refl _)) hL i1 i2 i3 i4).mono ?_; rintro e w4 ⟨rfl, hb4⟩))
    all_goals
      go_ret3
      first
        | exact ⟨by rw [HO.out (by rw [HE.out]; simp_all [fitE])]; rfl, HB.out.trans ((HB2.out.trans (hb4.mono HB2.out.size)).mono HB.out.size)⟩
        | exact ⟨by rw [HN.out (by simp_all [fitE])]; rfl, HB.out.trans (HB2.out.mono HB.out.size)⟩

theorem slp_bad {L : Lif} {h ld a : Int} (h1 : sidE L h ld ≠ 0) : slpE L h ld a = sidE L h ld := by
  unfold slpE sidE chkE fitE at *
  revert h1
  cases okB L <;> cases inB h 0 L.top <;> cases inB ld 0 L.rat <;> cases inB a 0 999 <;> simp_all

set_option maxHeartbeats 1000000 in
theorem rSlips_any (L : Lif) (fv : Value) (h ld a : Int) (w : World) (hv : InAt w fv L.fl) :
    Calls Try.prog 20 #[lifV L fv, .int .i64 h, .int .i64 ld, .int .i64 a] w fun e w' => e = .returned (slpV (slpR L h ld a)) ∧ Below w.heap.size w w' := by
  have HB := Lib.hid ((Below.refl w.heap.size w).alloc (Nat.le_refl _) (lifO L fv))
  have K0 := Lib.hid (block_new w (lifO L fv) w.heap.size rfl)
  have HSZ := Lib.hid (size_alloc w (lifO L fv))
  have HV := Lib.hid (hv.below HB.out (Nat.le_refl _))
  have HE := Lib.hid (@slp_bad L h ld a)
  have HO := Lib.hid (@slpR_ok L h ld a)
  have HN := Lib.hid (@slpR_no L h ld a)
  have HZ := Lib.hid (show sidE L h ld = 0 → slpE L h ld a = fitE (inB a 0 999) by
    intro h1
    obtain ⟨h2, h3⟩ := chk_zero.1 h1
    unfold slpE chkE
    rw [h2, h3]; simp)
  have HI := Lib.hid (@sid_in L h ld)
  have HR1 := Lib.hid (@sidR_ok L h ld)
  have HR2 := Lib.hid (@sidR_no L h ld)
  go_enter Try.func20, Try.ntmps20
  go_wp2_with fail
  generalize w.alloc (lifO L fv) = wA at *
  have c0 := block_cell K0.out
  go_wp2_with fail
  refine (rSides_any L fv h ld _ HV.out).mono ?_
  rintro e w1 ⟨rfl, hb1⟩
  have HB1 := Lib.hid (HB.out.trans (hb1.mono HB.out.size))
  have HV1 := Lib.hid (HV.out.below hb1 (Nat.le_refl _))
  clear c0
  have c0 := block_cell (keepZ K0.out hb1)
  by_cases hE : sidE L h ld = 0
  · rw [HR1.out hE]
    obtain ⟨hL, i1, i2, i3, i4⟩ := HI.out hE
    have HZ2 := Lib.hid (HZ.out hE)
    clear hb1
    cases hq : inB a 0 999
    · have HQ := Lib.hid hq
      have HR := Lib.hid (show slpR L h ld a = (false, 1) by rw [HN.out (by rw [HZ2.out, hq]; decide), HZ2.out, hq]; rfl)
      clear hE
      go_wp2_with (go_at_call 55; refine (rwithin_is false _ _ _ _ HQ.out).mono ?_; rintro e w3 ⟨rfl, rfl⟩)
      go_ret2
      exact ⟨by first | (rw [HR.out]; done) | (rw [HR.out]; rfl), HB1.out⟩
    · have HQ := Lib.hid hq
      have ha := inB_iff.1 hq
      have HR := Lib.hid (show slpR L h ld a = (slipM L h ld a, 0) from HO.out (by rw [HZ2.out, hq]; rfl))
      clear hE
      go_wp2_with (first | (go_at_call 55; refine (rwithin_is true _ _ _ _ HQ.out).mono ?_; rintro e w3 ⟨rfl, rfl⟩) | (go_at_call 61; refine (rslips_any L fv _ _ _ _ HV1.out hL i1 i2 i3 i4 ha.1 (by omega)).mono ?_; rintro e w2 ⟨rfl, hb2⟩))
      go_ret2
      exact ⟨by first | (rw [HR.out]; done) | (rw [HR.out]; rfl), HB1.out.trans (hb2.mono HB1.out.size)⟩
  · rw [HR2.out hE]
    have HR := Lib.hid ((HN.out (by rw [HE.out hE]; exact hE)).trans (by rw [HE.out hE]))
    generalize sidE L h ld = E at *
    have h1 : (E != 0) = true := by simpa using hE
    clear hE hb1
    go_wp2
    go_ret2
    exact ⟨by first | (rw [HR.out]; done) | (rw [HR.out]; rfl), HB1.out⟩

end Go.Proofs.Ytnefbiaopconkaa
