/- Walks of layer 5 (lift): Sides, Slips of the program. -/
import Derived.Test.YtnefbiaopconkaaJc
namespace Go.Proofs.Ytnefbiaopconkaa
open Go.RowKit

set_option maxHeartbeats 1000000 in
theorem sides1_any (L : Lif) (fv : Value) (h ld : Int) (p0 p1 p2 : Nat) (w : World) (k0 : w.heap[p0]? = some (lifO L fv)) (k1 : w.heap[p1]? = some (intO h)) (k2 : w.heap[p2]? = some (intO ld)) (hv : InAt w fv L.fl) (f1 : 1 ≤ L.fl.length) :
    Calls Try.prog 50 #[ptr p0, ptr p1, ptr p2] w fun e w' => e = .returned (.int .i64 (fitE (inB h 0 L.top && inB ld 0 L.rat))) ∧ Below w.heap.size w w' := by
  have K0 := Lib.hid k0
  have K1 := Lib.hid k1
  have K2 := Lib.hid k2
  have HV := Lib.hid hv
  have c0 := block_cell k0
  have c1 := block_cell k1
  have c2 := block_cell k2
  clear k0 k1 k2 hv
  go_enter Try.func50, Try.ntmps50
  go_wp2_with (first | (go_at_call 52; refine (lisHeight_any L fv _ _ HV.out f1).mono ?_; rintro e w1 ⟨rfl, hb1⟩; clear c0 c2; have c0 := block_cell (keepZ K0.out hb1); have c2 := block_cell (keepZ K2.out hb1)) | (go_at_call 53; refine (lisLoad_any L fv _ _).mono ?_; rintro e w2 ⟨rfl, hb2⟩) | (go_at_call 51; refine (fitting_any _ _).mono ?_; rintro e w3 ⟨rfl, rfl⟩))
  · go_ret
    exact ⟨ret_int (by simp_all), hb1.trans (hb2.mono hb1.size)⟩
  · go_ret
    exact ⟨ret_int (by simp_all), hb1⟩

set_option maxHeartbeats 1000000 in
theorem slips1_any (L : Lif) (fv : Value) (h ld a : Int) (p0 p1 p2 p3 : Nat) (w : World) (k0 : w.heap[p0]? = some (lifO L fv)) (k1 : w.heap[p1]? = some (intO h)) (k2 : w.heap[p2]? = some (intO ld)) (k3 : w.heap[p3]? = some (intO a)) (hv : InAt w fv L.fl) (f1 : 1 ≤ L.fl.length) :
    Calls Try.prog 58 #[ptr p0, ptr p1, ptr p2, ptr p3] w fun e w' => e = .returned (.int .i64 (fitE (inB h 0 L.top && inB ld 0 L.rat && inB a 0 999))) ∧ Below w.heap.size w w' := by
  have K0 := Lib.hid k0
  have K1 := Lib.hid k1
  have K2 := Lib.hid k2
  have K3 := Lib.hid k3
  have HV := Lib.hid hv
  have c0 := block_cell k0
  have c1 := block_cell k1
  have c2 := block_cell k2
  have c3 := block_cell k3
  clear k0 k1 k2 k3 hv
  go_enter Try.func58, Try.ntmps58
  go_wp2_with (first | (go_at_call 52; refine (lisHeight_any L fv _ _ HV.out f1).mono ?_; rintro e w1 ⟨rfl, hb1⟩; clear c0 c2 c3; have c0 := block_cell (keepZ K0.out hb1); have c2 := block_cell (keepZ K2.out hb1); have c3 := block_cell (keepZ K3.out hb1)) | (go_at_call 53; refine (lisLoad_any L fv _ _).mono ?_; rintro e w2 ⟨rfl, hb2⟩; have HB2 := Lib.hid (hb1.trans (hb2.mono hb1.size)); clear c3; have c3 := block_cell (keepZ K3.out HB2.out)) | (go_at_call 59; refine (lwithin_any _ _ _ _).mono ?_; rintro e w3 ⟨rfl, rfl⟩) | (go_at_call 51; refine (fitting_any _ _).mono ?_; rintro e w3 ⟨rfl, rfl⟩))
  all_goals
    go_ret
    first
      | exact ⟨ret_int (by simp_all), HB2.out⟩
      | exact ⟨ret_int (by simp_all), hb1⟩

abbrev sidV (r : Int × Int × Int) : Value := .tuple #[.int .i64 r.1, .int .i64 r.2.1, .int .i64 r.2.2]
abbrev slpV (r : Bool × Int) : Value := .tuple #[.bool r.1, .int .i64 r.2]

theorem sidR_ok {L : Lif} {h ld : Int} (he : sidE L h ld = 0) : sidR L h ld = (L.carS h ld, L.couS h, 0) := by unfold sidR; rw [if_pos he]
theorem sidR_no {L : Lif} {h ld : Int} (he : sidE L h ld ≠ 0) : sidR L h ld = (0, 0, sidE L h ld) := by unfold sidR; rw [if_neg he]
theorem slpR_ok {L : Lif} {h ld a : Int} (he : slpE L h ld a = 0) : slpR L h ld a = (slipM L h ld a, 0) := by unfold slpR; rw [if_pos he]
theorem slpR_no {L : Lif} {h ld a : Int} (he : slpE L h ld a ≠ 0) : slpR L h ld a = (false, slpE L h ld a) := by unfold slpR; rw [if_neg he]

theorem sid_in {L : Lif} {h ld : Int} (he : sidE L h ld = 0) : LOk L ∧ 0 ≤ h ∧ h ≤ L.top ∧ 0 ≤ ld ∧ ld ≤ L.rat := by
  obtain ⟨h1, h2⟩ := chk_zero.1 he
  simp only [Bool.and_eq_true, inB_iff] at h2
  exact ⟨ok_of h1, h2.1.1, h2.1.2, h2.2.1, h2.2.2⟩
theorem slp_in {L : Lif} {h ld a : Int} (he : slpE L h ld a = 0) : LOk L ∧ (0 ≤ h ∧ h ≤ L.top) ∧ (0 ≤ ld ∧ ld ≤ L.rat) ∧ 0 ≤ a ∧ a ≤ 999 := by
  obtain ⟨h1, h2⟩ := chk_zero.1 he
  simp only [Bool.and_eq_true, inB_iff] at h2
  exact ⟨ok_of h1, h2.1.1, h2.1.2, h2.2⟩

set_option maxHeartbeats 1000000 in
theorem lSides_any (L : Lif) (fv : Value) (h ld : Int) (w : World) (hv : InAt w fv L.fl) :
    Calls Try.prog 17 #[lifV L fv, .int .i64 h, .int .i64 ld] w fun e w' => e = .returned (sidV (sidR L h ld)) ∧ Below w.heap.size w w' := by
  have HB := Lib.hid (blw3 w (lifO L fv) (intO h) (intO ld))
  have K0 := Lib.hid (three_0 w (lifO L fv) (intO h) (intO ld))
  have K1 := Lib.hid (three_1 w (lifO L fv) (intO h) (intO ld))
  have K2 := Lib.hid (three_2 w (lifO L fv) (intO h) (intO ld))
  have HV := Lib.hid (hv.below HB.out (Nat.le_refl _))
  have HI := Lib.hid (@sid_in L h ld)
  have HO := Lib.hid (@sidR_ok L h ld)
  have HN := Lib.hid (@sidR_no L h ld)
  go_enter Try.func17, Try.ntmps17
  go_wp2_with fail
  generalize (((w.alloc (lifO L fv)).alloc (intO h)).alloc (intO ld)) = wA at *
  refine (int_is (show chkE L (fitE (inB h 0 L.top && inB ld 0 L.rat)) = sidE L h ld from rfl) (checked_any L fv _ _ (fitE (inB h 0 L.top && inB ld 0 L.rat)) _ HV.out enters_sides1 (fun w1 hok hb => sides1_any L fv h ld _ _ _ w1 (keepZ K0.out hb) (keepZ K1.out hb) (keepZ K2.out hb) (HV.out.below hb (Nat.le_refl _)) (Nat.le_of_succ_le (ok_of hok).f1)))).mono ?_
  rintro e w1 ⟨rfl, hb1⟩
  have HB1 := Lib.hid (HB.out.trans (hb1.mono HB.out.size))
  have c0 := block_cell (keepZ K0.out hb1)
  have c1 := block_cell (keepZ K1.out hb1)
  have c2 := block_cell (keepZ K2.out hb1)
  have HV1 := Lib.hid (HV.out.below hb1 (Nat.le_refl _))
  generalize sidE L h ld = E at *
  clear hb1
  by_cases hE : E = 0
  · obtain ⟨hL, i1, i2, i3, i4⟩ := HI.out hE
    have HS := Lib.hid (fun w2 h => lsides_any L fv _ _ w2 h hL i1 i2 i3 i4)
    have HR := Lib.hid (HO.out hE)
    clear hL i1 i2 i3 i4
    subst hE
    go_wp2_with fail
    refine (HS.out _ HV1.out).mono ?_
    rintro e w2 ⟨rfl, hb2⟩
    go_wp2
    go_ret3
    exact ⟨by first | (rw [HR.out]; done) | (rw [HR.out]; rfl), HB1.out.trans (hb2.mono HB1.out.size)⟩
  · have HR := Lib.hid (HN.out hE)
    have h1 : (E != 0) = true := by simpa using hE
    clear hE
    go_wp2
    go_ret3
    exact ⟨by first | (rw [HR.out]; done) | (rw [HR.out]; rfl), HB1.out⟩

set_option maxHeartbeats 1000000 in
theorem lSlips_any (L : Lif) (fv : Value) (h ld a : Int) (w : World) (hv : InAt w fv L.fl) :
    Calls Try.prog 19 #[lifV L fv, .int .i64 h, .int .i64 ld, .int .i64 a] w fun e w' => e = .returned (slpV (slpR L h ld a)) ∧ Below w.heap.size w w' := by
  have HB := Lib.hid (blw4 w (lifO L fv) (intO h) (intO ld) (intO a))
  have K0 := Lib.hid (four_0 w (lifO L fv) (intO h) (intO ld) (intO a))
  have K1 := Lib.hid (four_1 w (lifO L fv) (intO h) (intO ld) (intO a))
  have K2 := Lib.hid (four_2 w (lifO L fv) (intO h) (intO ld) (intO a))
  have K3 := Lib.hid (four_3 w (lifO L fv) (intO h) (intO ld) (intO a))
  have HV := Lib.hid (hv.below HB.out (Nat.le_refl _))
  have HI := Lib.hid (@slp_in L h ld a)
  have HO := Lib.hid (@slpR_ok L h ld a)
  have HN := Lib.hid (@slpR_no L h ld a)
  go_enter Try.func19, Try.ntmps19
  go_wp2_with fail
  generalize ((((w.alloc (lifO L fv)).alloc (intO h)).alloc (intO ld)).alloc (intO a)) = wA at *
  refine (int_is (show chkE L (fitE (inB h 0 L.top && inB ld 0 L.rat && inB a 0 999)) = slpE L h ld a from rfl) (checked_any L fv _ _ (fitE (inB h 0 L.top && inB ld 0 L.rat && inB a 0 999)) _ HV.out enters_slips1 (fun w1 hok hb => slips1_any L fv h ld a _ _ _ _ w1 (keepZ K0.out hb) (keepZ K1.out hb) (keepZ K2.out hb) (keepZ K3.out hb) (HV.out.below hb (Nat.le_refl _)) (Nat.le_of_succ_le (ok_of hok).f1)))).mono ?_
  rintro e w1 ⟨rfl, hb1⟩
  have HB1 := Lib.hid (HB.out.trans (hb1.mono HB.out.size))
  have c0 := block_cell (keepZ K0.out hb1)
  have c1 := block_cell (keepZ K1.out hb1)
  have c2 := block_cell (keepZ K2.out hb1)
  have c3 := block_cell (keepZ K3.out hb1)
  have HV1 := Lib.hid (HV.out.below hb1 (Nat.le_refl _))
  generalize slpE L h ld a = E at *
  clear hb1
  by_cases hE : E = 0
  · obtain ⟨hL, i1, i2, i3⟩ := HI.out hE
    have HS := Lib.hid (fun w2 h => lslips_any L fv _ _ _ w2 h hL i1.1 i1.2 i2.1 i2.2 i3.1 (by omega : a ≤ 1000))
    have HR := Lib.hid (HO.out hE)
    clear hL i1 i2 i3
    subst hE
    go_wp2_with fail
    refine (HS.out _ HV1.out).mono ?_
    rintro e w2 ⟨rfl, hb2⟩
    go_wp2
    go_ret2
    exact ⟨by first | (rw [HR.out]; done) | (rw [HR.out]; rfl), HB1.out.trans (hb2.mono HB1.out.size)⟩
  · have HR := Lib.hid (HN.out hE)
    have h1 : (E == 0) = false := by simpa using hE
    clear hE
    go_wp2
    go_ret2
    exact ⟨by first | (rw [HR.out]; done) | (rw [HR.out]; rfl), HB1.out⟩

end Go.Proofs.Ytnefbiaopconkaa
