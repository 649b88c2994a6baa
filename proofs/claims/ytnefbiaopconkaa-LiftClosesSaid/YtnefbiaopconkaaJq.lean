/- Walks of layer 5 (lift): Balance of the program; apart, Worst, Balance of the specification. -/
import Derived.Test.YtnefbiaopconkaaJp
namespace Go.Proofs.Ytnefbiaopconkaa
open Go.RowKit

/-- The lift with another counterweight. -/
def Lif.setC (L : Lif) (n : Int) : Lif := ⟨L.car, n, L.rat, L.rop, L.fl, L.num, L.den, L.spd, L.acc, L.ovr, L.sti, L.lev⟩

theorem LOk.setC {L : Lif} (h : LOk L) {n : Int} (n1 : 1 ≤ n) (n2 : n ≤ 100000) : LOk (L.setC n) :=
  ⟨h.c1, h.c2, n1, n2, h.r1, h.r2, h.p1, h.p2, h.f1, h.f2, h.f0, h.fa, h.n1, h.n2, h.d1, h.d2, h.s1, h.s2, h.a1, h.a2, h.o1, h.o2, h.t1, h.t2, h.l1, h.l2⟩

theorem enters_balance1 : Enters 69 := fun _ _ => by kernel_rfl

theorem balR_ok {L : Lif} {t : Spn} (he : balE L t = 0) : balR L t = (balN L t, balW L t, 0) := by unfold balR; rw [if_pos he]
theorem balR_no {L : Lif} {t : Spn} (he : balE L t ≠ 0) : balR L t = (0, 0, balE L t) := by unfold balR; rw [if_neg he]
theorem bal_in {L : Lif} {t : Spn} (he : balE L t = 0) : LOk L ∧ spB t L.rat = true := by
  obtain ⟨h1, h2⟩ := chk_zero.1 he
  exact ⟨ok_of h1, h2⟩

set_option maxHeartbeats 1000000 in
theorem balance1_any (L : Lif) (fv : Value) (t : Spn) (p0 p1 : Nat) (w : World) (k0 : w.heap[p0]? = some (lifO L fv)) (k1 : w.heap[p1]? = some (spnO t)) :
    Calls Try.prog 69 #[ptr p0, ptr p1] w fun e w' => e = .returned (.int .i64 (fitE (spB t L.rat))) ∧ Below w.heap.size w w' := by
  have c0 := block_cell k0
  have c1 := block_cell k1
  clear k0 k1
  go_enter Try.func69, Try.ntmps69
  go_wp2_with (first | (go_at_call 65; refine (areLoads_any L fv t _).mono ?_; rintro e w2 ⟨rfl, hb2⟩) | (go_at_call 51; refine (fitting_any _ _).mono ?_; rintro e w3 ⟨rfl, rfl⟩))
  go_ret
  exact ⟨rfl, hb2⟩

theorem bal_is {L : Lif} {t : Spn} : balN L t = min (L.car + (t.lo + t.hi).tdiv 2) 100000 := rfl

theorem bal_w {L : Lif} {t : Spn} : (L.setC (balN L t)).carS 0 t.hi - (L.setC (balN L t)).couS 0 = balW L t := by
  unfold balW Lif.carS Lif.couS Lif.setC
  simp only [Lif.top, Int.sub_zero, Int.mul_zero, Int.add_zero]

set_option maxRecDepth 100000 in
set_option maxHeartbeats 2000000 in
theorem lbalance_any (L : Lif) (fv : Value) (t : Spn) (w : World) (hv : InAt w fv L.fl) (hL : LOk L) (ht : spB t L.rat = true) :
    Calls Try.prog 70 #[lifV L fv, spnV t] w fun e w' => e = .returned (.tuple #[.int .i64 (balN L t), .int .i64 (balW L t)]) ∧ Below w.heap.size w w' := by
  obtain ⟨lo, hi⟩ := t
  have HB := Lib.hid (blw2 w (lifO L fv) (spnO ⟨lo, hi⟩))
  have K0 := two_od w (lifO L fv) (spnO ⟨lo, hi⟩)
  have K1 := two_nw w (lifO L fv) (spnO ⟨lo, hi⟩)
  have HV := Lib.hid hv
  obtain ⟨t1, t2, t3⟩ := sp_of ht
  dsimp only at t1 t2 t3
  have hc1 := hL.c1
  have hc2 := hL.c2
  have hr2 := hL.r2
  obtain ⟨_, _, _, n1, n2⟩ := bal_wor hL ht
  have hL2 := hL.setC n1 n2
  have HW := Lib.hid (bal_w (L := L) (t := ⟨lo, hi⟩))
  have HS := Lib.hid (fun w1 (h : InAt w1 fv L.fl) => lsides_any (L.setC (balN L ⟨lo, hi⟩)) fv 0 hi w1 h hL2 (Int.le_refl _) (by have := hL.top; show 0 ≤ L.top; omega) (by omega) t3)
  have hcs := (hL2.car (x := 0) (ld := hi) (Int.le_refl _) (by have := hL.top; show 0 ≤ L.top; omega) (by omega) t3).2.2
  have hus := (hL2.cou (x := 0) (Int.le_refl _) (by have := hL.top; show 0 ≤ L.top; omega)).2.2
  have HN := Lib.hid (show (if 100000 < L.car + (lo + hi) / 2 then 100000 else L.car + (lo + hi) / 2) = balN L ⟨lo, hi⟩ by
    rw [min_is, bal_is, Int.tdiv_eq_ediv_of_nonneg (by dsimp only; omega)])
  have c0 := block_cell K0
  have c1 := block_cell K1
  have f0 := block_free K0
  clear ht hL hL2 hv
  go_enter Try.func70, Try.ntmps70
  go_upto_region 1 with fail
  generalize (w.alloc (lifO L fv)).alloc (spnO ⟨lo, hi⟩) = wA at *
  go_upto_region 2 with fail
  rw [HN.out]
  have k0 := block_set K0 1 (.int .i64 (balN L ⟨lo, hi⟩))
  have k1 := block_set_other K1 (p := ⟨w.heap.size, 1, none⟩) (by simp) (.int .i64 (balN L ⟨lo, hi⟩))
  have HB2 := Lib.hid (HB.out.setCell (p := ⟨w.heap.size, 1, none⟩) (Nat.le_refl _) (.int .i64 (balN L ⟨lo, hi⟩)))
  have HV2 := Lib.hid (HV.out.below HB2.out (Nat.le_refl _))
  clear c0 c1 f0 K0 K1 HV
  generalize wA.setCell ⟨w.heap.size, 1, none⟩ (.int .i64 (balN L ⟨lo, hi⟩)) = wB at *
  have KK0 : Hid (wB.heap[w.heap.size]? = some (lifO (L.setC (balN L ⟨lo, hi⟩)) fv)) := Lib.hid k0
  have KK1 := Lib.hid k1
  have c0 := block_cell KK0.out
  have c1 := block_cell KK1.out
  clear k0 k1
  go_wp2_with fail
  refine (HS.out _ HV2.out).mono ?_
  rintro e w2 ⟨rfl, hb2⟩
  clear c0 c1
  have c0 := block_cell (keepZ KK0.out hb2)
  have HR := Lib.hid HW.out
  generalize (L.setC (balN L ⟨lo, hi⟩)).carS 0 hi = C at *
  generalize (L.setC (balN L ⟨lo, hi⟩)).couS 0 = U at *
  go_wp2
  go_ret2
  exact ⟨by rw [← HR.out]; rfl, HB2.out.trans (hb2.mono HB2.out.size)⟩

set_option maxHeartbeats 1000000 in
theorem lBalance_any (L : Lif) (fv : Value) (t : Spn) (w : World) (hv : InAt w fv L.fl) :
    Calls Try.prog 25 #[lifV L fv, spnV t] w fun e w' => e = .returned (sidV (balR L t)) ∧ Below w.heap.size w w' := by
  have HB := Lib.hid (blw2 w (lifO L fv) (spnO t))
  have K0 := Lib.hid (two_od w (lifO L fv) (spnO t))
  have K1 := Lib.hid (two_nw w (lifO L fv) (spnO t))
  have HV := Lib.hid (hv.below HB.out (Nat.le_refl _))
  have HI := Lib.hid (@bal_in L t)
  have HO := Lib.hid (@balR_ok L t)
  have HN := Lib.hid (@balR_no L t)
  go_enter Try.func25, Try.ntmps25
  go_wp2_with fail
  generalize (w.alloc (lifO L fv)).alloc (spnO t) = wA at *
  refine (int_is (show chkE L (fitE (spB t L.rat)) = balE L t from rfl) (checked_any L fv _ _ (fitE (spB t L.rat)) _ HV.out enters_balance1 (fun w1 hok hb => balance1_any L fv t _ _ w1 (keepZ K0.out hb) (keepZ K1.out hb)))).mono ?_
  rintro e w1 ⟨rfl, hb1⟩
  have HB1 := Lib.hid (HB.out.trans (hb1.mono HB.out.size))
  have c0 := block_cell (keepZ K0.out hb1)
  have c1 := block_cell (keepZ K1.out hb1)
  have HV1 := Lib.hid (HV.out.below hb1 (Nat.le_refl _))
  generalize balE L t = E at *
  clear hb1
  by_cases hE : E = 0
  · obtain ⟨hL, i1⟩ := HI.out hE
    have HS := Lib.hid (fun w2 h => lbalance_any L fv t w2 h hL i1)
    have HR := Lib.hid (HO.out hE)
    clear hL i1
    subst hE
    go_wp2_with fail
    refine (HS.out _ HV1.out).mono ?_
    rintro e w2 ⟨rfl, hb2⟩
    go_wp2
    go_ret3
    exact ⟨by first | (rw [HR.out]; done) | (rw [HR.out]; rfl), HB1.out.trans (hb2.mono HB1.out.size)⟩
  · have HR := Lib.hid (HN.out hE)
    have h1 : (E != 0) = true := by simpa using hE
    clear hE
    go_wp2
    go_ret3
    exact ⟨by first | (rw [HR.out]; done) | (rw [HR.out]; rfl), HB1.out⟩

/-! ### the specification -/
set_option maxHeartbeats 400000 in
theorem rapart_any (a b : Int) (w : World) (h1 : -1000000000 ≤ a) (h2 : a ≤ 1000000000) (h3 : -1000000000 ≤ b) (h4 : b ≤ 1000000000) :
    Calls Try.prog 79 #[.int .i64 a, .int .i64 b] w fun e w' => e = .returned (.int .i64 (apaM a b)) ∧ w = w' := by
  have HA := Lib.hid (show apaM a b = max (a - b) (b - a) from rfl)
  go_enter Try.func79, Try.ntmps79
  go_wp2
  all_goals
    go_ret
    exact ⟨ret_int (by rw [HA.out]; omega), rfl⟩

def worH (L : Lif) (k : Nat) : Int := if k % 2 = 1 then L.top else 0
def worL (t : Spn) (k : Nat) : Int := if k / 2 = 1 then t.hi else t.lo
def worK (L : Lif) (t : Spn) : Nat → Int
  | 0 => 0
  | k + 1 => max (worK L t k) (apaM (L.carS (worH L k) (worL t k)) (L.couS (worH L k)))
theorem worK_four (L : Lif) (t : Spn) (n : Int) : worK (L.setC n) t 4 = worM L t n := rfl

theorem worK_bd {L : Lif} (hL : LOk L) {t : Spn} (ht : spB t L.rat = true) : ∀ k, k ≤ 4 → 0 ≤ worK L t k ∧ worK L t k ≤ 1000000
  | 0, _ => by simp [worK]
  | k + 1, hk => by
    obtain ⟨t1, t2, t3⟩ := sp_of ht
    have h1 := worK_bd hL ht k (by omega)
    have htp := hL.top
    have hh : 0 ≤ worH L k ∧ worH L k ≤ L.top := by unfold worH; split <;> omega
    have hl : 0 ≤ worL t k ∧ worL t k ≤ L.rat := by unfold worL; split <;> omega
    have c := (hL.car hh.1 hh.2 hl.1 hl.2).2.2
    have u := (hL.cou hh.1 hh.2).2.2
    simp only [worK, apaM]
    omega

set_option maxRecDepth 100000 in
set_option maxHeartbeats 4000000 in
theorem rWorst_any (L : Lif) (fv : Value) (t : Spn) (n : Int) (w : World) (hv : InAt w fv L.fl) (hL : LOk L) (ht : spB t L.rat = true) (n1 : 1 ≤ n) (n2 : n ≤ 100000) :
    Calls Try.prog 43 #[lifV L fv, spnV t, .int .i64 n] w fun e w' => e = .returned (.int .i64 (worM L t n)) ∧ Below w.heap.size w w' := by
  obtain ⟨lo, hi⟩ := t
  have HB := Lib.hid (blw2 w (lifO L fv) (spnO ⟨lo, hi⟩))
  have K0 := two_od w (lifO L fv) (spnO ⟨lo, hi⟩)
  have K1 := two_nw w (lifO L fv) (spnO ⟨lo, hi⟩)
  have HV := Lib.hid hv
  obtain ⟨t1, t2, t3⟩ := sp_of ht
  dsimp only at t1 t2 t3
  have hL2 := hL.setC n1 n2
  have ht2 : spB ⟨lo, hi⟩ (L.setC n).rat = true := ht
  have f1 : 1 ≤ (L.setC n).fl.length := Nat.le_of_succ_le hL.f1
  have HS := Lib.hid (fun (h ld : Int) (h1 : 0 ≤ h) (h2 : h ≤ (L.setC n).top) (l1 : 0 ≤ ld) (l2 : ld ≤ (L.setC n).rat) w1 (hv : InAt w1 fv L.fl) => rsides_any (L.setC n) fv h ld w1 hv hL2 h1 h2 l1 l2)
  have HC := Lib.hid (fun (h ld : Int) (h1 : 0 ≤ h) (h2 : h ≤ (L.setC n).top) (l1 : 0 ≤ ld) (l2 : ld ≤ (L.setC n).rat) => (And.intro (hL2.car h1 h2 l1 l2).2.2 (hL2.cou h1 h2).2.2))
  have HW := Lib.hid (worK_four L ⟨lo, hi⟩ n)
  have HBD := Lib.hid (fun k hk => worK_bd hL2 ht2 k hk)
  have htp := hL2.top
  have HT := Lib.hid (fun w1 (hv : InAt w1 fv L.fl) => rtop_any (L.setC n) fv w1 hv f1)
  have t4 : hi ≤ (L.setC n).rat := t3
  have c0 := block_cell K0
  have f0 := block_free K0
  clear ht hL hL2 hv ht2 f1
  go_enter Try.func43, Try.ntmps43
  go_upto_region 1 with fail
  generalize (w.alloc (lifO L fv)).alloc (spnO ⟨lo, hi⟩) = wA at *
  go_upto_region 2 with fail
  have k0 := block_set K0 1 (.int .i64 n)
  have k1 := block_set_other K1 (p := ⟨w.heap.size, 1, none⟩) (by simp) (.int .i64 n)
  have HB2 := Lib.hid (HB.out.setCell (p := ⟨w.heap.size, 1, none⟩) (Nat.le_refl _) (.int .i64 n))
  have HV2 := Lib.hid (HV.out.below HB2.out (Nat.le_refl _))
  clear c0 f0 K0 K1 HV
  generalize wA.setCell ⟨w.heap.size, 1, none⟩ (.int .i64 n) = wB at *
  have KK0 : Hid (wB.heap[w.heap.size]? = some (lifO (L.setC n) fv)) := Lib.hid k0
  have KK1 := Lib.hid k1
  clear k0 k1
  go_wp2_with fail
  go_loopw [7, 8] (fun x i wr => ∃ k : Nat, k ≤ 4 ∧ i = .int .i64 k ∧ x = .int .i64 (worK (L.setC n) ⟨lo, hi⟩ k) ∧ Hid (Below wB.heap.size wB wr)) (fun _ i _ => 4 - (intOf i).toNat)
  case atStart => exact ⟨0, Nat.zero_le _, rfl, rfl, Lib.hid (Below.refl _ _)⟩
  case round =>
    obtain ⟨k, hk, rfl, rfl, hb⟩ := hrel
    have hbc := hb.out
    have c0 := block_cell (keepZ KK0.out hbc)
    have c1 := block_cell (keepZ KK1.out hbc)
    obtain ⟨b1, b2⟩ := HBD.out k hk
    by_cases hlt : k < 4
    · have hk4 : k = 0 ∨ k = 1 ∨ k = 2 ∨ k = 3 := by omega
      rcases hk4 with rfl | rfl | rfl | rfl
      · have HK := Lib.hid (show worK (L.setC n) ⟨lo, hi⟩ (0 + 1) = max (worK (L.setC n) ⟨lo, hi⟩ 0) (apaM ((L.setC n).carS 0 lo) ((L.setC n).couS 0)) from rfl)
        generalize worK (L.setC n) ⟨lo, hi⟩ 0 = W at *
        obtain ⟨⟨x1, x2⟩, u1, u2⟩ := HC.out 0 lo (by omega) (by omega) (by omega) (by omega)
        have G := Lib.hid (HS.out 0 lo (by omega) (by omega) (by omega) (by omega))
        generalize (L.setC n).carS 0 lo = C at *
        generalize (L.setC n).couS 0 = U at *
        have HAP := Lib.hid (show apaM C U = max (C - U) (U - C) from rfl)
        go_wp2_with fail
        go_quiet (fail)
        go_wp2_with (first | (go_at_call 57; refine (calls_big (A := wB) (B := wB.heap.size) (below_drewN hbc _) (Nat.le_refl _) (G.out _ (HV2.out.below (below_drewN hbc _) (Nat.le_refl _)))).mono ?_; rintro e w1 ⟨rfl, hb1⟩) | (go_at_call 79; refine (rapart_any C U _ (by omega) (by omega) (by omega) (by omega)).mono ?_; rintro e w9 ⟨rfl, rfl⟩))
        all_goals
          go_roundw
          case rel => exact ⟨0 + 1, by omega, rfl, (by rw [HK.out]; congr 1; omega), Lib.hid hb1⟩
          case measure => simp [intOf] <;> omega
      · have HK := Lib.hid (show worK (L.setC n) ⟨lo, hi⟩ (1 + 1) = max (worK (L.setC n) ⟨lo, hi⟩ 1) (apaM ((L.setC n).carS (L.setC n).top lo) ((L.setC n).couS (L.setC n).top)) from rfl)
        generalize worK (L.setC n) ⟨lo, hi⟩ 1 = W at *
        obtain ⟨⟨x1, x2⟩, u1, u2⟩ := HC.out (L.setC n).top lo (by omega) (by omega) (by omega) (by omega)
        have G := Lib.hid (HS.out (L.setC n).top lo (by omega) (by omega) (by omega) (by omega))
        generalize (L.setC n).carS (L.setC n).top lo = C at *
        generalize (L.setC n).couS (L.setC n).top = U at *
        have HAP := Lib.hid (show apaM C U = max (C - U) (U - C) from rfl)
        go_wp2_with fail
        go_quiet (fail)
        go_wp2_with (first | (go_at_call 56; refine (calls_big (A := wB) (B := wB.heap.size) (below_drewN hbc _) (Nat.le_refl _) (HT.out _ (HV2.out.below (below_drewN hbc _) (Nat.le_refl _)))).mono ?_; rintro e w5 ⟨rfl, hb5⟩; clear c0 c1; have c0 := block_cell (keepZ KK0.out hb5); have c1 := block_cell (keepZ KK1.out hb5)) | (go_at_call 57; refine (calls_big (A := wB) (B := wB.heap.size) (hb5) (Nat.le_refl _) (G.out _ (HV2.out.below (hb5) (Nat.le_refl _)))).mono ?_; rintro e w1 ⟨rfl, hb1⟩) | (go_at_call 79; refine (rapart_any C U _ (by omega) (by omega) (by omega) (by omega)).mono ?_; rintro e w9 ⟨rfl, rfl⟩))
        all_goals
          go_roundw
          case rel => exact ⟨1 + 1, by omega, rfl, (by rw [HK.out]; congr 1; omega), Lib.hid hb1⟩
          case measure => simp [intOf] <;> omega
      · have HK := Lib.hid (show worK (L.setC n) ⟨lo, hi⟩ (2 + 1) = max (worK (L.setC n) ⟨lo, hi⟩ 2) (apaM ((L.setC n).carS 0 hi) ((L.setC n).couS 0)) from rfl)
        generalize worK (L.setC n) ⟨lo, hi⟩ 2 = W at *
        obtain ⟨⟨x1, x2⟩, u1, u2⟩ := HC.out 0 hi (by omega) (by omega) (by omega) (by omega)
        have G := Lib.hid (HS.out 0 hi (by omega) (by omega) (by omega) (by omega))
        generalize (L.setC n).carS 0 hi = C at *
        generalize (L.setC n).couS 0 = U at *
        have HAP := Lib.hid (show apaM C U = max (C - U) (U - C) from rfl)
        go_wp2_with fail
        go_quiet (fail)
        go_wp2_with (first | (go_at_call 57; refine (calls_big (A := wB) (B := wB.heap.size) (below_drewN hbc _) (Nat.le_refl _) (G.out _ (HV2.out.below (below_drewN hbc _) (Nat.le_refl _)))).mono ?_; rintro e w1 ⟨rfl, hb1⟩) | (go_at_call 79; refine (rapart_any C U _ (by omega) (by omega) (by omega) (by omega)).mono ?_; rintro e w9 ⟨rfl, rfl⟩))
        all_goals
          go_roundw
          case rel => exact ⟨2 + 1, by omega, rfl, (by rw [HK.out]; congr 1; omega), Lib.hid hb1⟩
          case measure => simp [intOf] <;> omega
      · have HK := Lib.hid (show worK (L.setC n) ⟨lo, hi⟩ (3 + 1) = max (worK (L.setC n) ⟨lo, hi⟩ 3) (apaM ((L.setC n).carS (L.setC n).top hi) ((L.setC n).couS (L.setC n).top)) from rfl)
        generalize worK (L.setC n) ⟨lo, hi⟩ 3 = W at *
        obtain ⟨⟨x1, x2⟩, u1, u2⟩ := HC.out (L.setC n).top hi (by omega) (by omega) (by omega) (by omega)
        have G := Lib.hid (HS.out (L.setC n).top hi (by omega) (by omega) (by omega) (by omega))
        generalize (L.setC n).carS (L.setC n).top hi = C at *
        generalize (L.setC n).couS (L.setC n).top = U at *
        have HAP := Lib.hid (show apaM C U = max (C - U) (U - C) from rfl)
        go_wp2_with fail
        go_quiet (fail)
        go_wp2_with (first | (go_at_call 56; refine (calls_big (A := wB) (B := wB.heap.size) (below_drewN hbc _) (Nat.le_refl _) (HT.out _ (HV2.out.below (below_drewN hbc _) (Nat.le_refl _)))).mono ?_; rintro e w5 ⟨rfl, hb5⟩; clear c0 c1; have c0 := block_cell (keepZ KK0.out hb5); have c1 := block_cell (keepZ KK1.out hb5)) | (go_at_call 57; refine (calls_big (A := wB) (B := wB.heap.size) (hb5) (Nat.le_refl _) (G.out _ (HV2.out.below (hb5) (Nat.le_refl _)))).mono ?_; rintro e w1 ⟨rfl, hb1⟩) | (go_at_call 79; refine (rapart_any C U _ (by omega) (by omega) (by omega) (by omega)).mono ?_; rintro e w9 ⟨rfl, rfl⟩))
        all_goals
          go_roundw
          case rel => exact ⟨3 + 1, by omega, rfl, (by rw [HK.out]; congr 1; omega), Lib.hid hb1⟩
          case measure => simp [intOf] <;> omega
    · obtain rfl : k = 4 := by omega
      go_wp2
      go_ret
      exact ⟨ret_int HW.out, HB2.out.trans (hbc.mono HB2.out.size)⟩

end Go.Proofs.Ytnefbiaopconkaa
