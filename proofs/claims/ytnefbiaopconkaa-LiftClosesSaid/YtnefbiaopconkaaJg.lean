/- Walks of layer 5 (lift): Grip of the program. -/
import Derived.Test.YtnefbiaopconkaaJf
namespace Go.Proofs.Ytnefbiaopconkaa
open Go.RowKit

abbrev spnV (s : Spn) : Value := .agg #[.int .i64 s.lo, .int .i64 s.hi]
abbrev spnO (s : Spn) : Obj := .cells #[.int .i64 s.lo, .int .i64 s.hi] 37

theorem enters_grip1 : Enters 63 := fun _ _ => by kernel_rfl

set_option maxRecDepth 100000 in
set_option maxHeartbeats 1000000 in
theorem areHeights_any (L : Lif) (fv : Value) (s : Spn) (w : World) (hv : InAt w fv L.fl) (f1 : 1 ≤ L.fl.length) :
    Calls Try.prog 64 #[lifV L fv, spnV s] w fun e w' => e = .returned (.bool (spB s L.top)) ∧ Below w.heap.size w w' := by
  have HB := Lib.hid (blw2 w (lifO L fv) (spnO s))
  have K0 := Lib.hid (two_od w (lifO L fv) (spnO s))
  have K1 := Lib.hid (two_nw w (lifO L fv) (spnO s))
  have HV := Lib.hid (hv.below HB.out (Nat.le_refl _))
  have HS := Lib.hid (show spB s L.top = (decide (s.lo ≤ s.hi) && inB s.lo 0 L.top && inB s.hi 0 L.top) from rfl)
  go_enter Try.func64, Try.ntmps64
  go_upto_region 1 with fail
  generalize (w.alloc (lifO L fv)).alloc (spnO s) = wA at *
  have c0 := block_cell K0.out
  have c1 := block_cell K1.out
  by_cases hq : s.lo ≤ s.hi
  · have hd : decide (s.lo ≤ s.hi) = true := decide_eq_true hq
    have HD := Lib.hid hd
    cases hq2 : inB s.lo 0 L.top
    · have HQ := Lib.hid hq2
      go_wp2_with (go_at_call 52; refine (bool_is HQ.out (lisHeight_any L fv _ _ HV.out f1)).mono ?_; rintro e w1 ⟨rfl, hb1⟩)
      go_ret
      exact ⟨ret_bool (by rw [HS.out, HD.out, HQ.out]; rfl), HB.out.trans (hb1.mono HB.out.size)⟩
    · have HQ := Lib.hid hq2
      clear hq2
      go_wp2_with (first | (go_at_call 52; refine (bool_is HQ.out (lisHeight_any L fv s.lo _ HV.out f1)).mono ?_; rintro e w1 ⟨rfl, hb1⟩; clear c0 c1; have c0 := block_cell (keepZ K0.out hb1); have c1 := block_cell (keepZ K1.out hb1)) | (go_at_call 52; refine (lisHeight_any L fv s.hi _ (HV.out.below hb1 (Nat.le_refl _)) f1).mono ?_; rintro e w2 ⟨rfl, hb2⟩))
      go_ret
      exact ⟨ret_bool (by rw [HS.out, HD.out, HQ.out]; rfl), HB.out.trans ((hb1.trans (hb2.mono hb1.size)).mono HB.out.size)⟩
  · have hd : decide (s.lo ≤ s.hi) = false := decide_eq_false hq
    have HD := Lib.hid hd
    go_wp2
    go_ret
    exact ⟨ret_bool (by rw [HS.out, HD.out]; rfl), HB.out⟩

set_option maxRecDepth 100000 in
set_option maxHeartbeats 1000000 in
theorem areLoads_any (L : Lif) (fv : Value) (s : Spn) (w : World) :
    Calls Try.prog 65 #[lifV L fv, spnV s] w fun e w' => e = .returned (.bool (spB s L.rat)) ∧ Below w.heap.size w w' := by
  have HB := Lib.hid (blw2 w (lifO L fv) (spnO s))
  have K0 := Lib.hid (two_od w (lifO L fv) (spnO s))
  have K1 := Lib.hid (two_nw w (lifO L fv) (spnO s))
  have HS := Lib.hid (show spB s L.rat = (decide (s.lo ≤ s.hi) && inB s.lo 0 L.rat && inB s.hi 0 L.rat) from rfl)
  go_enter Try.func65, Try.ntmps65
  go_upto_region 1 with fail
  generalize (w.alloc (lifO L fv)).alloc (spnO s) = wA at *
  have c0 := block_cell K0.out
  have c1 := block_cell K1.out
  by_cases hq : s.lo ≤ s.hi
  · have hd : decide (s.lo ≤ s.hi) = true := decide_eq_true hq
    have HD := Lib.hid hd
    cases hq2 : inB s.lo 0 L.rat
    · have HQ := Lib.hid hq2
      go_wp2_with (go_at_call 53; refine (bool_is HQ.out (lisLoad_any L fv _ _)).mono ?_; rintro e w1 ⟨rfl, hb1⟩)
      go_ret
      exact ⟨ret_bool (by rw [HS.out, HD.out, HQ.out]; rfl), HB.out.trans (hb1.mono HB.out.size)⟩
    · have HQ := Lib.hid hq2
      clear hq2
      go_wp2_with (first | (go_at_call 53; refine (bool_is HQ.out (lisLoad_any L fv s.lo _)).mono ?_; rintro e w1 ⟨rfl, hb1⟩; clear c0 c1; have c0 := block_cell (keepZ K0.out hb1); have c1 := block_cell (keepZ K1.out hb1)) | (go_at_call 53; refine (lisLoad_any L fv s.hi _).mono ?_; rintro e w2 ⟨rfl, hb2⟩))
      go_ret
      exact ⟨ret_bool (by rw [HS.out, HD.out, HQ.out]; rfl), HB.out.trans ((hb1.trans (hb2.mono hb1.size)).mono HB.out.size)⟩
  · have hd : decide (s.lo ≤ s.hi) = false := decide_eq_false hq
    have HD := Lib.hid hd
    go_wp2
    go_ret
    exact ⟨ret_bool (by rw [HS.out, HD.out]; rfl), HB.out⟩

set_option maxHeartbeats 1000000 in
theorem grip1_any (L : Lif) (fv : Value) (s t : Spn) (p0 p1 p2 : Nat) (w : World) (k0 : w.heap[p0]? = some (lifO L fv)) (k1 : w.heap[p1]? = some (spnO s)) (k2 : w.heap[p2]? = some (spnO t)) (hv : InAt w fv L.fl) (f1 : 1 ≤ L.fl.length) :
    Calls Try.prog 63 #[ptr p0, ptr p1, ptr p2] w fun e w' => e = .returned (.int .i64 (fitE (spB s L.top && spB t L.rat))) ∧ Below w.heap.size w w' := by
  have K0 := Lib.hid k0
  have K1 := Lib.hid k1
  have K2 := Lib.hid k2
  have HV := Lib.hid hv
  have c0 := block_cell k0
  have c1 := block_cell k1
  have c2 := block_cell k2
  clear k0 k1 k2 hv
  go_enter Try.func63, Try.ntmps63
  go_wp2_with (first | (go_at_call 64; refine (areHeights_any L fv s _ HV.out f1).mono ?_; rintro e w1 ⟨rfl, hb1⟩; clear c0 c2; have c0 := block_cell (keepZ K0.out hb1); have c2 := block_cell (keepZ K2.out hb1)) | (go_at_call 65; refine (areLoads_any L fv t _).mono ?_; rintro e w2 ⟨rfl, hb2⟩) | (go_at_call 51; refine (fitting_any _ _).mono ?_; rintro e w3 ⟨rfl, rfl⟩))
  · go_ret
    exact ⟨ret_int (by simp_all), hb1.trans (hb2.mono hb1.size)⟩
  · go_ret
    exact ⟨ret_int (by simp_all), hb1⟩

set_option maxRecDepth 100000 in
set_option maxHeartbeats 1000000 in
theorem slipsSome_any (L : Lif) (fv : Value) (s t : Spn) (a : Int) (w : World) (hv : InAt w fv L.fl) (hL : LOk L) (hs : spB s L.top = true) (ht : spB t L.rat = true) (a1 : 0 ≤ a) (a2 : a ≤ 1000) :
    Calls Try.prog 68 #[lifV L fv, spnV s, spnV t, .int .i64 a] w fun e w' => e = .returned (.bool (swM L s t a)) ∧ Below w.heap.size w w' := by
  obtain ⟨s1, s2, s3⟩ := sp_of hs
  obtain ⟨t1, t2, t3⟩ := sp_of ht
  have HB := Lib.hid (blw3 w (lifO L fv) (spnO s) (spnO t))
  have K0 := Lib.hid (three_0 w (lifO L fv) (spnO s) (spnO t))
  have K1 := Lib.hid (three_1 w (lifO L fv) (spnO s) (spnO t))
  have K2 := Lib.hid (three_2 w (lifO L fv) (spnO s) (spnO t))
  have HV := Lib.hid (hv.below HB.out (Nat.le_refl _))
  have HS := Lib.hid (show swM L s t a = (slipM L s.lo t.hi a || slipM L s.hi t.lo a) from rfl)
  have H1 := Lib.hid (fun w1 (h : InAt w1 fv L.fl) => lslips_any L fv s.lo t.hi a w1 h hL (by omega) (by omega) (by omega) (by omega) a1 a2)
  have H2 := Lib.hid (fun w1 (h : InAt w1 fv L.fl) => lslips_any L fv s.hi t.lo a w1 h hL (by omega) (by omega) (by omega) (by omega) a1 a2)
  clear hL s1 s2 s3 t1 t2 t3 hs ht
  obtain ⟨slo, shi⟩ := s
  obtain ⟨tlo, thi⟩ := t
  dsimp only at *
  go_enter Try.func68, Try.ntmps68
  go_upto_region 1 with fail
  generalize ((w.alloc (lifO L fv)).alloc (spnO ⟨slo, shi⟩)).alloc (spnO ⟨tlo, thi⟩) = wA at *
  have c0 := block_cell K0.out
  have c1 := block_cell K1.out
  have c2 := block_cell K2.out
  cases hq : slipM L slo thi a
  · have HQ := Lib.hid hq
    clear hq
    go_wp2_with (first | (go_at_call 60; with_reducible refine (bool_is HQ.out (H1.out _ HV.out)).mono ?_; rintro e w1 ⟨rfl, hb1⟩; clear c0 c1 c2; have c0 := block_cell (keepZ K0.out hb1); have c1 := block_cell (keepZ K1.out hb1); have c2 := block_cell (keepZ K2.out hb1)) | (go_at_call 60; with_reducible refine (H2.out _ (HV.out.below hb1 (Nat.le_refl _))).mono ?_; rintro e w2 ⟨rfl, hb2⟩))
    go_ret
    exact ⟨ret_bool (by rw [HS.out, HQ.out]; rfl), HB.out.trans ((hb1.trans (hb2.mono hb1.size)).mono HB.out.size)⟩
  · have HQ := Lib.hid hq
    clear hq
    go_wp2_with (go_at_call 60; with_reducible refine (bool_is HQ.out (H1.out _ HV.out)).mono ?_; rintro e w1 ⟨rfl, hb1⟩)
    go_ret
    exact ⟨ret_bool (by rw [HS.out, HQ.out]; rfl), HB.out.trans (hb1.mono HB.out.size)⟩

set_option maxHeartbeats 1000000 in
theorem grip2_any (L : Lif) (fv : Value) (s t : Spn) (k : Nat) (p0 p1 p2 : Nat) (w : World) (k0 : w.heap[p0]? = some (lifO L fv)) (k1 : w.heap[p1]? = some (spnO s)) (k2 : w.heap[p2]? = some (spnO t)) (hv : InAt w fv L.fl) (hL : LOk L) (hs : spB s L.top = true) (ht : spB t L.rat = true) (a2 : k ≤ 1000) :
    Calls Try.prog 67 #[.int .i64 k, ptr p0, ptr p1, ptr p2] w fun e w' => e = .returned (.bool (swM L s t k)) ∧ Below w.heap.size w w' := by
  have c0 := block_cell k0
  have c1 := block_cell k1
  have c2 := block_cell k2
  have H1 := Lib.hid (slipsSome_any L fv s t k w hv hL hs ht (by omega) (by omega))
  clear k0 k1 k2 hv hL hs ht
  go_enter Try.func67, Try.ntmps67
  go_wp2_with (go_at_call 68; refine H1.out.mono ?_; rintro e w1 ⟨rfl, hb1⟩)
  go_ret
  exact ⟨rfl, hb1⟩

/-- What a search among the numbers below n answers. -/
def SearchRes (n : Nat) (p : Nat → Bool) (w : World) (e : Ending) (w' : World) : Prop := ∃ r : Nat, r ≤ n ∧ e = .returned (.int .i64 r) ∧ (∀ k, k < r → p k = false) ∧ (∀ k, r ≤ k → k < n → p k = true) ∧ Below w.heap.size w w'

theorem mid_eq (i j : Nat) : ((i : Int) + (j : Int)) / 2 = (((i + j) / 2 : Nat) : Int) := by omega

set_option maxHeartbeats 1000000 in
theorem searchGrip_any (p0 p1 p2 : Nat) (n : Nat) (ni : Int) (hni : ni = n) (p : Nat → Bool) (w : World) (hn : n ≤ 100000)
    (hp : ∀ (k : Nat) (w1 : World), k < n → Below w.heap.size w w1 → Calls Try.prog 67 #[.int .i64 k, .pointer (some ⟨p0, 0, none⟩), .pointer (some ⟨p1, 0, none⟩), .pointer (some ⟨p2, 0, none⟩)] w1 fun e w' => e = .returned (.bool (p k)) ∧ Below w1.heap.size w1 w')
    (mono : ∀ a b : Nat, b < n → a ≤ b → p a = true → p b = true) :
    Calls Try.prog 66 #[.int .i64 ni, .func (.func 67) #[] #[.pointer (some ⟨p0, 0, none⟩), .pointer (some ⟨p1, 0, none⟩), .pointer (some ⟨p2, 0, none⟩)]] w (SearchRes n p w) := by
  subst hni
  have HP := Lib.hid hp
  have HM := Lib.hid mono
  clear hp mono
  go_enter Try.func66, Try.ntmps66
  go_wp2_with fail
  go_loopw [5, 6] (fun x y wr => ∃ i j : Nat, i ≤ j ∧ j ≤ n ∧ x = .int .i64 i ∧ y = .int .i64 j ∧ Below w.heap.size w wr ∧ Hid (∀ k, k < i → p k = false) ∧ Hid (∀ k, j ≤ k → k < n → p k = true)) (fun x y _ => (intOf y).toNat - (intOf x).toNat)
  case atStart => exact ⟨0, n, Nat.zero_le _, Nat.le_refl _, rfl, rfl, Below.refl _ _, fun k hk => by omega, fun k h1 h2 => by omega⟩
  case round =>
    obtain ⟨i, j, hij, hj, rfl, rfl, hb, h1, h2⟩ := hrel
    by_cases hlt : i < j
    · have Hm := Lib.hid (mid_eq i j)
      go_wp2_with fail
      rw [Hm.out]
      refine (HP.out ((i + j) / 2) wr (by omega) hb).mono ?_
      rintro e w1 ⟨rfl, hb1⟩
      have hb2 := hb.trans (hb1.mono hb.size)
      clear hb hb1
      have m1 : i ≤ (i + j) / 2 := by omega
      have m2 : (i + j) / 2 < j := by omega
      generalize (i + j) / 2 = m at *
      cases hq : p m
      · have HQ := Lib.hid hq
        clear hq
        go_wp2
        go_roundw
        case rel => exact ⟨m + 1, j, by omega, hj, by go_num, rfl, hb2, (fun k hk => by
          cases hk' : p k
          · rfl
          · have := HM.out k m (by omega) (by omega) hk'
            rw [HQ.out] at this; cases this), h2⟩
        case measure => simp [intOf]; omega
      · have HQ := Lib.hid hq
        clear hq
        go_wp2
        go_roundw
        case rel => exact ⟨i, m, m1, by omega, rfl, rfl, hb2, h1, fun k hk hkn => HM.out m k hkn hk HQ.out⟩
        case measure => simp [intOf]; omega
    · obtain rfl : i = j := by omega
      go_wp2
      go_ret
      exact ⟨i, hj, rfl, h1.out, h2.out, hb⟩

end Go.Proofs.Ytnefbiaopconkaa
