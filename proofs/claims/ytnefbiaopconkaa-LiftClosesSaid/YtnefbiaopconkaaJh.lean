/- Walks of layer 5 (lift): Grip, reach, fewest, distance, dwell of the program. -/
import Derived.Test.YtnefbiaopconkaaJg
namespace Go.Proofs.Ytnefbiaopconkaa
open Go.RowKit

abbrev pairV (r : Int × Int) : Value := .tuple #[.int .i64 r.1, .int .i64 r.2]

theorem gripR_ok {L : Lif} {s t : Spn} (he : gripE L s t = 0) : (gripN L s t = 0 → gripR L s t = (0, 3)) ∧ (gripN L s t ≠ 0 → gripR L s t = ((gripN L s t : Int) - 1, 0)) := by
  unfold gripR
  rw [if_pos he]
  exact ⟨fun h => if_pos h, fun h => if_neg h⟩
theorem gripR_no {L : Lif} {s t : Spn} (he : gripE L s t ≠ 0) : gripR L s t = (0, gripE L s t) := by unfold gripR; rw [if_neg he]
theorem grip_in {L : Lif} {s t : Spn} (he : gripE L s t = 0) : LOk L ∧ spB s L.top = true ∧ spB t L.rat = true := by
  obtain ⟨h1, h2⟩ := chk_zero.1 he
  rw [Bool.and_eq_true] at h2
  exact ⟨ok_of h1, h2.1, h2.2⟩

theorem search_lst {p : Nat → Bool} {n r : Nat} (h1 : r ≤ n) (h2 : ∀ k, k < r → p k = false) (h3 : ∀ k, r ≤ k → k < n → p k = true) : r = lstN p n := (lst_eq h1 h2 (fun h => h3 r (Nat.le_refl _) h)).symm

set_option maxRecDepth 100000 in
set_option maxHeartbeats 2000000 in
theorem lGrip_any (L : Lif) (fv : Value) (s t : Spn) (w : World) (hv : InAt w fv L.fl) :
    Calls Try.prog 23 #[lifV L fv, spnV s, spnV t] w fun e w' => e = .returned (pairV (gripR L s t)) ∧ Below w.heap.size w w' := by
  have HB := Lib.hid (blw3 w (lifO L fv) (spnO s) (spnO t))
  have K0 := Lib.hid (three_0 w (lifO L fv) (spnO s) (spnO t))
  have K1 := Lib.hid (three_1 w (lifO L fv) (spnO s) (spnO t))
  have K2 := Lib.hid (three_2 w (lifO L fv) (spnO s) (spnO t))
  have HV := Lib.hid (hv.below HB.out (Nat.le_refl _))
  have HI := Lib.hid (@grip_in L s t)
  have HO := Lib.hid (@gripR_ok L s t)
  have HN := Lib.hid (@gripR_no L s t)
  go_enter Try.func23, Try.ntmps23
  go_wp2_with fail
  generalize ((w.alloc (lifO L fv)).alloc (spnO s)).alloc (spnO t) = wA at *
  refine (int_is (show chkE L (fitE (spB s L.top && spB t L.rat)) = gripE L s t from rfl) (checked_any L fv _ _ (fitE (spB s L.top && spB t L.rat)) _ HV.out enters_grip1 (fun w1 hok hb => grip1_any L fv s t _ _ _ w1 (keepZ K0.out hb) (keepZ K1.out hb) (keepZ K2.out hb) (HV.out.below hb (Nat.le_refl _)) (Nat.le_of_succ_le (ok_of hok).f1)))).mono ?_
  rintro e w1 ⟨rfl, hb1⟩
  have HB1 := Lib.hid (HB.out.trans (hb1.mono HB.out.size))
  have K10 := Lib.hid (keepZ K0.out hb1)
  have K11 := Lib.hid (keepZ K1.out hb1)
  have K12 := Lib.hid (keepZ K2.out hb1)
  have HV1 := Lib.hid (HV.out.below hb1 (Nat.le_refl _))
  generalize gripE L s t = E at *
  clear hb1
  by_cases hE : E = 0
  · obtain ⟨hL, hs, ht⟩ := HI.out hE
    obtain ⟨HR0, HR1⟩ := HO.out hE
    have HR0 := Lib.hid HR0
    have HR1 := Lib.hid HR1
    have HS := Lib.hid (searchGrip_any w.heap.size (w.heap.size + 1) (w.heap.size + 2) 1000 1000 rfl (fun k => swM L s t k) w1 (by omega) (fun k w2 hk hb => grip2_any L fv s t k _ _ _ w2 (keepZ K10.out hb) (keepZ K11.out hb) (keepZ K12.out hb) (HV1.out.below hb (Nat.le_refl _)) hL hs ht (by omega)) (fun a b hb hab h => sw_mono hL hs ht (by omega) (by omega) (by omega) h))
    clear hL hs ht
    subst hE
    go_wp2_with fail
    refine HS.out.mono ?_
    rintro e w2 ⟨r, hr1, rfl, hr2, hr3, hb2⟩
    have hr : r = gripN L s t := search_lst hr1 hr2 hr3
    have HB2 := Lib.hid (HB1.out.trans (hb2.mono HB1.out.size))
    rw [← hr] at HR0 HR1
    clear hr2 hr3 hb2 hr HS
    by_cases h0 : r = 0
    · have HR := Lib.hid (HR0.out h0)
      subst h0
      go_wp2
      go_ret2
      exact ⟨by first | (rw [HR.out]; done) | (rw [HR.out]; rfl), HB2.out⟩
    · have hr0 : ((r : Int) == 0) = false := by simpa using h0
      have HR := Lib.hid (HR1.out h0)
      go_wp2
      go_ret2
      exact ⟨by first | (rw [HR.out]; done) | (rw [HR.out]; rfl), HB2.out⟩
  · have HR := Lib.hid (HN.out hE)
    have h1 : (E != 0) = true := by simpa using hE
    clear hE
    go_wp2
    go_ret2
    exact ⟨by first | (rw [HR.out]; done) | (rw [HR.out]; rfl), HB1.out⟩

/-! ### how far a trip leads -/
def pkM (spd acc : Int) (n i : Nat) : Int := min spd (min (0 + acc * ((i : Int) + 1)) (acc * ((n : Int) - i)))
theorem rea_pk (spd acc : Int) (n : Nat) : reaM spd acc n = sumN (pkM spd acc n) n := rfl

theorem pk_bd {spd acc : Int} (hs : 1 ≤ spd) (ha : 1 ≤ acc) {n i : Nat} (hi : i < n) : 0 ≤ pkM spd acc n i ∧ pkM spd acc n i ≤ spd := by
  have h1 := acc_ge ha (show (0 : Int) ≤ (i : Int) + 1 by omega)
  have h2 := acc_ge ha (show (0 : Int) ≤ (n : Int) - i by omega)
  unfold pkM
  omega

theorem pk_sum {spd acc : Int} (hs : 1 ≤ spd) (hs2 : spd ≤ 100) (ha : 1 ≤ acc) {n k : Nat} (hk : k ≤ n) (hn : n ≤ 1000) : 0 ≤ sumN (pkM spd acc n) k ∧ sumN (pkM spd acc n) k ≤ 100000 := by
  have h1 : sumN (pkM spd acc n) k ≤ spd * k := sumN_le fun i hi => (pk_bd hs ha (show i < n by omega)).2
  have h2 : spd * (k : Int) ≤ 100 * 1000 := Int.mul_le_mul hs2 (by omega) (by omega) (by omega)
  exact ⟨sumN_nonneg fun i hi => (pk_bd hs ha (show i < n by omega)).1, by omega⟩

theorem pk_lo {spd acc : Int} (ha : 1 ≤ acc) {n i : Nat} (h : (n : Int) - i < (i : Int) + 1) : pkM spd acc n i = if acc * ((n : Int) - i) < spd then acc * ((n : Int) - i) else spd := by
  have := acc_le ha (show (n : Int) - i ≤ (i : Int) + 1 by omega)
  unfold pkM
  split <;> omega
theorem pk_hi {spd acc : Int} (ha : 1 ≤ acc) {n i : Nat} (h : ¬ (n : Int) - i < (i : Int) + 1) : pkM spd acc n i = if acc * ((i : Int) + 1) < spd then acc * ((i : Int) + 1) else spd := by
  have := acc_le ha (show (i : Int) + 1 ≤ (n : Int) - i by omega)
  unfold pkM
  split <;> omega

set_option maxRecDepth 100000 in
set_option maxHeartbeats 2000000 in
theorem lreach_any (L : Lif) (fv : Value) (n : Nat) (w : World) (hL : LOk L) (hn : n ≤ 1000) :
    Calls Try.prog 81 #[lifV L fv, .int .i64 n] w fun e w' => e = .returned (.int .i64 (reaM L.spd L.acc n)) ∧ Below w.heap.size w w' := by
  have HB := Lib.hid ((Below.refl w.heap.size w).alloc (Nat.le_refl _) (lifO L fv))
  have K0 := Lib.hid (block_new w (lifO L fv) w.heap.size rfl)
  have HSZ := Lib.hid (size_alloc w (lifO L fv))
  have s1 := hL.s1
  have s2 := hL.s2
  have a1 := hL.a1
  have a2 := hL.a2
  clear hL
  go_enter Try.func81, Try.ntmps81
  go_wp2_with fail
  generalize w.alloc (lifO L fv) = wA at *
  have c0 := block_cell K0.out
  go_loopw [5, 8] (fun x i wr => ∃ k : Nat, k ≤ n ∧ i = .int .i64 k ∧ x = .int .i64 (sumN (pkM L.spd L.acc n) k) ∧ wA = wr) (fun _ i _ => n - (intOf i).toNat)
  case atStart => exact ⟨0, Nat.zero_le _, rfl, rfl, rfl⟩
  case round =>
    obtain ⟨k, hk, rfl, rfl, rfl⟩ := hrel
    obtain ⟨b1, b2⟩ := pk_sum (k := k) s1 s2 a1 hk hn
    by_cases hlt : k < n
    · have HS := Lib.hid (show sumN (pkM L.spd L.acc n) (k + 1) = sumN (pkM L.spd L.acc n) k + pkM L.spd L.acc n k from rfl)
      generalize sumN (pkM L.spd L.acc n) k = S at *
      by_cases hm : (n : Int) - k < (k : Int) + 1
      · have HP := Lib.hid (pk_lo (spd := L.spd) a1 hm)
        have hp := mul_bd (A := 100) (B := 1000) (show 0 ≤ L.acc by omega) a2 (show 0 ≤ (n : Int) - k by omega) (by omega)
        have e1 : wrap64 (L.acc * ((n : Int) - k)) = L.acc * ((n : Int) - k) := wrap64_in (by omega) (by omega)
        by_cases hx : L.acc * ((n : Int) - k) < L.spd
        · go_wp2
          go_roundw
          case rel => exact ⟨k + 1, hlt, by go_num, by rw [HS.out, HP.out, if_pos hx], by trivial⟩
          case measure => simp [intOf]; omega
        · go_wp2
          go_roundw
          case rel => exact ⟨k + 1, hlt, by go_num, by rw [HS.out, HP.out, if_neg hx], by trivial⟩
          case measure => simp [intOf]; omega
      · have HP := Lib.hid (pk_hi (spd := L.spd) a1 hm)
        have hp := mul_bd (A := 100) (B := 1000) (show 0 ≤ L.acc by omega) a2 (show 0 ≤ (k : Int) + 1 by omega) (by omega)
        have e1 : wrap64 (L.acc * ((k : Int) + 1)) = L.acc * ((k : Int) + 1) := wrap64_in (by omega) (by omega)
        by_cases hx : L.acc * ((k : Int) + 1) < L.spd
        · go_wp2
          go_roundw
          case rel => exact ⟨k + 1, hlt, by go_num, by rw [HS.out, HP.out, if_pos hx], by trivial⟩
          case measure => simp [intOf]; omega
        · go_wp2
          go_roundw
          case rel => exact ⟨k + 1, hlt, by go_num, by rw [HS.out, HP.out, if_neg hx], by trivial⟩
          case measure => simp [intOf]; omega
    · obtain rfl : k = n := by omega
      go_wp2
      go_ret
      exact ⟨rfl, HB.out⟩


set_option maxHeartbeats 1000000 in
theorem searchFew_any (p0 p1 : Nat) (n : Nat) (ni : Int) (hni : ni = n) (p : Nat → Bool) (w : World) (hn : n ≤ 100000)
    (hp : ∀ (k : Nat) (w1 : World), k < n → Below w.heap.size w w1 → Calls Try.prog 103 #[.int .i64 k, .pointer (some ⟨p0, 0, none⟩), .pointer (some ⟨p1, 0, none⟩)] w1 fun e w' => e = .returned (.bool (p k)) ∧ Below w1.heap.size w1 w')
    (mono : ∀ a b : Nat, b < n → a ≤ b → p a = true → p b = true) :
    Calls Try.prog 66 #[.int .i64 ni, .func (.func 103) #[] #[.pointer (some ⟨p0, 0, none⟩), .pointer (some ⟨p1, 0, none⟩)]] w (SearchRes n p w) := by
  subst hni
  have HP := Lib.hid hp
  have HM := Lib.hid mono
  clear hp mono
  go_enter Try.func66, Try.ntmps66
  go_wp2_with fail
  go_loopw [5, 6] (fun x y wr => ∃ i j : Nat, i ≤ j ∧ j ≤ n ∧ x = .int .i64 i ∧ y = .int .i64 j ∧ Below w.heap.size w wr ∧ Hid (∀ k, k < i → p k = false) ∧ Hid (∀ k, j ≤ k → k < n → p k = true)) (fun x y _ => (intOf y).toNat - (intOf x).toNat)
  case atStart => exact ⟨0, n, Nat.zero_le _, Nat.le_refl _, rfl, rfl, Below.refl _ _, fun k hk => by omega, fun k h1 h2 => by omega⟩
  case round =>
    obtain ⟨i, j, hij, hj, rfl, rfl, hb, h1, h2⟩ := hrel
    by_cases hlt : i < j
    · have Hm := Lib.hid (mid_eq i j)
      go_wp2_with fail
      rw [Hm.out]
      refine (HP.out ((i + j) / 2) wr (by omega) hb).mono ?_
      rintro e w1 ⟨rfl, hb1⟩
      have hb2 := hb.trans (hb1.mono hb.size)
      clear hb hb1
      have m1 : i ≤ (i + j) / 2 := by omega
      have m2 : (i + j) / 2 < j := by omega
      generalize (i + j) / 2 = m at *
      cases hq : p m
      · have HQ := Lib.hid hq
        clear hq
        go_wp2
        go_roundw
        case rel => exact ⟨m + 1, j, by omega, hj, by go_num, rfl, hb2, (fun k hk => by
          cases hk' : p k
          · rfl
          · have := HM.out k m (by omega) (by omega) hk'
            rw [HQ.out] at this; cases this), h2⟩
        case measure => simp [intOf]; omega
      · have HQ := Lib.hid hq
        clear hq
        go_wp2
        go_roundw
        case rel => exact ⟨i, m, m1, by omega, rfl, rfl, hb2, h1, fun k hk hkn => HM.out m k hkn hk HQ.out⟩
        case measure => simp [intOf]; omega
    · obtain rfl : i = j := by omega
      go_wp2
      go_ret
      exact ⟨i, hj, rfl, h1.out, h2.out, hb⟩

set_option maxHeartbeats 1000000 in
theorem fewest1_any (L : Lif) (fv : Value) (x : Int) (k : Nat) (p0 p1 : Nat) (w : World) (k0 : w.heap[p0]? = some (lifO L fv)) (k1 : w.heap[p1]? = some (intO x)) (hL : LOk L) (hk : k ≤ 1000) :
    Calls Try.prog 103 #[.int .i64 k, ptr p0, ptr p1] w fun e w' => e = .returned (.bool (decide (x ≤ reaM L.spd L.acc k))) ∧ Below w.heap.size w w' := by
  have y0 := bw_cells (B := w.heap.size) k0 (lt_of_block k0)
  have y1 := bw_cells (B := w.heap.size) k1 (lt_of_block k1)
  have H1 := Lib.hid (fun w1 => lreach_any L fv k w1 hL hk)
  clear k0 k1 hL
  go_enter Try.func103, Try.ntmps103
  go_wp2_with fail
  refine wp_region_below (by kernel_rfl) (by kernel_rfl) (Below.refl w.heap.size w) ?_
  repeat ((with_reducible refine wpQuiet_step (fun K hK => ?_)); go_simp; first | (refine hK _ ?_; clear hK K) | (apply Exists.intro; refine ⟨fun _ => ?_, hK _ ?_⟩; ((go_at_call 81; exact bw_call (Nat.le_refl _) (H1.out _))); clear hK K))
  refine wpQuiet_nil ?_
  intro wq hwq0
  have hwq := bw_out hwq0
  clear hwq0
  go_wp2
  go_ret
  exact ⟨rfl, hwq⟩

set_option maxHeartbeats 1000000 in
theorem lfewest_any (L : Lif) (fv : Value) (x : Int) (w : World) (hL : LOk L) :
    Calls Try.prog 93 #[lifV L fv, .int .i64 x] w fun e w' => e = .returned (.int .i64 (fewM L.spd L.acc x)) ∧ Below w.heap.size w w' := by
  have HB := Lib.hid (blw2 w (lifO L fv) (intO x))
  have K0 := Lib.hid (two_od w (lifO L fv) (intO x))
  have K1 := Lib.hid (two_nw w (lifO L fv) (intO x))
  have HS := Lib.hid (fun wA (K0 : wA.heap[w.heap.size]? = some (lifO L fv)) (K1 : wA.heap[w.heap.size + 1]? = some (intO x)) => searchFew_any w.heap.size (w.heap.size + 1) 1000 1000 rfl (fun k => decide (x ≤ reaM L.spd L.acc k)) wA (by omega) (fun k w2 hk hb => fewest1_any L fv x k _ _ w2 (keepZ K0 hb) (keepZ K1 hb) hL (by omega)) (fun a b _ hab h => by
    have h1 := rea_mono (spd := L.spd) hL.a1 hL.s1 a (b - a)
    rw [show a + (b - a) = b by omega] at h1
    rw [decide_eq_true_eq] at *
    omega))
  go_enter Try.func93, Try.ntmps93
  go_wp2_with fail
  generalize (w.alloc (lifO L fv)).alloc (intO x) = wA at *
  refine (HS.out _ K0.out K1.out).mono ?_
  rintro e w2 ⟨r, hr1, rfl, hr2, hr3, hb2⟩
  have hr : r = fewM L.spd L.acc x := search_lst hr1 hr2 hr3
  have HR := Lib.hid hr
  clear hr1 hr2 hr3 hr HS
  go_wp2
  go_ret
  exact ⟨ret_int (by rw [HR.out]), HB.out.trans (hb2.mono HB.out.size)⟩

theorem max_neg (x : Int) : (if x < -x then -x else x) = max x (-x) := by split <;> omega

set_option maxHeartbeats 1000000 in
theorem ldistance_any (L : Lif) (fv : Value) (a b : Int) (w : World) (hv : InAt w fv L.fl) (hL : LOk L) (a0 : 0 ≤ a) (a1 : a < L.fl.length) (b0 : 0 ≤ b) (b1 : b < L.fl.length) :
    Calls Try.prog 85 #[lifV L fv, .int .i64 a, .int .i64 b] w fun e w' => e = .returned (.int .i64 (wayM L a b)) ∧ Below w.heap.size w w' := by
  have HB := Lib.hid ((Below.refl w.heap.size w).alloc (Nat.le_refl _) (lifO L fv))
  have K0 := Lib.hid (block_new w (lifO L fv) w.heap.size rfl)
  have HSZ := Lib.hid (size_alloc w (lifO L fv))
  have x1 := hL.floor (i := a.toNat) (by omega)
  have x2 := hL.floor (i := b.toNat) (by omega)
  have x3 := hL.top
  have HW := Lib.hid (show wayM L a b = max (L.fl.getD b.toNat 0 - L.fl.getD a.toNat 0) (-(L.fl.getD b.toNat 0 - L.fl.getD a.toNat 0)) from rfl)
  obtain ⟨sa, cap, rfl, hn, hcap, hc⟩ := hv
  obtain ⟨bk, off, rfl, hbl, hc⟩ := hc (by omega)
  have g1 := in_at HB.out hbl hc (k := a.toNat) (by omega)
  have g2 := in_at HB.out hbl hc (k := b.toNat) (by omega)
  generalize L.fl.getD a.toNat 0 = x at *
  generalize L.fl.getD b.toNat 0 = y at *
  have e1 : IntKind.i64.wrap (y - x) = y - x := wrap_i64_in (by omega) (by omega)
  clear hc hL
  go_enter Try.func85, Try.ntmps85
  go_wp2_with fail
  generalize w.alloc (lifO L (.slice (some ⟨bk, off, none⟩) L.fl.length cap)) = wA at *
  have c0 := block_cell K0.out
  go_quiet (fail)
  go_wp2_with fail
  all_goals
    go_ret
    exact ⟨ret_int (by rw [HW.out]; omega), below_drewN HB.out _⟩

end Go.Proofs.Ytnefbiaopconkaa
