/- Walks of layer 5 (lift): reach, Reach, rest of the specification. -/
import Derived.Test.YtnefbiaopconkaaJB
namespace Go.Proofs.Ytnefbiaopconkaa
open Go.RowKit

theorem min3b (a b c : Int) : (if c < (if b < a then b else a) then c else (if b < a then b else a)) = min a (min (0 + b) c) := by
  split <;> split at * <;> omega
theorem min3c (a b c : Int) : (if c < (if b < a then b else a) then c else (if b < a then b else a)) = min a (min b c) := by
  split <;> split at * <;> omega

set_option maxRecDepth 100000 in
set_option maxHeartbeats 2000000 in
theorem rreach_any (L : Lif) (fv : Value) (n : Nat) (w : World) (hL : LOk L) (hn : n ≤ 1000) :
    Calls Try.prog 82 #[lifV L fv, .int .i64 n] w fun e w' => e = .returned (.int .i64 (reaM L.spd L.acc n)) ∧ Below w.heap.size w w' := by
  have HB := Lib.hid ((Below.refl w.heap.size w).alloc (Nat.le_refl _) (lifO L fv))
  have K0 := Lib.hid (block_new w (lifO L fv) w.heap.size rfl)
  have HSZ := Lib.hid (size_alloc w (lifO L fv))
  have s1 := hL.s1
  have s2 := hL.s2
  have a1 := hL.a1
  have a2 := hL.a2
  clear hL
  go_enter Try.func82, Try.ntmps82
  go_wp2_with fail
  generalize w.alloc (lifO L fv) = wA at *
  have c0 := block_cell K0.out
  go_wp2_with fail
  go_loopw [5, 6] (fun x i wr => ∃ k : Nat, k ≤ n ∧ i = .int .i64 ((k : Int) + 1) ∧ x = .int .i64 (sumN (pkM L.spd L.acc n) k) ∧ wA = wr) (fun _ i _ => n + 1 - (intOf i).toNat)
  case atStart => exact ⟨0, Nat.zero_le _, rfl, rfl, rfl⟩
  case round =>
    obtain ⟨k, hk, rfl, rfl, rfl⟩ := hrel
    obtain ⟨b1, b2⟩ := pk_sum (k := k) s1 s2 a1 hk hn
    by_cases hlt : k < n
    · have HS := Lib.hid (show sumN (pkM L.spd L.acc n) (k + 1) = sumN (pkM L.spd L.acc n) k + pkM L.spd L.acc n k from rfl)
      have HP := Lib.hid (show pkM L.spd L.acc n k = min L.spd (min (0 + L.acc * ((k : Int) + 1)) (L.acc * ((n : Int) - k))) from rfl)
      have hp1 := mul_bd (A := 100) (B := 1001) (show 0 ≤ L.acc by omega) a2 (show 0 ≤ (k : Int) + 1 by omega) (by omega)
      have hp2 := mul_bd (A := 100) (B := 1001) (show 0 ≤ L.acc by omega) a2 (show 0 ≤ (n : Int) - k by omega) (by omega)
      have ex : (n : Int) + 1 - ((k : Int) + 1) = (n : Int) - k := by omega
      have e1 : wrap64 (L.acc * ((k : Int) + 1)) = L.acc * ((k : Int) + 1) := wrap64_in (by omega) (by omega)
      have e2 : wrap64 (L.acc * ((n : Int) - k)) = L.acc * ((n : Int) - k) := wrap64_in (by omega) (by omega)
      have e3 : wrap64 (L.acc * ((n : Int) + 1 - ((k : Int) + 1))) = L.acc * ((n : Int) - k) := by rw [ex]; exact e2
      generalize sumN (pkM L.spd L.acc n) k = S at *
      go_wp2
      go_roundw
      case rel => exact ⟨k + 1, hlt, by go_num, by rw [HS.out, HP.out, ← min3b], by trivial⟩
      case measure => simp [intOf]; omega
    · obtain rfl : k = n := by omega
      go_wp2
      go_ret
      exact ⟨rfl, HB.out⟩

set_option maxHeartbeats 1000000 in
theorem rReach_any (L : Lif) (fv : Value) (t : Int) (w : World) (hv : InAt w fv L.fl) :
    Calls Try.prog 33 #[lifV L fv, .int .i64 t] w fun e w' => e = .returned (pairV (reaR L t)) ∧ Below w.heap.size w w' := by
  have HB := Lib.hid ((Below.refl w.heap.size w).alloc (Nat.le_refl _) (lifO L fv))
  have K0 := Lib.hid (block_new w (lifO L fv) w.heap.size rfl)
  have HSZ := Lib.hid (size_alloc w (lifO L fv))
  have HV := Lib.hid (hv.below HB.out (Nat.le_refl _))
  have HO := Lib.hid (@reaR_ok L t)
  have HN := Lib.hid (@reaR_no L t)
  cases hok : okB L
  · have HK := Lib.hid (chkE_no (x := 0) hok).symm
    have HE : reaE L t = 50 := (chkE_no hok).symm
    have HR := Lib.hid ((HN.out (by rw [HE]; decide)).trans (by rw [HE]))
    clear hok HE
    go_enter Try.func33, Try.ntmps33
    go_wp2_with fail
    generalize w.alloc (lifO L fv) = wA at *
    have c0 := block_cell K0.out
    go_wp2_with (go_at_call 22; refine (int_is HK.out (rCheck_any L fv _ HV.out)).mono ?_; rintro e w1 ⟨rfl, hb1⟩)
    go_ret2
    exact ⟨by first | (rw [HR.out]; done) | (rw [HR.out]; rfl), HB.out.trans (hb1.mono HB.out.size)⟩
  · have HK := Lib.hid (chkE_ok (x := 0) hok).symm
    have hL := ok_of hok
    have HE := (show reaE L t = fitE (inB t 0 1000) from (chkE_ok hok).symm)
    cases hq : inB t 0 1000
    · rw [hq] at HE
      have HR := Lib.hid ((HN.out (by rw [HE]; decide)).trans (by rw [HE]))
      have HQ := Lib.hid hq
      clear hok HE hL hq
      go_enter Try.func33, Try.ntmps33
      go_wp2_with fail
      generalize w.alloc (lifO L fv) = wA at *
      have c0 := block_cell K0.out
      go_wp2_with (first | (go_at_call 22; refine (int_is HK.out (rCheck_any L _ _ HV.out)).mono ?_; rintro e w1 ⟨rfl, hb1⟩) | (go_at_call 55; refine (rwithin_is false _ _ _ _ HQ.out).mono ?_; rintro e w2 ⟨rfl, rfl⟩))
      go_ret2
      exact ⟨by first | (rw [HR.out]; done) | (rw [HR.out]; rfl), HB.out.trans (hb1.mono HB.out.size)⟩
    · have HR := Lib.hid (HO.out (by rw [HE, hq]; rfl))
      have HQ := Lib.hid hq
      obtain ⟨t0, t1⟩ := inB_iff.1 hq
      obtain ⟨n, rfl⟩ : ∃ n : Nat, t = n := ⟨t.toNat, by omega⟩
      have HS := Lib.hid (fun w2 => rreach_any L fv n w2 hL (by omega))
      clear hok HE hL hq
      go_enter Try.func33, Try.ntmps33
      go_wp2_with fail
      generalize w.alloc (lifO L fv) = wA at *
      have c0 := block_cell K0.out
      go_wp2_with (first | (go_at_call 22; refine (int_is HK.out (rCheck_any L _ _ HV.out)).mono ?_; rintro e w1 ⟨rfl, hb1⟩; clear c0; have c0 := block_cell (keepZ K0.out hb1)) | (go_at_call 55; refine (rwithin_is true _ _ _ _ HQ.out).mono ?_; rintro e w2 ⟨rfl, rfl⟩) | (go_at_call 82; refine (HS.out _).mono ?_; rintro e w3 ⟨rfl, hb3⟩))
      go_ret2
      exact ⟨by first | (rw [HR.out]; done) | (rw [HR.out]; rfl), HB.out.trans ((hb1.trans (hb3.mono hb1.size)).mono HB.out.size)⟩

/-! ### what is left of a trip -/
def lsF (acc v : Int) (i : Nat) : Int := max 0 (v - acc * ((i : Int) + 1))
def msF (spd acc v : Int) (t i : Nat) : Int := min spd (min (v + acc * ((i : Int) + 1)) (acc * ((t : Int) - i)))
theorem lst_is (acc v : Int) (t : Nat) : lstM acc v t = sumN (lsF acc v) t := rfl
theorem mst_is (spd acc v : Int) (t : Nat) : mstM spd acc v t = sumN (msF spd acc v t) t := rfl

theorem ls_bd {acc v : Int} (ha : 1 ≤ acc) (h0 : 0 ≤ v) (hv : v ≤ 100) (k : Nat) (hk : k ≤ 1000) : 0 ≤ sumN (lsF acc v) k ∧ sumN (lsF acc v) k ≤ 100000 := by
  have h1 : sumN (lsF acc v) k ≤ 100 * k := sumN_le fun i _ => by
    have := Int.mul_nonneg (show 0 ≤ acc by omega) (show (0 : Int) ≤ (i : Int) + 1 by omega)
    show max 0 (v - acc * ((i : Int) + 1)) ≤ 100
    omega
  exact ⟨sumN_nonneg fun i _ => by show 0 ≤ max 0 (v - acc * ((i : Int) + 1)); omega, by omega⟩
theorem ms_bd {spd acc v : Int} (hs : 1 ≤ spd) (hs2 : spd ≤ 100) (ha : 1 ≤ acc) (h0 : 0 ≤ v) {t : Nat} (k : Nat) (hk : k ≤ t) (ht : t ≤ 1000) : 0 ≤ sumN (msF spd acc v t) k ∧ sumN (msF spd acc v t) k ≤ 100000 := by
  have h1 : sumN (msF spd acc v t) k ≤ 100 * k := sumN_le fun i _ => by
    show min spd _ ≤ 100
    omega
  exact ⟨sumN_nonneg fun i hi => by
    have h2 := Int.mul_nonneg (show 0 ≤ acc by omega) (show (0 : Int) ≤ (i : Int) + 1 by omega)
    have h3 := Int.mul_nonneg (show 0 ≤ acc by omega) (show (0 : Int) ≤ (t : Int) - i by omega)
    show 0 ≤ min spd (min (v + acc * ((i : Int) + 1)) (acc * ((t : Int) - i)))
    omega, by omega⟩

theorem max0 (x : Int) : (if (0 : Int) < x then x else 0) = max 0 x := by split <;> omega

abbrev restV (a b : Int) (q : Bool) : Value := .tuple #[.int .i64 a, .int .i64 b, .bool q]

set_option maxRecDepth 100000 in
set_option maxHeartbeats 2000000 in
theorem rrest_any (L : Lif) (fv : Value) (v : Int) (t : Nat) (w : World) (hL : LOk L) (v0 : 0 ≤ v) (v1 : v ≤ 100) (ht : t ≤ 1000) (q : Bool) (hq : decide (v ≤ L.acc * ((t : Int) + 1)) = q) :
    Calls Try.prog 86 #[lifV L fv, .int .i64 v, .int .i64 t] w fun e w' => e = .returned (restV (if q = true then lstM L.acc v t else 0) (if q = true then mstM L.spd L.acc v t else 0) q) ∧ Below w.heap.size w w' := by
  have HB := Lib.hid ((Below.refl w.heap.size w).alloc (Nat.le_refl _) (lifO L fv))
  have K0 := Lib.hid (block_new w (lifO L fv) w.heap.size rfl)
  have HSZ := Lib.hid (size_alloc w (lifO L fv))
  have s1 := hL.s1
  have s2 := hL.s2
  have a1 := hL.a1
  have a2 := hL.a2
  have hp0 := mul_bd (A := 100) (B := 1001) (show 0 ≤ L.acc by omega) a2 (show 0 ≤ (t : Int) + 1 by omega) (by omega)
  have e0 : wrap64 (L.acc * ((t : Int) + 1)) = L.acc * ((t : Int) + 1) := wrap64_in (by omega) (by omega)
  cases q
  · have hlt : L.acc * ((t : Int) + 1) < v := by have := of_decide_eq_false hq; omega
    simp only [Bool.false_eq_true, if_false]
    clear hL hq
    go_enter Try.func86, Try.ntmps86
    go_wp2_with fail
    generalize w.alloc (lifO L fv) = wA at *
    have c0 := block_cell K0.out
    go_wp2
    go_ret3
    exact ⟨rfl, HB.out⟩
  · have hle : ¬ L.acc * ((t : Int) + 1) < v := by have := of_decide_eq_true hq; omega
    simp only [if_true]
    have HL := Lib.hid (lst_is L.acc v t)
    have HM := Lib.hid (mst_is L.spd L.acc v t)
    clear hL hq
    go_enter Try.func86, Try.ntmps86
    go_wp2_with fail
    generalize w.alloc (lifO L fv) = wA at *
    have c0 := block_cell K0.out
    go_wp2_with fail
    go_loopw [6, 7, 9] (fun x y i wr => ∃ k : Nat, k ≤ t ∧ i = .int .i64 ((k : Int) + 1) ∧ x = .int .i64 (sumN (lsF L.acc v) k) ∧ y = .int .i64 (sumN (msF L.spd L.acc v t) k) ∧ wA = wr) (fun _ _ i _ => t + 1 - (intOf i).toNat)
    case atStart => exact ⟨0, Nat.zero_le _, rfl, rfl, rfl, rfl⟩
    case round =>
      obtain ⟨k, hk, rfl, rfl, rfl, rfl⟩ := hrel
      obtain ⟨b1, b2⟩ := ls_bd (k := k) a1 v0 v1 (by omega)
      obtain ⟨b3, b4⟩ := ms_bd s1 s2 a1 v0 k hk ht
      by_cases hlt : k < t
      · have HS1 := Lib.hid (show sumN (lsF L.acc v) (k + 1) = sumN (lsF L.acc v) k + max 0 (v - L.acc * ((k : Int) + 1)) from rfl)
        have HS2 := Lib.hid (show sumN (msF L.spd L.acc v t) (k + 1) = sumN (msF L.spd L.acc v t) k + min L.spd (min (v + L.acc * ((k : Int) + 1)) (L.acc * ((t : Int) - k))) from rfl)
        have hp1 := mul_bd (A := 100) (B := 1001) (show 0 ≤ L.acc by omega) a2 (show 0 ≤ (k : Int) + 1 by omega) (by omega)
        have hp2 := mul_bd (A := 100) (B := 1001) (show 0 ≤ L.acc by omega) a2 (show 0 ≤ (t : Int) - k by omega) (by omega)
        have ex : (t : Int) + 1 - ((k : Int) + 1) = (t : Int) - k := by omega
        have e1 : wrap64 (L.acc * ((k : Int) + 1)) = L.acc * ((k : Int) + 1) := wrap64_in (by omega) (by omega)
        have e2 : wrap64 (L.acc * ((t : Int) - k)) = L.acc * ((t : Int) - k) := wrap64_in (by omega) (by omega)
        have e3 : wrap64 (L.acc * ((t : Int) + 1 - ((k : Int) + 1))) = L.acc * ((t : Int) - k) := by rw [ex]; exact e2
        generalize sumN (lsF L.acc v) k = S at *
        generalize sumN (msF L.spd L.acc v t) k = M at *
        by_cases hx : 0 < v - L.acc * ((k : Int) + 1)
        · have HX := Lib.hid (show max 0 (v - L.acc * ((k : Int) + 1)) = v - L.acc * ((k : Int) + 1) by omega)
          go_wp2
          go_roundw
          case rel => exact ⟨k + 1, hlt, by go_num, by rw [HS1.out, HX.out], by rw [HS2.out, ← min3c], by trivial⟩
          case measure => simp [intOf]; omega
        · have HX := Lib.hid (show max 0 (v - L.acc * ((k : Int) + 1)) = 0 by omega)
          go_wp2
          go_roundw
          case rel => exact ⟨k + 1, hlt, by go_num, by rw [HS1.out, HX.out]; try simp, by rw [HS2.out, ← min3c], by trivial⟩
          case measure => simp [intOf]; omega
      · obtain rfl : k = t := by omega
        go_wp2
        go_ret3
        exact ⟨by rw [HL.out, HM.out]; rfl, HB.out⟩

end Go.Proofs.Ytnefbiaopconkaa
