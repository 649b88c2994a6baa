/- Walks of layer 5 (lift): stopping, trip, Trip, Reach of the program. -/
import Derived.Test.YtnefbiaopconkaaJz
namespace Go.Proofs.Ytnefbiaopconkaa
open Go.RowKit

def stpF (acc v : Int) (i : Nat) : Int := max 0 (v - acc * (i : Int))
theorem stp_is (acc v : Int) : stpM acc v = sumN (stpF acc v) 101 := rfl

theorem stp_end {acc v : Int} (ha : 1 ≤ acc) (hv : v ≤ 100) {k : Nat} (h : v - acc * (k : Int) ≤ 0) : sumN (stpF acc v) k = stpM acc v := by
  rw [stp_is]
  refine sumN_same (fun i hi => ?_) (fun i hi => ?_)
  · have := acc_le ha (show (k : Int) ≤ i by omega)
    show max 0 (v - acc * (i : Int)) = 0
    omega
  · have := acc_ge ha (show (0 : Int) ≤ i by omega)
    show max 0 (v - acc * (i : Int)) = 0
    omega

theorem stpF_bd {acc v : Int} (ha : 1 ≤ acc) (h0 : 0 ≤ v) (hv : v ≤ 100) (k : Nat) (hk : k ≤ 200) : 0 ≤ sumN (stpF acc v) k ∧ sumN (stpF acc v) k ≤ 20000 := by
  have h1 : sumN (stpF acc v) k ≤ 100 * k := sumN_le fun i _ => by
    have := Int.mul_nonneg (show 0 ≤ acc by omega) (show (0 : Int) ≤ i by omega)
    show max 0 (v - acc * (i : Int)) ≤ 100
    omega
  exact ⟨sumN_nonneg fun i _ => by show 0 ≤ max 0 (v - acc * (i : Int)); omega, by omega⟩

set_option maxRecDepth 100000 in
set_option maxHeartbeats 2000000 in
theorem lstopping_any (L : Lif) (fv : Value) (v : Int) (w : World) (hL : LOk L) (h0 : 0 ≤ v) (h1 : v ≤ 100) :
    Calls Try.prog 98 #[lifV L fv, .int .i64 v] w fun e w' => e = .returned (.int .i64 (stpM L.acc v)) ∧ Below w.heap.size w w' := by
  have HB := Lib.hid ((Below.refl w.heap.size w).alloc (Nat.le_refl _) (lifO L fv))
  have K0 := Lib.hid (block_new w (lifO L fv) w.heap.size rfl)
  have HSZ := Lib.hid (size_alloc w (lifO L fv))
  have a1 := hL.a1
  have a2 := hL.a2
  have HBD := Lib.hid (fun k hk => stpF_bd a1 h0 h1 k hk)
  have HEND := Lib.hid (fun (k : Nat) (h : v - L.acc * (k : Int) ≤ 0) => stp_end a1 h1 h)
  clear hL
  go_enter Try.func98, Try.ntmps98
  go_wp2_with fail
  generalize w.alloc (lifO L fv) = wA at *
  have c0 := block_cell K0.out
  go_loopw [1, 5] (fun s x wr => ∃ k : Nat, s = .int .i64 (v - L.acc * (k : Int)) ∧ x = .int .i64 (sumN (stpF L.acc v) k) ∧ Hid (∀ i : Nat, i < k → 0 < v - L.acc * (i : Int)) ∧ wA = wr) (fun s _ _ => (intOf s).toNat)
  case atStart => exact ⟨0, by simp, rfl, Lib.hid (fun i hi => by omega), rfl⟩
  case round =>
    obtain ⟨k, rfl, rfl, hA, rfl⟩ := hrel
    have hk1 : k ≤ 100 := by
      rcases Nat.eq_zero_or_pos k with h | h
      · omega
      · have h2 := hA.out (k - 1) (by omega)
        have h3 := acc_ge a1 (show (0 : Int) ≤ ((k - 1 : Nat) : Int) by omega)
        omega
    obtain ⟨b1, b2⟩ := HBD.out k (by omega)
    have hak := Int.mul_nonneg (show 0 ≤ L.acc by omega) (show (0 : Int) ≤ k by omega)
    by_cases hp : 0 < v - L.acc * (k : Int)
    · have HS := Lib.hid (show sumN (stpF L.acc v) (k + 1) = sumN (stpF L.acc v) k + (v - L.acc * (k : Int)) by
        show sumN (stpF L.acc v) k + max 0 (v - L.acc * (k : Int)) = _
        omega)
      have HX := Lib.hid (show v - L.acc * ((k + 1 : Nat) : Int) = v - L.acc * (k : Int) - L.acc by
        rw [show ((k + 1 : Nat) : Int) = (k : Int) + 1 by omega, acc_succ]; omega)
      have HAn : Hid (∀ i : Nat, i < k + 1 → 0 < v - L.acc * (i : Int)) := Lib.hid (fun i hi => by
        by_cases hik : i = k
        · rw [hik]; exact hp
        · exact hA.out i (by omega))
      have hy1 : v - L.acc * (k : Int) ≤ 100 := by omega
      generalize sumN (stpF L.acc v) k = S at *
      generalize v - L.acc * (k : Int) = y at *
      go_wp2
      go_roundw
      case rel => exact ⟨k + 1, by rw [HX.out], by rw [HS.out], HAn, by trivial⟩
      case measure => simp [intOf]; omega
    · have HE := Lib.hid (HEND.out k (by omega))
      generalize sumN (stpF L.acc v) k = S at *
      generalize v - L.acc * (k : Int) = y at *
      go_wp2
      go_ret
      exact ⟨ret_int HE.out, HB.out⟩

theorem min3 (a b c : Int) : min (min a b) c = if c < (if b < a then b else a) then c else (if b < a then b else a) := by
  split <;> split at * <;> omega

theorem pick_step {acc w : Int} {n : Nat} (h : w < stpM acc ((n + 1 : Nat) : Int)) : pickM acc w (n + 1) = pickM acc w n := by
  simp only [pickM]
  rw [if_neg (by omega)]
theorem pick_here {acc w : Int} {n : Nat} (h : stpM acc (n : Int) ≤ w) : pickM acc w n = n := by
  cases n with
  | zero => rfl
  | succ n => simp only [pickM]; rw [if_pos h]

theorem cap_nat {spd acc s : Int} {t : Nat} (ha : 1 ≤ acc) (hs : 0 ≤ s) (hp : 1 ≤ spd) : ∃ c : Nat, capM spd acc s (t + 1) = c ∧ (capM spd acc s (t + 1)).toNat = c ∧ 1 ≤ c ∧ (c : Int) ≤ spd := by
  have h := cap_bd (t := t) ha hs hp
  have h2 : capM spd acc s (t + 1) ≤ spd := by unfold capM; omega
  exact ⟨(capM spd acc s (t + 1)).toNat, by omega, rfl, by omega, by omega⟩

theorem stp_bd2 {acc v : Int} (ha : 1 ≤ acc) (h0 : 0 ≤ v) (hv : v ≤ 100) : 0 ≤ stpM acc v ∧ stpM acc v ≤ 20000 := stpF_bd ha h0 hv 101 (by omega)

set_option maxRecDepth 100000 in
set_option maxHeartbeats 4000000 in
theorem ltrip_any (L : Lif) (fv : Value) (w0 : Int) (w : World) (hL : LOk L) (h0 : 0 ≤ w0) (h1 : w0 ≤ 1000) :
    Calls Try.prog 84 #[lifV L fv, .int .i64 w0] w (ListRes (tripL L.spd L.acc (fewM L.spd L.acc w0) 0 w0) w) := by
  have HB := Lib.hid ((Below.refl w.heap.size w).alloc (Nat.le_refl _) (lifO L fv))
  have K0 := Lib.hid (block_new w (lifO L fv) w.heap.size rfl)
  have HSZ := Lib.hid (size_alloc w (lifO L fv))
  have a1 := hL.a1
  have a2 := hL.a2
  have s1 := hL.s1
  have s2 := hL.s2
  have HF := Lib.hid (few_feas a1 s1 h0 h1)
  have hn := (few_spec a1 s1 h1).1
  have HFE := Lib.hid (fun w1 => lfewest_any L fv w0 w1 hL)
  have HST := Lib.hid (fun (v : Int) (v0 : 0 ≤ v) (v1 : v ≤ 100) w1 => lstopping_any L fv v w1 hL v0 v1)
  obtain ⟨T, hT⟩ : ∃ T, tripL L.spd L.acc (fewM L.spd L.acc w0) 0 w0 = T := ⟨_, rfl⟩
  rw [hT]
  have HT := Lib.hid hT
  have HTL := Lib.hid (show T.length ≤ 1000 by rw [← hT, tripL_len]; exact hn)
  generalize fewM L.spd L.acc w0 = N at *
  clear hL hT
  go_enter Try.func84, Try.ntmps84
  go_wp2_with fail
  generalize w.alloc (lifO L fv) = wA at *
  have c0 := block_cell K0.out
  go_wp2_with fail
  refine (HFE.out _).mono ?_
  rintro e w1 ⟨rfl, hb1⟩
  have HB1 := Lib.hid hb1
  clear hb1 c0
  obtain ⟨i0, hi0, hz0, hz1, hz2⟩ := info_parts infoInt
  go_wp2_with fail
  go_loopw [1, 5, 6, 7] (fun ww vv ss tt wr => ∃ (t : Nat) (s W : Int) (pre : List Int), tt = .int .i64 t ∧ ss = .int .i64 s ∧ ww = .int .i64 W ∧ Hid (pre ++ tripL L.spd L.acc t s W = T) ∧ Hid (Feas L.spd L.acc s t W) ∧ Hid (wr.ownsRow wA.heap.size 3 1 vv pre.length (pre.map (Value.int .i64))) ∧ Hid (Below wA.heap.size wA wr) ∧ t ≤ 1000 ∧ W ≤ 1000) (fun _ _ _ tt _ => (intOf tt).toNat)
  case atStart => exact ⟨N, 0, w0, [], rfl, rfl, rfl, HT, HF, Lib.hid ⟨by simp, Or.inl ⟨rfl, by simp⟩⟩, HB1, hn, h1⟩
  case round =>
    obtain ⟨t, s, W, pre, rfl, rfl, rfl, hpre, hF, hO, hb, ht, hW⟩ := hrel
    obtain ⟨ra, rc, rfl, hown⟩ := ownsRow_shape hO.out
    have HOWN := Lib.hid hown
    clear hown
    cases t with
    | zero =>
      have HR : Hid (pre = T) := Lib.hid (by have := hpre.out; simpa [tripL] using this)
      have HOX := hO
      have HBZ := Lib.hid (HB.out.trans (hb.out.mono HB.out.size))
      go_wp2_with fail
      go_ret
      exact ⟨_, rfl, by rw [← HR.out]; exact InAt.of_own HOX.out, HBZ.out⟩
    | succ t =>
      rw [show ((t + 1 : Nat) : Int) = (t : Int) + 1 by omega]
      have hs0 := hF.out.s0
      have hs1 := hF.out.s1
      have hw0 := hF.out.w0
      obtain ⟨st1, st2, st3, st4⟩ := hF.out.step a1 s1 s2
      obtain ⟨c, hc1, hc2, hc3, hc4⟩ := cap_nat (t := t) a1 hs0 s1
      have hpl : pre.length ≤ 1000 := by
        have h2 := HTL.out
        rw [← hpre.out, List.length_append] at h2
        omega
      have HNX := Lib.hid (show nxtM L.spd L.acc s t W = pickM L.acc W c by unfold nxtM; rw [hc2])
      have HPN := Lib.hid (show (pre ++ [((nxtM L.spd L.acc s t W : Nat) : Int)]) ++ tripL L.spd L.acc t (nxtM L.spd L.acc s t W : Nat) (W - (nxtM L.spd L.acc s t W : Nat)) = T by
        rw [← hpre.out, List.append_assoc]; rfl)
      have HF4 := Lib.hid st4
      have hnw := st3
      have hact := mul_bd (A := 100) (B := 1001) (show 0 ≤ L.acc by omega) a2 (show (0 : Int) ≤ (t : Int) + 1 by omega) (by omega)
      have HCAP : Hid ((if L.acc * ((t : Int) + 1) < (if L.spd < s + L.acc then L.spd else s + L.acc) then L.acc * ((t : Int) + 1) else (if L.spd < s + L.acc then L.spd else s + L.acc)) = c) := Lib.hid (by
        rw [← hc1, ← min3]
        unfold capM
        rw [show ((t + 1 : Nat) : Int) = (t : Int) + 1 by omega])
      have e1 : wrap64 (L.acc * ((t : Int) + 1)) = L.acc * ((t : Int) + 1) := wrap64_in (by omega) (by omega)
      have HPZ := Lib.hid (stp_zero a1)
      have HSB := Lib.hid (fun (v : Int) (v0 : 0 ≤ v) (v1 : v ≤ 100) => stp_bd2 a1 v0 v1)
      have hpk := pick_le L.acc W c
      rw [HNX.out] at HPN HF4 hnw
      clear st1 st2 st3 st4 hc1 hc2 hpre hF HNX
      have c0 := block_cell (keepZ K0.out hb.out)
      go_upto_region 6 with fail
      go_cut [6] (fun s6 wx => s6 = .int .i64 c ∧ wr = wx)
      case first =>
        have hcp := HCAP.out
        go_wp2
        all_goals
          go_meet
          exact ⟨by rw [← hcp]; try (first | (simp_all; done) | (simp_all; omega)), rfl⟩
      case rest =>
        obtain ⟨rfl, rfl⟩ := hcut
        clear c0 e1 hact
        go_wp2_with fail
        go_loopw [6] (fun x w9 => ∃ n : Nat, n ≤ c ∧ x = .int .i64 n ∧ Hid (pickM L.acc W n = pickM L.acc W c) ∧ Hid (Below wr.heap.size wr w9)) (fun x _ => (intOf x).toNat)
        case atStart => exact ⟨c, Nat.le_refl _, rfl, Lib.hid rfl, Lib.hid (Below.refl _ _)⟩
        case round =>
          obtain ⟨n, hnc, rfl, hP, hb9⟩ := hrel
          have HB9 := Lib.hid (hb.out.trans (hb9.out.mono hb.out.size))
          have c0 := block_cell (keepZ K0.out HB9.out)
          obtain ⟨x0, x1⟩ := HSB.out (n : Int) (by omega) (by omega)
          have G := Lib.hid (HST.out (n : Int) (by omega) (by omega))
          by_cases hlt : W < stpM L.acc (n : Int)
          · obtain ⟨m, rfl⟩ : ∃ m, n = m + 1 := by
              cases n with
              | zero => rw [show ((0 : Nat) : Int) = 0 from rfl, HPZ.out] at hlt; omega
              | succ m => exact ⟨m, rfl⟩
            have HP2 := Lib.hid ((pick_step hlt).symm.trans hP.out)
            generalize stpM L.acc ((m + 1 : Nat) : Int) = X at *
            go_wp2_with fail
            refine (G.out _).mono ?_
            rintro e w8 ⟨rfl, hb8⟩
            have HB8 := Lib.hid (hb9.out.trans (hb8.mono hb9.out.size))
            go_wp2_with fail
            go_roundw
            case rel => exact ⟨m, by omega, by first | rfl | go_num, HP2, HB8⟩
            case measure => simp [intOf] <;> omega
          · have hpn := pick_here (acc := L.acc) (w := W) (n := n) (by omega)
            have HE : Hid (pickM L.acc W c = n) := Lib.hid (hP.out.symm.trans hpn)
            rw [HE.out] at HPN HF4 hnw
            have hn100 : (n : Int) ≤ 100 := by omega
            generalize stpM L.acc (n : Int) = X at *
            clear hpn
            go_wp2_with fail
            refine (G.out _).mono ?_
            rintro e w8 ⟨rfl, hb8⟩
            have HB8 := Lib.hid (hb9.out.trans (hb8.mono hb9.out.size))
            have HO8 := Lib.hid (ownsRow_below hO.out HB8.out)
            have HBW := Lib.hid (hb.out.trans (HB8.out.mono hb.out.size))
            have hsz := HBW.out.size
            clear c0 hb8
            go_wp2_with ((at_builtin; refine wpList_append_own _ rfl (.tmp 33) (.tmp 35) 22 rfl wA.heap.size 3 i0 (.int .i64 0) 1 8 Try.underlying22 hi0 hz0 hz1 hz2 rfl (by decide) _ (pre).length ((pre).map (Value.int .i64)) rfl ?c0 _ _ _ [.int .i64 n] rfl rfl ?c1 ?c2 ?c3 ?c4 ?c5 ?_))
            case c0 => exact World.ownsRow.alloc (HO8).out _
            try (case c1 => exact one_cell _ _ _ rfl)
            case c2 => first | rfl | (intro u hu; simp only [List.mem_cons, List.not_mem_nil, or_false] at hu; subst hu; rfl)
            case c3 => unfold maxLen; omega
            case c4 => omega
            case c5 => first | exact Nat.le_trans hsz (al_le _ _) | (simp; omega) | omega
            intro v3 w3 hown3 hgrow3 _
            obtain ⟨_, _, _, hob3⟩ := ownsRow_shape (HO8).out
            have hbX3 := below_grown hgrow3 hob3 (Nat.le_trans hsz (al_le _ _))
            have HBA3 := Lib.hid (((Below.refl _ _).alloc hsz _).trans hbX3)
            have HO3 := Lib.hid (own_snoc hown3)
            obtain ⟨r3, c3, rfl, _⟩ := ownsRow_shape hown3
            clear hown3 hgrow3 hbX3 hob3
            have HB3 := Lib.hid (HBW.out.trans HBA3.out)
            go_wp2
            go_roundw
            case rel =>
              first
                | exact ⟨t, n, W - n, pre ++ [(n : Int)], by first | rfl | go_num, rfl, rfl, HPN, HF4, by first | exact HO3 | (rw [List.length_append] at HO3; exact HO3), HB3, by omega, by omega⟩
                | ((repeat (refine Exists.intro (α := Value) _ ?_)); exact ⟨⟨t, n, W - n, pre ++ [(n : Int)], by first | rfl | go_num, rfl, rfl, HPN, HF4, by first | exact HO3 | (rw [List.length_append] at HO3; exact HO3), HB3, by omega, by omega⟩, rfl⟩)
            case measure => simp [intOf] <;> omega

end Go.Proofs.Ytnefbiaopconkaa
