/- Walks of layer 5 (lift): Check, sides, slips, Sides, Slips of the specification. -/
import Derived.Test.YtnefbiaopconkaaJd
namespace Go.Proofs.Ytnefbiaopconkaa
open Go.RowKit

/-- The floors up to the k-th are as they should be (from the second one on). -/
theorem asc_step {l : List Int} {k : Nat} (h1 : 1 ≤ k) : ascTo l 1000 (k + 1) = (ascTo l 1000 k && (decide (l.getD (k - 1) 0 < l.getD k 0) && decide (l.getD k 0 ≤ 1000))) := by
  rw [ascTo_succ]
  congr 1
  unfold inB lowA
  rw [if_neg (by omega)]
  rw [← Bool.decide_and]
  rfl

theorem asc_one {l : List Int} (h : l.getD 0 0 = 0) : ascTo l 1000 1 = true := by
  rw [ascTo_all]
  intro i hi
  obtain rfl : i = 0 := by omega
  rw [h]
  simp [lowA]

theorem asc_bad {l : List Int} {k : Nat} (h1 : 1 ≤ k) (hk : k < l.length) (h : l.getD k 0 ≤ l.getD (k - 1) 0 ∨ 1000 < l.getD k 0) : ascTo l 1000 l.length = false := by
  refine ascTo_no hk ?_
  rw [inB_no]
  unfold lowA
  rw [if_neg (by omega)]
  omega

theorem ok_eq (L : Lif) : okB L = (wtB L && flB L.fl && grB L && moB L && stB L) := rfl
theorem fl_eq (l : List Int) : flB l = (inB (l.length : Int) 2 16 && (l.getD 0 0 == 0) && ascTo l 1000 l.length) := rfl
theorem gr_eq2 {L : Lif} : grB L = (inB L.den 1 L.num && !decide (100 < L.num)) := by
  rw [show (!decide (100 < L.num)) = decide (L.num ≤ 100) by by_cases h : 100 < L.num <;> simp [h] <;> omega]
  unfold grB inB
  rw [← Bool.decide_and, ← Bool.decide_and]
  congr 1
  exact propext ⟨fun h => ⟨h.2, h.1.2⟩, fun h => ⟨⟨by omega, h.2⟩, h.1⟩⟩

set_option maxRecDepth 100000 in
set_option maxHeartbeats 4000000 in
theorem rCheck_any (L : Lif) (fv : Value) (w : World) (hv : InAt w fv L.fl) :
    Calls Try.prog 22 #[lifV L fv] w fun e w' => e = .returned (.int .i64 (chkE L 0)) ∧ Below w.heap.size w w' := by
  have HB := Lib.hid ((Below.refl w.heap.size w).alloc (Nat.le_refl _) (lifO L fv))
  have K0 := Lib.hid (block_new w (lifO L fv) w.heap.size rfl)
  have HSZ := Lib.hid (size_alloc w (lifO L fv))
  have HV := Lib.hid (hv.below HB.out (Nat.le_refl _))
  obtain ⟨a, cap, rfl, hn, hcap, hc⟩ := hv
  have HC := Lib.hid hc
  have HN := Lib.hid (@chkE_no L 0)
  have HY := Lib.hid (@chkE_ok L 0)
  have HOK := Lib.hid (ok_eq L)
  clear hc
  have HGR := Lib.hid (@gr_eq2 L)
  have HWT := Lib.hid (wt_eq L)
  have HMO := Lib.hid (mo_eq L)
  have HST := Lib.hid (st_eq L)
  have HFL := Lib.hid (fl_eq L.fl)
  cases hq : inB (L.fl.length : Int) 2 16
  · go_enter Try.func22, Try.ntmps22
    go_wp2_with fail
    generalize w.alloc (lifO L (.slice a L.fl.length cap)) = wA at *
    have c0 := block_cell K0.out
    have HQ := Lib.hid hq
    go_wp2_with (go_at_call 55; refine (rwithin_any _ _ _ _).mono ?_; rintro e w' ⟨rfl, rfl⟩)
    all_goals
      go_ret
      refine ⟨ret_int (HN.out ?_), HB.out⟩
      rw [HOK.out]
      first
        | (rw [HWT.out]; simp_all; done)
        | (rw [HFL.out, HQ.out]; simp; done)
  · have HQ := Lib.hid hq
    have hl := inB_iff.1 hq
    obtain ⟨b, off, rfl, hbl, hc⟩ := HC.out (by omega)
    have g1 := hc 0 (by omega)
    rw [Nat.add_zero] at g1
    have g1 := (HB.out.cell (p := ⟨b, off, none⟩) hbl).trans g1
    have HC0 := Lib.hid hc
    have HA0 := Lib.hid (@asc_one L.fl)
    clear hc
    obtain ⟨z, hz⟩ : ∃ z, L.fl.getD 0 0 = z := ⟨_, rfl⟩
    rw [hz] at g1
    have HZ := Lib.hid hz
    rw [hz] at HFL HA0
    clear hz
    by_cases f0 : z = 0
    · subst f0
      go_enter Try.func22, Try.ntmps22
      go_wp2_with fail
      generalize w.alloc (lifO L (.slice (some ⟨b, off, none⟩) L.fl.length cap)) = wA at *
      have c0 := block_cell K0.out
      go_wp2_with (go_at_call 55; refine (rwithin_any _ _ _ _).mono ?_; rintro e w' ⟨rfl, rfl⟩)
      all_goals first | (go_ret; refine ⟨ret_int (HN.out ?_), HB.out⟩; rw [HOK.out, HWT.out]; simp_all; done) | skip
      · clear c0 g1
        have HWT2 : Hid (wtB L = true) := Lib.hid (by rw [HWT.out]; simp_all)
        go_loopw [3] (fun i wr => ∃ k : Nat, 1 ≤ k ∧ k ≤ L.fl.length ∧ i = .int .i64 k ∧ Hid (ascTo L.fl 1000 k = true) ∧ Hid (Below wA.heap.size wA wr)) (fun i _ => L.fl.length - (intOf i).toNat)
        case atStart => exact ⟨1, by omega, by omega, rfl, Lib.hid (by have := HA0.out; simpa using this), Lib.hid (Below.refl _ _)⟩
        case round =>
          obtain ⟨k, k1, hk, rfl, hA, hb⟩ := hrel
          have c0 := block_cell (keepZ K0.out hb.out)
          by_cases hlt : k < L.fl.length
          · have g1 := (hb.out.cell (p := ⟨b, off + k, none⟩) (Nat.lt_of_lt_of_le hbl HB.out.size)).trans (in_at HB.out hbl HC0.out hlt)
            have g2 := (hb.out.cell (p := ⟨b, off + (k - 1), none⟩) (Nat.lt_of_lt_of_le hbl HB.out.size)).trans (in_at HB.out hbl HC0.out (show k - 1 < L.fl.length by omega))
            have HA1 := Lib.hid (@asc_step L.fl k k1)
            have HA2 := Lib.hid (@asc_bad L.fl k k1 hlt)
            have j0 : (0 : Int) ≤ k := by omega
            have j1 : (k : Int) < L.fl.length := by omega
            have j2 : (0 : Int) ≤ (k : Int) - 1 := by omega
            have j3 : (k : Int) - 1 < L.fl.length := by omega
            have j4 : ((k : Int) - 1).toNat = k - 1 := by omega
            have j5 : IntKind.i64.wrap ((k : Int) - 1) = (k : Int) - 1 := wrap_i64_in (by omega) (by omega)
            generalize L.fl.getD k 0 = x at *
            generalize L.fl.getD (k - 1) 0 = y at *
            by_cases hxy : x ≤ y
            · have hd : decide (x ≤ y) = true := decide_eq_true hxy
              go_wp2_with fail
              go_quiet (fail)
              go_wp2
              go_ret
              exact ⟨ret_int (HN.out (by rw [HOK.out, HFL.out, HA2.out (Or.inl hxy)]; simp)), below_drewN (HB.out.trans (hb.out.mono HB.out.size)) _⟩
            · have hd : decide (x ≤ y) = false := decide_eq_false hxy
              by_cases hx : 1000 < x
              · have hd2 : decide (1000 < x) = true := decide_eq_true hx
                go_wp2_with fail
                go_quiet (fail)
                go_wp2
                go_ret
                exact ⟨ret_int (HN.out (by rw [HOK.out, HFL.out, HA2.out (Or.inr hx)]; simp)), below_drewN (HB.out.trans (hb.out.mono HB.out.size)) _⟩
              · have hd2 : decide (1000 < x) = false := decide_eq_false hx
                go_wp2_with fail
                go_quiet (fail)
                go_wp2
                go_roundw
                case rel => exact ⟨k + 1, by omega, by omega, by go_num, Lib.hid (by rw [HA1.out, hA.out]; simp; omega), Lib.hid (below_drewN hb.out _)⟩
                case measure => simp [intOf]; omega
          · obtain rfl : k = L.fl.length := by omega
            have HBZ := Lib.hid (HB.out.trans (hb.out.mono HB.out.size))
            go_wp2_with (go_at_call 55; refine (rwithin_any _ _ _ _).mono ?_; rintro e w' ⟨rfl, rfl⟩)
            all_goals
              go_ret
              first
                | exact ⟨ret_int (HY.out (by rw [HOK.out, HWT2.out, HFL.out, HQ.out, hA.out, HGR.out, HMO.out, HST.out]; simp_all)), HBZ.out⟩
                | (refine ⟨ret_int (HN.out ?_), HBZ.out⟩; rw [HOK.out, HGR.out, HMO.out, HST.out]; clear HOK HGR HMO HST; first | (simp_all; done) | (exfalso; simp_all; omega) | (rename_i h; rcases h with h | h <;> first | (exfalso; omega) | (simp_all; done)))
    · have HF0 : Hid ((z == 0) = false) := Lib.hid (by simpa using f0)
      have hf1 : (z == 0) = false := by simpa using f0
      have hf2 : (z != 0) = true := by simpa using f0
      clear f0
      go_enter Try.func22, Try.ntmps22
      go_wp2_with fail
      generalize w.alloc (lifO L (.slice (some ⟨b, off, none⟩) L.fl.length cap)) = wA at *
      have c0 := block_cell K0.out
      go_wp2_with (go_at_call 55; refine (rwithin_any _ _ _ _).mono ?_; rintro e w' ⟨rfl, rfl⟩)
      all_goals
        go_ret
        refine ⟨ret_int (HN.out ?_), HB.out⟩
        rw [HOK.out]
        first
          | (rw [HWT.out]; simp_all; done)
          | (rw [HFL.out, HF0.out]; simp; done)

end Go.Proofs.Ytnefbiaopconkaa
