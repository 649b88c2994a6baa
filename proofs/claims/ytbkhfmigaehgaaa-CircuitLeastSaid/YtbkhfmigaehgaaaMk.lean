/- CircuitLeast walked. -/
import Derived.Test.YtbkhfmigaehgaaaMj
namespace Go.Proofs.Ytbkhfmigaehgaaa
open Go.RowKit

theorem setB_zero (m : Nat) : setB 0 m = true := by
  have h := Nat.one_le_two_pow (n := m)
  unfold setB
  rw [decide_eq_true_eq, show ((2 : Int) ^ m) = ((2 ^ m : Nat) : Int) by simp]
  omega
theorem setB_all (c : Cir) : setB (lstAll c : Nat) c.sw.length = true := by
  have h := Nat.one_le_two_pow (n := c.sw.length)
  unfold setB lstAll
  rw [decide_eq_true_eq, show ((2 : Int) ^ c.sw.length) = ((2 ^ c.sw.length : Nat) : Int) by simp]
  omega
theorem setB_pow {j m : Nat} (hj : j < m) : setB ((2 ^ j : Nat) : Int) m = true := by
  unfold setB
  rw [decide_eq_true_eq, show ((2 : Int) ^ m) = ((2 ^ m : Nat) : Int) by simp]
  have := Nat.pow_lt_pow_right (show 1 < 2 by omega) hj
  generalize (2 ^ j : Nat) = a at *
  generalize (2 ^ m : Nat) = b at *
  omega
theorem setB_lt {s m : Nat} (h : setB (s : Int) m = true) : s < 2 ^ m := by
  unfold setB at h
  rw [decide_eq_true_eq, show ((2 : Int) ^ m) = ((2 ^ m : Nat) : Int) by simp] at h
  omega

theorem least_ones {c : Cir} {n : Nat} (hc : CVal c) (ha : lstP c n (lstAll c) = true) {s : Nat} (hs : s < 2 ^ c.sw.length) (hp : lstP c n s = true) : ones (bestP (lstP c n) (lstAll c) (lstAll c)) ≤ ones s := by
  obtain ⟨_, h2⟩ := bestP_spec ha (lstAll c)
  by_cases e : s < lstAll c
  · exact h2 s e hp
  · have e2 : s = 2 ^ c.sw.length - 1 := by unfold lstAll at e; omega
    have hb := bestP_le (p := lstP c n) (all := lstAll c) (lstAll c) (Nat.le_refl _)
    have h1 := Nat.one_le_two_pow (n := c.sw.length)
    have := (ones_le c.sw.length (bestP (lstP c n) (lstAll c) (lstAll c)) (by have := hc.s2; omega) (by unfold lstAll at hb; unfold lstAll; omega)).1
    rw [e2, ones_all c.sw.length (by have := hc.s2; omega)]
    exact this

set_option maxRecDepth 100000 in
set_option maxHeartbeats 8000000 in
theorem lawLeast_any (c : Cir) (sv wv : Value) (hi st : Int) (w : World) (hv : CirAt w sv wv c) :
    Calls Try.prog 12 #[cirV c sv wv, .int .i64 hi, .int .i64 st] w fun e w' => e = .returned (.bool true) ∧ Below w.heap.size w w' := by
  have HB := Lib.hid ((Below.refl w.heap.size w).alloc (Nat.le_refl _) (cirO c sv wv))
  have K0 := Lib.hid (block_new w (cirO c sv wv) w.heap.size rfl)
  have HV := Lib.hid (hv.below HB.out (Nat.le_refl _))
  obtain ⟨⟨sa, scap, rfl, _⟩, _⟩ := hv
  go_enter Try.func12, Try.ntmps12
  go_wp2_with fail
  generalize w.alloc (cirO c (.slice sa c.sw.length scap) wv) = wA at *
  refine (far_any c _ wv _ HV.out).mono ?_
  rintro e w1 ⟨q, rfl, hb1⟩
  have HB1 := Lib.hid hb1
  clear hb1
  cases q
  rotate_left
  · go_wp2_with fail
    refine (works_any _).mono ?_
    rintro e wz ⟨rfl, hbz⟩
    go_wp2_with fail
    go_ret
    exact ⟨rfl, HB.out.trans ((HB1.out.trans (hbz.mono HB1.out.size)).mono HB.out.size)⟩
  have c0 := block_cell (keepZ K0.out HB1.out)
  go_wp2_with fail
  refine (rcheck_any c _ wv _ (HV.out.below HB1.out (Nat.le_refl _))).mono ?_
  rintro e w2 ⟨rfl, hb2⟩
  have HB2 := Lib.hid (HB1.out.trans (hb2.mono HB1.out.size))
  clear hb2
  clear c0
  cases hq : validB c
  · have HR0 := Lib.hid (chkC_bad hq)
    clear hq
    rw [← HR0.out]
    go_wp2_with fail
    refine (works_any _).mono ?_
    rintro e wz ⟨rfl, hbz⟩
    go_wp2_with fail
    go_ret
    exact ⟨rfl, HB.out.trans ((HB2.out.trans (hbz.mono HB2.out.size)).mono HB.out.size)⟩
  have HR0 := Lib.hid (chkC_ok hq)
  have HQ := Lib.hid hq
  have HC := Lib.hid (cval hq)
  have s12 := (cval hq).s2
  have s1 := (cval hq).s1
  have z8 := (cval hq).h2
  clear hq
  rw [← HR0.out]
  by_cases h0 : hi < 0
  · go_wp2_with fail
    refine (works_any _).mono ?_
    rintro e wz ⟨rfl, hbz⟩
    go_wp2_with fail
    go_ret
    exact ⟨rfl, HB.out.trans ((HB2.out.trans (hbz.mono HB2.out.size)).mono HB.out.size)⟩
  have c0 := block_cell (keepZ K0.out HB2.out)
  by_cases h1 : c.hz ≤ hi
  · go_wp2_with fail
    refine (works_any _).mono ?_
    rintro e wz ⟨rfl, hbz⟩
    go_wp2_with fail
    go_ret
    exact ⟨rfl, HB.out.trans ((HB2.out.trans (hbz.mono HB2.out.size)).mono HB.out.size)⟩
  have HD := Lib.hid (show decide (0 ≤ hi ∧ hi ≤ c.hz - 1) = true by rw [decide_eq_true_eq]; omega)
  obtain ⟨n, rfl⟩ : ∃ s : Nat, hi = s := ⟨hi.toNat, by omega⟩
  have hn : n < c.hz.toNat := by omega
  have n0 : (0 : Int) ≤ n := by omega
  have hpn := wrap64_pow (k := n) (by omega)
  have hpl := wrap64_pow (k := c.sw.length) (by omega)
  have hp1 := Nat.one_le_two_pow (n := c.sw.length)
  have hpl2 := pow_set (k := c.sw.length) (by omega)
  have HALL := Lib.hid (show ((2 ^ c.sw.length : Nat) : Int) - 1 = (lstAll c : Nat) by unfold lstAll; omega)
  have G1 := Lib.hid (setB_pow hn)
  have hA20 := pow_set (k := n) (by omega)
  have HP := Lib.hid (fun s => show lstP c n s = cond c ⟨2 ^ n, s, 0⟩ 24 0 from rfl)
  generalize (2 ^ n : Nat) = A at *
  have HRUN := Lib.hid (fun (s : Nat) (hs : setB (s : Int) c.sw.length = true) => show runC c A s 0 = ⟨lstP c n s, 0⟩ by rw [run_ok HQ.out G1.out hs (setB_zero _), HP.out]; rfl)
  have HMY := Lib.hid (show (2 ^ c.sw.length : Nat) ≤ 4096 from Nat.pow_le_pow_right (show 0 < 2 by omega) s12)
  have HLT := Lib.hid (fun (s : Nat) (hs : setB (s : Int) c.sw.length = true) => setB_lt hs)
  generalize hM : (2 ^ c.sw.length : Nat) = M at *
  have HM := Lib.hid hM
  clear hM
  go_wp2_with fail
  refine (cleast_any c _ wv n _ (HV.out.below HB2.out (Nat.le_refl _))).mono ?_
  rintro e w3 ⟨rfl, hb3⟩
  have HB3 := Lib.hid (HB2.out.trans (hb3.mono HB2.out.size))
  clear hb3
  clear c0
  have c0 := block_cell (keepZ K0.out HB3.out)
  cases ha : lstP c n (lstAll c)
  · rw [lst_none HQ.out HD.out (by rw [Int.toNat_natCast]; exact ha)]
    have HA := Lib.hid ha
    clear ha
    go_wp2_with fail
    rw [HALL.out]
    refine (cruns_any c _ wv A (lstAll c : Nat) 0 _ (HV.out.below HB3.out (Nat.le_refl _))).mono ?_
    rintro e w4 ⟨rfl, hb4⟩
    have HB4 := Lib.hid (HB3.out.trans (hb4.mono HB3.out.size))
    clear hb4
    clear c0
    rw [HRUN.out _ (setB_all c), HA.out]
    go_wp2_with fail
    refine (works_any _).mono ?_
    rintro e wz ⟨rfl, hbz⟩
    go_wp2_with fail
    go_ret
    exact ⟨rfl, HB.out.trans ((HB4.out.trans (hbz.mono HB4.out.size)).mono HB.out.size)⟩
  · rw [lst_some HQ.out HD.out (by rw [Int.toNat_natCast]; exact ha), Int.toNat_natCast]
    have HBS := Lib.hid (bestP_spec ha (lstAll c)).1
    have HLO := Lib.hid (fun s (hs : s < 2 ^ c.sw.length) hp => least_ones HC.out ha (s := s) hs hp)
    have hbl := bestP_le (p := lstP c n) (all := lstAll c) (lstAll c) (Nat.le_refl _)
    have hal := all_lt HC.out
    have HBB := Lib.hid (setB_le (setB_all c) hbl)
    generalize bestP (lstP c n) (lstAll c) (lstAll c) = N at *
    rw [HM.out] at HLO
    clear ha
    go_wp2_with fail
    refine (cruns_any c _ wv A N 0 _ (HV.out.below HB3.out (Nat.le_refl _))).mono ?_
    rintro e w4 ⟨rfl, hb4⟩
    have HB4 := Lib.hid (HB3.out.trans (hb4.mono HB3.out.size))
    clear hb4
    clear c0
    rw [HRUN.out _ HBB.out, HBS.out]
    have c0 := block_cell (keepZ K0.out HB4.out)
    go_wp2_with fail
    refine (cruns_any c _ wv A st 0 _ (HV.out.below HB4.out (Nat.le_refl _))).mono ?_
    rintro e w5 ⟨rfl, hb5⟩
    have HB5 := Lib.hid (HB4.out.trans (hb5.mono HB4.out.size))
    clear hb5
    clear c0
    cases hs : setB st c.sw.length
    · rw [run_arg HQ.out G1.out hs (setB_zero _) (by rfl)]
      clear hs
      go_wp2_with fail
      refine (works_any _).mono ?_
      rintro e wz ⟨rfl, hbz⟩
      go_wp2_with fail
      go_ret
      exact ⟨rfl, HB.out.trans ((HB5.out.trans (hbz.mono HB5.out.size)).mono HB.out.size)⟩
    · obtain ⟨s, rfl, s20⟩ := set_nat hs (by omega)
      have hsl := HLT.out s hs
      rw [HRUN.out s hs]
      clear hs
      cases hp : lstP c n s
      · clear hp
        go_wp2_with fail
        refine (works_any _).mono ?_
        rintro e wz ⟨rfl, hbz⟩
        go_wp2_with fail
        go_ret
        exact ⟨rfl, HB.out.trans ((HB5.out.trans (hbz.mono HB5.out.size)).mono HB.out.size)⟩
      · have HO := Lib.hid (HLO.out s hsl hp)
        clear hp
        obtain ⟨o1, ho1⟩ : ∃ o, ones s = o := ⟨_, rfl⟩
        obtain ⟨o2, ho2⟩ : ∃ o, ones N = o := ⟨_, rfl⟩
        have HO1 := Lib.hid ho1
        have HO2 := Lib.hid ho2
        have hge : o2 ≤ o1 := by rw [← ho1, ← ho2]; exact HO.out
        clear ho1 ho2
        go_wp2_with (go_at_call 50; (first | (with_reducible refine (rones_is o1 s _ (by omega) HO1.out).mono ?_) | (with_reducible refine (rones_is o2 N _ (by omega) HO2.out).mono ?_)); rintro e w6 ⟨rfl, rfl⟩)
        refine (works_any _).mono ?_
        rintro e wz ⟨rfl, hbz⟩
        go_wp2_with fail
        go_ret
        exact ⟨rfl, HB.out.trans ((HB5.out.trans (hbz.mono HB5.out.size)).mono HB.out.size)⟩

end Go.Proofs.Ytbkhfmigaehgaaa
