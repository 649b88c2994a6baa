/- Walks of layer 3 (circuit): Runs of both; Hazards, Switches of the specification; Far. -/
import Derived.Test.YtbkhfmigaehgaaaCv
import Derived.Test.YtbkhfmigaehgaaaCi
namespace Go.Proofs.Ytbkhfmigaehgaaa
open Go.RowKit

/-- The answer of Runs. -/
structure RunC where
  b : Bool
  e : Int
def runC (c : Cir) (h k o : Int) : RunC := if validB c = true then (if (setB h c.hz.toNat && setB k c.sw.length && setB o c.sw.length) = true then ⟨cond c ⟨h.toNat, k.toNat, o.toNat⟩ 24 0, 0⟩ else ⟨false, 1⟩) else ⟨false, 30⟩
abbrev runCV (r : RunC) : Value := .tuple #[.bool r.b, .int .i64 r.e]

theorem run_bad {c : Cir} (h k o : Int) (hv : validB c = false) : runC c h k o = ⟨false, 30⟩ := by unfold runC; rw [hv]; rfl
theorem run_arg {c : Cir} {h k o : Int} (hv : validB c = true) {b1 b2 b3 : Bool} (h1 : setB h c.hz.toNat = b1) (h2 : setB k c.sw.length = b2) (h3 : setB o c.sw.length = b3) (hh : (b1 && b2 && b3) = false) : runC c h k o = ⟨false, 1⟩ := by
  unfold runC; rw [hv, h1, h2, h3, hh]; rfl
theorem run_ok {c : Cir} {h k o : Int} (hv : validB c = true) (h1 : setB h c.hz.toNat = true) (h2 : setB k c.sw.length = true) (h3 : setB o c.sw.length = true) : runC c h k o = ⟨cond c ⟨h.toNat, k.toNat, o.toNat⟩ 24 0, 0⟩ := by
  unfold runC; rw [hv, h1, h2, h3]; rfl

theorem set_nat {n : Int} {m : Nat} (h : setB n m = true) (hm : m ≤ 12) : ∃ k : Nat, n = k ∧ k < 1048576 := by
  unfold setB at h
  simp only [decide_eq_true_eq] at h
  have e : ((2 : Int) ^ m) = ((2 ^ m : Nat) : Int) := by simp
  have := Nat.pow_le_pow_right (show 0 < 2 by omega) hm
  exact ⟨n.toNat, by omega, by omega⟩

set_option maxRecDepth 100000 in
set_option maxHeartbeats 4000000 in
theorem cruns_any (c : Cir) (sv wv : Value) (h k o : Int) (w : World) (hv : CirAt w sv wv c) :
    Calls Try.prog 20 #[cirV c sv wv, .int .i64 h, .int .i64 k, .int .i64 o] w fun e w' => e = .returned (runCV (runC c h k o)) ∧ Below w.heap.size w w' := by
  have HB := Lib.hid ((Below.refl w.heap.size w).alloc (Nat.le_refl _) (cirO c sv wv))
  have K0 := Lib.hid (block_new w (cirO c sv wv) w.heap.size rfl)
  have HV := Lib.hid (hv.below HB.out (Nat.le_refl _))
  obtain ⟨⟨sa, scap, rfl, _, m2, _⟩, ⟨wa, wcap, rfl, _⟩⟩ := hv
  have m5 : (c.sw.length : Int) ≤ 9223372036854775807 := by omega
  cases hq : validB c
  · have HR0 := Lib.hid (chkC_bad hq)
    have HR := Lib.hid (run_bad h k o hq)
    clear hq
    go_enter Try.func20, Try.ntmps20
    go_wp2_with fail
    generalize w.alloc (cirO c (.slice sa c.sw.length scap) (.slice wa c.ws.length wcap)) = wA at *
    refine (ccheck_any c _ _ _ HV.out).mono ?_
    rintro e w1 ⟨rfl, hb1⟩
    rw [← HR0.out]
    go_wp2
    go_ret2
    exact ⟨by rw [HR.out]; rfl, HB.out.trans (hb1.mono HB.out.size)⟩
  · have HR0 := Lib.hid (chkC_ok hq)
    have hc := cval hq
    have HC := Lib.hid hc
    obtain ⟨hz, hhz⟩ : ∃ n : Nat, c.hz = n := ⟨c.hz.toNat, by have := hc.h1; omega⟩
    have hz8 : hz ≤ 8 := by have := hc.h2; omega
    have s12 := hc.s2
    have w1' := hc.w1
    have w24 := hc.w2
    have HZ := Lib.hid hhz
    have HZT : c.hz.toNat = hz := by omega
    obtain ⟨b1, h1⟩ : ∃ b, setB h hz = b := ⟨_, rfl⟩
    obtain ⟨b2, h2⟩ : ∃ b, setB k c.sw.length = b := ⟨_, rfl⟩
    obtain ⟨b3, h3⟩ : ∃ b, setB o c.sw.length = b := ⟨_, rfl⟩
    have H1 := Lib.hid h1
    have H2 := Lib.hid h2
    have H3 := Lib.hid h3
    by_cases hall : (b1 && b2 && b3) = true
    · simp only [Bool.and_eq_true] at hall
      obtain ⟨⟨rfl, rfl⟩, rfl⟩ := hall
      have HR := Lib.hid (run_ok (c := c) (h := h) (k := k) (o := o) hq (by rw [HZT]; exact H1.out) H2.out H3.out)
      obtain ⟨hn, rfl, hn20⟩ := set_nat h1 (by omega)
      obtain ⟨kn, rfl, kn20⟩ := set_nat h2 (by omega)
      obtain ⟨on, rfl, on20⟩ := set_nat h3 (by omega)
      have HOK := Lib.hid (show (⟨hn, kn, on⟩ : Sta).Ok from ⟨hn20, kn20, on20⟩)
      clear hq h1 h2 h3 hc hhz HZT
      go_enter Try.func20, Try.ntmps20
      go_wp2_with fail
      generalize w.alloc (cirO c (.slice sa c.sw.length scap) (.slice wa c.ws.length wcap)) = wA at *
      refine (ccheck_any c _ _ _ HV.out).mono ?_
      rintro e w1 ⟨rfl, hb1⟩
      rw [← HR0.out]
      have c0 := block_cell (keepZ K0.out hb1)
      rw [HZ.out] at c0
      have HB1 := Lib.hid hb1
      have HV1 := Lib.hid (HV.out.below hb1 (Nat.le_refl _))
      clear hb1
      go_wp2_with (go_at_call 72; (first | (with_reducible refine (isSet_is _ (hn : Int) hz _ (by omega) H1.out).mono ?_) | (with_reducible refine (isSet_is _ (kn : Int) c.sw.length _ (by omega) H2.out).mono ?_) | (with_reducible refine (isSet_is _ (on : Int) c.sw.length _ (by omega) H3.out).mono ?_)); rintro e w2 ⟨rfl, rfl⟩)
      rw [← HZ.out]
      clear c0
      refine (conducts_any c ⟨hn, kn, on⟩ _ _ HC.out HOK.out 24 0 _ (by omega) (by omega) HV1.out).mono ?_
      rintro e w2 ⟨rfl, hb2⟩
      go_wp2
      go_ret2
      exact ⟨by rw [HR.out]; rfl, HB.out.trans ((HB1.out.trans (hb2.mono HB1.out.size)).mono HB.out.size)⟩
    · have HR := Lib.hid (run_arg (c := c) (h := h) (k := k) (o := o) hq (b1 := b1) (b2 := b2) (b3 := b3) (by rw [HZT]; exact H1.out) H2.out H3.out (by simpa only [Bool.not_eq_true] using hall))
      clear hq h1 h2 h3 hc hhz HZT
      cases b1 <;> cases b2 <;> cases b3
      all_goals try (exact absurd rfl hall)
      all_goals
        clear hall
        go_enter Try.func20, Try.ntmps20
        go_wp2_with fail
        generalize w.alloc (cirO c (.slice sa c.sw.length scap) (.slice wa c.ws.length wcap)) = wA at *
        refine (ccheck_any c _ _ _ HV.out).mono ?_
        rintro e w1 ⟨rfl, hb1⟩
        rw [← HR0.out]
        have c0 := block_cell (keepZ K0.out hb1)
        rw [HZ.out] at c0
        have HB1 := Lib.hid hb1
        clear hb1
        go_wp2_with (go_at_call 72; (first | (with_reducible refine (isSet_is _ h hz _ (by omega) H1.out).mono ?_) | (with_reducible refine (isSet_is _ k c.sw.length _ (by omega) H2.out).mono ?_) | (with_reducible refine (isSet_is _ o c.sw.length _ (by omega) H3.out).mono ?_)); rintro e w2 ⟨rfl, rfl⟩)
        go_ret2
        exact ⟨by rw [HR.out]; rfl, HB.out.trans (HB1.out.mono HB.out.size)⟩

/-! ### the specification -/
theorem setB_is {n : Int} {m M : Nat} (h : 2 ^ m = M) : decide (0 ≤ n ∧ n ≤ (M : Int) - 1) = setB n m := by
  unfold setB
  rw [show ((2 : Int) ^ m) = ((2 ^ m : Nat) : Int) by simp, h]

set_option maxRecDepth 100000 in
set_option maxHeartbeats 1000000 in
theorem rhaz_any (c : Cir) (sv wv : Value) (n : Int) (w : World) (hc : CVal c) :
    Calls Try.prog 48 #[cirV c sv wv, .int .i64 n] w fun e w' => e = .returned (.bool (setB n c.hz.toNat)) ∧ Below w.heap.size w w' := by
  have HB := Lib.hid ((Below.refl w.heap.size w).alloc (Nat.le_refl _) (cirO c sv wv))
  have K0 := Lib.hid (block_new w (cirO c sv wv) w.heap.size rfl)
  obtain ⟨hz, hhz⟩ : ∃ n : Nat, c.hz = n := ⟨c.hz.toNat, by have := hc.h1; omega⟩
  have hz8 : hz ≤ 8 := by have := hc.h2; omega
  have HZ := Lib.hid hhz
  have hpw := wrap64_pow (k := hz) (by omega)
  have hpl := pow_small (k := hz) (by omega)
  have hp1 := Nat.one_le_two_pow (n := hz)
  have hz0 : (0 : Int) ≤ hz := by omega
  have HT := Lib.hid (show c.hz.toNat = hz by omega)
  generalize hM : (2 ^ hz : Nat) = M at *
  have HM := Lib.hid hM
  have HS := Lib.hid (setB_is (n := n) hM)
  clear hM hhz hc
  have c0 := block_cell K0.out
  rw [HZ.out] at c0
  go_enter Try.func48, Try.ntmps48
  go_wp2_with fail
  refine (rwithin_is _ _ _ _ _ HS.out).mono ?_
  rintro e w1 ⟨rfl, rfl⟩
  go_wp2
  go_ret
  exact ⟨ret_bool (by rw [HT.out]), HB.out⟩

set_option maxRecDepth 100000 in
set_option maxHeartbeats 1000000 in
theorem rswi_any (c : Cir) (sv wv : Value) (n : Int) (w : World) (hv : CirAt w sv wv c) (hc : CVal c) :
    Calls Try.prog 47 #[cirV c sv wv, .int .i64 n] w fun e w' => e = .returned (.bool (setB n c.sw.length)) ∧ Below w.heap.size w w' := by
  have HB := Lib.hid ((Below.refl w.heap.size w).alloc (Nat.le_refl _) (cirO c sv wv))
  have K0 := Lib.hid (block_new w (cirO c sv wv) w.heap.size rfl)
  obtain ⟨⟨sa, scap, rfl, _, m2, _⟩, _⟩ := hv
  have s12 := hc.s2
  have hpw := wrap64_pow (k := c.sw.length) (by omega)
  have hpl := pow_small (k := c.sw.length) (by omega)
  have hp1 := Nat.one_le_two_pow (n := c.sw.length)
  generalize hM : (2 ^ c.sw.length : Nat) = M at *
  have HS := Lib.hid (setB_is (n := n) hM)
  clear hM hc
  have c0 := block_cell K0.out
  go_enter Try.func47, Try.ntmps47
  go_wp2_with fail
  refine (rwithin_is _ _ _ _ _ HS.out).mono ?_
  rintro e w1 ⟨rfl, rfl⟩
  go_wp2
  go_ret
  exact ⟨rfl, HB.out⟩

set_option maxRecDepth 100000 in
set_option maxHeartbeats 4000000 in
theorem rruns_any (c : Cir) (sv wv : Value) (h k o : Int) (w : World) (hv : CirAt w sv wv c) :
    Calls Try.prog 21 #[cirV c sv wv, .int .i64 h, .int .i64 k, .int .i64 o] w fun e w' => e = .returned (runCV (runC c h k o)) ∧ Below w.heap.size w w' := by
  have HB := Lib.hid ((Below.refl w.heap.size w).alloc (Nat.le_refl _) (cirO c sv wv))
  have K0 := Lib.hid (block_new w (cirO c sv wv) w.heap.size rfl)
  have HV := Lib.hid (hv.below HB.out (Nat.le_refl _))
  cases hq : validB c
  · have HR0 := Lib.hid (chkC_bad hq)
    have HR := Lib.hid (run_bad h k o hq)
    clear hq
    go_enter Try.func21, Try.ntmps21
    go_wp2_with fail
    generalize w.alloc (cirO c sv wv) = wA at *
    refine (rcheck_any c _ _ _ HV.out).mono ?_
    rintro e w1 ⟨rfl, hb1⟩
    rw [← HR0.out]
    go_wp2
    go_ret2
    exact ⟨by rw [HR.out]; rfl, HB.out.trans (hb1.mono HB.out.size)⟩
  · have HR0 := Lib.hid (chkC_ok hq)
    have HC := Lib.hid (cval hq)
    have hz8 := (cval hq).h2
    have s12 := (cval hq).s2
    have w1' := (cval hq).w1
    have w24 := (cval hq).w2
    obtain ⟨b1, h1⟩ : ∃ b, setB h c.hz.toNat = b := ⟨_, rfl⟩
    obtain ⟨b2, h2⟩ : ∃ b, setB k c.sw.length = b := ⟨_, rfl⟩
    obtain ⟨b3, h3⟩ : ∃ b, setB o c.sw.length = b := ⟨_, rfl⟩
    have H1 := Lib.hid h1
    have H2 := Lib.hid h2
    have H3 := Lib.hid h3
    by_cases hall : (b1 && b2 && b3) = true
    · simp only [Bool.and_eq_true] at hall
      obtain ⟨⟨rfl, rfl⟩, rfl⟩ := hall
      have HR := Lib.hid (run_ok (c := c) (h := h) (k := k) (o := o) hq H1.out H2.out H3.out)
      obtain ⟨hn, rfl, hn20⟩ := set_nat h1 (by omega)
      obtain ⟨kn, rfl, kn20⟩ := set_nat h2 (by omega)
      obtain ⟨on, rfl, on20⟩ := set_nat h3 (by omega)
      have HOK := Lib.hid (show (⟨hn, kn, on⟩ : Sta).Ok from ⟨hn20, kn20, on20⟩)
      clear hq h1 h2 h3
      go_enter Try.func21, Try.ntmps21
      go_wp2_with fail
      generalize w.alloc (cirO c sv wv) = wA at *
      refine (rcheck_any c _ _ _ HV.out).mono ?_
      rintro e w1 ⟨rfl, hb1⟩
      rw [← HR0.out]
      have c0 := block_cell (keepZ K0.out hb1)
      have K1 := Lib.hid (keepZ K0.out hb1)
      have HB1 := Lib.hid hb1
      clear hb1
      go_wp2_with fail
      refine ((rhaz_any c sv wv _ _ HC.out)).mono ?_
      rintro e w2 ⟨rfl, hb2⟩
      rw [H1.out]
      have HB2 := Lib.hid (HB1.out.trans (hb2.mono HB1.out.size))
      clear c0 hb2
      have c0 := block_cell (keepZ K0.out HB2.out)
      go_wp2_with fail
      refine ((rswi_any c sv wv _ _ (HV.out.below HB2.out (Nat.le_refl _)) HC.out)).mono ?_
      rintro e w3 ⟨rfl, hb3⟩
      rw [H2.out]
      have HB3 := Lib.hid (HB2.out.trans (hb3.mono HB2.out.size))
      clear c0 hb3
      have c0 := block_cell (keepZ K0.out HB3.out)
      go_wp2_with fail
      refine ((rswi_any c sv wv _ _ (HV.out.below HB3.out (Nat.le_refl _)) HC.out)).mono ?_
      rintro e w4 ⟨rfl, hb4⟩
      rw [H3.out]
      have HB4 := Lib.hid (HB3.out.trans (hb4.mono HB3.out.size))
      clear c0 hb4
      have c0 := block_cell (keepZ K0.out HB4.out)
      go_wp2_with fail
      refine (rconducts_any c ⟨hn, kn, on⟩ _ _ HC.out HOK.out 24 0 _ (by omega) (by omega) (HV.out.below HB4.out (Nat.le_refl _))).mono ?_
      rintro e w5 ⟨rfl, hb5⟩
      clear c0
      go_wp2
      go_ret2
      exact ⟨by rw [HR.out]; rfl, HB.out.trans ((HB4.out.trans (hb5.mono HB4.out.size)).mono HB.out.size)⟩
    · have HR := Lib.hid (run_arg (c := c) (h := h) (k := k) (o := o) hq (b1 := b1) (b2 := b2) (b3 := b3) H1.out H2.out H3.out (by simpa only [Bool.not_eq_true] using hall))
      clear hq h1 h2 h3
      go_enter Try.func21, Try.ntmps21
      go_wp2_with fail
      generalize w.alloc (cirO c sv wv) = wA at *
      refine (rcheck_any c _ _ _ HV.out).mono ?_
      rintro e w1 ⟨rfl, hb1⟩
      rw [← HR0.out]
      have c0 := block_cell (keepZ K0.out hb1)
      have HB1 := Lib.hid hb1
      clear hb1
      go_wp2_with fail
      refine ((rhaz_any c sv wv _ _ HC.out)).mono ?_
      rintro e w2 ⟨rfl, hb2⟩
      rw [H1.out]
      have HB2 := Lib.hid (HB1.out.trans (hb2.mono HB1.out.size))
      clear c0 hb2
      have c0 := block_cell (keepZ K0.out HB2.out)
      cases b1
      · clear hall
        go_wp2_with fail
        go_ret2
        exact ⟨by rw [HR.out]; rfl, HB.out.trans (HB2.out.mono HB.out.size)⟩
      go_wp2_with fail
      refine ((rswi_any c sv wv _ _ (HV.out.below HB2.out (Nat.le_refl _)) HC.out)).mono ?_
      rintro e w3 ⟨rfl, hb3⟩
      rw [H2.out]
      have HB3 := Lib.hid (HB2.out.trans (hb3.mono HB2.out.size))
      clear c0 hb3
      have c0 := block_cell (keepZ K0.out HB3.out)
      cases b2
      · clear hall
        go_wp2_with fail
        go_ret2
        exact ⟨by rw [HR.out]; rfl, HB.out.trans (HB3.out.mono HB.out.size)⟩
      go_wp2_with fail
      refine ((rswi_any c sv wv _ _ (HV.out.below HB3.out (Nat.le_refl _)) HC.out)).mono ?_
      rintro e w4 ⟨rfl, hb4⟩
      rw [H3.out]
      have HB4 := Lib.hid (HB3.out.trans (hb4.mono HB3.out.size))
      clear c0 hb4
      have c0 := block_cell (keepZ K0.out HB4.out)
      cases b3
      · clear hall
        go_wp2_with fail
        go_ret2
        exact ⟨by rw [HR.out]; rfl, HB.out.trans (HB4.out.mono HB.out.size)⟩
      exact absurd rfl hall

end Go.Proofs.Ytbkhfmigaehgaaa
