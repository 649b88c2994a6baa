import Derived.Test.YtbiihhokcmdlhaaZzG
/- Texts of one seat, merged: Cy Ma Mb Mc Md Me -/
/- Walks of layer 3 (circuit): Runs of both; Hazards, Switches of the specification; Far. -/
namespace Go.Proofs.Ytbiihhokcmdlhaa
open Go.RowKit

/-- The answer of Runs. -/
structure RunC where
  b : Bool
  e : Int
def runC (c : Cir) (h k o : Int) : RunC := if validB c = true then (if (setB h c.hz.toNat && setB k c.sw.length && setB o c.sw.length) = true then ⟨cond c ⟨h.toNat, k.toNat, o.toNat⟩ 24 0, 0⟩ else ⟨false, 1⟩) else ⟨false, 30⟩
abbrev runCV (r : RunC) : Value := .tuple #[.bool r.b, .int .i64 r.e]

theorem run_bad {c : Cir} (h k o : Int) (hv : validB c = false) : runC c h k o = ⟨false, 30⟩ := by unfold runC; rw [hv]; rfl
theorem run_arg {c : Cir} {h k o : Int} (hv : validB c = true) {b1 b2 b3 : Bool} (h1 : setB h c.hz.toNat = b1) (h2 : setB k c.sw.length = b2) (h3 : setB o c.sw.length = b3) (hh : (b1 && b2 && b3) = false) : runC c h k o = ⟨false, 1⟩ := by
  unfold runC; rw [hv, h1, h2, h3, hh]; rfl
theorem run_ok {c : Cir} {h k o : Int} (hv : validB c = true) (h1 : setB h c.hz.toNat = true) (h2 : setB k c.sw.length = true) (h3 : setB o c.sw.length = true) : runC c h k o = ⟨cond c ⟨h.toNat, k.toNat, o.toNat⟩ 24 0, 0⟩ := by
  unfold runC; rw [hv, h1, h2, h3]; rfl

theorem set_nat {n : Int} {m : Nat} (h : setB n m = true) (hm : m ≤ 12) : ∃ k : Nat, n = k ∧ k < 1048576 := by
  unfold setB at h
  simp only [decide_eq_true_eq] at h
  have e : ((2 : Int) ^ m) = ((2 ^ m : Nat) : Int) := by simp
  have := Nat.pow_le_pow_right (show 0 < 2 by omega) hm
  exact ⟨n.toNat, by omega, by omega⟩

set_option maxRecDepth 100000 in
set_option maxHeartbeats 4000000 in
theorem cruns_any (c : Cir) (sv wv : Value) (h k o : Int) (w : World) (hv : CirAt w sv wv c) :
    Calls Try.prog 20 #[cirV c sv wv, .int .i64 h, .int .i64 k, .int .i64 o] w fun e w' => e = .returned (runCV (runC c h k o)) ∧ Below w.heap.size w w' := by
  have HB := Lib.hid ((Below.refl w.heap.size w).alloc (Nat.le_refl _) (cirO c sv wv))
  have K0 := Lib.hid (block_new w (cirO c sv wv) w.heap.size rfl)
  have HV := Lib.hid (hv.below HB.out (Nat.le_refl _))
  obtain ⟨⟨sa, scap, rfl, _, m2, _⟩, ⟨wa, wcap, rfl, _⟩⟩ := hv
  have m5 : (c.sw.length : Int) ≤ 9223372036854775807 := by omega
  cases hq : validB c
  · have HR0 := Lib.hid (chkC_bad hq)
    have HR := Lib.hid (run_bad h k o hq)
    clear hq
    go_enter Try.func20, Try.ntmps20
    go_wp2_with fail
    generalize w.alloc (cirO c (.slice sa c.sw.length scap) (.slice wa c.ws.length wcap)) = wA at *
    refine (ccheck_any c _ _ _ HV.out).mono ?_
    rintro e w1 ⟨rfl, hb1⟩
    rw [← HR0.out]
    go_wp2
    go_ret2
    exact ⟨by rw [HR.out]; rfl, HB.out.trans (hb1.mono HB.out.size)⟩
  · have HR0 := Lib.hid (chkC_ok hq)
    have hc := cval hq
    have HC := Lib.hid hc
    obtain ⟨hz, hhz⟩ : ∃ n : Nat, c.hz = n := ⟨c.hz.toNat, by have := hc.h1; omega⟩
    have hz8 : hz ≤ 8 := by have := hc.h2; omega
    have s12 := hc.s2
    have w1' := hc.w1
    have w24 := hc.w2
    have HZ := Lib.hid hhz
    have HZT : c.hz.toNat = hz := by omega
    obtain ⟨b1, h1⟩ : ∃ b, setB h hz = b := ⟨_, rfl⟩
    obtain ⟨b2, h2⟩ : ∃ b, setB k c.sw.length = b := ⟨_, rfl⟩
    obtain ⟨b3, h3⟩ : ∃ b, setB o c.sw.length = b := ⟨_, rfl⟩
    have H1 := Lib.hid h1
    have H2 := Lib.hid h2
    have H3 := Lib.hid h3
    by_cases hall : (b1 && b2 && b3) = true
    · simp only [Bool.and_eq_true] at hall
      obtain ⟨⟨rfl, rfl⟩, rfl⟩ := hall
      have HR := Lib.hid (run_ok (c := c) (h := h) (k := k) (o := o) hq (by rw [HZT]; exact H1.out) H2.out H3.out)
      obtain ⟨hn, rfl, hn20⟩ := set_nat h1 (by omega)
      obtain ⟨kn, rfl, kn20⟩ := set_nat h2 (by omega)
      obtain ⟨on, rfl, on20⟩ := set_nat h3 (by omega)
      have HOK := Lib.hid (show (⟨hn, kn, on⟩ : Sta).Ok from ⟨hn20, kn20, on20⟩)
      clear hq h1 h2 h3 hc hhz HZT
      go_enter Try.func20, Try.ntmps20
      go_wp2_with fail
      generalize w.alloc (cirO c (.slice sa c.sw.length scap) (.slice wa c.ws.length wcap)) = wA at *
      refine (ccheck_any c _ _ _ HV.out).mono ?_
      rintro e w1 ⟨rfl, hb1⟩
      rw [← HR0.out]
      have c0 := block_cell (keepZ K0.out hb1)
      rw [HZ.out] at c0
      have HB1 := Lib.hid hb1
      have HV1 := Lib.hid (HV.out.below hb1 (Nat.le_refl _))
      clear hb1
      go_wp2_with (go_at_call 72; (first | (with_reducible refine (isSet_is _ (hn : Int) hz _ (by omega) H1.out).mono ?_) | (with_reducible refine (isSet_is _ (kn : Int) c.sw.length _ (by omega) H2.out).mono ?_) | (with_reducible refine (isSet_is _ (on : Int) c.sw.length _ (by omega) H3.out).mono ?_)); rintro e w2 ⟨rfl, rfl⟩)
      rw [← HZ.out]
      clear c0
      refine (conducts_any c ⟨hn, kn, on⟩ _ _ HC.out HOK.out 24 0 _ (by omega) (by omega) HV1.out).mono ?_
      rintro e w2 ⟨rfl, hb2⟩
      go_wp2
      go_ret2
      exact ⟨by rw [HR.out]; rfl, HB.out.trans ((HB1.out.trans (hb2.mono HB1.out.size)).mono HB.out.size)⟩
    · have HR := Lib.hid (run_arg (c := c) (h := h) (k := k) (o := o) hq (b1 := b1) (b2 := b2) (b3 := b3) (by rw [HZT]; exact H1.out) H2.out H3.out (by simpa only [Bool.not_eq_true] using hall))
      clear hq h1 h2 h3 hc hhz HZT
      cases b1 <;> cases b2 <;> cases b3
      all_goals try (exact absurd rfl hall)
      all_goals
        clear hall
        go_enter Try.func20, Try.ntmps20
        go_wp2_with fail
        generalize w.alloc (cirO c (.slice sa c.sw.length scap) (.slice wa c.ws.length wcap)) = wA at *
        refine (ccheck_any c _ _ _ HV.out).mono ?_
        rintro e w1 ⟨rfl, hb1⟩
        rw [← HR0.out]
        have c0 := block_cell (keepZ K0.out hb1)
        rw [HZ.out] at c0
        have HB1 := Lib.hid hb1
        clear hb1
        go_wp2_with (go_at_call 72; (first | (with_reducible refine (isSet_is _ h hz _ (by omega) H1.out).mono ?_) | (with_reducible refine (isSet_is _ k c.sw.length _ (by omega) H2.out).mono ?_) | (with_reducible refine (isSet_is _ o c.sw.length _ (by omega) H3.out).mono ?_)); rintro e w2 ⟨rfl, rfl⟩)
        go_ret2
        exact ⟨by rw [HR.out]; rfl, HB.out.trans (HB1.out.mono HB.out.size)⟩

/-! ### the specification -/
theorem setB_is {n : Int} {m M : Nat} (h : 2 ^ m = M) : decide (0 ≤ n ∧ n ≤ (M : Int) - 1) = setB n m := by
  unfold setB
  rw [show ((2 : Int) ^ m) = ((2 ^ m : Nat) : Int) by simp, h]

set_option maxRecDepth 100000 in
set_option maxHeartbeats 1000000 in
theorem rhaz_any (c : Cir) (sv wv : Value) (n : Int) (w : World) (hc : CVal c) :
    Calls Try.prog 48 #[cirV c sv wv, .int .i64 n] w fun e w' => e = .returned (.bool (setB n c.hz.toNat)) ∧ Below w.heap.size w w' := by
  have HB := Lib.hid ((Below.refl w.heap.size w).alloc (Nat.le_refl _) (cirO c sv wv))
  have K0 := Lib.hid (block_new w (cirO c sv wv) w.heap.size rfl)
  obtain ⟨hz, hhz⟩ : ∃ n : Nat, c.hz = n := ⟨c.hz.toNat, by have := hc.h1; omega⟩
  have hz8 : hz ≤ 8 := by have := hc.h2; omega
  have HZ := Lib.hid hhz
  have hpw := wrap64_pow (k := hz) (by omega)
  have hpl := pow_small (k := hz) (by omega)
  have hp1 := Nat.one_le_two_pow (n := hz)
  have hz0 : (0 : Int) ≤ hz := by omega
  have HT := Lib.hid (show c.hz.toNat = hz by omega)
  generalize hM : (2 ^ hz : Nat) = M at *
  have HM := Lib.hid hM
  have HS := Lib.hid (setB_is (n := n) hM)
  clear hM hhz hc
  have c0 := block_cell K0.out
  rw [HZ.out] at c0
  go_enter Try.func48, Try.ntmps48
  go_wp2_with fail
  refine (rwithin_is _ _ _ _ _ HS.out).mono ?_
  rintro e w1 ⟨rfl, rfl⟩
  go_wp2
  go_ret
  exact ⟨ret_bool (by rw [HT.out]), HB.out⟩

set_option maxRecDepth 100000 in
set_option maxHeartbeats 1000000 in
theorem rswi_any (c : Cir) (sv wv : Value) (n : Int) (w : World) (hv : CirAt w sv wv c) (hc : CVal c) :
    Calls Try.prog 47 #[cirV c sv wv, .int .i64 n] w fun e w' => e = .returned (.bool (setB n c.sw.length)) ∧ Below w.heap.size w w' := by
  have HB := Lib.hid ((Below.refl w.heap.size w).alloc (Nat.le_refl _) (cirO c sv wv))
  have K0 := Lib.hid (block_new w (cirO c sv wv) w.heap.size rfl)
  obtain ⟨⟨sa, scap, rfl, _, m2, _⟩, _⟩ := hv
  have s12 := hc.s2
  have hpw := wrap64_pow (k := c.sw.length) (by omega)
  have hpl := pow_small (k := c.sw.length) (by omega)
  have hp1 := Nat.one_le_two_pow (n := c.sw.length)
  generalize hM : (2 ^ c.sw.length : Nat) = M at *
  have HS := Lib.hid (setB_is (n := n) hM)
  clear hM hc
  have c0 := block_cell K0.out
  go_enter Try.func47, Try.ntmps47
  go_wp2_with fail
  refine (rwithin_is _ _ _ _ _ HS.out).mono ?_
  rintro e w1 ⟨rfl, rfl⟩
  go_wp2
  go_ret
  exact ⟨rfl, HB.out⟩

set_option maxRecDepth 100000 in
set_option maxHeartbeats 4000000 in
theorem rruns_any (c : Cir) (sv wv : Value) (h k o : Int) (w : World) (hv : CirAt w sv wv c) :
    Calls Try.prog 21 #[cirV c sv wv, .int .i64 h, .int .i64 k, .int .i64 o] w fun e w' => e = .returned (runCV (runC c h k o)) ∧ Below w.heap.size w w' := by
  have HB := Lib.hid ((Below.refl w.heap.size w).alloc (Nat.le_refl _) (cirO c sv wv))
  have K0 := Lib.hid (block_new w (cirO c sv wv) w.heap.size rfl)
  have HV := Lib.hid (hv.below HB.out (Nat.le_refl _))
  cases hq : validB c
  · have HR0 := Lib.hid (chkC_bad hq)
    have HR := Lib.hid (run_bad h k o hq)
    clear hq
    go_enter Try.func21, Try.ntmps21
    go_wp2_with fail
    generalize w.alloc (cirO c sv wv) = wA at *
    refine (rcheck_any c _ _ _ HV.out).mono ?_
    rintro e w1 ⟨rfl, hb1⟩
    rw [← HR0.out]
    go_wp2
    go_ret2
    exact ⟨by rw [HR.out]; rfl, HB.out.trans (hb1.mono HB.out.size)⟩
  · have HR0 := Lib.hid (chkC_ok hq)
    have HC := Lib.hid (cval hq)
    have hz8 := (cval hq).h2
    have s12 := (cval hq).s2
    have w1' := (cval hq).w1
    have w24 := (cval hq).w2
    obtain ⟨b1, h1⟩ : ∃ b, setB h c.hz.toNat = b := ⟨_, rfl⟩
    obtain ⟨b2, h2⟩ : ∃ b, setB k c.sw.length = b := ⟨_, rfl⟩
    obtain ⟨b3, h3⟩ : ∃ b, setB o c.sw.length = b := ⟨_, rfl⟩
    have H1 := Lib.hid h1
    have H2 := Lib.hid h2
    have H3 := Lib.hid h3
    by_cases hall : (b1 && b2 && b3) = true
    · simp only [Bool.and_eq_true] at hall
      obtain ⟨⟨rfl, rfl⟩, rfl⟩ := hall
      have HR := Lib.hid (run_ok (c := c) (h := h) (k := k) (o := o) hq H1.out H2.out H3.out)
      obtain ⟨hn, rfl, hn20⟩ := set_nat h1 (by omega)
      obtain ⟨kn, rfl, kn20⟩ := set_nat h2 (by omega)
      obtain ⟨on, rfl, on20⟩ := set_nat h3 (by omega)
      have HOK := Lib.hid (show (⟨hn, kn, on⟩ : Sta).Ok from ⟨hn20, kn20, on20⟩)
      clear hq h1 h2 h3
      go_enter Try.func21, Try.ntmps21
      go_wp2_with fail
      generalize w.alloc (cirO c sv wv) = wA at *
      refine (rcheck_any c _ _ _ HV.out).mono ?_
      rintro e w1 ⟨rfl, hb1⟩
      rw [← HR0.out]
      have c0 := block_cell (keepZ K0.out hb1)
      have K1 := Lib.hid (keepZ K0.out hb1)
      have HB1 := Lib.hid hb1
      clear hb1
      go_wp2_with fail
      refine ((rhaz_any c sv wv _ _ HC.out)).mono ?_
      rintro e w2 ⟨rfl, hb2⟩
      rw [H1.out]
      have HB2 := Lib.hid (HB1.out.trans (hb2.mono HB1.out.size))
      clear c0 hb2
      have c0 := block_cell (keepZ K0.out HB2.out)
      go_wp2_with fail
      refine ((rswi_any c sv wv _ _ (HV.out.below HB2.out (Nat.le_refl _)) HC.out)).mono ?_
      rintro e w3 ⟨rfl, hb3⟩
      rw [H2.out]
      have HB3 := Lib.hid (HB2.out.trans (hb3.mono HB2.out.size))
      clear c0 hb3
      have c0 := block_cell (keepZ K0.out HB3.out)
      go_wp2_with fail
      refine ((rswi_any c sv wv _ _ (HV.out.below HB3.out (Nat.le_refl _)) HC.out)).mono ?_
      rintro e w4 ⟨rfl, hb4⟩
      rw [H3.out]
      have HB4 := Lib.hid (HB3.out.trans (hb4.mono HB3.out.size))
      clear c0 hb4
      have c0 := block_cell (keepZ K0.out HB4.out)
      go_wp2_with fail
      refine (rconducts_any c ⟨hn, kn, on⟩ _ _ HC.out HOK.out 24 0 _ (by omega) (by omega) (HV.out.below HB4.out (Nat.le_refl _))).mono ?_
      rintro e w5 ⟨rfl, hb5⟩
      clear c0
      go_wp2
      go_ret2
      exact ⟨by rw [HR.out]; rfl, HB.out.trans ((HB4.out.trans (hb5.mono HB4.out.size)).mono HB.out.size)⟩
    · have HR := Lib.hid (run_arg (c := c) (h := h) (k := k) (o := o) hq (b1 := b1) (b2 := b2) (b3 := b3) H1.out H2.out H3.out (by simpa only [Bool.not_eq_true] using hall))
      clear hq h1 h2 h3
      go_enter Try.func21, Try.ntmps21
      go_wp2_with fail
      generalize w.alloc (cirO c sv wv) = wA at *
      refine (rcheck_any c _ _ _ HV.out).mono ?_
      rintro e w1 ⟨rfl, hb1⟩
      rw [← HR0.out]
      have c0 := block_cell (keepZ K0.out hb1)
      have HB1 := Lib.hid hb1
      clear hb1
      go_wp2_with fail
      refine ((rhaz_any c sv wv _ _ HC.out)).mono ?_
      rintro e w2 ⟨rfl, hb2⟩
      rw [H1.out]
      have HB2 := Lib.hid (HB1.out.trans (hb2.mono HB1.out.size))
      clear c0 hb2
      have c0 := block_cell (keepZ K0.out HB2.out)
      cases b1
      · clear hall
        go_wp2_with fail
        go_ret2
        exact ⟨by rw [HR.out]; rfl, HB.out.trans (HB2.out.mono HB.out.size)⟩
      go_wp2_with fail
      refine ((rswi_any c sv wv _ _ (HV.out.below HB2.out (Nat.le_refl _)) HC.out)).mono ?_
      rintro e w3 ⟨rfl, hb3⟩
      rw [H2.out]
      have HB3 := Lib.hid (HB2.out.trans (hb3.mono HB2.out.size))
      clear c0 hb3
      have c0 := block_cell (keepZ K0.out HB3.out)
      cases b2
      · clear hall
        go_wp2_with fail
        go_ret2
        exact ⟨by rw [HR.out]; rfl, HB.out.trans (HB3.out.mono HB.out.size)⟩
      go_wp2_with fail
      refine ((rswi_any c sv wv _ _ (HV.out.below HB3.out (Nat.le_refl _)) HC.out)).mono ?_
      rintro e w4 ⟨rfl, hb4⟩
      rw [H3.out]
      have HB4 := Lib.hid (HB3.out.trans (hb4.mono HB3.out.size))
      clear c0 hb4
      have c0 := block_cell (keepZ K0.out HB4.out)
      cases b3
      · clear hall
        go_wp2_with fail
        go_ret2
        exact ⟨by rw [HR.out]; rfl, HB.out.trans (HB4.out.mono HB.out.size)⟩
      exact absurd rfl hall

end Go.Proofs.Ytbiihhokcmdlhaa

/- Walks of the statements' own helpers (layer 3): Far. -/
namespace Go.Proofs.Ytbiihhokcmdlhaa
open Go.RowKit

theorem int_is {f : FuncId} {args : Array Value} {w : World} {a q : Int} (ha : a = q) (h : Calls Try.prog f args w fun e w' => e = .returned (.int .i64 a) ∧ Below w.heap.size w w') : Calls Try.prog f args w fun e w' => e = .returned (.int .i64 q) ∧ Below w.heap.size w w' := by
  subst ha
  exact h

def BoolRes (w : World) (e : Ending) (w' : World) : Prop := ∃ b : Bool, e = .returned (.bool b) ∧ Below w.heap.size w w'

set_option maxRecDepth 100000 in
set_option maxHeartbeats 4000000 in
theorem far_any (c : Cir) (sv wv : Value) (w : World) (hv : CirAt w sv wv c) : Calls Try.prog 18 #[cirV c sv wv] w (BoolRes w) := by
  have HB := Lib.hid ((Below.refl w.heap.size w).alloc (Nat.le_refl _) (cirO c sv wv))
  have K0 := Lib.hid (block_new w (cirO c sv wv) w.heap.size rfl)
  obtain ⟨⟨sa, scap, rfl, _, m2, _⟩, ⟨wa, wcap, rfl, _, m4, hwc⟩⟩ := hv
  have HWC := Lib.hid hwc
  have m5 : (c.sw.length : Int) ≤ 9223372036854775807 := by omega
  have m6 : (c.ws.length : Int) ≤ 9223372036854775807 := by omega
  clear hwc
  by_cases h1 : (20 : Int) < c.sw.length
  · go_enter Try.func18, Try.ntmps18
    go_wp2_with fail
    go_ret
    exact ⟨true, rfl, HB.out⟩
  · by_cases h2 : (40 : Int) < c.ws.length
    · go_enter Try.func18, Try.ntmps18
      go_wp2_with fail
      go_ret
      exact ⟨true, rfl, HB.out⟩
    · have c0 := block_cell K0.out
      go_enter Try.func18, Try.ntmps18
      go_wp2_with fail
      generalize w.alloc (cirO c (.slice sa c.sw.length scap) (.slice wa c.ws.length wcap)) = wA at *
      go_loop [3] (fun i => ∃ k : Nat, k ≤ c.ws.length ∧ i = .int .i64 k) (fun i => c.ws.length - (intOf i).toNat)
      case atStart => exact ⟨0, Nat.zero_le _, rfl⟩
      case round =>
        obtain ⟨k, hk, rfl⟩ := hrel
        by_cases hlt : k < c.ws.length
        · obtain ⟨b, off, rfl, hbl, hcc⟩ := HWC.out (by omega)
          obtain ⟨q1, u, q2, q3⟩ := hcc k hlt
          have g2 := (HB.out.cell (p := ⟨b, off + k * 2 + 1, none⟩) hbl).trans q2
          have hbl2 := Nat.lt_of_lt_of_le hbl HB.out.size
          have k1 : (0 : Int) ≤ k := by omega
          have k2 : (k : Int) < c.ws.length := by omega
          obtain ⟨ua, ucap, rfl, _⟩ := q3
          generalize (c.ws.getD k Wir.zero).of.length = n at *
          clear hcc q1 q2
          by_cases h3 : (40 : Int) < n
          · go_wp2_with fail
            go_ret
            exact ⟨true, rfl, HB.out⟩
          · go_wp2_with fail
            go_round
            case rel => exact ⟨k + 1, hlt, by go_num⟩
            case measure => simp [intOf]; omega
        · go_wp2_with fail
          go_ret
          exact ⟨false, rfl, HB.out⟩

end Go.Proofs.Ytbiihhokcmdlhaa

/- CircuitRuns walked. -/
namespace Go.Proofs.Ytbiihhokcmdlhaa
open Go.RowKit

abbrev staV (h k o : Int) : Value := .agg #[.int .i64 h, .int .i64 k, .int .i64 o]
abbrev staO (h k o : Int) : Obj := .cells #[.int .i64 h, .int .i64 k, .int .i64 o] 27

set_option maxRecDepth 100000 in
set_option maxHeartbeats 4000000 in
theorem lawRuns_any (c : Cir) (sv wv : Value) (h k o : Int) (w : World) (hv : CirAt w sv wv c) :
    Calls Try.prog 3 #[cirV c sv wv, staV h k o] w fun e w' => e = .returned (.bool true) ∧ Below w.heap.size w w' := by
  have HB := Lib.hid (blw2 w (cirO c sv wv) (staO h k o))
  have K0 := Lib.hid (two_od w (cirO c sv wv) (staO h k o))
  have K1 := Lib.hid (two_nw w (cirO c sv wv) (staO h k o))
  have HV := Lib.hid (hv.below HB.out (Nat.le_refl _))
  go_enter Try.func3, Try.ntmps3
  go_wp2_with fail
  generalize (w.alloc (cirO c sv wv)).alloc (staO h k o) = wA at *
  refine (far_any c sv wv _ HV.out).mono ?_
  rintro e w1 ⟨q, rfl, hb1⟩
  have HB1 := Lib.hid hb1
  clear hb1
  cases q
  rotate_left
  · go_wp2_with fail
    refine (works_any _).mono ?_
    rintro e w2 ⟨rfl, hb2⟩
    go_wp2
    go_ret
    exact ⟨rfl, HB.out.trans ((HB1.out.trans (hb2.mono HB1.out.size)).mono HB.out.size)⟩
  have c0 := block_cell (keepZ K0.out HB1.out)
  have c1 := block_cell (keepZ K1.out HB1.out)
  go_wp2_with fail
  refine (cruns_any c sv wv h k o _ (HV.out.below HB1.out (Nat.le_refl _))).mono ?_
  rintro e w2 ⟨rfl, hb2⟩
  have HB2 := Lib.hid (HB1.out.trans (hb2.mono HB1.out.size))
  clear c0 c1 hb2
  have c0 := block_cell (keepZ K0.out HB2.out)
  have c1 := block_cell (keepZ K1.out HB2.out)
  go_wp2_with fail
  refine (rruns_any c sv wv h k o _ (HV.out.below HB2.out (Nat.le_refl _))).mono ?_
  rintro e w3 ⟨rfl, hb3⟩
  have HB3 := Lib.hid (HB2.out.trans (hb3.mono HB2.out.size))
  clear c0 c1 hb3
  have b1 := bw_cells (B := w3.heap.size) (keepZ K0.out HB3.out) (lt_of_block (keepZ K0.out HB3.out))
  have HV3 := Lib.hid (HV.out.below HB3.out (Nat.le_refl _))
  generalize runC c h k o = R at *
  obtain ⟨rb, re⟩ := R
  generalize hm : chkC c = m at *
  have HM := Lib.hid hm
  clear hm
  go_wp2_with fail
  refine wp_region_below (by kernel_rfl) (by kernel_rfl) (Below.refl w3.heap.size w3) ?_
  repeat ((with_reducible refine wpQuiet_step (fun K hK => ?_)); go_simp; first | (refine hK _ ?_; clear hK K) | (apply Exists.intro; refine ⟨fun _ => ?_, hK _ ?_⟩; (first | (go_at_call 22; exact bw_call (Nat.le_refl _) (int_is HM.out (ccheck_any c sv wv _ (HV3.out.below (BW.b _) (Nat.le_refl _))))) | (go_at_call 23; exact bw_call (Nat.le_refl _) (int_is HM.out (rcheck_any c sv wv _ (HV3.out.below (BW.b _) (Nat.le_refl _))))) | (go_at_call 19; exact bw_call (Nat.le_refl _) (works_any _))); clear hK K))
  refine wpQuiet_nil ?_
  intro wq hwq0
  have hwq := bw_out hwq0
  clear hwq0
  go_wp2
  go_ret
  exact ⟨rfl, HB.out.trans ((HB3.out.trans (hwq.mono HB3.out.size)).mono HB.out.size)⟩

end Go.Proofs.Ytbiihhokcmdlhaa

/- CircuitOrder walked. -/
namespace Go.Proofs.Ytbiihhokcmdlhaa
open Go.RowKit

/-- A set and any number have a part of the set in common. -/
theorem and_any (a : Nat) (x : Int) (ha : a < 1048576) : ∃ r : Nat, bits .and .i64 (a : Int) x = r ∧ r < 1048576 ∧ (∀ i, r.testBit i = true → a.testBit i = true) ∧ r ≤ a := by
  have hle : a &&& (BitVec.ofInt 64 x).toNat ≤ a := Nat.and_le_left
  refine ⟨a &&& (BitVec.ofInt 64 x).toNat, ?_, by omega, fun i hi => ?_, hle⟩
  · show IntKind.i64.wrap ((BitVec.ofInt 64 (a : Int) &&& BitVec.ofInt 64 x).toNat : Int) = _
    rw [BitVec.toNat_and, ofInt_i64 a (by omega)]
    exact wrap_i64_in (by omega) (by omega)
  · rw [Nat.testBit_and, Bool.and_eq_true] at hi
    exact hi.1

theorem setB_le {n m k : Nat} (h : setB (n : Int) m = true) (hk : k ≤ n) : setB (k : Int) m = true := by
  unfold setB at *
  simp only [decide_eq_true_eq] at *
  omega

theorem setB_or {a b m : Nat} (h1 : setB (a : Int) m = true) (h2 : setB (b : Int) m = true) : setB ((a ||| b : Nat) : Int) m = true := by
  unfold setB at *
  simp only [decide_eq_true_eq] at *
  have e : ((2 : Int) ^ m) = ((2 ^ m : Nat) : Int) := by simp
  have := Nat.or_lt_two_pow (n := m) (x := a) (y := b) (by omega) (by omega)
  omega

theorem run_e_ok {c : Cir} {h k o : Int} (hv : validB c = true) (he : (runC c h k o).e = 0) : setB h c.hz.toNat = true ∧ setB k c.sw.length = true ∧ setB o c.sw.length = true := by
  unfold runC at he
  rw [if_pos hv] at he
  split at he
  · rename_i hs
    simp only [Bool.and_eq_true] at hs
    exact ⟨hs.1.1, hs.1.2, hs.2⟩
  · cases he

theorem run_e_arg {c : Cir} {h k o : Int} (hv : validB c = true) (he : ¬ (runC c h k o).e = 0) : runC c h k o = ⟨false, 1⟩ := by
  unfold runC at *
  rw [if_pos hv] at *
  split at he
  · rename_i hs; exact absurd rfl he
  · rename_i hs; rw [if_neg hs]

set_option maxRecDepth 100000 in
set_option maxHeartbeats 8000000 in
theorem lawOrder_any (c : Cir) (sv wv : Value) (h k o h2 k2 o2 : Int) (w : World) (hv : CirAt w sv wv c) :
    Calls Try.prog 9 #[cirV c sv wv, staV h k o, staV h2 k2 o2] w fun e w' => e = .returned (.bool true) ∧ Below w.heap.size w w' := by
  have HB := Lib.hid (blw3 w (cirO c sv wv) (staO h k o) (staO h2 k2 o2))
  have K0 := Lib.hid (three_0 w (cirO c sv wv) (staO h k o) (staO h2 k2 o2))
  have K1 := Lib.hid (three_1 w (cirO c sv wv) (staO h k o) (staO h2 k2 o2))
  have K2 := Lib.hid (three_2 w (cirO c sv wv) (staO h k o) (staO h2 k2 o2))
  have HV := Lib.hid (hv.below HB.out (Nat.le_refl _))
  go_enter Try.func9, Try.ntmps9
  go_wp2_with fail
  generalize ((w.alloc (cirO c sv wv)).alloc (staO h k o)).alloc (staO h2 k2 o2) = wA at *
  refine (far_any c sv wv _ HV.out).mono ?_
  rintro e w1 ⟨q, rfl, hb1⟩
  have HB1 := Lib.hid hb1
  clear hb1
  cases q
  rotate_left
  · go_wp2_with fail
    refine (works_any _).mono ?_
    rintro e wz ⟨rfl, hbz⟩
    go_wp2_with fail
    go_ret
    exact ⟨rfl, HB.out.trans ((HB1.out.trans (hbz.mono HB1.out.size)).mono HB.out.size)⟩
  have c0 := block_cell (keepZ K0.out HB1.out)
  go_wp2_with fail
  refine (rcheck_any c sv wv _ (HV.out.below HB1.out (Nat.le_refl _))).mono ?_
  rintro e w2 ⟨rfl, hb2⟩
  have HB2 := Lib.hid (HB1.out.trans (hb2.mono HB1.out.size))
  clear hb2
  clear c0
  cases hq : validB c
  · have HR0 := Lib.hid (chkC_bad hq)
    clear hq
    rw [← HR0.out]
    go_wp2_with fail
    refine (works_any _).mono ?_
    rintro e wz ⟨rfl, hbz⟩
    go_wp2_with fail
    go_ret
    exact ⟨rfl, HB.out.trans ((HB2.out.trans (hbz.mono HB2.out.size)).mono HB.out.size)⟩
  have HR0 := Lib.hid (chkC_ok hq)
  have HQ := Lib.hid hq
  have HC := Lib.hid (cval hq)
  have s12 := (cval hq).s2
  have hz8 := (cval hq).h2
  clear hq
  rw [← HR0.out]
  have c0 := block_cell (keepZ K0.out HB2.out)
  have c1 := block_cell (keepZ K1.out HB2.out)
  go_wp2_with fail
  refine (cruns_any c sv wv h k o _ (HV.out.below HB2.out (Nat.le_refl _))).mono ?_
  rintro e w3 ⟨rfl, hb3⟩
  have HB3 := Lib.hid (HB2.out.trans (hb3.mono HB2.out.size))
  clear hb3
  clear c0 c1
  by_cases he : (runC c h k o).e = 0
  rotate_left
  · rw [run_e_arg HQ.out he]
    clear he
    go_wp2_with fail
    refine (works_any _).mono ?_
    rintro e wz ⟨rfl, hbz⟩
    go_wp2_with fail
    go_ret
    exact ⟨rfl, HB.out.trans ((HB3.out.trans (hbz.mono HB3.out.size)).mono HB.out.size)⟩
  obtain ⟨g1, g2, g3⟩ := run_e_ok HQ.out he
  have HRK := Lib.hid (run_ok HQ.out g1 g2 g3)
  rw [HRK.out]
  have G1 := Lib.hid g1
  have G2 := Lib.hid g2
  have G3 := Lib.hid g3
  obtain ⟨hn, rfl, hn20⟩ := set_nat g1 (by omega)
  obtain ⟨kn, rfl, kn20⟩ := set_nat g2 (by omega)
  obtain ⟨on, rfl, on20⟩ := set_nat g3 (by omega)
  clear g1 g2 g3 he
  generalize hcq : cond c ⟨(hn : Int).toNat, (kn : Int).toNat, (on : Int).toNat⟩ 24 0 = cq
  have HCQ := Lib.hid hcq
  clear hcq
  have c0 := block_cell (keepZ K0.out HB3.out)
  have c2 := block_cell (keepZ K2.out HB3.out)
  go_wp2_with fail
  refine (rswi_any c sv wv k2 _ (HV.out.below HB3.out (Nat.le_refl _)) HC.out).mono ?_
  rintro e w4 ⟨rfl, hb4⟩
  have HB4 := Lib.hid (HB3.out.trans (hb4.mono HB3.out.size))
  clear hb4
  clear c0 c2
  cases hs : setB k2 c.sw.length
  · clear hs
    go_wp2_with fail
    refine (works_any _).mono ?_
    rintro e wz ⟨rfl, hbz⟩
    go_wp2_with fail
    go_ret
    exact ⟨rfl, HB.out.trans ((HB4.out.trans (hbz.mono HB4.out.size)).mono HB.out.size)⟩
  have GS := Lib.hid hs
  obtain ⟨k2n, rfl, k2n20⟩ := set_nat hs (by omega)
  clear hs
  obtain ⟨r1, e1, r120, r1s, r1l⟩ := and_any hn h2 hn20
  obtain ⟨r3, e3, r320, r3s, r3l⟩ := and_any on o2 on20
  have e2 := i64_or_nat kn k2n (by omega) (by omega)
  have HR2 := Lib.hid (run_ok (c := c) (h := r1) (k := ((kn ||| k2n : Nat) : Int)) (o := r3) HQ.out (setB_le G1.out r1l) (setB_or G2.out GS.out) (setB_le G3.out r3l))
  have HMON := Lib.hid (show cq = true → cond c ⟨r1, kn ||| k2n, r3⟩ 24 0 = true from fun hc => by
    rw [← HCQ.out] at hc
    exact cond_mono (s := ⟨hn, kn, on⟩) (t := ⟨r1, kn ||| k2n, r3⟩) ⟨r1s, or_left kn k2n, r3s⟩ 24 0 hc)
  clear r1s r3s r120 r320 r1l r3l
  generalize hkk : kn ||| k2n = kk at *
  clear hkk
  have c0 := block_cell (keepZ K0.out HB4.out)
  have c1 := block_cell (keepZ K1.out HB4.out)
  have c2 := block_cell (keepZ K2.out HB4.out)
  go_wp2_with fail
  clear e1 e2 e3
  refine (cruns_any c sv wv r1 kk r3 _ (HV.out.below HB4.out (Nat.le_refl _))).mono ?_
  rintro e w5 ⟨rfl, hb5⟩
  have HB5 := Lib.hid (HB4.out.trans (hb5.mono HB4.out.size))
  clear hb5
  clear c0 c1 c2
  rw [HR2.out]
  have HMON2 := Lib.hid (show cq = true → cond c ⟨(r1 : Int).toNat, (kk : Int).toNat, (r3 : Int).toNat⟩ 24 0 = true from HMON.out)
  generalize cond c ⟨(r1 : Int).toNat, (kk : Int).toNat, (r3 : Int).toNat⟩ 24 0 = cq2 at *
  cases cq
  · go_wp2_with fail
    refine (works_any _).mono ?_
    rintro e wz ⟨rfl, hbz⟩
    go_wp2_with fail
    go_ret
    exact ⟨rfl, HB.out.trans ((HB5.out.trans (hbz.mono HB5.out.size)).mono HB.out.size)⟩
  · obtain rfl := HMON2.out rfl
    go_wp2_with fail
    refine (works_any _).mono ?_
    rintro e wz ⟨rfl, hbz⟩
    go_wp2_with fail
    go_ret
    exact ⟨rfl, HB.out.trans ((HB5.out.trans (hbz.mono HB5.out.size)).mono HB.out.size)⟩

end Go.Proofs.Ytbiihhokcmdlhaa

/- CircuitSingle walked. -/
namespace Go.Proofs.Ytbiihhokcmdlhaa
open Go.RowKit

theorem critR_is {c : Cir} (h : validB c = true) : critR c = natL (critM c) := by unfold critR; rw [h]; rfl

set_option maxRecDepth 100000 in
set_option maxHeartbeats 8000000 in
theorem lawSingle_any (c : Cir) (sv wv : Value) (sw h k o : Int) (w : World) (hv : CirAt w sv wv c) :
    Calls Try.prog 10 #[cirV c sv wv, .int .i64 sw, staV h k o] w fun e w' => e = .returned (.bool true) ∧ Below w.heap.size w w' := by
  have HB := Lib.hid (blw2 w (cirO c sv wv) (staO h k o))
  have K0 := Lib.hid (two_od w (cirO c sv wv) (staO h k o))
  have K1 := Lib.hid (two_nw w (cirO c sv wv) (staO h k o))
  have HV := Lib.hid (hv.below HB.out (Nat.le_refl _))
  have m5 : (c.sw.length : Int) ≤ 9223372036854775807 := by
    obtain ⟨⟨_, _, _, _, _, _⟩, _⟩ := hv
    omega
  obtain ⟨⟨sa, scap, rfl, _⟩, _⟩ := hv
  go_enter Try.func10, Try.ntmps10
  go_wp2_with fail
  generalize (w.alloc (cirO c (.slice sa c.sw.length scap) wv)).alloc (staO h k o) = wA at *
  refine (far_any c _ wv _ HV.out).mono ?_
  rintro e w1 ⟨q, rfl, hb1⟩
  have HB1 := Lib.hid hb1
  clear hb1
  cases q
  rotate_left
  · go_wp2_with fail
    refine (works_any _).mono ?_
    rintro e wz ⟨rfl, hbz⟩
    go_wp2_with fail
    go_ret
    exact ⟨rfl, HB.out.trans ((HB1.out.trans (hbz.mono HB1.out.size)).mono HB.out.size)⟩
  have c0 := block_cell (keepZ K0.out HB1.out)
  go_wp2_with fail
  refine (rcheck_any c _ wv _ (HV.out.below HB1.out (Nat.le_refl _))).mono ?_
  rintro e w2 ⟨rfl, hb2⟩
  have HB2 := Lib.hid (HB1.out.trans (hb2.mono HB1.out.size))
  clear hb2
  clear c0
  cases hq : validB c
  · have HR0 := Lib.hid (chkC_bad hq)
    clear hq
    rw [← HR0.out]
    go_wp2_with fail
    refine (works_any _).mono ?_
    rintro e wz ⟨rfl, hbz⟩
    go_wp2_with fail
    go_ret
    exact ⟨rfl, HB.out.trans ((HB2.out.trans (hbz.mono HB2.out.size)).mono HB.out.size)⟩
  have HR0 := Lib.hid (chkC_ok hq)
  have HQ := Lib.hid hq
  have HC := Lib.hid (cval hq)
  have s12 := (cval hq).s2
  have hz8 := (cval hq).h2
  clear hq
  rw [← HR0.out]
  by_cases hs0 : sw < 0
  · go_wp2_with fail
    refine (works_any _).mono ?_
    rintro e wz ⟨rfl, hbz⟩
    go_wp2_with fail
    go_ret
    exact ⟨rfl, HB.out.trans ((HB2.out.trans (hbz.mono HB2.out.size)).mono HB.out.size)⟩
  have c0 := block_cell (keepZ K0.out HB2.out)
  have c1 := block_cell (keepZ K1.out HB2.out)
  by_cases hs1 : (c.sw.length : Int) ≤ sw
  · go_wp2_with fail
    refine (works_any _).mono ?_
    rintro e wz ⟨rfl, hbz⟩
    go_wp2_with fail
    go_ret
    exact ⟨rfl, HB.out.trans ((HB2.out.trans (hbz.mono HB2.out.size)).mono HB.out.size)⟩
  obtain ⟨s, rfl⟩ : ∃ s : Nat, sw = s := ⟨sw.toNat, by omega⟩
  have hs2 : s < c.sw.length := by omega
  go_wp2_with fail
  refine (rhaz_any c _ wv h _ HC.out).mono ?_
  rintro e w3 ⟨rfl, hb3⟩
  have HB3 := Lib.hid (HB2.out.trans (hb3.mono HB2.out.size))
  clear hb3
  clear c0 c1
  cases hh : setB h c.hz.toNat
  · clear hh
    go_wp2_with fail
    refine (works_any _).mono ?_
    rintro e wz ⟨rfl, hbz⟩
    go_wp2_with fail
    go_ret
    exact ⟨rfl, HB.out.trans ((HB3.out.trans (hbz.mono HB3.out.size)).mono HB.out.size)⟩
  have G1 := Lib.hid hh
  obtain ⟨hn, rfl, hn20⟩ := set_nat hh (by omega)
  clear hh
  have c0 := block_cell (keepZ K0.out HB3.out)
  have c1 := block_cell (keepZ K1.out HB3.out)
  by_cases h0 : hn = 0
  · subst h0
    go_wp2_with fail
    refine (works_any _).mono ?_
    rintro e wz ⟨rfl, hbz⟩
    go_wp2_with fail
    go_ret
    exact ⟨rfl, HB.out.trans ((HB3.out.trans (hbz.mono HB3.out.size)).mono HB.out.size)⟩
  have h0b : ((hn : Int) == 0) = false := by simp; omega
  have H0 := Lib.hid h0
  clear h0
  go_wp2_with fail
  refine (rswi_any c _ wv o _ (HV.out.below HB3.out (Nat.le_refl _)) HC.out).mono ?_
  rintro e w4 ⟨rfl, hb4⟩
  have HB4 := Lib.hid (HB3.out.trans (hb4.mono HB3.out.size))
  clear hb4
  clear c0 c1
  cases ho : setB o c.sw.length
  · clear ho
    go_wp2_with fail
    refine (works_any _).mono ?_
    rintro e wz ⟨rfl, hbz⟩
    go_wp2_with fail
    go_ret
    exact ⟨rfl, HB.out.trans ((HB4.out.trans (hbz.mono HB4.out.size)).mono HB.out.size)⟩
  have G3 := Lib.hid ho
  obtain ⟨on, rfl, on20⟩ := set_nat ho (by omega)
  clear ho
  have c0 := block_cell (keepZ K0.out HB4.out)
  go_wp2_with fail
  refine (ccritical_any c _ wv _ (HV.out.below HB4.out (Nat.le_refl _))).mono ?_
  rintro e w5 ⟨v, rfl, ⟨va, vcap, rfl, _, _, _⟩, hb5⟩
  have HB5 := Lib.hid (HB4.out.trans (hb5.mono HB4.out.size))
  clear hb5
  clear c0
  rw [← HR0.out, critR_is HQ.out, natL_len]
  by_cases hcr : 0 < (critM c).length
  · have hcr2 : (0 : Int) < (critM c).length := by omega
    generalize (critM c).length = L at *
    go_wp2_with fail
    refine (works_any _).mono ?_
    rintro e wz ⟨rfl, hbz⟩
    go_wp2_with fail
    go_ret
    exact ⟨rfl, HB.out.trans ((HB5.out.trans (hbz.mono HB5.out.size)).mono HB.out.size)⟩
  have HCM := Lib.hid (show critM c = [] from List.eq_nil_of_length_eq_zero (by omega))
  have hcr2 : ¬ (0 : Int) < (critM c).length := by omega
  generalize (critM c).length = L at *
  have hpw := wrap64_pow (k := s) (by omega)
  have hp20 := pow_set (k := s) (by omega)
  have s0 : (0 : Int) ≤ s := by omega
  have HST := Lib.hid (show cond c ⟨hn, 2 ^ s, on⟩ 24 0 = false from single_stop HCM.out hs2 H0.out (by
    have := G1.out
    unfold setB at this
    simp only [decide_eq_true_eq] at this
    have e : ((2 : Int) ^ c.hz.toNat) = ((2 ^ c.hz.toNat : Nat) : Int) := by simp
    omega) on)
  have HSB := Lib.hid (show setB ((2 ^ s : Nat) : Int) c.sw.length = true by
    unfold setB
    rw [decide_eq_true_eq, show ((2 : Int) ^ c.sw.length) = ((2 ^ c.sw.length : Nat) : Int) by simp]
    have := Nat.pow_lt_pow_right (show 1 < 2 by omega) hs2
    generalize (2 ^ s : Nat) = a at *
    generalize (2 ^ c.sw.length : Nat) = b at *
    omega)
  generalize (2 ^ s : Nat) = M at *
  have HRK := Lib.hid (run_ok (c := c) (h := hn) (k := M) (o := on) HQ.out G1.out HSB.out G3.out)
  have c0 := block_cell (keepZ K0.out HB5.out)
  have c1 := block_cell (keepZ K1.out HB5.out)
  go_wp2_with fail
  refine (cruns_any c _ wv hn M on _ (HV.out.below HB5.out (Nat.le_refl _))).mono ?_
  rintro e w6 ⟨rfl, hb6⟩
  have HB6 := Lib.hid (HB5.out.trans (hb6.mono HB5.out.size))
  clear hb6
  clear c0 c1
  rw [HRK.out]
  have HST2 := Lib.hid (show cond c ⟨(hn : Int).toNat, (M : Int).toNat, (on : Int).toNat⟩ 24 0 = false from HST.out)
  rw [HST2.out]
  go_wp2_with fail
  refine (works_any _).mono ?_
  rintro e wz ⟨rfl, hbz⟩
  go_wp2_with fail
  go_ret
  exact ⟨rfl, HB.out.trans ((HB6.out.trans (hbz.mono HB6.out.size)).mono HB.out.size)⟩

end Go.Proofs.Ytbiihhokcmdlhaa

/- CircuitTwo walked. -/
namespace Go.Proofs.Ytbiihhokcmdlhaa
open Go.RowKit

theorem run_eqPair (a b c d : Int) (W : World) : (Op.equalIn 10000 71 (.agg #[.int .i64 a, .int .i64 b]) (.agg #[.int .i64 c, .int .i64 d])).run Try.prog W = .ok ((a == c) && (b == d)) W := by
  have hu : Try.prog.underlying 71 = some (.array 2 3) := by kernel_rfl
  have h1 : (Op.equalIn 9999 3 (.int .i64 a) (.int .i64 c)).run Try.prog W = .ok (a == c) W := run_equalIn_int W 9998 3 .i64 .i64 a c (by kernel_rfl)
  have h2 : (Op.equalIn 9999 3 (.int .i64 b) (.int .i64 d)).run Try.prog W = .ok (b == d) W := run_equalIn_int W 9998 3 .i64 .i64 b d (by kernel_rfl)
  have hs : ∀ W : World, (sizeOf 3).run Try.prog W = .ok 1 W := fun _ => by kernel_rfl
  have p0 : ∀ (x y : Int) (W : World), (Go.part 3 #[.int .i64 x, .int .i64 y] 0).run Try.prog W = .ok (.int .i64 x) W := fun _ _ _ => by kernel_rfl
  have p1 : ∀ (x y : Int) (W : World), (Go.part 3 #[.int .i64 x, .int .i64 y] 1).run Try.prog W = .ok (.int .i64 y) W := fun _ _ _ => by kernel_rfl
  unfold Op.equalIn
  have hr : List.range' 0 2 = [0, 1] := rfl
  cases h3 : (a == c) <;> cases h4 : (b == d) <;> rw [h3] at h1 <;> rw [h4] at h2 <;> simp [run_underlying hu, hs, hr, p0, p1, h1, h2]

set_option maxRecDepth 100000 in
set_option maxHeartbeats 1000000 in
theorem hasOf_is (q : Bool) (v : Value) (l : List Int) (x : Int) (w : World) (hv : InAt w v l) (hq : (l.any fun y => y == x) = q) :
    Calls Try.prog 49 #[v, .int .i64 x] w fun e w' => e = .returned (.bool q) ∧ w = w' := by
  subst hq
  obtain ⟨a, cap, rfl, hn, hcap, hc⟩ := hv
  have HC := Lib.hid hc
  clear hc
  go_enter Try.func49, Try.ntmps49
  go_wp2_with fail
  go_loop [5] (fun i => ∃ k : Nat, k ≤ l.length ∧ i = .int .i64 k ∧ Hid (∀ i, i < k → (l.getD i 0 == x) = false)) (fun i => l.length - (intOf i).toNat)
  case atStart => exact ⟨0, Nat.zero_le _, rfl, fun i hi => by omega⟩
  case round =>
    obtain ⟨k, hk, rfl, hf⟩ := hrel
    by_cases hlt : k < l.length
    · obtain ⟨b, off, rfl, hbl, hc⟩ := HC.out (by omega)
      have g1 := hc k hlt
      have k1 : (0 : Int) ≤ k := by omega
      have k2 : (k : Int) < l.length := by omega
      clear hc
      generalize hq0 : l.getD k 0 = q at g1
      have Hq := Lib.hid hq0
      clear hq0
      cases hq : (q == x)
      · have HQ := Lib.hid hq
        go_wp2_with fail
        go_round
        case rel => exact ⟨k + 1, hlt, by go_num, fun i hi => by
          by_cases hik : i = k
          · rw [hik, Hq.out]; exact HQ.out
          · exact hf.out i (by omega)⟩
        case measure => simp [intOf]; omega
      · have HQ := Lib.hid hq
        go_wp2_with fail
        go_ret
        exact ⟨ret_bool (by rw [any_true_of (d := 0) hlt (by rw [Hq.out]; exact HQ.out)]), rfl⟩
    · go_wp2_with fail
      go_ret
      exact ⟨ret_bool (by rw [any_false_of (d := 0) (fun i hi => hf.out i (by omega))]), rfl⟩

/-! ### Weak of the program -/
def weakE (c : Cir) (k : Int) : Int := if validB c = true then (if setB k c.sw.length = true then 0 else 1) else 30
def weakR (c : Cir) (k : Int) : List Int := if weakE c k = 0 then natL (weakM c k.toNat) else []

set_option maxRecDepth 100000 in
set_option maxHeartbeats 4000000 in
theorem cweak_any (c : Cir) (sv wv : Value) (k : Int) (w : World) (hv : CirAt w sv wv c) :
    Calls Try.prog 24 #[cirV c sv wv, .int .i64 k] w (ListErr (weakR c k) (weakE c k) w) := by
  have HB := Lib.hid ((Below.refl w.heap.size w).alloc (Nat.le_refl _) (cirO c sv wv))
  have K0 := Lib.hid (block_new w (cirO c sv wv) w.heap.size rfl)
  have HV := Lib.hid (hv.below HB.out (Nat.le_refl _))
  obtain ⟨⟨sa, scap, rfl, _, m2, _⟩, _⟩ := hv
  cases hq : validB c
  · have HR0 := Lib.hid (chkC_bad hq)
    have HE := Lib.hid (show weakE c k = 30 by unfold weakE; rw [hq]; rfl)
    have HL := Lib.hid (show weakR c k = [] by unfold weakR; rw [HE.out]; rfl)
    clear hq
    go_enter Try.func24, Try.ntmps24
    go_wp2_with fail
    generalize w.alloc (cirO c (.slice sa c.sw.length scap) wv) = wA at *
    refine (ccheck_any c _ _ _ HV.out).mono ?_
    rintro e w1 ⟨rfl, hb1⟩
    rw [← HR0.out]
    go_wp2
    go_ret2
    exact ⟨.slice none 0 0, by rw [HE.out]; rfl, by rw [HL.out]; exact InAt.nil _, HB.out.trans (hb1.mono HB.out.size)⟩
  · have HR0 := Lib.hid (chkC_ok hq)
    have HC := Lib.hid (cval hq)
    have s12 := (cval hq).s2
    cases hs : setB k c.sw.length
    · have HE := Lib.hid (show weakE c k = 1 by unfold weakE; rw [hq, hs]; rfl)
      have HL := Lib.hid (show weakR c k = [] by unfold weakR; rw [HE.out]; rfl)
      have HS := Lib.hid hs
      clear hq hs
      go_enter Try.func24, Try.ntmps24
      go_wp2_with fail
      generalize w.alloc (cirO c (.slice sa c.sw.length scap) wv) = wA at *
      refine (ccheck_any c _ _ _ HV.out).mono ?_
      rintro e w1 ⟨rfl, hb1⟩
      rw [← HR0.out]
      have c0 := block_cell (keepZ K0.out hb1)
      have HB1 := Lib.hid hb1
      clear hb1
      go_wp2_with (go_at_call 72; refine (isSet_is _ k c.sw.length _ (by omega) HS.out).mono ?_; rintro e w2 ⟨rfl, rfl⟩)
      go_ret2
      exact ⟨.slice none 0 0, by rw [HE.out]; rfl, by rw [HL.out]; exact InAt.nil _, HB.out.trans (HB1.out.mono HB.out.size)⟩
    · have HE := Lib.hid (show weakE c k = 0 by unfold weakE; rw [hq, hs]; rfl)
      have HL := Lib.hid (show weakR c k = natL (weakM c k.toNat) by unfold weakR; rw [HE.out]; rfl)
      have HS := Lib.hid hs
      obtain ⟨kn, rfl, kn20⟩ := set_nat hs (by omega)
      clear hq hs
      go_enter Try.func24, Try.ntmps24
      go_wp2_with fail
      generalize w.alloc (cirO c (.slice sa c.sw.length scap) wv) = wA at *
      refine (ccheck_any c _ _ _ HV.out).mono ?_
      rintro e w1 ⟨rfl, hb1⟩
      rw [← HR0.out]
      have c0 := block_cell (keepZ K0.out hb1)
      have HB1 := Lib.hid hb1
      clear hb1
      go_wp2_with (go_at_call 72; refine (isSet_is _ (kn : Int) c.sw.length _ (by omega) HS.out).mono ?_; rintro e w2 ⟨rfl, rfl⟩)
      refine (weak_any c _ wv kn _ (HV.out.below HB1.out (Nat.le_refl _)) HC.out kn20).mono ?_
      rintro e w2 ⟨v, rfl, hin, hb2⟩
      have HI := Lib.hid hin
      clear hin c0
      go_wp2
      go_ret2
      exact ⟨v, by rw [HE.out]; rfl, by rw [HL.out, Int.toNat_natCast]; exact HI.out, HB.out.trans ((HB1.out.trans (hb2.mono HB1.out.size)).mono HB.out.size)⟩

end Go.Proofs.Ytbiihhokcmdlhaa
