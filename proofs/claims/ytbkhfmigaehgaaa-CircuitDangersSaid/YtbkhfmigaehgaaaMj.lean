/- Walks of layer 3 (circuit): Least of the specification; CircuitLeast walked. -/
import Derived.Test.YtbkhfmigaehgaaaMi
import Derived.Test.YtbkhfmigaehgaaaMd
namespace Go.Proofs.Ytbkhfmigaehgaaa
open Go.RowKit

def bestI : Option Nat → Int
  | none => -1
  | some b => b

theorem bestS_lt {p : Nat → Bool} : ∀ {k b : Nat}, bestS p k = some b → b < k
  | 0, b, h => by cases h
  | k + 1, b, h => by
    rw [show bestS p (k + 1) = (match bestS p k with | none => if p k = true then some k else none | some b => if (decide (ones k < ones b) && p k) = true then some k else some b) from rfl] at h
    cases hk : bestS p k with
    | none =>
      rw [hk] at h
      dsimp only at h
      split at h
      · injection h with h; omega
      · cases h
    | some b' =>
      have := bestS_lt hk
      rw [hk] at h
      dsimp only at h
      split at h
      · injection h with h; omega
      · injection h with h; omega

theorem bestS_at {p : Nat → Bool} (k : Nat) : bestS p (k + 1) = (match bestS p k with | none => if p k = true then some k else none | some b => if (decide (ones k < ones b) && p k) = true then some k else some b) := rfl

theorem sub_all {m k : Nat} (h : k < 2 ^ m) : ∀ i, k.testBit i = true → (2 ^ m - 1).testBit i = true := by
  intro i hi
  rw [Nat.testBit_two_pow_sub_one, decide_eq_true_eq]
  apply Nat.lt_of_not_le
  intro hle
  have := Nat.testBit_lt_two_pow (Nat.lt_of_lt_of_le h (Nat.pow_le_pow_right (by omega) hle))
  rw [this] at hi; cases hi

theorem lst_spec {c : Cir} {h : Int} (hv : validB c = true) (h2 : decide (0 ≤ h ∧ h ≤ c.hz - 1) = true) :
    (bestI (bestS (lstP c h.toNat) (2 ^ c.sw.length)) < 0 → lstR c h = ⟨0, 3⟩) ∧ (¬ bestI (bestS (lstP c h.toNat) (2 ^ c.sw.length)) < 0 → lstR c h = ⟨bestI (bestS (lstP c h.toNat) (2 ^ c.sw.length)), 0⟩) := by
  have hs := (cval hv).s2
  cases h3 : lstP c h.toNat (lstAll c)
  · have hn : bestS (lstP c h.toNat) (2 ^ c.sw.length) = none := bestS_none (fun j hj => by
      cases hj2 : lstP c h.toNat j
      · rfl
      · have : lstP c h.toNat (lstAll c) = true := pass_mono (fun i hi => hi) (sub_all hj) hj2
        rw [h3] at this; cases this)
    rw [hn]
    exact ⟨fun _ => lst_none hv h2 h3, fun hh => absurd (show bestI none < 0 by decide) hh⟩
  · have hf := best_final (p := lstP c h.toNat) hs h3
    rw [hf]
    refine ⟨fun hh => ?_, fun _ => lst_some hv h2 h3⟩
    exact absurd hh (by show ¬ ((_ : Nat) : Int) < 0; omega)

set_option maxRecDepth 100000 in
set_option maxHeartbeats 8000000 in
theorem rleast_any (c : Cir) (sv wv : Value) (h : Int) (w : World) (hv : CirAt w sv wv c) :
    Calls Try.prog 32 #[cirV c sv wv, .int .i64 h] w fun e w' => e = .returned (lstV (lstR c h)) ∧ Below w.heap.size w w' := by
  have HB := Lib.hid ((Below.refl w.heap.size w).alloc (Nat.le_refl _) (cirO c sv wv))
  have K0 := Lib.hid (block_new w (cirO c sv wv) w.heap.size rfl)
  have HV := Lib.hid (hv.below HB.out (Nat.le_refl _))
  obtain ⟨⟨sa, scap, rfl, _, m2, _⟩, _⟩ := hv
  cases hq : validB c
  · have HR0 := Lib.hid (chkC_bad hq)
    have HR := Lib.hid (lst_bad h hq)
    clear hq
    go_enter Try.func32, Try.ntmps32
    go_wp2_with fail
    generalize w.alloc (cirO c (.slice sa c.sw.length scap) wv) = wA at *
    refine (rcheck_any c _ _ _ HV.out).mono ?_
    rintro e w1 ⟨rfl, hb1⟩
    rw [← HR0.out]
    go_wp2
    go_ret2
    exact ⟨by rw [HR.out]; rfl, HB.out.trans (hb1.mono HB.out.size)⟩
  · have HR0 := Lib.hid (chkC_ok hq)
    have HC := Lib.hid (cval hq)
    have s12 := (cval hq).s2
    have z1 := (cval hq).h1
    have z8 := (cval hq).h2
    have ww1 := (cval hq).w1
    have ww2 := (cval hq).w2
    cases hh : decide (0 ≤ h ∧ h ≤ c.hz - 1)
    · have HR := Lib.hid (lst_arg hq hh)
      have HH := Lib.hid hh
      clear hq hh
      go_enter Try.func32, Try.ntmps32
      go_wp2_with fail
      generalize w.alloc (cirO c (.slice sa c.sw.length scap) wv) = wA at *
      refine (rcheck_any c _ _ _ HV.out).mono ?_
      rintro e w1 ⟨rfl, hb1⟩
      rw [← HR0.out]
      have c0 := block_cell (keepZ K0.out hb1)
      have HB1 := Lib.hid hb1
      clear hb1
      go_wp2_with (go_at_call 80; refine (rwithin_is _ _ _ _ _ HH.out).mono ?_; rintro e w2 ⟨rfl, rfl⟩)
      go_ret2
      exact ⟨by rw [HR.out]; rfl, HB.out.trans (HB1.out.mono HB.out.size)⟩
    · have HH := Lib.hid hh
      have HRS := Lib.hid (lst_spec hq hh)
      simp only [decide_eq_true_eq] at hh
      obtain ⟨n, rfl⟩ : ∃ n : Nat, h = n := ⟨h.toNat, by omega⟩
      have n8 : n ≤ 8 := by omega
      rw [Int.toNat_natCast] at HRS
      have hpw := wrap64_pow (k := c.sw.length) (by omega)
      have hpl := pow_set (k := c.sw.length) (by omega)
      have HM4 := Lib.hid (show 2 ^ c.sw.length ≤ 4096 from Nat.pow_le_pow_right (show 0 < 2 by omega) s12)
      have hpn := wrap64_pow (k := n) (by omega)
      obtain ⟨A, hA⟩ : ∃ A, 2 ^ n = A := ⟨_, rfl⟩
      have hA20 : A < 1048576 := by rw [← hA]; exact pow_set (by omega)
      have HP := Lib.hid (fun s => show lstP c n s = cond c ⟨A, s, 0⟩ 24 0 by unfold lstP passM; rw [hA])
      have n0 : (0 : Int) ≤ n := by omega
      rw [hA] at hpn
      generalize (2 ^ c.sw.length : Nat) = M at *
      clear hq hh hA
      go_enter Try.func32, Try.ntmps32
      go_wp2_with fail
      generalize w.alloc (cirO c (.slice sa c.sw.length scap) wv) = wA at *
      refine (rcheck_any c _ _ _ HV.out).mono ?_
      rintro e w1 ⟨rfl, hb1⟩
      rw [← HR0.out]
      have c0 := block_cell (keepZ K0.out hb1)
      have HB1 := Lib.hid hb1
      clear hb1
      go_wp2_with (go_at_call 80; refine (rwithin_is _ _ _ _ _ HH.out).mono ?_; rintro e w2 ⟨rfl, rfl⟩)
      clear c0
      have hm4 := HM4.out
      go_loopw [6, 7] (fun x i wr => ∃ k : Nat, k ≤ M ∧ i = .int .i64 k ∧ x = .int .i64 (bestI (bestS (lstP c n) k)) ∧ Hid (Below wA.heap.size wA wr)) (fun _ i _ => M - (intOf i).toNat)
      case atStart => exact ⟨0, Nat.zero_le _, rfl, rfl, HB1⟩
      case round =>
        obtain ⟨k, hk, rfl, rfl, hb⟩ := hrel
        have c0 := block_cell (keepZ K0.out hb.out)
        by_cases hlt : k < M
        · have HAT := Lib.hid (bestS_at (p := lstP c n) k)
          have HPK := Lib.hid (HP.out k)
          have hOK := sta_ok hA20 (show k < 1048576 by omega)
          have HOK := Lib.hid hOK
          cases hbs : bestS (lstP c n) k with
          | none =>
            rw [hbs] at HAT
            have hneg : bestI none < 0 := by decide
            have HAT2 := Lib.hid (show bestS (lstP c n) (k + 1) = if cond c ⟨A, k, 0⟩ 24 0 = true then some k else none by rw [HAT.out, HPK.out])
            have hbi : bestI none = -1 := rfl
            rw [hbi]
            clear hbs hneg hbi hOK
            go_wp2_with fail
            refine (rconducts_any c ⟨A, k, 0⟩ _ wv HC.out HOK.out 24 0 _ (by omega) (by omega) (HV.out.below hb.out (Nat.le_refl _))).mono ?_
            rintro e w4 ⟨rfl, hb4⟩
            have HB4 := Lib.hid (hb.out.trans (hb4.mono hb.out.size))
            clear c0 hb4
            cases hcq : cond c ⟨A, k, 0⟩ 24 0
            · rw [hcq] at HAT2
              clear hcq
              go_wp2_with fail
              go_roundw
              case rel => exact ⟨k + 1, hlt, by go_num, by rw [HAT2.out]; rfl, HB4⟩
              case measure => simp [intOf]; omega
            · rw [hcq] at HAT2
              clear hcq
              go_wp2_with fail
              go_roundw
              case rel => exact ⟨k + 1, hlt, by go_num, by rw [HAT2.out]; rfl, HB4⟩
              case measure => simp [intOf]; omega
          | some b =>
            have hbk := bestS_lt hbs
            rw [hbs] at HAT
            have hbi : bestI (some b) = (b : Int) := rfl
            rw [hbi]
            obtain ⟨o1, ho1⟩ : ∃ o, ones k = o := ⟨_, rfl⟩
            obtain ⟨o2, ho2⟩ : ∃ o, ones b = o := ⟨_, rfl⟩
            have HO1 := Lib.hid ho1
            have HO2 := Lib.hid ho2
            have HAT2 := Lib.hid (show bestS (lstP c n) (k + 1) = if (decide (o1 < o2) && cond c ⟨A, k, 0⟩ 24 0) = true then some k else some b by rw [HAT.out, ← ho1, ← ho2, HPK.out])
            have ob1 := (ones_le 12 k (by omega) (by omega)).1
            have ob2 := (ones_le 12 b (by omega) (by omega)).1
            rw [ho1] at ob1
            rw [ho2] at ob2
            clear hbs hbi hOK ho1 ho2
            by_cases hf : o1 < o2
            · rw [decide_eq_true hf, Bool.true_and] at HAT2
              go_wp2_with (go_at_call 50; (first | (with_reducible refine (rones_is o1 k _ (by omega) HO1.out).mono ?_) | (with_reducible refine (rones_is o2 b _ (by omega) HO2.out).mono ?_)); rintro e w4 ⟨rfl, rfl⟩)
              refine (rconducts_any c ⟨A, k, 0⟩ _ wv HC.out HOK.out 24 0 _ (by omega) (by omega) (HV.out.below hb.out (Nat.le_refl _))).mono ?_
              rintro e w4 ⟨rfl, hb4⟩
              have HB4 := Lib.hid (hb.out.trans (hb4.mono hb.out.size))
              clear c0 hb4
              cases hcq : cond c ⟨A, k, 0⟩ 24 0
              · rw [hcq] at HAT2
                clear hcq
                go_wp2_with fail
                go_roundw
                case rel => exact ⟨k + 1, hlt, by go_num, by rw [HAT2.out]; rfl, HB4⟩
                case measure => simp [intOf]; omega
              · rw [hcq] at HAT2
                clear hcq
                go_wp2_with fail
                go_roundw
                case rel => exact ⟨k + 1, hlt, by go_num, by rw [HAT2.out]; rfl, HB4⟩
                case measure => simp [intOf]; omega
            · rw [decide_eq_false hf, Bool.false_and] at HAT2
              go_wp2_with (go_at_call 50; (first | (with_reducible refine (rones_is o1 k _ (by omega) HO1.out).mono ?_) | (with_reducible refine (rones_is o2 b _ (by omega) HO2.out).mono ?_)); rintro e w4 ⟨rfl, rfl⟩)
              clear c0
              go_roundw
              case rel => exact ⟨k + 1, hlt, by go_num, by rw [HAT2.out]; rfl, hb⟩
              case measure => simp [intOf]; omega
        · obtain rfl : k = M := by omega
          by_cases hneg0 : bestI (bestS (lstP c n) k) < 0
          · have HR := Lib.hid (HRS.out.1 hneg0)
            generalize bestI (bestS (lstP c n) k) = B at *
            go_wp2_with fail
            go_ret2
            exact ⟨by rw [HR.out]; rfl, HB.out.trans (hb.out.mono HB.out.size)⟩
          · have HR := Lib.hid (HRS.out.2 (by omega))
            generalize bestI (bestS (lstP c n) k) = B at *
            go_wp2_with fail
            go_ret2
            exact ⟨by rw [HR.out]; rfl, HB.out.trans (hb.out.mono HB.out.size)⟩

end Go.Proofs.Ytbkhfmigaehgaaa
