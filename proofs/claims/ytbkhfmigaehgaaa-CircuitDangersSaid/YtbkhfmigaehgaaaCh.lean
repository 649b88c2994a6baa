/- Walks of layer 3 (circuit): Check of the program. -/
import Derived.Test.YtbkhfmigaehgaaaCg
namespace Go.Proofs.Ytbkhfmigaehgaaa
open Go.RowKit

theorem enters_chk1 : Enters 77 := fun _ _ => by kernel_rfl

theorem chkC_bad {c : Cir} (h : validB c = false) : (30 : Int) = chkC c := by unfold chkC; rw [h]; rfl
theorem chkC_ok {c : Cir} (h : validB c = true) : (0 : Int) = chkC c := by unfold chkC; rw [h]; rfl

theorem switches_any (c : Cir) : (c.sw.any fun n => !setB n c.hz.toNat) = !(switchesB c) := all_any_not _ _

theorem sizes_of {c : Cir} {b1 b2 b3 : Bool} (h1 : decide (1 ≤ c.hz ∧ c.hz ≤ 8) = b1) (h2 : decide (1 ≤ (c.sw.length : Int) ∧ (c.sw.length : Int) ≤ 12) = b2) (h3 : decide (1 ≤ (c.ws.length : Int) ∧ (c.ws.length : Int) ≤ 24) = b3) : sizesB c = (b1 && b2 && b3) := by
  unfold sizesB
  rw [← h1, ← h2, ← h3]
  congr 1
  · congr 1
    exact decide_eq_decide.2 (by omega)
  · exact decide_eq_decide.2 (by omega)

set_option maxRecDepth 100000 in
set_option maxHeartbeats 4000000 in
theorem ccheck_any (c : Cir) (sv wv : Value) (w : World) (hv : CirAt w sv wv c) :
    Calls Try.prog 22 #[cirV c sv wv] w fun e w' => e = .returned (.int .i64 (chkC c)) ∧ Below w.heap.size w w' := by
  have HB := Lib.hid ((Below.refl w.heap.size w).alloc (Nat.le_refl _) (cirO c sv wv))
  have K0 := Lib.hid (block_new w (cirO c sv wv) w.heap.size rfl)
  have HV := Lib.hid hv
  obtain ⟨⟨sa, scap, rfl, _, m2, _⟩, ⟨wa, wcap, rfl, _, m4, _⟩⟩ := hv
  have m5 : (c.sw.length : Int) ≤ 9223372036854775807 := by omega
  have m6 : (c.ws.length : Int) ≤ 9223372036854775807 := by omega
  obtain ⟨b1, h1⟩ : ∃ b, decide (1 ≤ c.hz ∧ c.hz ≤ 8) = b := ⟨_, rfl⟩
  obtain ⟨b2, h2⟩ : ∃ b, decide (1 ≤ (c.sw.length : Int) ∧ (c.sw.length : Int) ≤ 12) = b := ⟨_, rfl⟩
  obtain ⟨b3, h3⟩ : ∃ b, decide (1 ≤ (c.ws.length : Int) ∧ (c.ws.length : Int) ≤ 24) = b := ⟨_, rfl⟩
  have HS := Lib.hid (sizes_of h1 h2 h3)
  have H1 := Lib.hid h1
  have H2 := Lib.hid h2
  have H3 := Lib.hid h3
  clear h1 h2 h3
  by_cases hall : (b1 && b2 && b3) = true
  · simp only [Bool.and_eq_true] at hall
    obtain ⟨⟨rfl, rfl⟩, rfl⟩ := hall
    have g1 := H1.out
    have g2 := H2.out
    have g3 := H3.out
    simp only [decide_eq_true_eq] at g1 g2 g3
    obtain ⟨g1, g1'⟩ := g1
    obtain ⟨g2, g2'⟩ := g2
    obtain ⟨g3, g3'⟩ := g3
    have HC1 : Hid (∀ (x : Int) (w1 : World), Below (w.alloc (cirO c (.slice sa c.sw.length scap) (.slice wa c.ws.length wcap))).heap.size (w.alloc (cirO c (.slice sa c.sw.length scap) (.slice wa c.ws.length wcap))) w1 →
        Calls Try.prog 77 #[.int .i64 x, .pointer (some ⟨w.heap.size, 0, none⟩)] w1 fun e w' => e = .returned (.bool (!setB x c.hz.toNat)) ∧ Below w1.heap.size w1 w') := Lib.hid (fun x w1 hb1 =>
      (chk1_any x c.hz.toNat w.heap.size w1 (by omega) ((block_cell ((hb1.block _ (lt_of_block K0.out)).trans K0.out) 0).trans (by rw [Int.toNat_of_nonneg (by omega)]; rfl))).mono fun e w' ⟨h, hw⟩ => ⟨h, by rw [← hw]; exact Below.refl _ _⟩)
    cases hsw : switchesB c
    · have HR := Lib.hid (chkC_bad (c := c) (by unfold validB; rw [hsw]; simp))
      have HA := Lib.hid (show (c.sw.any fun n => !setB n c.hz.toNat) = true by rw [switches_any, hsw]; rfl)
      clear hsw
      go_enter Try.func22, Try.ntmps22
      go_wp2_with fail
      generalize w.alloc (cirO c (.slice sa c.sw.length scap) (.slice wa c.ws.length wcap)) = wA at *
      have c0 := block_cell K0.out
      go_wp2_with (first | (go_at_call 75; (first | (with_reducible refine (cwithin_is _ c.hz 1 8 _ H1.out).mono ?_) | (with_reducible refine (cwithin_is _ (c.sw.length : Int) 1 12 _ H2.out).mono ?_) | (with_reducible refine (cwithin_is _ (c.ws.length : Int) 1 24 _ H3.out).mono ?_)); rintro e w1 ⟨rfl, rfl⟩))
      clear c0
      refine (containsInt_any _ #[] #[.pointer (some ⟨w.heap.size, 0, none⟩)] _ c.sw (fun n => !setB n c.hz.toNat) _ _ (HV.out.sw.below HB.out (Nat.le_refl _)) enters_chk1 HA.out (fun x w1 _ hb1 => HC1.out x w1 hb1)).mono ?_
      rintro e w1 ⟨rfl, hb1⟩
      go_wp2
      go_ret
      exact ⟨ret_int HR.out, HB.out.trans (hb1.mono HB.out.size)⟩
    · have HSW := Lib.hid hsw
      have HA := Lib.hid (show (c.sw.any fun n => !setB n c.hz.toNat) = false by rw [switches_any, hsw]; rfl)
      clear hsw
      go_enter Try.func22, Try.ntmps22
      go_wp2_with fail
      generalize w.alloc (cirO c (.slice sa c.sw.length scap) (.slice wa c.ws.length wcap)) = wA at *
      have c0 := block_cell K0.out
      go_wp2_with (first | (go_at_call 75; (first | (with_reducible refine (cwithin_is _ c.hz 1 8 _ H1.out).mono ?_) | (with_reducible refine (cwithin_is _ (c.sw.length : Int) 1 12 _ H2.out).mono ?_) | (with_reducible refine (cwithin_is _ (c.ws.length : Int) 1 24 _ H3.out).mono ?_)); rintro e w1 ⟨rfl, rfl⟩))
      clear c0
      refine (containsInt_any _ #[] #[.pointer (some ⟨w.heap.size, 0, none⟩)] _ c.sw (fun n => !setB n c.hz.toNat) _ _ (HV.out.sw.below HB.out (Nat.le_refl _)) enters_chk1 HA.out (fun x w1 _ hb1 => HC1.out x w1 hb1)).mono ?_
      rintro e w1 ⟨rfl, hb1⟩
      have HB1 := Lib.hid (HB.out.trans (hb1.mono HB.out.size))
      have c0 := block_cell ((hb1.block _ (lt_of_block K0.out)).trans K0.out)
      have KW := Lib.hid ((hb1.block _ (lt_of_block K0.out)).trans K0.out)
      clear hb1
      go_wp2_with fail
      clear c0
      go_loopw [29] (fun i wr => ∃ k : Nat, k ≤ c.ws.length ∧ i = .int .i64 k ∧ Hid (Below w1.heap.size w1 wr) ∧ Hid (∀ j, j < k → wireB c.sw.length c.ws.length j (c.ws.getD j Wir.zero) = true)) (fun i _ => c.ws.length - (intOf i).toNat)
      case atStart => exact ⟨0, Nat.zero_le _, rfl, Lib.hid (Below.refl _ _), Lib.hid (fun j hj => by omega)⟩
      case round =>
        obtain ⟨k, hk, rfl, hb, hf⟩ := hrel
        have c0 := block_cell ((hb.out.block _ (lt_of_block KW.out)).trans KW.out)
        by_cases hlt : k < c.ws.length
        · cases hq : wireB c.sw.length c.ws.length k (c.ws.getD k Wir.zero)
          · have HQ := Lib.hid hq
            have HR := Lib.hid (chkC_bad (c := c) (by
              have e : wiresB c = false := by
                unfold wiresB
                rw [List.all_eq_false]
                exact ⟨k, List.mem_range.2 hlt, by rw [hq]; simp⟩
              unfold validB; rw [e]; simp))
            clear hq
            go_wp2_with fail
            refine (isWire_any c _ _ k _ (HV.out.below (HB1.out.trans (hb.out.mono HB1.out.size)) (Nat.le_refl _)) hlt (by omega) (by omega)).mono ?_
            rintro e w2 ⟨rfl, hb2⟩
            rw [HQ.out]
            clear c0
            go_wp2
            go_ret
            exact ⟨ret_int HR.out, HB1.out.trans ((hb.out.trans (hb2.mono hb.out.size)).mono HB1.out.size)⟩
          · have HQ := Lib.hid hq
            clear hq
            go_wp2_with fail
            refine (isWire_any c _ _ k _ (HV.out.below (HB1.out.trans (hb.out.mono HB1.out.size)) (Nat.le_refl _)) hlt (by omega) (by omega)).mono ?_
            rintro e w2 ⟨rfl, hb2⟩
            rw [HQ.out]
            clear c0
            have HB2 := Lib.hid (hb.out.trans (hb2.mono hb.out.size))
            clear hb2
            go_wp2
            go_roundw
            case rel => exact ⟨k + 1, hlt, by go_num, HB2, Lib.hid (fun j hj => by
              by_cases e : j = k
              · rw [e]; exact HQ.out
              · exact hf.out j (by omega))⟩
            case measure => simp [intOf]; omega
        · obtain rfl : k = c.ws.length := by omega
          have HWB := Lib.hid (show wiresB c = true by
            unfold wiresB
            rw [List.all_eq_true]
            exact fun i hi => hf.out i (List.mem_range.1 hi))
          have hv2 := HV.out.below (HB1.out.trans (hb.out.mono HB1.out.size)) (Nat.le_refl _)
          have HV2 := Lib.hid hv2
          clear hv2
          cases hj : joinedB c
          · have HJ := Lib.hid hj
            have HR := Lib.hid (chkC_bad (c := c) (by unfold validB; rw [hj]; simp))
            clear hj
            go_wp2_with fail
            refine (areJoined_any c _ _ _ HV2.out HWB.out (by omega) (by omega)).mono ?_
            rintro e w2 ⟨rfl, hb2⟩
            rw [HJ.out]
            clear c0
            go_wp2
            go_ret
            exact ⟨ret_int HR.out, HB1.out.trans ((hb.out.trans (hb2.mono hb.out.size)).mono HB1.out.size)⟩
          · have HJ := Lib.hid hj
            have HR := Lib.hid (chkC_ok (c := c) (by unfold validB; rw [hj, HWB.out, HSW.out, HS.out]; rfl))
            clear hj
            go_wp2_with fail
            refine (areJoined_any c _ _ _ HV2.out HWB.out (by omega) (by omega)).mono ?_
            rintro e w2 ⟨rfl, hb2⟩
            rw [HJ.out]
            clear c0
            go_wp2
            go_ret
            exact ⟨ret_int HR.out, HB1.out.trans ((hb.out.trans (hb2.mono hb.out.size)).mono HB1.out.size)⟩
  · have HR := Lib.hid (chkC_bad (c := c) (by unfold validB; rw [HS.out]; simp only [Bool.not_eq_true] at hall; rw [hall]; rfl))
    cases b1 <;> cases b2 <;> cases b3
    all_goals try (exact absurd rfl hall)
    all_goals
      clear hall
      go_enter Try.func22, Try.ntmps22
      go_wp2_with fail
      generalize w.alloc (cirO c (.slice sa c.sw.length scap) (.slice wa c.ws.length wcap)) = wA at *
      have c0 := block_cell K0.out
      go_wp2_with (first | (go_at_call 75; (first | (with_reducible refine (cwithin_is _ c.hz 1 8 _ H1.out).mono ?_) | (with_reducible refine (cwithin_is _ (c.sw.length : Int) 1 12 _ H2.out).mono ?_) | (with_reducible refine (cwithin_is _ (c.ws.length : Int) 1 24 _ H3.out).mono ?_)); rintro e w1 ⟨rfl, rfl⟩))
      go_ret
      exact ⟨ret_int HR.out, HB.out⟩

end Go.Proofs.Ytbkhfmigaehgaaa
