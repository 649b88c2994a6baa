import Derived.Test.YtbiihhokcmdlhaaZzN
import Derived.Deep.RegionHeld
/- Texts of one seat, merged: Nk Nl Oa -/
/- Walks of layer 3 (circuit): Fewest of the specification. -/
namespace Go.Proofs.Ytbiihhokcmdlhaa
open Go.RowKit

theorem few_diff {sets : List Nat} {n k : Nat} (h : ¬ unionTo sets k n = unionTo sets (2 ^ n - 1) n) : fewM sets n (k + 1) = fewM sets n k := few_no (by rw [decide_eq_false h]; rfl)
theorem few_more {sets : List Nat} {n k : Nat} (h : unionTo sets k n = unionTo sets (2 ^ n - 1) n) (h2 : (memM (fewM sets n k) n).length < (memM k n).length) : fewM sets n (k + 1) = fewM sets n k :=
  few_no (by rw [decide_eq_true h]; unfold befB; rw [decide_eq_false (by omega), decide_eq_false (by omega)]; rfl)
theorem few_less {sets : List Nat} {n k : Nat} (h : unionTo sets k n = unionTo sets (2 ^ n - 1) n) (h2 : (memM k n).length < (memM (fewM sets n k) n).length) : fewM sets n (k + 1) = k :=
  few_yes (by rw [decide_eq_true h]; unfold befB; rw [decide_eq_true h2]; rfl)
theorem few_same_no {sets : List Nat} {n k : Nat} (h : unionTo sets k n = unionTo sets (2 ^ n - 1) n) (h2 : (memM k n).length = (memM (fewM sets n k) n).length) (h3 : lessL (memM k n) (memM (fewM sets n k) n) = false) : fewM sets n (k + 1) = fewM sets n k :=
  few_no (by rw [decide_eq_true h]; unfold befB; rw [decide_eq_true h2, ← less_cmp _ _ h2, h3, decide_eq_false (by omega)]; rfl)
theorem few_same_yes {sets : List Nat} {n k : Nat} (h : unionTo sets k n = unionTo sets (2 ^ n - 1) n) (h2 : (memM k n).length = (memM (fewM sets n k) n).length) (h3 : lessL (memM k n) (memM (fewM sets n k) n) = true) : fewM sets n (k + 1) = k :=
  few_yes (by rw [decide_eq_true h]; unfold befB; rw [decide_eq_true h2, ← less_cmp _ _ h2, h3]; simp)

set_option maxRecDepth 100000 in
set_option maxHeartbeats 8000000 in
theorem rfewest_any (c : Cir) (l : List Tri) (sv wv v : Value) (w : World) (hv : CirAt w sv wv c) (hl : TrAt w v l) :
    Calls Try.prog 39 #[cirV c sv wv, v] w (ListErr (fewestR c l) (chkT c l) w) := by
  have HB := Lib.hid ((Below.refl w.heap.size w).alloc (Nat.le_refl _) (cirO c sv wv))
  have K0 := Lib.hid (block_new w (cirO c sv wv) w.heap.size rfl)
  have HV := Lib.hid (hv.below HB.out (Nat.le_refl _))
  have HT := Lib.hid (hl.below HB.out (Nat.le_refl _))
  obtain ⟨⟨sa, scap, rfl, _⟩, _⟩ := hv
  obtain ⟨ta, tcap, rfl, _, m2, _⟩ := hl
  have m3 : (l.length : Int) ≤ 9223372036854775807 := by omega
  by_cases ht : chkT c l = 0
  · have HTV := Lib.hid (tval ht)
    have l12 := (tval ht).n
    have HC := Lib.hid ht
    have HR := Lib.hid (show fewestR c l = natL (memM (fewM (setsM c l) l.length (2 ^ l.length)) l.length) by unfold fewestR; rw [if_pos ht]; rfl)
    have HST := Lib.hid (sets_lt (l := l) HTV.out.cv)
    have HSL := Lib.hid (sets_len c l)
    have HND := Lib.hid (fun k => few_diff (sets := setsM c l) (n := l.length) (k := k))
    have HNM := Lib.hid (fun k => few_more (sets := setsM c l) (n := l.length) (k := k))
    have HNL := Lib.hid (fun k => few_less (sets := setsM c l) (n := l.length) (k := k))
    have HNS := Lib.hid (fun k => few_same_no (sets := setsM c l) (n := l.length) (k := k))
    have HNY := Lib.hid (fun k => few_same_yes (sets := setsM c l) (n := l.length) (k := k))
    have HFL := Lib.hid (fun k => fewM_lt (setsM c l) l.length k)
    have HON := Lib.hid (fun s h => ones_mem l.length s (by omega) h)
    have HZ := Lib.hid (show fewM (setsM c l) l.length 0 = 2 ^ l.length - 1 from rfl)
    have q1 : 2 ^ l.length < 1048576 := pow_set (by omega)
    obtain ⟨A, hA⟩ : ∃ A, 2 ^ l.length = A + 1 := ⟨2 ^ l.length - 1, (Nat.sub_add_cancel Nat.one_le_two_pow).symm⟩
    have hpA := wrap64_pow1 (by omega) hA
    rw [hA] at q1 HR HFL HON HZ HND HNM HNL HNS HNY
    rw [Nat.add_sub_cancel] at HZ HND HNM HNL HNS HNY
    have HAM := Lib.hid (show 2 ^ l.length = A + 1 from hA)
    have l0 : (0 : Int) ≤ l.length := by omega
    clear ht hA
    go_enter Try.func39, Try.ntmps39
    go_wp2_with fail
    generalize w.alloc (cirO c (.slice sa c.sw.length scap) wv) = wA at *
    refine (rcheckT_any c l _ _ _ _ HV.out HT.out).mono ?_
    rintro e w1 ⟨rfl, hb1⟩
    rw [HC.out]
    have HB1 := Lib.hid hb1
    have c0 := block_cell (keepZ K0.out hb1)
    clear hb1
    go_wp2_with fail
    refine (rall_any c l A _ wv _ _ (HV.out.below HB1.out (Nat.le_refl _)) (HT.out.below HB1.out (Nat.le_refl _)) HTV.out (by omega)).mono ?_
    rintro e w2 ⟨rfl, hb2⟩
    have HB2 := Lib.hid (HB1.out.trans (hb2.mono HB1.out.size))
    clear hb2
    clear c0
    have c0 := block_cell (keepZ K0.out HB2.out)
    go_wp2_with fail
    refine (revery_any c l _ wv _ _ (HV.out.below HB2.out (Nat.le_refl _)) (HT.out.below HB2.out (Nat.le_refl _)) HTV.out).mono ?_
    rintro e w3 ⟨v3, rfl, hin, hb3⟩
    have HB3 := Lib.hid (HB2.out.trans (hb3.mono HB2.out.size))
    clear hb3
    have HI := Lib.hid hin
    obtain ⟨va, vcap, hvv, _⟩ := hin
    subst hvv
    rw [natL_len] at HI ⊢
    rw [HSL.out] at HI ⊢
    clear c0
    generalize setsM c l = sets at *
    generalize hX : unionTo sets A l.length = X at *
    go_wp2_with fail
    go_loopw [10, 11] (fun x i wr => ∃ k : Nat, k ≤ A + 1 ∧ i = .int .i64 k ∧ x = .int .i64 (fewM sets l.length k : Nat) ∧ Hid (Below w3.heap.size w3 wr)) (fun _ i _ => A + 1 - (intOf i).toNat)
    case atStart => exact ⟨0, Nat.zero_le _, rfl, by rw [HZ.out], Lib.hid (Below.refl _ _)⟩
    case round =>
      obtain ⟨k, hk, rfl, rfl, hb⟩ := hrel
      by_cases hlt : k ≤ A
      · have HF := HFL.out k hk
        have HN1 := Lib.hid (HND.out k)
        have HN2 := Lib.hid (HNM.out k)
        have HN3 := Lib.hid (HNL.out k)
        have HN4 := Lib.hid (HNS.out k)
        have HN5 := Lib.hid (HNY.out k)
        have HO1 := Lib.hid (HON.out k (by omega))
        have HO2 := Lib.hid (HON.out _ HF)
        generalize fewM sets l.length k = F at *
        have hf20 : F < 1048576 := by omega
        have hk20 : k < 1048576 := by omega
        have k0 : (0 : Int) ≤ k := by omega
        go_wp2_with fail
        go_loop [12, 13] (fun y x => ∃ j : Nat, j ≤ l.length ∧ x = .int .i64 j ∧ y = .int .i64 (unionTo sets k j : Nat)) (fun _ x => l.length - (intOf x).toNat)
        case atStart => exact ⟨0, Nat.zero_le _, rfl, rfl⟩
        case round =>
          obtain ⟨j, hj, rfl, rfl⟩ := hrel
          have hx := unionTo_lt HST.out k j
          by_cases hlj : j < l.length
          · have hbit := and_one_bit (s := k) (k := j) (by omega)
            have j1 : (0 : Int) ≤ j := by omega
            have j2 : (j : Int) < l.length := by omega
            obtain ⟨_, _, e1, _, _, hcc⟩ := HI.out
            injection e1 with e1 e2 e3
            subst e1
            obtain ⟨b, off, rfl, hbl, hcc⟩ := hcc (by rw [natL_len, HSL.out]; omega)
            have g1 := (hb.out.cell (p := ⟨b, off + j, none⟩) hbl).trans (hcc j (by rw [natL_len, HSL.out]; exact hlj))
            rw [natL_getD] at g1
            have hy := getD_lt HST.out (by decide) j
            have HNO := Lib.hid (unionTo_no (sets := sets) (s := k) (k := j))
            have HYE := Lib.hid (unionTo_yes (sets := sets) (s := k) (k := j))
            generalize unionTo sets k j = x at *
            generalize sets.getD j 0 = y at *
            have hor := i64_or_nat x y (by omega) (by omega)
            clear hcc e2 e3
            cases hq : k.testBit j
            · have HN := Lib.hid (HNO.out hq)
              rw [hq] at hbit
              clear hq
              go_wp2_with fail
              go_round
              case rel => exact ⟨j + 1, hlj, by go_num, by rw [HN.out]⟩
              case measure => simp [intOf]; omega
            · have HN := Lib.hid (HYE.out hq)
              rw [hq] at hbit
              clear hq
              go_wp2_with fail
              go_round
              case rel => exact ⟨j + 1, hlj, by go_num, by rw [HN.out]⟩
              case measure => simp [intOf]; omega
          · obtain rfl : j = l.length := by omega
            generalize unionTo sets k l.length = Y at *
            by_cases hxy : Y = X
            · have hxb : ((Y : Int) == (X : Int)) = true := by simp [hxy]
              have hxc : ((Y : Int) != (X : Int)) = false := by simp [hxy]
              have HXY := Lib.hid hxy
              clear hxy
              by_cases h1 : ones F < ones k
              · have HN := Lib.hid (HN2.out HXY.out (by rw [← HO1.out, ← HO2.out]; exact h1))
                have h1' : ((ones F : Nat) : Int) < ((ones k : Nat) : Int) := by omega
                go_wp2_with (go_at_call 50; (first | (with_reducible refine (rones_any k _ hk20).mono ?_) | (with_reducible refine (rones_any F _ hf20).mono ?_)); rintro e w4 ⟨rfl, rfl⟩)
                go_roundw
                case rel => exact ⟨k + 1, by omega, by go_num, by rw [HN.out], hb⟩
                case measure => simp [intOf]; omega
              · have h1' : ¬ ((ones F : Nat) : Int) < ((ones k : Nat) : Int) := by omega
                by_cases h2 : ones k < ones F
                · have HN := Lib.hid (HN3.out HXY.out (by rw [← HO1.out, ← HO2.out]; exact h2))
                  have h2' : ((ones k : Nat) : Int) < ((ones F : Nat) : Int) := by omega
                  go_wp2_with (go_at_call 50; (first | (with_reducible refine (rones_any k _ hk20).mono ?_) | (with_reducible refine (rones_any F _ hf20).mono ?_)); rintro e w4 ⟨rfl, rfl⟩)
                  go_roundw
                  case rel => exact ⟨k + 1, by omega, by go_num, by rw [HN.out], hb⟩
                  case measure => simp [intOf]; omega
                · have h2' : ¬ ((ones k : Nat) : Int) < ((ones F : Nat) : Int) := by omega
                  have HEQ := Lib.hid (show (memM k l.length).length = (memM F l.length).length by rw [← HO1.out, ← HO2.out]; omega)
                  go_wp2_with (go_at_call 50; (first | (with_reducible refine (rones_any k _ hk20).mono ?_) | (with_reducible refine (rones_any F _ hf20).mono ?_)); rintro e w4 ⟨rfl, rfl⟩)
                  refine (rmembers_any k l.length _ hk20 (by omega)).mono ?_
                  rintro e w5 ⟨v5, rfl, hin, hb5⟩
                  have HB5 := Lib.hid (hb.out.trans (hb5.mono hb.out.size))
                  clear hb5
                  have HM5 := Lib.hid hin
                  obtain ⟨ma, mcap, hmv, _⟩ := hin
                  subst hmv
                  generalize (natL (memM k l.length)).length = ml at *
                  go_wp2_with fail
                  refine (rmembers_any F l.length _ hf20 (by omega)).mono ?_
                  rintro e w6 ⟨v6, rfl, hin, hb6⟩
                  have HM6 := Lib.hid (HM5.out.below hb6 (Nat.le_refl _))
                  have HB6 := Lib.hid (HB5.out.trans (hb6.mono HB5.out.size))
                  clear hb6
                  have HF6 := Lib.hid hin
                  obtain ⟨fa, fcap, hfv, _⟩ := hin
                  subst hfv
                  generalize (natL (memM F l.length)).length = fl at *
                  go_wp2_with fail
                  refine (rless_any _ _ _ _ _ HM6.out HF6.out HEQ.out).mono ?_
                  rintro e w7 ⟨rfl, hb7⟩
                  have HB7 := Lib.hid (HB6.out.trans (hb7.mono HB6.out.size))
                  clear hb7
                  cases hq : lessL (memM k l.length) (memM F l.length)
                  · have HN := Lib.hid (HN4.out HXY.out HEQ.out hq)
                    clear hq
                    go_wp2_with fail
                    go_roundw
                    case rel => exact ⟨k + 1, by omega, by go_num, by rw [HN.out], HB7⟩
                    case measure => simp [intOf]; omega
                  · have HN := Lib.hid (HN5.out HXY.out HEQ.out hq)
                    clear hq
                    go_wp2_with fail
                    go_roundw
                    case rel => exact ⟨k + 1, by omega, by go_num, by rw [HN.out], HB7⟩
                    case measure => simp [intOf]; omega
            · have hxb : ((Y : Int) == (X : Int)) = false := by simp only [beq_eq_false_iff_ne, ne_eq]; omega
              have hxc : ((Y : Int) != (X : Int)) = true := by simp only [bne_iff_ne, ne_eq]; omega
              have HN := Lib.hid (HN1.out hxy)
              clear hxy
              go_wp2_with fail
              go_roundw
              case rel => exact ⟨k + 1, by omega, by go_num, by rw [HN.out], hb⟩
              case measure => simp [intOf]; omega
      · obtain rfl : k = A + 1 := by omega
        have HF := HFL.out (A + 1) hk
        generalize fewM sets l.length (A + 1) = F at *
        go_wp2_with fail
        refine (rmembers_any F l.length _ (by omega) (by omega)).mono ?_
        rintro e w4 ⟨v4, rfl, hin, hb4⟩
        have HI4 := Lib.hid hin
        clear hin
        go_wp2
        go_ret2
        exact ⟨v4, by rw [HC.out]; rfl, by rw [HR.out]; exact HI4.out, HB.out.trans ((HB3.out.trans ((hb.out.trans (hb4.mono hb.out.size)).mono HB3.out.size)).mono HB.out.size)⟩
  · have HR := Lib.hid (show fewestR c l = [] by unfold fewestR; rw [if_neg ht])
    have hqb : (chkT c l == 0) = false := by simpa using ht
    have hqc : (chkT c l != 0) = true := by simpa using ht
    clear ht
    go_enter Try.func39, Try.ntmps39
    go_wp2_with fail
    generalize w.alloc (cirO c (.slice sa c.sw.length scap) wv) = wA at *
    refine (rcheckT_any c l _ _ _ _ HV.out HT.out).mono ?_
    rintro e w1 ⟨rfl, hb1⟩
    generalize chkT c l = m at *
    go_wp2
    go_ret2
    exact ⟨.slice none 0 0, rfl, by rw [HR.out]; exact InAt.nil _, HB.out.trans (hb1.mono HB.out.size)⟩

end Go.Proofs.Ytbiihhokcmdlhaa

/- CircuitTrials walked. -/
namespace Go.Proofs.Ytbiihhokcmdlhaa
open Go.RowKit

set_option maxRecDepth 100000 in
set_option maxHeartbeats 8000000 in
theorem lawTrials_any (c : Cir) (sv wv : Value) (l : List Tri) (v : Value) (t : Int) (w : World) (hv : CirAt w sv wv c) (hl : TrAt w v l) :
    Calls Try.prog 5 #[cirV c sv wv, v, .int .i64 t] w fun e w' => e = .returned (.bool true) ∧ Below w.heap.size w w' := by
  have HB := Lib.hid ((Below.refl w.heap.size w).alloc (Nat.le_refl _) (cirO c sv wv))
  have K0 := Lib.hid (block_new w (cirO c sv wv) w.heap.size rfl)
  have HV := Lib.hid (hv.below HB.out (Nat.le_refl _))
  have HT := Lib.hid (hl.below HB.out (Nat.le_refl _))
  obtain ⟨ta, tcap, rfl, _, m2, _⟩ := hl
  have m3 : (l.length : Int) ≤ 9223372036854775807 := by omega
  clear hv
  go_enter Try.func5, Try.ntmps5
  go_wp2_with fail
  generalize w.alloc (cirO c sv wv) = wA at *
  refine (far_any c _ wv _ HV.out).mono ?_
  rintro e w1 ⟨q, rfl, hb1⟩
  have HB1 := Lib.hid hb1
  clear hb1
  cases q
  rotate_left
  · go_wp2_with fail
    refine (works_any _).mono ?_
    rintro e wz ⟨rfl, hbz⟩
    go_wp2_with fail
    go_ret
    exact ⟨rfl, HB.out.trans ((HB1.out.trans (hbz.mono HB1.out.size)).mono HB.out.size)⟩
  by_cases h20 : (20 : Int) < l.length
  · go_wp2_with fail
    refine (works_any _).mono ?_
    rintro e wz ⟨rfl, hbz⟩
    go_wp2_with fail
    go_ret
    exact ⟨rfl, HB.out.trans ((HB1.out.trans (hbz.mono HB1.out.size)).mono HB.out.size)⟩
  have c0 := block_cell (keepZ K0.out HB1.out)
  go_wp2_with fail
  refine (cshows_any c l t _ wv _ _ (HV.out.below HB1.out (Nat.le_refl _)) (HT.out.below HB1.out (Nat.le_refl _))).mono ?_
  rintro e w2 ⟨v, rfl, hin, hb2⟩
  have HB2 := Lib.hid (HB1.out.trans (hb2.mono HB1.out.size))
  clear hb2
  have HI := Lib.hid hin
  obtain ⟨va, vcap, rfl, _⟩ := hin
  clear c0
  have c0 := block_cell (keepZ K0.out HB2.out)
  go_wp2_with fail
  refine (rshows_any c l t _ wv _ _ (HV.out.below HB2.out (Nat.le_refl _)) (HT.out.below HB2.out (Nat.le_refl _))).mono ?_
  rintro e w3 ⟨v, rfl, hin, hb3⟩
  have H1 := Lib.hid (HI.out.below hb3 (Nat.le_refl _))
  have H2 := Lib.hid hin
  obtain ⟨va2, vcap2, rfl, _⟩ := hin
  have HB3 := Lib.hid (HB2.out.trans (hb3.mono HB2.out.size))
  clear hb3
  clear HI c0
  generalize trialE c l t = E at *
  generalize showsR c l t = R at *
  go_wp2_with fail
  refine (sameInts_any _ _ _ _ H1.out H2.out).mono ?_
  rintro e w4 ⟨rfl, hb4⟩
  have HB4 := Lib.hid (HB3.out.trans (hb4.mono HB3.out.size))
  clear hb4
  clear H1 H2
  have c0 := block_cell (keepZ K0.out HB4.out)
  go_wp2_with fail
  refine (cblind_any c l _ wv _ _ (HV.out.below HB4.out (Nat.le_refl _)) (HT.out.below HB4.out (Nat.le_refl _))).mono ?_
  rintro e w5 ⟨v, rfl, hin, hb5⟩
  have HB5 := Lib.hid (HB4.out.trans (hb5.mono HB4.out.size))
  clear hb5
  have HI := Lib.hid hin
  obtain ⟨ca, ccap, rfl, _⟩ := hin
  clear c0
  have c0 := block_cell (keepZ K0.out HB5.out)
  go_wp2_with fail
  refine (rblind_any c l _ wv _ _ (HV.out.below HB5.out (Nat.le_refl _)) (HT.out.below HB5.out (Nat.le_refl _))).mono ?_
  rintro e w6 ⟨v, rfl, hin, hb6⟩
  have H1 := Lib.hid (HI.out.below hb6 (Nat.le_refl _))
  have H2 := Lib.hid hin
  obtain ⟨ca2, ccap2, rfl, _⟩ := hin
  have HB6 := Lib.hid (HB5.out.trans (hb6.mono HB5.out.size))
  clear hb6
  clear HI c0
  have HE := Lib.hid (rfl : chkT c l = chkT c l)
  generalize blindR c l = R2 at *
  obtain ⟨E2, hE2⟩ : ∃ e, chkT c l = e := ⟨_, rfl⟩
  have HE2 := Lib.hid hE2
  rw [hE2]
  clear hE2 HE
  go_wp2_with fail
  refine (sameInts_any _ _ _ _ H1.out H2.out).mono ?_
  rintro e w7 ⟨rfl, hb7⟩
  have HB7 := Lib.hid (HB6.out.trans (hb7.mono HB6.out.size))
  clear hb7
  clear H1 H2
  have c0 := block_cell (keepZ K0.out HB7.out)
  go_wp2_with fail
  refine (cfewest_any c l _ wv _ _ (HV.out.below HB7.out (Nat.le_refl _)) (HT.out.below HB7.out (Nat.le_refl _))).mono ?_
  rintro e w8 ⟨v, rfl, hin, hb8⟩
  rw [HE2.out]
  have HB8 := Lib.hid (HB7.out.trans (hb8.mono HB7.out.size))
  clear hb8
  have HI := Lib.hid hin
  obtain ⟨pa, pcap, rfl, _⟩ := hin
  clear c0
  have c0 := block_cell (keepZ K0.out HB8.out)
  go_wp2_with fail
  refine (rfewest_any c l _ wv _ _ (HV.out.below HB8.out (Nat.le_refl _)) (HT.out.below HB8.out (Nat.le_refl _))).mono ?_
  rintro e w9 ⟨v, rfl, hin, hb9⟩
  rw [HE2.out]
  have H1 := Lib.hid (HI.out.below hb9 (Nat.le_refl _))
  have H2 := Lib.hid hin
  obtain ⟨pa2, pcap2, rfl, _⟩ := hin
  have HB9 := Lib.hid (HB8.out.trans (hb9.mono HB8.out.size))
  clear hb9
  clear HI c0
  generalize fewestR c l = R3 at *
  go_wp2_with fail
  refine (sameInts_any _ _ _ _ H1.out H2.out).mono ?_
  rintro e w10 ⟨rfl, hb10⟩
  have HB10 := Lib.hid (HB9.out.trans (hb10.mono HB9.out.size))
  clear hb10
  go_wp2_with fail
  refine (works_any _).mono ?_
  rintro e wz ⟨rfl, hbz⟩
  go_wp2_with fail
  go_ret
  exact ⟨rfl, HB.out.trans ((HB10.out.trans (hbz.mono HB10.out.size)).mono HB.out.size)⟩

end Go.Proofs.Ytbiihhokcmdlhaa

/- CircuitCovers: rows of Bools, and the mathematics. -/
namespace Go.Proofs.Ytbiihhokcmdlhaa
open Go.RowKit

/-! ### rows of Bools in a block of their own -/
def BoRow (w : World) (g m : Nat) (f : Nat → Bool) : Prop := ∃ cur, w.heap[g]? = some (.cells cur 4 (0, 0)) ∧ cur.size = m ∧ ∀ s, s < m → cur[s]? = some (.bool (f s))

theorem BoRow.lt {w : World} {g m : Nat} {f : Nat → Bool} (h : BoRow w g m f) : g < w.heap.size := by obtain ⟨_, h1, _⟩ := h; exact lt_of_block h1
theorem BoRow.cell {w : World} {g m : Nat} {f : Nat → Bool} (h : BoRow w g m f) {s : Nat} (hs : s < m) : w.cell? ⟨g, s, none⟩ = some (.bool (f s)) := by
  obtain ⟨cur, h1, _, h3⟩ := h
  rw [block_cell h1]; exact h3 s hs
theorem BoRow.free {w : World} {g m : Nat} {f : Nat → Bool} (h : BoRow w g m f) (o : Nat) : w.frozen? ⟨g, o, none⟩ = false := by obtain ⟨_, h1, _⟩ := h; exact block_free h1 o
theorem BoRow.later {w w' : World} {g m B : Nat} {f : Nat → Bool} (h : BoRow w g m f) (hb : Below B w w') (hg : g < B) : BoRow w' g m f := by
  obtain ⟨cur, h1, h2⟩ := h
  exact ⟨cur, (hb.block g hg).trans h1, h2⟩
theorem BoRow.alloc {w : World} {g m : Nat} {f : Nat → Bool} (h : BoRow w g m f) (o : Obj) : BoRow (w.alloc o) g m f := by
  obtain ⟨cur, h1, h2⟩ := h
  exact ⟨cur, block_alloc h1 o, h2⟩
theorem BoRow.congr {w : World} {g m : Nat} {f f' : Nat → Bool} (h : BoRow w g m f) (he : ∀ s, s < m → f s = f' s) : BoRow w g m f' := by
  obtain ⟨cur, h1, h2, h3⟩ := h
  exact ⟨cur, h1, h2, fun s hs => by rw [← he s hs]; exact h3 s hs⟩
theorem BoRow.set {w : World} {g m : Nat} {f : Nat → Bool} (h : BoRow w g m f) {x : Nat} (hx : x < m) (v : Bool) : BoRow (w.setCell ⟨g, x, none⟩ (.bool v)) g m (fun s => if s = x then v else f s) := by
  obtain ⟨cur, h1, h2, h3⟩ := h
  refine ⟨cur.setIfInBounds x (.bool v), block_set h1 x _, by simpa using h2, fun s hs => ?_⟩
  rw [Array.getElem?_setIfInBounds]
  by_cases e : x = s
  · subst e
    rw [if_pos rfl, if_pos (by omega)]
    simp
  · rw [if_neg e, h3 s hs]
    show some (Value.bool (f s)) = some (Value.bool (if s = x then v else f s))
    rw [if_neg (by omega)]
theorem BoRow.set_other {w : World} {g m b : Nat} {f : Nat → Bool} (h : BoRow w g m f) (hne : g ≠ b) (x : Nat) (v : Value) : BoRow (w.setCell ⟨b, x, none⟩ v) g m f := by
  obtain ⟨cur, h1, h2⟩ := h
  exact ⟨cur, block_set_other (p := ⟨b, x, none⟩) h1 hne v, h2⟩
theorem BoRow.drew {w : World} {g m : Nat} {f : Nat → Bool} (h : BoRow w g m f) : BoRow w.drew g m f := h

theorem BoRow.int_ne {w : World} {g m b o : Nat} {f : Nat → Bool} (h : BoRow w g m f) {n : Int} (hc : w.cell? ⟨b, o, none⟩ = some (.int .i64 n)) : b ≠ g := by
  intro e
  subst e
  obtain ⟨cur, h1, h2, h3⟩ := h
  rw [block_cell h1] at hc
  have ho : o < m := by
    have := (Array.getElem?_eq_some_iff.1 hc).1
    omega
  rw [h3 o ho] at hc
  cases hc
theorem InAt.put {w : World} {g m : Nat} {f : Nat → Bool} {v : Value} {xs : List Int} (hx : InAt w v xs) (h : BoRow w g m f) (o : Nat) (u : Value) : InAt (w.setCell ⟨g, o, none⟩ u) v xs := by
  obtain ⟨a, cap, rfl, h1, h2, h3⟩ := hx
  refine ⟨a, cap, rfl, h1, h2, fun hp => ?_⟩
  obtain ⟨b, off, rfl, hb, hc⟩ := h3 hp
  have hne := h.int_ne (hc 0 hp)
  exact ⟨b, off, rfl, by simpa using hb, fun i hi => by rw [World.cell?_setCell_far _ _ _ _ (by show g ≠ b; exact Ne.symm hne)]; exact hc i hi⟩

theorem madeB (n s : Nat) (h : s < n) : (madeCells #[Value.bool false] n)[s]? = some (.bool false) := by
  rw [madeCells]
  simp [h, Nat.mod_one]
theorem madeB_size (n : Nat) : (madeCells #[Value.bool false] n).size = n := by simp [madeCells]
theorem BoRow.new (w : World) (n : Nat) {g : Nat} (hg : g = w.heap.size) : BoRow (w.alloc (.cells (madeCells #[.bool false] n) 4)) g n (fun _ => false) := by
  subst hg
  exact ⟨_, block_new _ _ _ rfl, madeB_size n, fun s hs => madeB n s hs⟩

theorem infoBool : (Try.prog.info? 4).map (fun i => (i.zero, i.size, i.bytes)) = some (some (.bool false), 1, 1) := by kernel_rfl

theorem make_bools (n : Nat) (hn : n ≤ 1000) (W : World) : (Instr.makeSlice 75 (.int .i64 n) (.int .i64 n)).run Try.prog W = .ok (.slice (some ⟨W.heap.size, 0, none⟩) n n) (W.alloc (.cells (madeCells #[.bool false] n) 4)) := by
  obtain ⟨i, hi, hz, hs, hby⟩ := info_parts infoBool
  have h := run_make (P := Try.prog) (w := W) 75 4 i (.bool false) Try.underlying75 hi hz .i64 .i64 n n (by omega) (by omega) (by rw [hby]; omega) (by omega)
  rw [h]
  simp only [Int.toNat_natCast, hs, Nat.mul_one]
  rfl

/-! ### what covers -/
theorem unionTo_succ_bit (sets : List Nat) (s k i : Nat) : (unionTo sets s (k + 1)).testBit i = ((unionTo sets s k).testBit i || (s.testBit k && (sets.getD k 0).testBit i)) := by
  cases h : s.testBit k
  · rw [unionTo_no h]; simp
  · rw [unionTo_yes h, Nat.testBit_or]; simp

theorem unionTo_sub {sets : List Nat} {s n i : Nat} (h : (unionTo sets s n).testBit i = true) : (unionTo sets (2 ^ n - 1) n).testBit i = true := by
  rw [unionTo_bit, List.any_eq_true] at h ⊢
  obtain ⟨k, hk, h2⟩ := h
  simp only [Bool.and_eq_true] at h2
  have hk2 := List.mem_range.1 hk
  refine ⟨k, hk, ?_⟩
  rw [h2.2, Nat.testBit_two_pow_sub_one, decide_eq_true hk2]; rfl

theorem seen_sets (c : Cir) (l : List Tri) (s : Nat) : unionTo (setsM c l) s l.length < 2 ^ c.sw.length := unionTo_lt2 (sets_lt2 c l) _ _

/-- How many of the first numbers are chosen. -/
def cntB (f : Nat → Bool) : Nat → Nat
  | 0 => 0
  | k + 1 => if f k = true then cntB f k + 1 else cntB f k
theorem cntB_filter (f : Nat → Bool) : ∀ n, cntB f n = ((List.range n).filter f).length
  | 0 => rfl
  | n + 1 => by
    rw [List.range_succ, List.filter_append, List.length_append, cntB, ← cntB_filter f n]
    by_cases h : f n = true <;> simp [h]
theorem cntB_mem (f : Nat → Bool) (n : Nat) : cntB f n = (memM (bitsOf f n) n).length := by
  rw [cntB_filter]
  unfold memM
  congr 1
  apply List.filter_congr
  intro k hk
  rw [testBit_bitsOf, decide_eq_true (List.mem_range.1 hk), Bool.true_and]
theorem cntB_le (f : Nat → Bool) : ∀ n, cntB f n ≤ n
  | 0 => Nat.le_refl _
  | n + 1 => by
    have := cntB_le f n
    unfold cntB
    split <;> omega

theorem fewest_all (c : Cir) (l : List Tri) : unionTo (setsM c l) (fewestM c l) l.length = seenM c l := (fewM_spec (setsM c l) l.length (2 ^ l.length)).1

theorem covers {c : Cir} {l : List Tri} {f : Nat → Bool} (h : ∀ s, s < c.sw.length → ((unionTo (setsM c l) (bitsOf f l.length) l.length).testBit s || !(seenM c l).testBit s) = true) : (memM (fewestM c l) l.length).length ≤ cntB f l.length := by
  rw [cntB_mem]
  refine (fewM_spec (setsM c l) l.length (2 ^ l.length)).2 _ (bitsOf_lt f l.length) ?_
  apply Nat.eq_of_testBit_eq
  intro i
  show _ = (seenM c l).testBit i
  by_cases hi : i < c.sw.length
  · have h1 := h i hi
    cases h2 : (unionTo (setsM c l) (bitsOf f l.length) l.length).testBit i
    · rw [h2] at h1
      have h3 : (seenM c l).testBit i = false := by simpa using h1
      rw [h3]
    · exact (unionTo_sub h2).symm
  · have k1 := Nat.testBit_lt_two_pow (Nat.lt_of_lt_of_le (seen_sets c l (bitsOf f l.length)) (Nat.pow_le_pow_right (by decide) (Nat.le_of_not_lt hi)))
    have k2 := Nat.testBit_lt_two_pow (Nat.lt_of_lt_of_le (seen_sets c l (2 ^ l.length - 1)) (Nat.pow_le_pow_right (by decide) (Nat.le_of_not_lt hi)))
    rw [k1]
    exact k2.symm

theorem blind_has {c : Cir} {l : List Tri} {s : Nat} (hs : s < c.sw.length) : ((natL (blindM c l)).any fun y => y == (s : Int)) = !(seenM c l).testBit s := by
  cases h : (seenM c l).testBit s
  · rw [List.any_eq_true.2 ⟨(s : Int), ?_, by simp⟩]; rfl
    exact List.mem_map.2 ⟨s, List.mem_filter.2 ⟨List.mem_range.2 hs, by rw [h]; rfl⟩, rfl⟩
  · rw [List.any_eq_false.2]; rfl
    intro y hy
    obtain ⟨k, hk, rfl⟩ := List.mem_map.1 hy
    have h2 := (List.mem_filter.1 hk).2
    intro e
    have : k = s := by
      have : ((k : Int)) = s := by simpa using e
      omega
    subst this
    rw [h] at h2; cases h2

theorem few_has {S n i : Nat} (hi : i < n) : ((natL (memM S n)).any fun y => y == (i : Int)) = S.testBit i := by
  cases h : S.testBit i
  · rw [List.any_eq_false]
    intro y hy
    obtain ⟨k, hk, rfl⟩ := List.mem_map.1 hy
    have h2 := (mem_memM.1 hk).2
    intro e
    have : k = i := by
      have : ((k : Int)) = i := by simpa using e
      omega
    subst this
    rw [h] at h2; cases h2
  · rw [List.any_eq_true]
    exact ⟨(i : Int), List.mem_map.2 ⟨i, mem_memM.2 ⟨hi, h⟩, rfl⟩, by simp⟩

theorem take_mem {L : List Nat} {k s : Nat} (h : k < L.length) : decide (s ∈ L.take (k + 1)) = (decide (s ∈ L.take k) || decide (s = L.getD k 0)) := by
  have e : s ∈ L.take (k + 1) ↔ (s ∈ L.take k ∨ s = L.getD k 0) := by
    rw [List.take_succ_eq_append_getElem h, List.getD_eq_getElem?_getD, List.getElem?_eq_getElem h, List.mem_append, List.mem_singleton]; rfl
  rw [decide_eq_decide.2 e, Bool.decide_or]

theorem row_step {L : List Nat} {k : Nat} (h : k < L.length) (U : Nat) (b : Bool) (s : Nat) :
    (if s = L.getD k 0 then ((U.testBit (L.getD k 0) || (b && decide (L.getD k 0 ∈ L.take k))) || b) else (U.testBit s || (b && decide (s ∈ L.take k)))) = (U.testBit s || (b && decide (s ∈ L.take (k + 1)))) := by
  rw [take_mem h]
  by_cases e : s = L.getD k 0
  · subst e
    rw [if_pos rfl]
    cases b <;> simp
  · rw [if_neg e, decide_eq_false e, Bool.or_false]

theorem row_end {sets : List Nat} {S i m s : Nat} (hs : s < m) : ((unionTo sets S i).testBit s || (S.testBit i && decide (s ∈ (memM (sets.getD i 0) m).take (memM (sets.getD i 0) m).length))) = (unionTo sets S (i + 1)).testBit s := by
  rw [List.take_length, unionTo_succ_bit]
  congr 2
  cases h : (sets.getD i 0).testBit s
  · rw [decide_eq_false]; intro hm; rw [(mem_memM.1 hm).2] at h; cases h
  · rw [decide_eq_true (mem_memM.2 ⟨hs, h⟩)]

end Go.Proofs.Ytbiihhokcmdlhaa
