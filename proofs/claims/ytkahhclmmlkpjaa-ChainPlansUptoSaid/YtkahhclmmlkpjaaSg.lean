/- Walks of layer 2 (chain), parts: the specification's Due. -/
import Derived.Test.YtkahhclmmlkpjaaSf
namespace Go.Proofs.Ytkahhclmmlkpjaa
open Go.RowKit

/-- The greatest wear behind k uses. -/
def mostAt (P : Prt) (l : List Us) : Nat → Int
  | 0 => 0
  | k + 1 => (wearAt P l k).2

theorem mostAt_end (P : Prt) (l : List Us) : mostAt P l l.length = (rch P l l.length).2 := by
  cases h : l.length with
  | zero => rfl
  | succ n =>
    show (wearAt P l n).2 = _
    unfold wearAt
    rw [show l.length - 1 - n = 0 by omega]
    show (rch P l l.length).2 = _
    rw [h]

theorem since_last {l : List Us} (h : 0 < l.length) : sinceAt l l.length = (l.getD (l.length - 1) Us.zero).d := by
  obtain ⟨n, hn⟩ : ∃ n, l.length = n + 1 := ⟨l.length - 1, by omega⟩
  rw [hn]; rfl

set_option maxRecDepth 100000 in
set_option maxHeartbeats 8000000 in
theorem rdue_any (P : Prt) (l : List Us) (bv v : Value) (c d : Int) (w : World) (hv : SpAt w bv P.rs) (hl : UsAt w v l) :
    Calls Try.prog 53 #[prtV P bv, v, .int .i64 c, .int .i64 d] w fun e w' => e = .returned (lifeV (dueM P l c d)) ∧ Below w.heap.size w w' := by
  have HU0 := Lib.hid hl
  have HV0 := Lib.hid hv
  have hb0 := (Below.refl w.heap.size w).alloc (Nat.le_refl _) (Obj.cells #[bv, .int .i64 P.wo, .int .i64 P.tu, .int .i64 P.ag] 54)
  have k0 := block_new w (Obj.cells #[bv, .int .i64 P.wo, .int .i64 P.tu, .int .i64 P.ag] 54) w.heap.size rfl
  have HV := Lib.hid (hv.below hb0 (Nat.le_refl _))
  obtain ⟨a, cap, rfl, hn, hcap, hc⟩ := hv
  have HRC := Lib.hid hc
  clear hc
  have HB := Lib.hid hb0
  have K0 := Lib.hid k0
  clear hb0 k0
  have HU := Lib.hid (HU0.out.below HB.out (Nat.le_refl _))
  obtain ⟨ua, ucap, rfl, un, ucl, uc⟩ := hl
  have HUC := Lib.hid uc
  clear uc
  by_cases hq : partM P l = 0
  · obtain ⟨hP, h40, hU⟩ := partM_ok hq
    have HQ := Lib.hid hq
    have HP := Lib.hid hP
    have HT := Lib.hid (fun i (hi : i ≤ l.length) => turnsTo_bd hU i hi)
    have HDU := Lib.hid (fun i (hi : i < l.length) => (hU i hi))
    have HWB := Lib.hid (fun i (hi : i < l.length) => wear_bd hP h40 hU hi)
    have HRB := Lib.hid (rch_bd40 hP h40 hU (Nat.le_refl _))
    have HS0 := Lib.hid (since_pos (P := P) (l := l) (k := l.length) (fun i hi => by
      rcases partM_cases P l with ⟨h1, _⟩ | ⟨h1, _⟩ | ⟨_, _, _, h3⟩
      · omega
      · omega
      · exact h3 i hi))
    have n4 := hP.n4
    have w0 := hP.w0
    have w1' := hP.w1
    have t0' := hP.t0
    have t1' := hP.t1
    clear hq hP hU
    cases h1 : decide (0 ≤ c ∧ c ≤ (P.rs.length : Int) - 1)
    · have HE := Lib.hid (due_arg (P := P) (l := l) (c := c) (d := d) HQ.out (by rw [h1]; simp))
      have H1 := Lib.hid h1
      clear h1
      go_enter Try.func53, Try.ntmps53
      go_wp2_with fail
      generalize w.alloc (Obj.cells #[Value.slice a P.rs.length cap, .int .i64 P.wo, .int .i64 P.tu, .int .i64 P.ag] 54) = wA at *
      have hce := block_cell K0.out
      go_wp2_with fail
      refine (rcheckPart_any P l _ _ _ HV.out HU.out).mono ?_
      rintro e w1 ⟨rfl, hb1⟩
      clear hce
      have hce := block_cell ((hb1.block _ (lt_of_block K0.out)).trans K0.out)
      have HB1 := Lib.hid hb1
      have HBW1 := Lib.hid (HB.out.trans (hb1.mono HB.out.size))
      clear hb1
      rw [HQ.out]
      go_wp2_with (go_at_call 65; with_reducible refine (rfrom_is _ c 0 ((P.rs.length : Int) - 1) _ H1.out).mono ?_; rintro e w' ⟨rfl, rfl⟩)
      go_ret2
      exact ⟨congrArg (fun r => Ending.returned (lifeV r)) HE.out.symm, HBW1.out⟩
    · have H1 := Lib.hid h1
      have HDA := Lib.hid (fun (h : decide (sinceAt l l.length ≤ d ∧ d ≤ 100000) = false) => due_arg (P := P) (l := l) (c := c) (d := d) HQ.out (.inr h))
      have HRH := Lib.hid (rateHi_ok HP.out h1)
      rw [decide_eq_true_eq] at h1
      obtain ⟨c1, c2⟩ := h1
      obtain ⟨cn, rfl⟩ : ∃ cn : Nat, c = cn := ⟨c.toNat, by omega⟩
      cases h2 : decide (0 ≤ d ∧ d ≤ 100000)
      · have HE := Lib.hid (HDA.out (by rw [decide_eq_false_iff_not] at h2 ⊢; have := HS0.out; omega))
        have H2 := Lib.hid h2
        clear h2
        go_enter Try.func53, Try.ntmps53
        go_wp2_with fail
        generalize w.alloc (Obj.cells #[Value.slice a P.rs.length cap, .int .i64 P.wo, .int .i64 P.tu, .int .i64 P.ag] 54) = wA at *
        have hce := block_cell K0.out
        go_wp2_with fail
        refine (rcheckPart_any P l _ _ _ HV.out HU.out).mono ?_
        rintro e w1 ⟨rfl, hb1⟩
        clear hce
        have hce := block_cell ((hb1.block _ (lt_of_block K0.out)).trans K0.out)
        have HB1 := Lib.hid hb1
        have HBW1 := Lib.hid (HB.out.trans (hb1.mono HB.out.size))
        clear hb1
        rw [HQ.out]
        go_wp2_with (go_at_call 65; (first | with_reducible refine (rfrom_is _ (cn : Int) 0 ((P.rs.length : Int) - 1) _ H1.out).mono ?_ | with_reducible refine (rfrom_is _ d 0 100000 _ H2.out).mono ?_); rintro e w' ⟨rfl, rfl⟩)
        go_ret2
        exact ⟨congrArg (fun r => Ending.returned (lifeV r)) HE.out.symm, HBW1.out⟩
      · have H2 := Lib.hid h2
        rw [decide_eq_true_eq] at h2
        obtain ⟨d1, d2⟩ := h2
        by_cases hl0 : 0 < l.length
        · have HSL := Lib.hid (since_last hl0)
          have i0 : (0 : Int) < l.length := by omega
          have i1 : (0 : Int) ≤ (l.length : Int) - 1 := by omega
          have i2 : (l.length : Int) - 1 < l.length := by omega
          have i3 : ((l.length : Int) - 1).toNat = l.length - 1 := by omega
          obtain ⟨b, off, rfl, hbl, hc⟩ := HUC.out hl0
          have HUA := Lib.hid (fun (w' : World) (h : Below w.heap.size w w') => (us_at h hbl hc (k := l.length - 1) (by omega)).1)
          have hbz : b < w.heap.size := hbl
          clear hc
          generalize hq0 : (l.getD (l.length - 1) Us.zero).d = ld at *
          clear hq0
          by_cases hd : d < ld
          · have HE := Lib.hid (HDA.out (by rw [decide_eq_false_iff_not]; have := HSL.out; omega))
            go_enter Try.func53, Try.ntmps53
            go_wp2_with fail
            generalize w.alloc (Obj.cells #[Value.slice a P.rs.length cap, .int .i64 P.wo, .int .i64 P.tu, .int .i64 P.ag] 54) = wA at *
            have hce := block_cell K0.out
            go_wp2_with fail
            refine (rcheckPart_any P l _ _ _ HV.out HU.out).mono ?_
            rintro e w1 ⟨rfl, hb1⟩
            clear hce
            have hce := block_cell ((hb1.block _ (lt_of_block K0.out)).trans K0.out)
            have HB1 := Lib.hid hb1
            have HBW1 := Lib.hid (HB.out.trans (hb1.mono HB.out.size))
            clear hb1
            rw [HQ.out]
            have g1 := HUA.out _ HBW1.out
            have hz1 : b < w1.heap.size := by have := HBW1.out.size; omega
            go_wp2_with (go_at_call 65; (first | with_reducible refine (rfrom_is _ (cn : Int) 0 ((P.rs.length : Int) - 1) _ H1.out).mono ?_ | with_reducible refine (rfrom_is _ d 0 100000 _ H2.out).mono ?_); rintro e w' ⟨rfl, rfl⟩)
            go_ret2
            exact ⟨congrArg (fun r => Ending.returned (lifeV r)) HE.out.symm, HBW1.out⟩
          · have H3 := Lib.hid (show decide (sinceAt l l.length ≤ d ∧ d ≤ 100000) = true by rw [decide_eq_true_eq]; have := HSL.out; omega)
            go_enter Try.func53, Try.ntmps53
            go_wp2_with fail
            generalize w.alloc (Obj.cells #[Value.slice a P.rs.length cap, .int .i64 P.wo, .int .i64 P.tu, .int .i64 P.ag] 54) = wA at *
            have hce := block_cell K0.out
            go_wp2_with fail
            refine (rcheckPart_any P l _ _ _ HV.out HU.out).mono ?_
            rintro e w1 ⟨rfl, hb1⟩
            clear hce
            have hce := block_cell ((hb1.block _ (lt_of_block K0.out)).trans K0.out)
            have HB1 := Lib.hid hb1
            have HBW1 := Lib.hid (HB.out.trans (hb1.mono HB.out.size))
            clear hb1
            rw [HQ.out]
            have g1 := HUA.out _ HBW1.out
            have hz1 : b < w1.heap.size := by have := HBW1.out.size; omega
            go_wp2_with (go_at_call 65; (first | with_reducible refine (rfrom_is _ (cn : Int) 0 ((P.rs.length : Int) - 1) _ H1.out).mono ?_ | with_reducible refine (rfrom_is _ d 0 100000 _ H2.out).mono ?_); rintro e w' ⟨rfl, rfl⟩)
            refine (rwear0_any P l _ _ _ (HV.out.below HB1.out (Nat.le_refl _)) (HU.out.below HB1.out (Nat.le_refl _)) HQ.out).mono ?_
            rintro e w2 ⟨hb2, ⟨hr, rfl⟩ | ⟨hr, v1, rfl, ho⟩⟩
            · have HE := Lib.hid (due_none (c := cn) (d := d) HQ.out H1.out H3.out hr)
              clear hr
              go_wp2
              go_ret2
              exact ⟨congrArg (fun r => Ending.returned (lifeV r)) HE.out.symm, HBW1.out.trans (hb2.mono HBW1.out.size)⟩
            · have hrn : ¬ reachN P l < l.length := by omega
              have HDS := Lib.hid (fun hs => due_spent (P := P) (l := l) (c := cn) (d := d) HQ.out H1.out H3.out hrn hs)
              have HDO := Lib.hid (fun hs => due_ok (P := P) (l := l) (c := cn) (d := d) HQ.out H1.out H3.out hrn hs)
              have hel := ElAt.of_own (m := 2) (f := spnL) (xs := wearL P l) (fun _ => rfl) (by rw [wearL_len]; exact ho)
              obtain ⟨sa, scap, rfl, sn, scl, sc⟩ := hel
              rw [wearL_len] at sn sc
              rw [wearL_len] at *
              have HSC := Lib.hid sc
              have HB2 := Lib.hid (HB1.out.trans (hb2.mono HB1.out.size))
              have HBW2 := Lib.hid (HBW1.out.trans (hb2.mono HBW1.out.size))
              have hce := block_cell ((HB2.out.block _ (lt_of_block K0.out)).trans K0.out)
              clear hr hrn ho sc hb2
              go_wp2_with fail
              go_loop [12, 13, 14] (fun t s i => ∃ k : Nat, k ≤ l.length ∧ i = .int .i64 k ∧ t = .int .i64 (turnsTo l k) ∧ s = .int .i64 (mostAt P l k)) (fun _ _ i => l.length - (intOf i).toNat)
              case atStart => exact ⟨0, Nat.zero_le _, rfl, rfl, rfl⟩
              case round =>
                obtain ⟨k, hk, rfl, rfl, rfl⟩ := hrel
                by_cases hlt : k < l.length
                · try (exfalso; omega)
                  all_goals
                    obtain ⟨b, off, eb, hbl, hc⟩ := HUC.out (by omega)
                    cases eb
                    obtain ⟨sb, so, rfl, sbl, scc⟩ := HSC.out (by omega)
                    obtain ⟨_, g2, _, _, _, _⟩ := us_at HBW2.out hbl hc hlt
                    obtain ⟨_, s2⟩ := sp_at (Below.refl _ w2) sbl scc (k := k) (by rw [wearL_len]; exact hlt)
                    rw [wearL_get hlt] at s2
                    have Hs := Lib.hid (show turnsTo l (k + 1) = turnsTo l k + (l.getD k Us.zero).t from rfl)
                    have Hd := Lib.hid (show mostAt P l (k + 1) = (wearAt P l k).2 from rfl)
                    have hu := HDU.out k hlt
                    have ht := HT.out k hk
                    obtain ⟨t0, t1⟩ : 0 ≤ (l.getD k Us.zero).t ∧ (l.getD k Us.zero).t ≤ 1000000 := ⟨hu.t0, hu.t1⟩
                    have k1 : (0 : Int) ≤ k := by omega
                    have k2 : (k : Int) < l.length := by omega
                    have hz2 : b < w2.heap.size := by have := HBW2.out.size; omega
                    clear hc scc hu
                    generalize turnsTo l k = t at *
                    generalize mostAt P l k = m at *
                    generalize (wearAt P l k).2 = y at *
                    generalize l.getD k Us.zero = u at *
                    go_wp2
                    go_round
                    case rel => exact ⟨k + 1, hlt, by go_num, by rw [Hs.out], by rw [Hd.out]⟩
                    case measure => simp [intOf]; omega
                · obtain rfl : k = l.length := by omega
                  have HM := Lib.hid (mostAt_end P l)
                  have ht := HT.out _ hk
                  have hbd := HRB.out
                  rw [HM.out]
                  have HMO := Lib.hid (show moreM P l cn = if 0 < rateHi P cn then min (P.tu - turnsTo l l.length) ((P.wo * 1000000 - (rch P l l.length).2) / rateHi P cn) else P.tu - turnsTo l l.length from rfl)
                  generalize (rch P l l.length).2 = we at *
                  generalize turnsTo l l.length = tu at *
                  obtain ⟨_, _, hb3', hb4'⟩ := hbd
                  have HSP := Lib.hid (show spentM P we tu d = (decide (P.wo * 1000000 < we) || decide (P.tu < tu) || decide (P.ag < d)) from rfl)
                  cases hA : decide (P.wo * 1000000 < we)
                  · cases hB : decide (P.tu < tu)
                    · cases hC : decide (P.ag < d)
                      · have HE := Lib.hid (HDO.out (by rw [HSP.out, hA, hB, hC]; rfl))
                        rw [decide_eq_false_iff_not] at hA hB hC
                        obtain ⟨rb, ro, rfl, rbl, rce⟩ := HRC.out (by omega)
                        obtain ⟨_, r2⟩ := sp_at HBW2.out rbl rce (k := cn) (by omega)
                        have hrh := HRH.out
                        have er : (P.rs.getD cn Spn.zero).2 = rateHi P cn := by unfold rateHi; rw [Int.toNat_natCast]; rfl
                        rw [er] at r2
                        generalize rateHi P cn = rh at *
                        obtain ⟨h01, h02⟩ := hrh
                        have j1 : (0 : Int) ≤ cn := by omega
                        have j2 : (cn : Int) < P.rs.length := by omega
                        have hdv : 0 < rh → 0 ≤ (P.wo * 1000000 - we) / rh ∧ (P.wo * 1000000 - we) / rh ≤ P.wo * 1000000 - we := fun hh => ⟨Int.ediv_nonneg (by omega) (by omega), Int.ediv_le_self _ (by omega)⟩
                        have HDV := Lib.hid hdv
                        have hz2 : rb < w2.heap.size := by have := HBW2.out.size; omega
                        clear er rce hdv
                        by_cases hrate : 0 < rh
                        · have HM2 := Lib.hid (show moreM P l cn = min (P.tu - tu) ((P.wo * 1000000 - we) / rh) by rw [HMO.out, if_pos hrate])
                          obtain ⟨v1, v2⟩ := HDV.out hrate
                          go_wp2
                          all_goals
                            go_ret2
                            refine ⟨by rw [HE.out, HM2.out]; refine congrArg Ending.returned ?_; refine congrArg Value.tuple ?_; simp; omega, HBW2.out⟩
                        · have HM2 := Lib.hid (show moreM P l cn = P.tu - tu by rw [HMO.out, if_neg hrate])
                          go_wp2
                          all_goals
                            go_ret2
                            refine ⟨by rw [HE.out, HM2.out]; first | rfl | (refine congrArg Ending.returned ?_; refine congrArg Value.tuple ?_; simp; omega), HBW2.out⟩
                      · have HE := Lib.hid (HDS.out (by rw [HSP.out, hA, hB, hC]; rfl))
                        rw [decide_eq_false_iff_not] at hA hB
                        rw [decide_eq_true_eq] at hC
                        go_wp2
                        go_ret2
                        exact ⟨congrArg (fun r => Ending.returned (lifeV r)) HE.out.symm, HBW2.out⟩
                    · have HE := Lib.hid (HDS.out (by rw [HSP.out, hA, hB]; rfl))
                      rw [decide_eq_false_iff_not] at hA
                      rw [decide_eq_true_eq] at hB
                      try (exfalso; omega)
                      all_goals
                        go_wp2
                        go_ret2
                        exact ⟨congrArg (fun r => Ending.returned (lifeV r)) HE.out.symm, HBW2.out⟩
                  · have HE := Lib.hid (HDS.out (by rw [HSP.out, hA]; rfl))
                    rw [decide_eq_true_eq] at hA
                    go_wp2
                    go_ret2
                    exact ⟨congrArg (fun r => Ending.returned (lifeV r)) HE.out.symm, HBW2.out⟩
        · have i0 : ¬ (0 : Int) < l.length := by omega
          have H3 := Lib.hid (show decide (sinceAt l l.length ≤ d ∧ d ≤ 100000) = true by
            rw [decide_eq_true_eq]
            have e : l.length = 0 := by omega
            rw [e]
            show (0 : Int) ≤ d ∧ _
            omega)
          go_enter Try.func53, Try.ntmps53
          go_wp2_with fail
          generalize w.alloc (Obj.cells #[Value.slice a P.rs.length cap, .int .i64 P.wo, .int .i64 P.tu, .int .i64 P.ag] 54) = wA at *
          have hce := block_cell K0.out
          go_wp2_with fail
          refine (rcheckPart_any P l _ _ _ HV.out HU.out).mono ?_
          rintro e w1 ⟨rfl, hb1⟩
          clear hce
          have hce := block_cell ((hb1.block _ (lt_of_block K0.out)).trans K0.out)
          have HB1 := Lib.hid hb1
          have HBW1 := Lib.hid (HB.out.trans (hb1.mono HB.out.size))
          clear hb1
          rw [HQ.out]
          go_wp2_with (go_at_call 65; (first | with_reducible refine (rfrom_is _ (cn : Int) 0 ((P.rs.length : Int) - 1) _ H1.out).mono ?_ | with_reducible refine (rfrom_is _ d 0 100000 _ H2.out).mono ?_); rintro e w' ⟨rfl, rfl⟩)
          refine (rwear0_any P l _ _ _ (HV.out.below HB1.out (Nat.le_refl _)) (HU.out.below HB1.out (Nat.le_refl _)) HQ.out).mono ?_
          rintro e w2 ⟨hb2, ⟨hr, rfl⟩ | ⟨hr, v1, rfl, ho⟩⟩
          · have HE := Lib.hid (due_none (c := cn) (d := d) HQ.out H1.out H3.out hr)
            clear hr
            go_wp2
            go_ret2
            exact ⟨congrArg (fun r => Ending.returned (lifeV r)) HE.out.symm, HBW1.out.trans (hb2.mono HBW1.out.size)⟩
          · have hrn : ¬ reachN P l < l.length := by omega
            have HDS := Lib.hid (fun hs => due_spent (P := P) (l := l) (c := cn) (d := d) HQ.out H1.out H3.out hrn hs)
            have HDO := Lib.hid (fun hs => due_ok (P := P) (l := l) (c := cn) (d := d) HQ.out H1.out H3.out hrn hs)
            have hel := ElAt.of_own (m := 2) (f := spnL) (xs := wearL P l) (fun _ => rfl) (by rw [wearL_len]; exact ho)
            obtain ⟨sa, scap, rfl, sn, scl, sc⟩ := hel
            rw [wearL_len] at sn sc
            rw [wearL_len] at *
            have HSC := Lib.hid sc
            have HB2 := Lib.hid (HB1.out.trans (hb2.mono HB1.out.size))
            have HBW2 := Lib.hid (HBW1.out.trans (hb2.mono HBW1.out.size))
            have hce := block_cell ((HB2.out.block _ (lt_of_block K0.out)).trans K0.out)
            clear hr hrn ho sc hb2
            go_wp2_with fail
            go_loop [12, 13, 14] (fun t s i => ∃ k : Nat, k ≤ l.length ∧ i = .int .i64 k ∧ t = .int .i64 (turnsTo l k) ∧ s = .int .i64 (mostAt P l k)) (fun _ _ i => l.length - (intOf i).toNat)
            case atStart => exact ⟨0, Nat.zero_le _, rfl, rfl, rfl⟩
            case round =>
              obtain ⟨k, hk, rfl, rfl, rfl⟩ := hrel
              by_cases hlt : k < l.length
              · try (exfalso; omega)
                all_goals
                  obtain ⟨b, off, eb, hbl, hc⟩ := HUC.out (by omega)
                  cases eb
                  obtain ⟨sb, so, rfl, sbl, scc⟩ := HSC.out (by omega)
                  obtain ⟨_, g2, _, _, _, _⟩ := us_at HBW2.out hbl hc hlt
                  obtain ⟨_, s2⟩ := sp_at (Below.refl _ w2) sbl scc (k := k) (by rw [wearL_len]; exact hlt)
                  rw [wearL_get hlt] at s2
                  have Hs := Lib.hid (show turnsTo l (k + 1) = turnsTo l k + (l.getD k Us.zero).t from rfl)
                  have Hd := Lib.hid (show mostAt P l (k + 1) = (wearAt P l k).2 from rfl)
                  have hu := HDU.out k hlt
                  have ht := HT.out k hk
                  obtain ⟨t0, t1⟩ : 0 ≤ (l.getD k Us.zero).t ∧ (l.getD k Us.zero).t ≤ 1000000 := ⟨hu.t0, hu.t1⟩
                  have k1 : (0 : Int) ≤ k := by omega
                  have k2 : (k : Int) < l.length := by omega
                  have hz2 : b < w2.heap.size := by have := HBW2.out.size; omega
                  clear hc scc hu
                  generalize turnsTo l k = t at *
                  generalize mostAt P l k = m at *
                  generalize (wearAt P l k).2 = y at *
                  generalize l.getD k Us.zero = u at *
                  go_wp2
                  go_round
                  case rel => exact ⟨k + 1, hlt, by go_num, by rw [Hs.out], by rw [Hd.out]⟩
                  case measure => simp [intOf]; omega
              · obtain rfl : k = l.length := by omega
                have HM := Lib.hid (mostAt_end P l)
                have ht := HT.out _ hk
                have hbd := HRB.out
                rw [HM.out]
                have HMO := Lib.hid (show moreM P l cn = if 0 < rateHi P cn then min (P.tu - turnsTo l l.length) ((P.wo * 1000000 - (rch P l l.length).2) / rateHi P cn) else P.tu - turnsTo l l.length from rfl)
                generalize (rch P l l.length).2 = we at *
                generalize turnsTo l l.length = tu at *
                obtain ⟨_, _, hb3', hb4'⟩ := hbd
                have HSP := Lib.hid (show spentM P we tu d = (decide (P.wo * 1000000 < we) || decide (P.tu < tu) || decide (P.ag < d)) from rfl)
                cases hA : decide (P.wo * 1000000 < we)
                · cases hB : decide (P.tu < tu)
                  · cases hC : decide (P.ag < d)
                    · have HE := Lib.hid (HDO.out (by rw [HSP.out, hA, hB, hC]; rfl))
                      rw [decide_eq_false_iff_not] at hA hB hC
                      obtain ⟨rb, ro, rfl, rbl, rce⟩ := HRC.out (by omega)
                      obtain ⟨_, r2⟩ := sp_at HBW2.out rbl rce (k := cn) (by omega)
                      have hrh := HRH.out
                      have er : (P.rs.getD cn Spn.zero).2 = rateHi P cn := by unfold rateHi; rw [Int.toNat_natCast]; rfl
                      rw [er] at r2
                      generalize rateHi P cn = rh at *
                      obtain ⟨h01, h02⟩ := hrh
                      have j1 : (0 : Int) ≤ cn := by omega
                      have j2 : (cn : Int) < P.rs.length := by omega
                      have hdv : 0 < rh → 0 ≤ (P.wo * 1000000 - we) / rh ∧ (P.wo * 1000000 - we) / rh ≤ P.wo * 1000000 - we := fun hh => ⟨Int.ediv_nonneg (by omega) (by omega), Int.ediv_le_self _ (by omega)⟩
                      have HDV := Lib.hid hdv
                      have hz2 : rb < w2.heap.size := by have := HBW2.out.size; omega
                      clear er rce hdv
                      by_cases hrate : 0 < rh
                      · have HM2 := Lib.hid (show moreM P l cn = min (P.tu - tu) ((P.wo * 1000000 - we) / rh) by rw [HMO.out, if_pos hrate])
                        obtain ⟨v1, v2⟩ := HDV.out hrate
                        go_wp2
                        all_goals
                          go_ret2
                          refine ⟨by rw [HE.out, HM2.out]; refine congrArg Ending.returned ?_; refine congrArg Value.tuple ?_; simp; omega, HBW2.out⟩
                      · have HM2 := Lib.hid (show moreM P l cn = P.tu - tu by rw [HMO.out, if_neg hrate])
                        go_wp2
                        all_goals
                          go_ret2
                          refine ⟨by rw [HE.out, HM2.out]; first | rfl | (refine congrArg Ending.returned ?_; refine congrArg Value.tuple ?_; simp; omega), HBW2.out⟩
                    · have HE := Lib.hid (HDS.out (by rw [HSP.out, hA, hB, hC]; rfl))
                      rw [decide_eq_false_iff_not] at hA hB
                      rw [decide_eq_true_eq] at hC
                      go_wp2
                      go_ret2
                      exact ⟨congrArg (fun r => Ending.returned (lifeV r)) HE.out.symm, HBW2.out⟩
                  · have HE := Lib.hid (HDS.out (by rw [HSP.out, hA, hB]; rfl))
                    rw [decide_eq_false_iff_not] at hA
                    rw [decide_eq_true_eq] at hB
                    try (exfalso; omega)
                    all_goals
                      go_wp2
                      go_ret2
                      exact ⟨congrArg (fun r => Ending.returned (lifeV r)) HE.out.symm, HBW2.out⟩
                · have HE := Lib.hid (HDS.out (by rw [HSP.out, hA]; rfl))
                  rw [decide_eq_true_eq] at hA
                  go_wp2
                  go_ret2
                  exact ⟨congrArg (fun r => Ending.returned (lifeV r)) HE.out.symm, HBW2.out⟩
  · have HE := Lib.hid (due_bad (c := c) (d := d) hq)
    go_enter Try.func53, Try.ntmps53
    go_wp2_with fail
    generalize w.alloc (Obj.cells #[Value.slice a P.rs.length cap, .int .i64 P.wo, .int .i64 P.tu, .int .i64 P.ag] 54) = wA at *
    have hce := block_cell K0.out
    go_wp2_with fail
    refine (rcheckPart_any P l _ _ _ HV.out HU.out).mono ?_
    rintro e w1 ⟨rfl, hb1⟩
    clear hce
    have hce := block_cell ((hb1.block _ (lt_of_block K0.out)).trans K0.out)
    have HB1 := Lib.hid hb1
    have HBW1 := Lib.hid (HB.out.trans (hb1.mono HB.out.size))
    clear hb1
    generalize partM P l = f at *
    go_wp2
    go_ret2
    exact ⟨congrArg (fun r => Ending.returned (lifeV r)) HE.out.symm, HBW1.out⟩

end Go.Proofs.Ytkahhclmmlkpjaa
