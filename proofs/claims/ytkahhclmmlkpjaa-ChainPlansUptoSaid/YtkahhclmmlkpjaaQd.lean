/- Walks of layer 2 (chain), parts: Due. -/
import Derived.Test.YtkahhclmmlkpjaaQc
namespace Go.Proofs.Ytkahhclmmlkpjaa
open Go.RowKit

def rateHi (P : Prt) (c : Int) : Int := (P.rs.getD c.toNat (0, 0)).2
/-- How many turns more, if nothing stands against it. -/
def moreM (P : Prt) (l : List Us) (c : Int) : Int := if 0 < rateHi P c then min (P.tu - turnsTo l l.length) ((P.wo * 1000000 - (rch P l l.length).2) / rateHi P c) else P.tu - turnsTo l l.length

theorem due_bad {P : Prt} {l : List Us} {c d : Int} (h : ¬ partM P l = 0) : dueM P l c d = (0, partM P l) := by unfold dueM; rw [if_neg h]
theorem due_arg {P : Prt} {l : List Us} {c d : Int} (h : partM P l = 0) (h2 : decide (0 ≤ c ∧ c ≤ (P.rs.length : Int) - 1) = false ∨ decide (sinceAt l l.length ≤ d ∧ d ≤ 100000) = false) : dueM P l c d = (0, 1) := by
  unfold dueM; rw [if_pos h, if_pos h2]
theorem due_none {P : Prt} {l : List Us} {c d : Int} (h : partM P l = 0) (h2 : decide (0 ≤ c ∧ c ≤ (P.rs.length : Int) - 1) = true) (h3 : decide (sinceAt l l.length ≤ d ∧ d ≤ 100000) = true) (h4 : reachN P l < l.length) : dueM P l c d = (0, 3) := by
  unfold dueM; rw [if_pos h, if_neg (by rw [h2, h3]; simp), if_pos h4]
theorem due_spent {P : Prt} {l : List Us} {c d : Int} (h : partM P l = 0) (h2 : decide (0 ≤ c ∧ c ≤ (P.rs.length : Int) - 1) = true) (h3 : decide (sinceAt l l.length ≤ d ∧ d ≤ 100000) = true) (h4 : ¬ reachN P l < l.length) (h5 : spentM P (rch P l l.length).2 (turnsTo l l.length) d = true) : dueM P l c d = (0, 3) := by
  unfold dueM; rw [if_pos h, if_neg (by rw [h2, h3]; simp), if_neg h4, if_pos h5]
theorem due_ok {P : Prt} {l : List Us} {c d : Int} (h : partM P l = 0) (h2 : decide (0 ≤ c ∧ c ≤ (P.rs.length : Int) - 1) = true) (h3 : decide (sinceAt l l.length ≤ d ∧ d ≤ 100000) = true) (h4 : ¬ reachN P l < l.length) (h5 : spentM P (rch P l l.length).2 (turnsTo l l.length) d = false) : dueM P l c d = (moreM P l c, 0) := by
  unfold dueM; rw [if_pos h, if_neg (by rw [h2, h3]; simp), if_neg h4, if_neg (by rw [h5]; simp)]; rfl

theorem rateHi_ok {P : Prt} (hP : POk P) {c : Int} (h : decide (0 ≤ c ∧ c ≤ (P.rs.length : Int) - 1) = true) : 0 ≤ rateHi P c ∧ rateHi P c ≤ 1000000 := by
  rw [decide_eq_true_eq] at h
  have hlt : c.toNat < P.rs.length := by omega
  have := hP.rate (P.rs.getD c.toNat (0, 0)) (by rw [List.getD_eq_getElem?_getD, List.getElem?_eq_getElem hlt]; exact List.getElem_mem hlt)
  unfold rateHi
  omega

set_option maxRecDepth 100000 in
set_option maxHeartbeats 8000000 in
theorem kdue_any (P : Prt) (l : List Us) (bv v : Value) (c d : Int) (w : World) (hv : SpAt w bv P.rs) (hl : UsAt w v l) :
    Calls Try.prog 52 #[prtV P bv, v, .int .i64 c, .int .i64 d] w fun e w' => e = .returned (lifeV (dueM P l c d)) ∧ Below w.heap.size w w' := by
  have HU0 := Lib.hid hl
  have HV0 := Lib.hid hv
  have hb0 := (Below.refl w.heap.size w).alloc (Nat.le_refl _) (Obj.cells #[bv, .int .i64 P.wo, .int .i64 P.tu, .int .i64 P.ag] 54)
  have k0 := block_new w (Obj.cells #[bv, .int .i64 P.wo, .int .i64 P.tu, .int .i64 P.ag] 54) w.heap.size rfl
  have HV := Lib.hid (hv.below hb0 (Nat.le_refl _))
  obtain ⟨a, cap, rfl, hn, hcap, hc⟩ := hv
  have HRC := Lib.hid hc
  clear hc
  have HB := Lib.hid hb0
  have K0 := Lib.hid k0
  clear hb0 k0
  have HU := Lib.hid (HU0.out.below HB.out (Nat.le_refl _))
  obtain ⟨ua, ucap, rfl, un, ucl, uc⟩ := hl
  have HUC := Lib.hid uc
  clear uc
  by_cases hq : partM P l = 0
  · obtain ⟨hP, h40, hU⟩ := partM_ok hq
    have HQ := Lib.hid hq
    have HP := Lib.hid hP
    have HT := Lib.hid (fun i (hi : i ≤ l.length) => turnsTo_bd hU i hi)
    have HDU := Lib.hid (fun i (hi : i < l.length) => (hU i hi))
    have HRB := Lib.hid (rch_bd40 hP h40 hU (Nat.le_refl _))
    have w0 := hP.w0
    have w1' := hP.w1
    have t0' := hP.t0
    have t1' := hP.t1
    clear hq hP hU
    go_enter Try.func52, Try.ntmps52
    go_wp2_with fail
    generalize w.alloc (Obj.cells #[Value.slice a P.rs.length cap, .int .i64 P.wo, .int .i64 P.tu, .int .i64 P.ag] 54) = wA at *
    have hce := block_cell K0.out
    go_wp2_with fail
    refine (kcheckPart_any P l _ _ _ HV.out HU.out).mono ?_
    rintro e w1 ⟨rfl, hb1⟩
    rw [HQ.out]
    clear hce
    go_wp2_with fail
    go_loopw [12, 13, 27] (fun t s i wr => ∃ k : Nat, k ≤ l.length ∧ i = .int .i64 k ∧ t = .int .i64 (turnsTo l k) ∧ s = .int .i64 (sinceAt l k) ∧ Below wA.heap.size wA wr) (fun _ _ i _ => l.length - (intOf i).toNat)
    case atStart => exact ⟨0, Nat.zero_le _, rfl, rfl, rfl, hb1⟩
    case round =>
      obtain ⟨k, hk, rfl, rfl, rfl, hb⟩ := hrel
      by_cases hlt : k < l.length
      · obtain ⟨b, off, rfl, hbl, hc⟩ := HUC.out (by omega)
        have hbw := HB.out.trans (hb.mono HB.out.size)
        obtain ⟨g1, g2, g3, g4, g5, g6⟩ := us_at hbw hbl hc hlt
        have Hs := Lib.hid (show turnsTo l (k + 1) = turnsTo l k + (l.getD k Us.zero).t from rfl)
        have Hd := Lib.hid (show sinceAt l (k + 1) = (l.getD k Us.zero).d from rfl)
        have hu := HDU.out k hlt
        have ht := HT.out k hk
        obtain ⟨t0, t1⟩ : 0 ≤ (l.getD k Us.zero).t ∧ (l.getD k Us.zero).t ≤ 1000000 := ⟨hu.t0, hu.t1⟩
        have hz2 : b < wr.heap.size := by have := hbw.size; omega
        clear hc hu hbw
        generalize turnsTo l k = t at *
        generalize l.getD k Us.zero = u at *
        go_wp2
        go_roundw
        case rel => exact ⟨k + 1, hlt, by go_num, by rw [Hs.out], by rw [Hd.out], hb.alloc hb.size _⟩
        case measure => simp [intOf]; omega
      · obtain rfl : k = l.length := by omega
        have ht := HT.out _ hk
        have kp := (hb.block _ (lt_of_block K0.out)).trans K0.out
        have hce := block_cell kp
        have KP := Lib.hid kp
        have HBR := Lib.hid hb
        clear kp hb hlt
        cases h1 : decide (0 ≤ c ∧ c ≤ (P.rs.length : Int) - 1) <;> cases h2 : decide (sinceAt l l.length ≤ d ∧ d ≤ 100000)
        case true.true =>
          have H1 := Lib.hid h1
          have H2 := Lib.hid h2
          have HRH := Lib.hid (rateHi_ok HP.out h1)
          rw [decide_eq_true_eq] at h1
          obtain ⟨c1, c2⟩ := h1
          clear h2
          obtain ⟨cn, rfl⟩ : ∃ cn : Nat, c = cn := ⟨c.toNat, by omega⟩
          generalize hsn : sinceAt l l.length = sn at *
          have HSN := Lib.hid hsn
          clear hsn
          go_wp2_with (go_at_call 60; (first | with_reducible refine (kwithin_is _ (cn : Int) 0 ((P.rs.length : Int) - 1) _ H1.out).mono ?_ | with_reducible refine (kwithin_is _ d sn 100000 _ H2.out).mono ?_); rintro e w' ⟨rfl, rfl⟩)
          refine (reach_any P l _ _ _ (HV.out.below HBR.out (Nat.le_refl _)) (HU.out.below HBR.out (Nat.le_refl _)) HQ.out).mono ?_
          rintro e w2 ⟨v2, rfl, ho, hb2⟩
          have hbA2 := HBR.out.trans (hb2.mono HBR.out.size)
          have kp2 := (hb2.block _ (lt_of_block KP.out)).trans KP.out
          clear hce
          have hce := block_cell kp2
          have KP2 := Lib.hid kp2
          have HB2 := Lib.hid hbA2
          clear kp2 hb2 hbA2
          by_cases hr : reachN P l < l.length
          · have HE := Lib.hid (due_none (c := cn) (d := d) HQ.out H1.out (by rw [HSN.out]; exact H2.out) hr)
            obtain ⟨a2, c2', rfl, _⟩ := ownsRow_shape ho
            have hr' : (reachN P l : Int) < l.length := by omega
            clear ho
            go_wp2
            go_ret2
            exact ⟨congrArg (fun r => Ending.returned (lifeV r)) HE.out.symm, HB.out.trans (HB2.out.mono HB.out.size)⟩
          · have hrn : reachN P l = l.length := by have := reachN_le P l; omega
            rw [hrn] at ho
            have hel := ElAt.of_own (m := 2) (f := spnL) (xs := sprL P l l.length) (fun _ => rfl) (by rw [sprL_len]; exact ho)
            obtain ⟨a2, c2', rfl, n2, m2, hcc⟩ := hel
            rw [sprL_len] at *
            have HR := Lib.hid hr
            have HCC := Lib.hid hcc
            have hbd := HRB.out
            clear ho hrn hr hcc
            obtain ⟨we, hwe⟩ : ∃ we, (rch P l l.length).2 = we := ⟨_, rfl⟩
            have HWE := Lib.hid hwe
            rw [hwe] at hbd
            obtain ⟨_, _, hb3', hb4'⟩ := hbd
            have HDS := Lib.hid (fun hs => due_spent (P := P) (l := l) (c := cn) (d := d) HQ.out H1.out (by rw [HSN.out]; exact H2.out) HR.out (by rw [hwe]; exact hs))
            have HDO := Lib.hid (fun hs => due_ok (P := P) (l := l) (c := cn) (d := d) HQ.out H1.out (by rw [HSN.out]; exact H2.out) HR.out (by rw [hwe]; exact hs))
            clear hwe
            by_cases hl0 : (0 : Int) < l.length
            · obtain ⟨sb, so, rfl, sbl, scc⟩ := HCC.out (by omega)
              obtain ⟨_, s2⟩ := sp_at (Below.refl w2.heap.size w2) sbl scc (k := l.length - 1) (by rw [sprL_len]; omega)
              rw [show (sprL P l l.length).getD (l.length - 1) Spn.zero = rch P l l.length by
                unfold sprL
                rw [List.getD_eq_getElem?_getD, List.getElem?_map, List.getElem?_range (by omega)]
                show rch P l (l.length - 1 + 1) = _
                rw [show l.length - 1 + 1 = l.length by omega], HWE.out] at s2
              have i1 : (0 : Int) ≤ (l.length : Int) - 1 := by omega
              have i2 : (l.length : Int) - 1 < l.length := by omega
              have i3 : ((l.length : Int) - 1).toNat = l.length - 1 := by omega
              clear scc
              go_wp2_with fail
              refine (spent_any P _ we (turnsTo l l.length) d _ w0 w1').mono ?_
              rintro e w3 ⟨rfl, hb5⟩
              have hbA3 := HB2.out.trans (hb5.mono HB2.out.size)
              have kp3 := (hb5.block _ (lt_of_block KP2.out)).trans KP2.out
              clear hce
              have hce := block_cell kp3
              have HBW3 := Lib.hid (HB.out.trans (hbA3.mono HB.out.size))
              clear kp3 hb5 hbA3
              cases hsp : spentM P we (turnsTo l l.length) d
              · have HE := Lib.hid (HDO.out hsp)
                obtain ⟨f1, f2, f3⟩ := spentM_false.1 hsp
                obtain ⟨rb, ro, rfl, rbl, rce⟩ := HRC.out (by omega)
                obtain ⟨_, r2⟩ := sp_at HBW3.out rbl rce (k := cn) (by omega)
                have hrh := HRH.out
                have er : (P.rs.getD cn Spn.zero).2 = rateHi P cn := by unfold rateHi; rw [Int.toNat_natCast]; rfl
                rw [er] at r2
                have HMO := Lib.hid (show moreM P l cn = if 0 < rateHi P cn then min (P.tu - turnsTo l l.length) ((P.wo * 1000000 - we) / rateHi P cn) else P.tu - turnsTo l l.length by unfold moreM; rw [HWE.out])
                generalize rateHi P cn = rh at *
                obtain ⟨h01, h02⟩ := hrh
                have j1 : (0 : Int) ≤ cn := by omega
                have j2 : (cn : Int) < P.rs.length := by omega
                have hdv : 0 < rh → 0 ≤ (P.wo * 1000000 - we) / rh ∧ (P.wo * 1000000 - we) / rh ≤ P.wo * 1000000 - we := fun hh => ⟨Int.ediv_nonneg (by omega) (by omega), Int.ediv_le_self _ (by omega)⟩
                have HDV := Lib.hid hdv
                clear er rce hsp hdv
                by_cases hrate : 0 < rh
                · have HM2 := Lib.hid (show moreM P l cn = min (P.tu - turnsTo l l.length) ((P.wo * 1000000 - we) / rh) by rw [HMO.out, if_pos hrate])
                  obtain ⟨v1, v2⟩ := HDV.out hrate
                  go_wp2
                  all_goals
                    go_ret2
                    exact ⟨by rw [HE.out, HM2.out]; refine congrArg Ending.returned ?_; refine congrArg Value.tuple ?_; simp; omega, HBW3.out⟩
                · have HM2 := Lib.hid (show moreM P l cn = P.tu - turnsTo l l.length by rw [HMO.out, if_neg hrate])
                  go_wp2
                  go_ret2
                  exact ⟨by rw [HE.out, HM2.out]; rfl, HBW3.out⟩
              · have HE := Lib.hid (HDS.out hsp)
                clear hsp
                go_wp2
                go_ret2
                exact ⟨congrArg (fun r => Ending.returned (lifeV r)) HE.out.symm, HBW3.out⟩
            · have hwe0 : we = 0 := by
                have e : l.length = 0 := by omega
                have := HWE.out
                rw [e] at this
                exact this.symm
              subst hwe0
              go_wp2_with fail
              refine (spent_any P _ 0 (turnsTo l l.length) d _ w0 w1').mono ?_
              rintro e w3 ⟨rfl, hb5⟩
              have hbA3 := HB2.out.trans (hb5.mono HB2.out.size)
              have kp3 := (hb5.block _ (lt_of_block KP2.out)).trans KP2.out
              clear hce
              have hce := block_cell kp3
              have HBW3 := Lib.hid (HB.out.trans (hbA3.mono HB.out.size))
              clear kp3 hb5 hbA3
              cases hsp : spentM P 0 (turnsTo l l.length) d
              · have HE := Lib.hid (HDO.out hsp)
                obtain ⟨f1, f2, f3⟩ := spentM_false.1 hsp
                obtain ⟨rb, ro, rfl, rbl, rce⟩ := HRC.out (by omega)
                obtain ⟨_, r2⟩ := sp_at HBW3.out rbl rce (k := cn) (by omega)
                have hrh := HRH.out
                have er : (P.rs.getD cn Spn.zero).2 = rateHi P cn := by unfold rateHi; rw [Int.toNat_natCast]; rfl
                rw [er] at r2
                have HMO := Lib.hid (show moreM P l cn = if 0 < rateHi P cn then min (P.tu - turnsTo l l.length) ((P.wo * 1000000 - 0) / rateHi P cn) else P.tu - turnsTo l l.length by unfold moreM; rw [HWE.out])
                generalize rateHi P cn = rh at *
                obtain ⟨h01, h02⟩ := hrh
                have j1 : (0 : Int) ≤ cn := by omega
                have j2 : (cn : Int) < P.rs.length := by omega
                have hdv : 0 < rh → 0 ≤ (P.wo * 1000000 - 0) / rh ∧ (P.wo * 1000000 - 0) / rh ≤ P.wo * 1000000 - 0 := fun hh => ⟨Int.ediv_nonneg (by omega) (by omega), Int.ediv_le_self _ (by omega)⟩
                have HDV := Lib.hid hdv
                clear er rce hsp hdv
                by_cases hrate : 0 < rh
                · have HM2 := Lib.hid (show moreM P l cn = min (P.tu - turnsTo l l.length) ((P.wo * 1000000 - 0) / rh) by rw [HMO.out, if_pos hrate])
                  obtain ⟨v1, v2⟩ := HDV.out hrate
                  go_wp2
                  all_goals
                    go_ret2
                    exact ⟨by rw [HE.out, HM2.out]; refine congrArg Ending.returned ?_; refine congrArg Value.tuple ?_; simp; omega, HBW3.out⟩
                · have HM2 := Lib.hid (show moreM P l cn = P.tu - turnsTo l l.length by rw [HMO.out, if_neg hrate])
                  go_wp2
                  go_ret2
                  exact ⟨by rw [HE.out, HM2.out]; rfl, HBW3.out⟩
              · have HE := Lib.hid (HDS.out hsp)
                clear hsp
                go_wp2
                go_ret2
                exact ⟨congrArg (fun r => Ending.returned (lifeV r)) HE.out.symm, HBW3.out⟩
        all_goals
          have HE := Lib.hid (due_arg (P := P) (l := l) (c := c) (d := d) HQ.out (by rw [h1, h2]; simp))
          have H1 := Lib.hid h1
          have H2 := Lib.hid h2
          clear h1 h2
          generalize sinceAt l l.length = sn at *
          go_wp2_with (go_at_call 60; (first | with_reducible refine (kwithin_is _ c 0 ((P.rs.length : Int) - 1) _ H1.out).mono ?_ | with_reducible refine (kwithin_is _ d sn 100000 _ H2.out).mono ?_); rintro e w' ⟨rfl, rfl⟩)
          go_ret2
          exact ⟨congrArg (fun r => Ending.returned (lifeV r)) HE.out.symm, HB.out.trans (HBR.out.mono HB.out.size)⟩
  · have HE := Lib.hid (due_bad (c := c) (d := d) hq)
    go_enter Try.func52, Try.ntmps52
    go_wp2_with fail
    generalize w.alloc (Obj.cells #[Value.slice a P.rs.length cap, .int .i64 P.wo, .int .i64 P.tu, .int .i64 P.ag] 54) = wA at *
    have hce := block_cell K0.out
    go_wp2_with fail
    refine (kcheckPart_any P l _ _ _ HV.out HU.out).mono ?_
    rintro e w1 ⟨rfl, hb1⟩
    generalize partM P l = f at *
    go_wp2
    go_ret2
    exact ⟨congrArg (fun r => Ending.returned (lifeV r)) HE.out.symm, HB.out.trans (hb1.mono HB.out.size)⟩

end Go.Proofs.Ytkahhclmmlkpjaa
