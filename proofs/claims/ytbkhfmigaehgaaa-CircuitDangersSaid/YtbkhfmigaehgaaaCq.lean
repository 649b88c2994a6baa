/- Walks of layer 3 (circuit): checkRota, CheckRota of the program. -/
import Derived.Test.YtbkhfmigaehgaaaCp
namespace Go.Proofs.Ytbkhfmigaehgaaa
open Go.RowKit

/-- Lists of numbers lie in memory. -/
def NsAt (w : World) (v : Value) (ns : List (List Int)) : Prop :=
  ∃ a cap, v = .slice a ns.length cap ∧ ns.length ≤ cap ∧ cap ≤ 9223372036854775807 ∧
    (0 < ns.length → ∃ b off, a = some ⟨b, off, none⟩ ∧ b < w.heap.size ∧ ∀ i, i < ns.length → ∃ u, w.cell? ⟨b, off + i, none⟩ = some u ∧ InAt w u (ns.getD i []))

theorem NsAt.below {w w' : World} {B : Nat} {v : Value} {ns : List (List Int)} (h : NsAt w v ns) (hb : Below B w w') (hB : w.heap.size ≤ B) : NsAt w' v ns := by
  obtain ⟨a, cap, rfl, h1, h2, h3⟩ := h
  refine ⟨a, cap, rfl, h1, h2, fun h => ?_⟩
  obtain ⟨b, off, rfl, hlt, hc⟩ := h3 h
  refine ⟨b, off, rfl, Nat.lt_of_lt_of_le hlt hb.size, fun i hi => ?_⟩
  obtain ⟨u, c2, c3⟩ := hc i hi
  exact ⟨u, (hb.cell (p := ⟨b, off + i, none⟩) (by show b < B; omega)).trans c2, c3.below hb hB⟩

abbrev rotV (r : Rot) (nv : Value) : Value := .agg #[nv, .int .i64 r.gap]
abbrev rotO (r : Rot) (nv : Value) : Obj := .cells #[nv, .int .i64 r.gap] 52

theorem chkR_trial {c : Cir} {l : List Tri} (r : Rot) (h : ¬ chkT c l = 0) : chkT c l = chkR c l r := by unfold chkR; rw [if_neg h]
theorem chkR_bad {c : Cir} {l : List Tri} {r : Rot} (h : chkT c l = 0) (h2 : rotB l.length r = false) : (32 : Int) = chkR c l r := by unfold chkR; rw [if_pos h, h2]; rfl
theorem chkR_ok {c : Cir} {l : List Tri} {r : Rot} (h : chkT c l = 0) (h2 : rotB l.length r = true) : (0 : Int) = chkR c l r := by unfold chkR; rw [if_pos h, h2]; rfl

theorem rot_sizes {m : Int} {r : Rot} {b1 b2 : Bool} (h1 : decide (1 ≤ (r.nights.length : Int) ∧ (r.nights.length : Int) ≤ 60) = b1) (h2 : decide (1 ≤ r.gap ∧ r.gap ≤ 60) = b2) : rotB m r = (b1 && b2 && r.nights.all (ascB (m - 1) 0)) := by
  unfold rotB
  rw [← h1, ← h2]
  congr 2
  exact decide_eq_decide.2 (by omega)

set_option maxRecDepth 100000 in
set_option maxHeartbeats 4000000 in
theorem ccheckR_any (c : Cir) (l : List Tri) (r : Rot) (sv wv v nv : Value) (w : World) (hv : CirAt w sv wv c) (hl : TrAt w v l) (hr : NsAt w nv r.nights) :
    Calls Try.prog 104 #[cirV c sv wv, v, rotV r nv] w fun e w' => e = .returned (.int .i64 (chkR c l r)) ∧ Below w.heap.size w w' := by
  have hb0 := blw2 w (cirO c sv wv) (rotO r nv)
  have HB := Lib.hid hb0
  have K1 := Lib.hid (two_nw w (cirO c sv wv) (rotO r nv))
  have HV := Lib.hid (hv.below hb0 (Nat.le_refl _))
  have HT := Lib.hid (hl.below hb0 (Nat.le_refl _))
  have HN := Lib.hid (hr.below hb0 (Nat.le_refl _))
  obtain ⟨ta, tcap, rfl, _, m2, _⟩ := hl
  obtain ⟨na, ncap, rfl, m3, m4, _⟩ := hr
  clear hb0
  by_cases hq : chkT c l = 0
  · have HQ := Lib.hid hq
    have l12 := (tval hq).n
    obtain ⟨b1, h1⟩ : ∃ b, decide (1 ≤ (r.nights.length : Int) ∧ (r.nights.length : Int) ≤ 60) = b := ⟨_, rfl⟩
    obtain ⟨b2, h2⟩ : ∃ b, decide (1 ≤ r.gap ∧ r.gap ≤ 60) = b := ⟨_, rfl⟩
    have HS := Lib.hid (rot_sizes (m := l.length) h1 h2)
    have H1 := Lib.hid h1
    have H2 := Lib.hid h2
    clear h1 h2 hq
    by_cases hall : (b1 && b2) = true
    · simp only [Bool.and_eq_true] at hall
      obtain ⟨rfl, rfl⟩ := hall
      have g1 := H1.out
      simp only [decide_eq_true_eq] at g1
      obtain ⟨g1, g2⟩ := g1
      go_enter Try.func104, Try.ntmps104
      go_wp2_with fail
      generalize (w.alloc (cirO c sv wv)).alloc (rotO r (.slice na r.nights.length ncap)) = wA at *
      refine (ccheckT_any c l _ _ _ _ HV.out HT.out).mono ?_
      rintro e w1 ⟨rfl, hb1⟩
      rw [HQ.out]
      have K2 := Lib.hid (keepZ K1.out hb1)
      have HB1 := Lib.hid hb1
      have c1 := block_cell K2.out
      clear hb1
      go_wp2_with (go_at_call 75; (first | (with_reducible refine (cwithin_is _ (r.nights.length : Int) 1 60 _ H1.out).mono ?_) | (with_reducible refine (cwithin_is _ r.gap 1 60 _ H2.out).mono ?_)); rintro e w2 ⟨rfl, rfl⟩)
      go_loop [30] (fun i => ∃ k : Nat, k ≤ r.nights.length ∧ i = .int .i64 k ∧ Hid (∀ j, j < k → ascB ((l.length : Int) - 1) 0 (r.nights.getD j []) = true)) (fun i => r.nights.length - (intOf i).toNat)
      case atStart => exact ⟨0, Nat.zero_le _, rfl, Lib.hid (fun j hj => by omega)⟩
      case round =>
        obtain ⟨k, hk, rfl, hf⟩ := hrel
        by_cases hlt : k < r.nights.length
        · obtain ⟨na', ncap', e1, _, _, hcc⟩ := HN.out
          injection e1 with e1 e2 e3
          subst e1
          obtain ⟨b, off, rfl, hbl, hcc⟩ := hcc (by omega)
          obtain ⟨u, q1, q2⟩ := hcc k hlt
          have g3 := (HB1.out.cell (p := ⟨b, off + k, none⟩) hbl).trans q1
          have HI := Lib.hid (q2.below HB1.out (Nat.le_refl _))
          obtain ⟨ua, ucap, rfl, _⟩ := q2
          cases hq2 : ascB ((l.length : Int) - 1) 0 (r.nights.getD k [])
          · have HR := Lib.hid (chkR_bad (r := r) HQ.out (by
              rw [HS.out]
              have e : r.nights.all (ascB ((l.length : Int) - 1) 0) = false := by
                rw [List.all_eq_false]
                exact ⟨_, getD_mem hlt [], by rw [hq2]; simp⟩
              rw [e]; rfl))
            have HA := Lib.hid hq2
            generalize r.nights.getD k [] = ks at *
            clear hcc q1 hq2 e2 e3
            go_wp2_with fail
            refine (ascend_is _ ks 0 _ _ _ HI.out (by omega) (by omega) (by omega) (by omega) HA.out).mono ?_
            rintro e w2 ⟨rfl, rfl⟩
            go_wp2
            go_ret
            exact ⟨ret_int HR.out, HB.out.trans (HB1.out.mono HB.out.size)⟩
          · have HA := Lib.hid hq2
            generalize hks : r.nights.getD k [] = ks at *
            have HKS := Lib.hid hks
            clear hcc q1 hq2 e2 e3 hks
            go_wp2_with fail
            refine (ascend_is _ ks 0 _ _ _ HI.out (by omega) (by omega) (by omega) (by omega) HA.out).mono ?_
            rintro e w2 ⟨rfl, rfl⟩
            go_wp2
            go_round
            case rel => exact ⟨k + 1, hlt, by go_num, Lib.hid (fun j hj => by
              by_cases e : j = k
              · rw [e, HKS.out]; exact HA.out
              · exact hf.out j (by omega))⟩
            case measure => simp [intOf]; omega
        · have HR := Lib.hid (chkR_ok (r := r) HQ.out (by
            rw [HS.out]
            have e : r.nights.all (ascB ((l.length : Int) - 1) 0) = true := by
              rw [List.all_eq_true]
              intro x hx
              obtain ⟨j, hj, rfl⟩ := List.getElem_of_mem hx
              have := hf.out j (by omega)
              rwa [List.getD_eq_getElem?_getD, List.getElem?_eq_getElem hj] at this
            rw [e]; rfl))
          go_wp2_with fail
          go_ret
          exact ⟨ret_int HR.out, HB.out.trans (HB1.out.mono HB.out.size)⟩
    · have HR := Lib.hid (chkR_bad (r := r) HQ.out (by rw [HS.out]; simp only [Bool.not_eq_true] at hall; rw [hall]; rfl))
      cases b1 <;> cases b2
      all_goals try (exact absurd rfl hall)
      all_goals
        clear hall
        go_enter Try.func104, Try.ntmps104
        go_wp2_with fail
        generalize (w.alloc (cirO c sv wv)).alloc (rotO r (.slice na r.nights.length ncap)) = wA at *
        refine (ccheckT_any c l _ _ _ _ HV.out HT.out).mono ?_
        rintro e w1 ⟨rfl, hb1⟩
        rw [HQ.out]
        have c1 := block_cell (keepZ K1.out hb1)
        have HB1 := Lib.hid hb1
        clear hb1
        go_wp2_with (go_at_call 75; (first | (with_reducible refine (cwithin_is _ (r.nights.length : Int) 1 60 _ H1.out).mono ?_) | (with_reducible refine (cwithin_is _ r.gap 1 60 _ H2.out).mono ?_)); rintro e w2 ⟨rfl, rfl⟩)
        go_ret
        exact ⟨ret_int HR.out, HB.out.trans (HB1.out.mono HB.out.size)⟩
  · have HR := Lib.hid (chkR_trial r hq)
    have hqb : (chkT c l == 0) = false := by simpa using hq
    have hqc : (chkT c l != 0) = true := by simpa using hq
    clear hq
    go_enter Try.func104, Try.ntmps104
    go_wp2_with fail
    generalize (w.alloc (cirO c sv wv)).alloc (rotO r (.slice na r.nights.length ncap)) = wA at *
    refine (ccheckT_any c l _ _ _ _ HV.out HT.out).mono ?_
    rintro e w1 ⟨rfl, hb1⟩
    generalize chkT c l = m at *
    go_wp2
    go_ret
    exact ⟨ret_int HR.out, HB.out.trans (hb1.mono HB.out.size)⟩

end Go.Proofs.Ytbkhfmigaehgaaa
