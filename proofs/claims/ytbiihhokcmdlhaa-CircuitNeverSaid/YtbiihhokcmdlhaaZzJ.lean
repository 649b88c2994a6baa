import Derived.Test.YtbiihhokcmdlhaaZzI
import Derived.OwnWalk
import Derived.Lib.AppendZeros
import Derived.Deep.RegionLaw
/- Texts of one seat, merged: Mm Mq Mr Ms Mt Ga Gd -/
/- Walks of layer 3 (circuit): Weak, Critical, Pairs of the specification. -/
namespace Go.Proofs.Ytbiihhokcmdlhaa
open Go.RowKit

set_option maxRecDepth 100000 in
set_option maxHeartbeats 4000000 in
theorem rWeak_any (c : Cir) (sv wv : Value) (k : Int) (w : World) (hv : CirAt w sv wv c) :
    Calls Try.prog 25 #[cirV c sv wv, .int .i64 k] w (ListErr (weakR c k) (weakE c k) w) := by
  have HB := Lib.hid ((Below.refl w.heap.size w).alloc (Nat.le_refl _) (cirO c sv wv))
  have K0 := Lib.hid (block_new w (cirO c sv wv) w.heap.size rfl)
  have HV := Lib.hid (hv.below HB.out (Nat.le_refl _))
  obtain ⟨⟨sa, scap, rfl, _, m2, _⟩, _⟩ := hv
  cases hq : validB c
  · have HR0 := Lib.hid (chkC_bad hq)
    have HE := Lib.hid (show weakE c k = 30 by unfold weakE; rw [hq]; rfl)
    have HL := Lib.hid (show weakR c k = [] by unfold weakR; rw [HE.out]; rfl)
    clear hq
    go_enter Try.func25, Try.ntmps25
    go_wp2_with fail
    generalize w.alloc (cirO c (.slice sa c.sw.length scap) wv) = wA at *
    refine (rcheck_any c _ _ _ HV.out).mono ?_
    rintro e w1 ⟨rfl, hb1⟩
    rw [← HR0.out]
    go_wp2
    go_ret2
    exact ⟨.slice none 0 0, by rw [HE.out]; rfl, by rw [HL.out]; exact InAt.nil _, HB.out.trans (hb1.mono HB.out.size)⟩
  · have HR0 := Lib.hid (chkC_ok hq)
    have HC := Lib.hid (cval hq)
    have s12 := (cval hq).s2
    cases hs : setB k c.sw.length
    · have HE := Lib.hid (show weakE c k = 1 by unfold weakE; rw [hq, hs]; rfl)
      have HL := Lib.hid (show weakR c k = [] by unfold weakR; rw [HE.out]; rfl)
      have HS := Lib.hid hs
      clear hq hs
      go_enter Try.func25, Try.ntmps25
      go_wp2_with fail
      generalize w.alloc (cirO c (.slice sa c.sw.length scap) wv) = wA at *
      refine (rcheck_any c _ _ _ HV.out).mono ?_
      rintro e w1 ⟨rfl, hb1⟩
      rw [← HR0.out]
      have c0 := block_cell (keepZ K0.out hb1)
      have HB1 := Lib.hid hb1
      have HV1 := Lib.hid (HV.out.below hb1 (Nat.le_refl _))
      clear hb1
      go_wp2_with fail
      refine (rcond_is HS.out (rswi_any c _ wv k _ HV1.out HC.out)).mono ?_
      rintro e w2 ⟨rfl, hb2⟩
      have HB2 := Lib.hid (HB1.out.trans (hb2.mono HB1.out.size))
      clear hb2 c0
      go_wp2_with fail
      go_ret2
      exact ⟨.slice none 0 0, by rw [HE.out]; rfl, by rw [HL.out]; exact InAt.nil _, HB.out.trans (HB2.out.mono HB.out.size)⟩
    · have HE := Lib.hid (show weakE c k = 0 by unfold weakE; rw [hq, hs]; rfl)
      have HL := Lib.hid (show weakR c k = natL (weakM c k.toNat) by unfold weakR; rw [HE.out]; rfl)
      have HS := Lib.hid hs
      obtain ⟨kn, rfl, kn20⟩ := set_nat hs (by omega)
      clear hq hs
      go_enter Try.func25, Try.ntmps25
      go_wp2_with fail
      generalize w.alloc (cirO c (.slice sa c.sw.length scap) wv) = wA at *
      refine (rcheck_any c _ _ _ HV.out).mono ?_
      rintro e w1 ⟨rfl, hb1⟩
      rw [← HR0.out]
      have c0 := block_cell (keepZ K0.out hb1)
      have HB1 := Lib.hid hb1
      have HV1 := Lib.hid (HV.out.below hb1 (Nat.le_refl _))
      clear hb1
      go_wp2_with fail
      refine (rcond_is HS.out (rswi_any c _ wv kn _ HV1.out HC.out)).mono ?_
      rintro e w2 ⟨rfl, hb2⟩
      have HB2 := Lib.hid (HB1.out.trans (hb2.mono HB1.out.size))
      clear hb2 c0
      have c0 := block_cell (keepZ K0.out HB2.out)
      go_wp2_with fail
      refine (rweak_any c _ wv kn _ (HV.out.below HB2.out (Nat.le_refl _)) HC.out kn20).mono ?_
      rintro e w3 ⟨v, rfl, hin, hb3⟩
      have HI := Lib.hid hin
      clear hin c0
      go_wp2
      go_ret2
      exact ⟨v, by rw [HE.out]; rfl, by rw [HL.out, Int.toNat_natCast]; exact HI.out, HB.out.trans ((HB2.out.trans (hb3.mono HB2.out.size)).mono HB.out.size)⟩

theorem critTo_no {c : Cir} {k : Nat} (h : dangB c (2 ^ k) = false) : (List.range (k + 1)).filter (fun h => dangB c (2 ^ h)) = (List.range k).filter (fun h => dangB c (2 ^ h)) := filter_no (p := fun h => dangB c (2 ^ h)) h
theorem critTo_yes {c : Cir} {k : Nat} (h : dangB c (2 ^ k) = true) : (List.range (k + 1)).filter (fun h => dangB c (2 ^ h)) = (List.range k).filter (fun h => dangB c (2 ^ h)) ++ [k] := filter_yes (p := fun h => dangB c (2 ^ h)) h

theorem dang_no {c : Cir} {cl : Nat} (h : dangB c cl = false) : (weakM c cl).length = 0 := by
  have := dang_len c cl
  rw [h, decide_eq_false_iff_not] at this
  omega
theorem dang_yes {c : Cir} {cl : Nat} (h : dangB c cl = true) : 0 < (weakM c cl).length := by
  have := dang_len c cl
  rw [h, decide_eq_true_eq] at this
  exact this

set_option maxRecDepth 100000 in
set_option maxHeartbeats 4000000 in
theorem rcritical_any (c : Cir) (sv wv : Value) (w : World) (hv : CirAt w sv wv c) :
    Calls Try.prog 28 #[cirV c sv wv] w (ListErr (critR c) (chkC c) w) := by
  have HB := Lib.hid ((Below.refl w.heap.size w).alloc (Nat.le_refl _) (cirO c sv wv))
  have K0 := Lib.hid (block_new w (cirO c sv wv) w.heap.size rfl)
  have HV := Lib.hid (hv.below HB.out (Nat.le_refl _))
  obtain ⟨⟨sa, scap, rfl, _, _, _⟩, _⟩ := hv
  cases hq : validB c
  · have HR := Lib.hid (chkC_bad hq)
    have HL := Lib.hid (show [] = critR c by unfold critR; rw [hq]; rfl)
    clear hq
    go_enter Try.func28, Try.ntmps28
    go_wp2_with fail
    generalize w.alloc (cirO c (.slice sa c.sw.length scap) wv) = wA at *
    refine (rcheck_any c _ _ _ HV.out).mono ?_
    rintro e w1 ⟨rfl, hb1⟩
    rw [← HR.out]
    go_wp2
    go_ret2
    exact ⟨.slice none 0 0, by rw [HR.out]; rfl, by rw [← HL.out]; exact InAt.nil _, HB.out.trans (hb1.mono HB.out.size)⟩
  · have HC := Lib.hid (cval hq)
    have HR := Lib.hid (chkC_ok hq)
    have HL := Lib.hid (show natL (critM c) = critR c by unfold critR; rw [hq]; rfl)
    have HFIN := Lib.hid (show critM c = (List.range c.sw.length).filter (fun h => dangB c (2 ^ h)) from rfl)
    have s2 := (cval hq).s2
    clear hq
    obtain ⟨i0, hi0, hz0, hz1, hz2⟩ := info_parts infoInt
    go_enter Try.func28, Try.ntmps28
    go_wp2_with fail
    generalize w.alloc (cirO c (.slice sa c.sw.length scap) wv) = wA at *
    refine (rcheck_any c _ _ _ HV.out).mono ?_
    rintro e w1 ⟨rfl, hb1⟩
    rw [← HR.out]
    have KW := Lib.hid (keepZ K0.out hb1)
    have HB1 := Lib.hid hb1
    clear hb1
    go_wp2_with fail
    go_loopw [4, 5] (fun v x wr => ∃ k : Nat, k ≤ c.sw.length ∧ x = .int .i64 k ∧ Hid (Below w1.heap.size w1 wr) ∧ Hid (wr.ownsRow w1.heap.size 3 1 v ((List.range k).filter (fun h => dangB c (2 ^ h))).length ((natL ((List.range k).filter (fun h => dangB c (2 ^ h)))).map (Value.int .i64)))) (fun _ x _ => c.sw.length - (intOf x).toNat)
    case atStart => exact ⟨0, Nat.zero_le _, rfl, Lib.hid (Below.refl _ _), Lib.hid ⟨by simp [natL], Or.inl ⟨rfl, by simp⟩⟩⟩
    case round =>
      obtain ⟨k, hk, rfl, hb, ho⟩ := hrel
      have c0 := block_cell (keepZ KW.out hb.out)
      obtain ⟨a, ac, rfl, hown⟩ := ownsRow_shape ho.out
      have HOWN := Lib.hid hown
      clear hown
      by_cases hlt : k < c.sw.length
      · have hpw := wrap64_pow (k := k) (by omega)
        have k0 : (0 : Int) ≤ k := by omega
        obtain ⟨A, hA⟩ : ∃ A, 2 ^ k = A := ⟨_, rfl⟩
        have hA20 : A < 1048576 := by rw [← hA]; exact pow_set (by omega)
        have HNO := Lib.hid (critTo_no (c := c) (k := k))
        have HYES := Lib.hid (critTo_yes (c := c) (k := k))
        rw [hA] at hpw HNO HYES
        have hle := filter_len (fun h => dangB c (2 ^ h)) k
        generalize hL : (List.range k).filter (fun h => dangB c (2 ^ h)) = L at *
        have HLL := Lib.hid hL
        clear hL hA
        go_wp2_with fail
        refine (rweak_any c _ wv A _ (HV.out.below (HB1.out.trans (hb.out.mono HB1.out.size)) (Nat.le_refl _)) HC.out hA20).mono ?_
        rintro e w2 ⟨v, rfl, ⟨va, vcap, rfl, v1, v2, _⟩, hb2⟩
        rw [natL_len]
        rw [natL_len] at v1
        have HB2 := Lib.hid (hb.out.trans (hb2.mono hb.out.size))
        have HO2 := Lib.hid (ownsRow_below ho.out hb2)
        have hsz := HB2.out.size
        clear hb2 c0
        have c0 := block_cell (keepZ KW.out HB2.out)
        cases hd : dangB c A
        · have HN := Lib.hid (HNO.out hd)
          have hw0 := dang_no hd
          clear hd
          rw [hw0]
          clear hw0
          go_wp2_with fail
          go_roundw
          case rel => exact ⟨k + 1, hlt, by go_num, HB2, by rw [HN.out]; exact HO2⟩
          case measure => simp [intOf]; omega
        · have HN := Lib.hid (HYES.out hd)
          have hw0 := dang_yes hd
          clear hd
          generalize (weakM c A).length = M at *
          have hM : (0 : Int) < M := by omega
          go_wp2_with (at_builtin; refine wpList_append_own _ rfl (.tmp 23) (.tmp 25) 22 rfl w1.heap.size 3 i0 (.int .i64 0) 1 8 Try.underlying22 hi0 hz0 hz1 hz2 rfl (by decide) _ L.length ((natL L).map (Value.int .i64)) rfl ?c0 _ _ _ [.int .i64 k] rfl rfl ?c1 ?c2 ?c3 ?c4 ?c5 ?_)
          case c0 => exact World.ownsRow.alloc HO2.out _
          case c1 => exact one_cell _ _ _ rfl
          case c2 => intro u hu; simp only [List.mem_cons, List.not_mem_nil, or_false] at hu; subst hu; rfl
          case c3 => unfold maxLen; omega
          case c4 => omega
          case c5 => exact Nat.le_trans hsz (al_le _ _)
          intro v2 w4 hown2 hgrow _
          have hbX := below_grown hgrow HOWN.out (Nat.le_trans hsz (al_le _ _))
          have HBX := Lib.hid (HB2.out.trans (((Below.refl _ _).alloc hsz _).trans hbX))
          have HO4 := Lib.hid (own_snoc hown2)
          obtain ⟨r2, rc2, rfl, _⟩ := ownsRow_shape hown2
          clear hown2 hgrow hbX c0
          go_wp2
          go_roundw
          case rel => exact ⟨k + 1, hlt, by go_num, HBX, by rw [HN.out]; exact HO4⟩
          case measure => simp [intOf]; omega
      · obtain rfl : k = c.sw.length := by omega
        have HI := Lib.hid (InAt.of_own ho.out)
        go_wp2_with fail
        go_ret2
        exact ⟨_, by rw [HR.out]; rfl, by rw [← HL.out, HFIN.out]; exact HI.out, HB.out.trans ((HB1.out.trans (hb.out.mono HB1.out.size)).mono HB.out.size)⟩

theorem pairRow_start (c : Cir) (i : Nat) : ∀ k, k ≤ i + 1 → pairRow c i k = []
  | 0, _ => rfl
  | k + 1, h => by rw [pairRow_no (pairB_lt (by omega))]; exact pairRow_start c i k (by omega)

end Go.Proofs.Ytbiihhokcmdlhaa

/- Walks of layer 3 (circuit): Tells, shown of the specification. -/
namespace Go.Proofs.Ytbiihhokcmdlhaa
open Go.RowKit

set_option maxRecDepth 100000 in
set_option maxHeartbeats 4000000 in
theorem rtells_any (c : Cir) (t : Tri) (sv wv : Value) (cl : Nat) (w : World) (hv : CirAt w sv wv c) (hc : CVal c) (ht : triB c t = true) (h2 : cl < 1048576) :
    Calls Try.prog 115 #[cirV c sv wv, triV t, .int .i64 cl] w fun e w' => e = .returned (.bool (toldB c t cl)) ∧ Below w.heap.size w w' := by
  obtain ⟨hz, wi, e1, e2, hz20, hwi⟩ := tri_nat hc ht
  obtain ⟨thz, twi⟩ := t
  dsimp only at e1 e2
  subst e1
  subst e2
  have HS1 := Lib.hid (sta_ok hz20 h2)
  have HS2 := Lib.hid (sta_ok hz20 (show 0 < 1048576 by decide))
  have HT := Lib.hid (show (cond c ⟨hz, cl, 0⟩ 24 wi && !cond c ⟨hz, 0, 0⟩ 24 wi) = toldB c ⟨hz, wi⟩ cl by unfold toldB; rw [Int.toNat_natCast])
  have HB := Lib.hid (blw2 w (cirO c sv wv) (triO ⟨hz, wi⟩))
  have K0 := Lib.hid (two_od w (cirO c sv wv) (triO ⟨hz, wi⟩))
  have K1 := Lib.hid (two_nw w (cirO c sv wv) (triO ⟨hz, wi⟩))
  have HV := Lib.hid (hv.below HB.out (Nat.le_refl _))
  have HC := Lib.hid hc
  have w24 := hc.w2
  clear hc ht hv
  go_enter Try.func115, Try.ntmps115
  go_wp2_with fail
  generalize (w.alloc (cirO c sv wv)).alloc (triO ⟨hz, wi⟩) = wA at *
  have c0 := block_cell K0.out
  have c1 := block_cell K1.out
  go_wp2_with fail
  refine (rconducts_any c ⟨hz, cl, 0⟩ sv wv HC.out HS1.out 24 wi _ hwi (by omega) HV.out).mono ?_
  rintro e w1 ⟨rfl, hb1⟩
  clear c0 c1
  have c0 := block_cell (keepZ K0.out hb1)
  have c1 := block_cell (keepZ K1.out hb1)
  have HB1 := Lib.hid hb1
  clear hb1
  cases hq : cond c ⟨hz, cl, 0⟩ 24 wi
  · rw [hq] at HT
    clear hq
    go_wp2_with fail
    go_ret
    exact ⟨ret_bool HT.out, HB.out.trans (HB1.out.mono HB.out.size)⟩
  · rw [hq] at HT
    clear hq
    go_wp2_with fail
    refine (rconducts_any c ⟨hz, 0, 0⟩ sv wv HC.out HS2.out 24 wi _ hwi (by omega) (HV.out.below HB1.out (Nat.le_refl _))).mono ?_
    rintro e w2 ⟨rfl, hb2⟩
    clear c0 c1
    go_wp2_with fail
    go_ret
    exact ⟨ret_bool (by rw [← HT.out]; rfl), HB.out.trans ((HB1.out.trans (hb2.mono HB1.out.size)).mono HB.out.size)⟩

set_option maxRecDepth 100000 in
set_option maxHeartbeats 4000000 in
theorem rshown_any (c : Cir) (t : Tri) (sv wv : Value) (w : World) (hv : CirAt w sv wv c) (hc : CVal c) (ht : triB c t = true) :
    Calls Try.prog 94 #[cirV c sv wv, triV t] w fun e w' => e = .returned (.int .i64 (shownM c t : Nat)) ∧ Below w.heap.size w w' := by
  have HB := Lib.hid (blw2 w (cirO c sv wv) (triO t))
  have K0 := Lib.hid (two_od w (cirO c sv wv) (triO t))
  have K1 := Lib.hid (two_nw w (cirO c sv wv) (triO t))
  have HV := Lib.hid (hv.below HB.out (Nat.le_refl _))
  have HC := Lib.hid hc
  have HT := Lib.hid ht
  have s2 := hc.s2
  have HP := Lib.hid (fun k (hk : k ≤ c.sw.length) => show bitsOf (fun k => toldB c t (2 ^ k)) k < 1048576 from Nat.lt_of_lt_of_le (bitsOf_lt _ k) (Nat.le_of_lt (pow_set (by omega))))
  have HFIN := Lib.hid (show shownM c t = bitsOf (fun k => toldB c t (2 ^ k)) c.sw.length from rfl)
  have HNO := Lib.hid (fun k h => bitsOf_no (p := fun k => toldB c t (2 ^ k)) (k := k) h)
  have HYES := Lib.hid (fun k h => bitsOf_yes (p := fun k => toldB c t (2 ^ k)) (k := k) h)
  obtain ⟨⟨sa, scap, rfl, _⟩, _⟩ := hv
  clear hc ht
  go_enter Try.func94, Try.ntmps94
  go_wp2_with fail
  generalize (w.alloc (cirO c (.slice sa c.sw.length scap) wv)).alloc (triO t) = wA at *
  go_loopw [5, 6] (fun x i wr => ∃ k : Nat, k ≤ c.sw.length ∧ i = .int .i64 k ∧ x = .int .i64 (bitsOf (fun k => toldB c t (2 ^ k)) k : Nat) ∧ Hid (Below wA.heap.size wA wr)) (fun _ i _ => c.sw.length - (intOf i).toNat)
  case atStart => exact ⟨0, Nat.zero_le _, rfl, rfl, Lib.hid (Below.refl _ _)⟩
  case round =>
    obtain ⟨k, hk, rfl, rfl, hb⟩ := hrel
    have c0 := block_cell (keepZ K0.out hb.out)
    by_cases hlt : k < c.sw.length
    · have hp := HP.out k hk
      have hpw := wrap64_pow (k := k) (by omega)
      have k0 : (0 : Int) ≤ k := by omega
      obtain ⟨A, hA⟩ : ∃ A, 2 ^ k = A := ⟨_, rfl⟩
      have a20 : A < 1048576 := by rw [← hA]; exact pow_set (by omega)
      have HV2 := Lib.hid (HV.out.below hb.out (Nat.le_refl _))
      have c1 := block_cell (keepZ K1.out hb.out)
      have HN0 := Lib.hid (HNO.out k)
      have HY0 := Lib.hid (HYES.out k)
      have hor := i64_or_nat (bitsOf (fun k => toldB c t (2 ^ k)) k) A (by omega) (by omega)
      rw [hA] at hpw HN0 HY0
      generalize bitsOf (fun k => toldB c t (2 ^ k)) k = x at *
      clear hA
      go_wp2_with fail
      refine (rtells_any c t _ wv A _ HV2.out HC.out HT.out a20).mono ?_
      rintro e w2 ⟨rfl, hb2⟩
      have HB2 := Lib.hid (hb.out.trans (hb2.mono hb.out.size))
      clear hb2 c0 c1
      cases hq : toldB c t A
      · have HN := Lib.hid (HN0.out hq)
        clear hq
        go_wp2_with fail
        go_roundw
        case rel => exact ⟨k + 1, hlt, by go_num, by rw [HN.out], HB2⟩
        case measure => simp [intOf]; omega
      · have HN := Lib.hid (HY0.out hq)
        clear hq
        go_wp2_with fail
        go_roundw
        case rel => exact ⟨k + 1, hlt, by go_num, by rw [HN.out], HB2⟩
        case measure => simp [intOf]; omega
    · obtain rfl : k = c.sw.length := by omega
      go_wp2_with fail
      go_ret
      exact ⟨ret_int (by rw [HFIN.out]), HB.out.trans (hb.out.mono HB.out.size)⟩

end Go.Proofs.Ytbiihhokcmdlhaa

/- Walks of layer 3 (circuit): CheckTrials of the specification. -/
namespace Go.Proofs.Ytbiihhokcmdlhaa
open Go.RowKit

theorem tri_false {c : Cir} {l : List Tri} {k : Nat} (_hk : k < l.length) {b1 b2 : Bool} (h1 : setB (l.getD k Tri.zero).hz c.hz.toNat = b1)
    (h2 : decide (0 ≤ (l.getD k Tri.zero).wire ∧ (l.getD k Tri.zero).wire ≤ (c.ws.length : Int) - 1) = b2) : triB c (l.getD k Tri.zero) = (b1 && b2) := by
  unfold triB
  rw [h1, ← h2]

theorem all_tri_no {c : Cir} {l : List Tri} {k : Nat} (hk : k < l.length) (h : triB c (l.getD k Tri.zero) = false) : l.all (triB c) = false := by
  rw [List.all_eq_false]
  exact ⟨_, getD_mem hk Tri.zero, by rw [h]; simp⟩

theorem all_tri_yes {c : Cir} {l : List Tri} (h : ∀ j, j < l.length → triB c (l.getD j Tri.zero) = true) : l.all (triB c) = true := by
  rw [List.all_eq_true]
  intro x hx
  obtain ⟨j, hj, rfl⟩ := List.getElem_of_mem hx
  have := h j hj
  rwa [List.getD_eq_getElem?_getD, List.getElem?_eq_getElem hj] at this

set_option maxRecDepth 100000 in
set_option maxHeartbeats 4000000 in
theorem rcheckT_any (c : Cir) (l : List Tri) (sv wv v : Value) (w : World) (hv : CirAt w sv wv c) (hl : TrAt w v l) :
    Calls Try.prog 51 #[cirV c sv wv, v] w fun e w' => e = .returned (.int .i64 (chkT c l)) ∧ Below w.heap.size w w' := by
  have HB := Lib.hid ((Below.refl w.heap.size w).alloc (Nat.le_refl _) (cirO c sv wv))
  have K0 := Lib.hid (block_new w (cirO c sv wv) w.heap.size rfl)
  have HV := Lib.hid (hv.below HB.out (Nat.le_refl _))
  have HT := Lib.hid (hl.below HB.out (Nat.le_refl _))
  obtain ⟨_, ⟨wa, wcap, rfl, _⟩⟩ := hv
  obtain ⟨ta, tcap, rfl, m1, m2, _⟩ := hl
  have m3 : (l.length : Int) ≤ 9223372036854775807 := by omega
  cases hq : validB c
  · have HR := Lib.hid (chkT_bad l hq)
    have HR0 := Lib.hid (chkC_bad hq)
    clear hq
    go_enter Try.func51, Try.ntmps51
    go_wp2_with fail
    generalize w.alloc (cirO c sv (.slice wa c.ws.length wcap)) = wA at *
    refine (rcheck_any c _ _ _ HV.out).mono ?_
    rintro e w1 ⟨rfl, hb1⟩
    rw [← HR0.out]
    go_wp2
    go_ret
    exact ⟨ret_int HR.out, HB.out.trans (hb1.mono HB.out.size)⟩
  · have HR0 := Lib.hid (chkC_ok hq)
    by_cases hl : 12 < l.length
    · have HR := Lib.hid (chkT_many hq hl)
      have hl2 : (12 : Int) < l.length := by omega
      clear hq hl
      go_enter Try.func51, Try.ntmps51
      go_wp2_with fail
      generalize w.alloc (cirO c sv (.slice wa c.ws.length wcap)) = wA at *
      refine (rcheck_any c _ _ _ HV.out).mono ?_
      rintro e w1 ⟨rfl, hb1⟩
      rw [← HR0.out]
      go_wp2
      go_ret
      exact ⟨ret_int HR.out, HB.out.trans (hb1.mono HB.out.size)⟩
    · have HC := Lib.hid (cval hq)
      have w24 := (cval hq).w2
      have hl2 : ¬ (12 : Int) < l.length := by omega
      have HTB := Lib.hid (fun h => chkT_trial (l := l) hq hl h)
      have HTO := Lib.hid (fun h => chkT_ok (l := l) hq hl h)
      clear hq
      go_enter Try.func51, Try.ntmps51
      go_wp2_with fail
      generalize w.alloc (cirO c sv (.slice wa c.ws.length wcap)) = wA at *
      refine (rcheck_any c _ _ _ HV.out).mono ?_
      rintro e w1 ⟨rfl, hb1⟩
      rw [← HR0.out]
      have HB1 := Lib.hid hb1
      clear hb1
      go_wp2_with fail
      go_loopw [5] (fun x wr => ∃ k : Nat, k ≤ l.length ∧ x = .int .i64 k ∧ Hid (Below wA.heap.size wA wr) ∧ Hid (∀ j, j < k → triB c (l.getD j Tri.zero) = true)) (fun x _ => l.length - (intOf x).toNat)
      case atStart => exact ⟨0, Nat.zero_le _, rfl, HB1, Lib.hid (fun j hj => by omega)⟩
      case round =>
        obtain ⟨k, hk, rfl, hb, hall⟩ := hrel
        by_cases hlt : k < l.length
        · obtain ⟨_, _, e1, _, _, hcc⟩ := HT.out
          injection e1 with e1 e2 e3
          subst e1
          obtain ⟨tb, toff, rfl, hbl, hcc⟩ := hcc (by omega)
          obtain ⟨g1, g2⟩ := tr_at hb.out hbl hcc hlt
          have hbl2 := Nat.lt_of_lt_of_le hbl hb.out.size
          have b1 := bw_cells (B := wr.heap.size) (keepZ K0.out hb.out) (lt_of_block (keepZ K0.out hb.out))
          have b2 := bw_cell (B := wr.heap.size) g1 hbl2
          have b3 := bw_cell (B := wr.heap.size) g2 hbl2
          have k1 : (0 : Int) ≤ k := by omega
          have k2 : (k : Int) < l.length := by omega
          have hwr : IntKind.i64.wrap ((c.ws.length : Int) - 1) = (c.ws.length : Int) - 1 := IntWalk.i64_in _ (by omega)
          obtain ⟨q1, h1⟩ : ∃ b, setB (l.getD k Tri.zero).hz c.hz.toNat = b := ⟨_, rfl⟩
          obtain ⟨q2, h2⟩ : ∃ b, decide (0 ≤ (l.getD k Tri.zero).wire ∧ (l.getD k Tri.zero).wire ≤ (c.ws.length : Int) - 1) = b := ⟨_, rfl⟩
          have HTF := Lib.hid (tri_false hlt h1 h2)
          have HNO := Lib.hid (fun h => HTB.out (all_tri_no hlt h))
          have H1 := Lib.hid h1
          have H2 := Lib.hid h2
          generalize hx : l.getD k Tri.zero = t at *
          have HX := Lib.hid hx
          clear g1 g2 hcc h1 h2 e2 e3 hx hl
          go_wp2_with fail
          cases q1
          · have HR := Lib.hid (HNO.out (HTF.out.trans rfl))
            refine wp_region_below (by kernel_rfl) (by kernel_rfl) (Below.refl wr.heap.size wr) ?_
            repeat ((with_reducible refine wpQuiet_step (fun K hK => ?_)); go_simp; first | (refine hK _ ?_; clear hK K) | (apply Exists.intro; refine ⟨fun _ => ?_, hK _ ?_⟩; ((go_at_call 48; exact bw_call (Nat.le_refl _) (rcond_is H1.out (rhaz_any c _ _ t.hz _ HC.out)))); clear hK K))
            refine wpQuiet_nil ?_
            intro wq hwq0
            have hwq := bw_out hwq0
            clear hwq0
            clear hwr b1 b2 b3
            go_wp2_with fail
            go_ret
            exact ⟨ret_int HR.out, HB.out.trans ((hb.out.trans (hwq.mono hb.out.size)).mono HB.out.size)⟩
          · cases q2
            · have HR := Lib.hid (HNO.out (HTF.out.trans rfl))
              refine wp_region_below (by kernel_rfl) (by kernel_rfl) (Below.refl wr.heap.size wr) ?_
              repeat ((with_reducible refine wpQuiet_step (fun K hK => ?_)); go_simp; first | (refine hK _ ?_; clear hK K) | (apply Exists.intro; refine ⟨fun _ => ?_, hK _ ?_⟩; (first | (go_at_call 48; exact bw_call (Nat.le_refl _) (rcond_is H1.out (rhaz_any c _ _ t.hz _ HC.out))) | (go_at_call 80; with_reducible exact bw_same (rwithin_is false t.wire 0 ((c.ws.length : Int) - 1) _ H2.out))); clear hK K))
              refine wpQuiet_nil ?_
              intro wq hwq0
              have hwq := bw_out hwq0
              clear hwq0
              clear hwr b1 b2 b3
              go_wp2_with fail
              go_ret
              exact ⟨ret_int HR.out, HB.out.trans ((hb.out.trans (hwq.mono hb.out.size)).mono HB.out.size)⟩
            · have HN := Lib.hid (show ∀ j, j < k + 1 → triB c (l.getD j Tri.zero) = true from fun j hj => by
                by_cases e : j = k
                · rw [e, HX.out]; exact HTF.out.trans rfl
                · exact hall.out j (by omega))
              refine wp_region_below (by kernel_rfl) (by kernel_rfl) (Below.refl wr.heap.size wr) ?_
              repeat ((with_reducible refine wpQuiet_step (fun K hK => ?_)); go_simp; first | (refine hK _ ?_; clear hK K) | (apply Exists.intro; refine ⟨fun _ => ?_, hK _ ?_⟩; (first | (go_at_call 48; exact bw_call (Nat.le_refl _) (rcond_is H1.out (rhaz_any c _ _ t.hz _ HC.out))) | (go_at_call 80; with_reducible exact bw_same (rwithin_is true t.wire 0 ((c.ws.length : Int) - 1) _ H2.out))); clear hK K))
              refine wpQuiet_nil ?_
              intro wq hwq0
              have hwq := bw_out hwq0
              clear hwq0
              clear b1 b2 b3
              have HB2 := Lib.hid (hb.out.trans (hwq.mono hb.out.size))
              clear hwq hwr
              go_wp2_with fail
              go_roundw
              case rel => exact ⟨k + 1, hlt, by go_num, HB2, HN⟩
              case measure => simp [intOf]; omega
        · have HR := Lib.hid (HTO.out (all_tri_yes (fun j hj => hall.out j (by omega))))
          go_wp2_with fail
          go_ret
          exact ⟨ret_int HR.out, HB.out.trans (hb.out.mono HB.out.size)⟩

end Go.Proofs.Ytbiihhokcmdlhaa

/- Walks of layer 3 (circuit): ValidRota of the specification, farRota of the laws. -/
namespace Go.Proofs.Ytbiihhokcmdlhaa
open Go.RowKit

set_option maxRecDepth 100000 in
set_option maxHeartbeats 4000000 in
theorem farRota_any (r : Rot) (nv : Value) (w : World) (hr : NsAt w nv r.nights) : Calls Try.prog 40 #[rotV r nv] w (BoolRes w) := by
  have HB := Lib.hid ((Below.refl w.heap.size w).alloc (Nat.le_refl _) (rotO r nv))
  have K0 := Lib.hid (block_new w (rotO r nv) w.heap.size rfl)
  have HN := Lib.hid (hr.below HB.out (Nat.le_refl _))
  obtain ⟨na, ncap, rfl, m3, m4, _⟩ := hr
  by_cases h80 : (80 : Int) < r.nights.length
  · go_enter Try.func40, Try.ntmps40
    go_wp2_with fail
    go_ret
    exact ⟨true, rfl, HB.out⟩
  go_enter Try.func40, Try.ntmps40
  go_wp2_with fail
  generalize w.alloc (rotO r (.slice na r.nights.length ncap)) = wA at *
  have c0 := block_cell K0.out
  go_loop [3] (fun i => ∃ k : Nat, k ≤ r.nights.length ∧ i = .int .i64 k) (fun i => r.nights.length - (intOf i).toNat)
  case atStart => exact ⟨0, Nat.zero_le _, rfl⟩
  case round =>
    obtain ⟨k, hk, rfl⟩ := hrel
    by_cases hlt : k < r.nights.length
    · obtain ⟨na', ncap', e1, _, _, hcc⟩ := HN.out
      injection e1 with e1 e2 e3
      subst e1
      obtain ⟨b, off, rfl, hbl, hcc⟩ := hcc (by omega)
      obtain ⟨u, g3, q2⟩ := hcc k hlt
      obtain ⟨ua, ucap, rfl, u1, u2, _⟩ := q2
      have k1 : (0 : Int) ≤ k := by omega
      have k2 : (k : Int) < r.nights.length := by omega
      generalize r.nights.getD k [] = ks at *
      clear hcc e2 e3
      by_cases h20 : (20 : Int) < ks.length
      · go_wp2_with fail
        go_ret
        exact ⟨true, rfl, HB.out⟩
      · go_wp2_with fail
        go_round
        case rel => exact ⟨k + 1, hlt, by go_num⟩
        case measure => simp [intOf]; omega
    · go_wp2_with fail
      go_ret
      exact ⟨false, rfl, HB.out⟩

theorem rot_night {m : Int} {r : Rot} {b1 b2 : Bool} {k : Nat} (hk : k < r.nights.length) (hs : rotB m r = (b1 && b2 && r.nights.all (ascB (m - 1) 0))) (h : ascB (m - 1) 0 (r.nights.getD k []) = false) : false = rotB m r := by
  have e : r.nights.all (ascB (m - 1) 0) = false := by
    rw [List.all_eq_false]
    exact ⟨_, getD_mem hk [], by rw [h]; simp⟩
  rw [hs, e, Bool.and_false]

theorem rot_all {m : Int} {r : Rot} (hs : rotB m r = (true && true && r.nights.all (ascB (m - 1) 0))) (h : ∀ j, j < r.nights.length → ascB (m - 1) 0 (r.nights.getD j []) = true) : true = rotB m r := by
  have e : r.nights.all (ascB (m - 1) 0) = true := by
    rw [List.all_eq_true]
    intro x hx
    obtain ⟨j, hj, rfl⟩ := List.getElem_of_mem hx
    have := h j hj
    rwa [List.getD_eq_getElem?_getD, List.getElem?_eq_getElem hj] at this
  rw [hs, e]; rfl

set_option maxRecDepth 100000 in
set_option maxHeartbeats 4000000 in
theorem rvalidR_any (r : Rot) (m : Nat) (nv : Value) (w : World) (hr : NsAt w nv r.nights) (hm : m ≤ 12) :
    Calls Try.prog 52 #[rotV r nv, .int .i64 m] w fun e w' => e = .returned (.bool (rotB m r)) ∧ Below w.heap.size w w' := by
  have HB := Lib.hid ((Below.refl w.heap.size w).alloc (Nat.le_refl _) (rotO r nv))
  have K0 := Lib.hid (block_new w (rotO r nv) w.heap.size rfl)
  have HN := Lib.hid (hr.below HB.out (Nat.le_refl _))
  obtain ⟨na, ncap, rfl, m3, m4, _⟩ := hr
  obtain ⟨b1, h1⟩ : ∃ b, decide (1 ≤ (r.nights.length : Int) ∧ (r.nights.length : Int) ≤ 60) = b := ⟨_, rfl⟩
  obtain ⟨b2, h2⟩ : ∃ b, decide (1 ≤ r.gap ∧ r.gap ≤ 60) = b := ⟨_, rfl⟩
  have HS := Lib.hid (rot_sizes (m := m) h1 h2)
  have H1 := Lib.hid h1
  have H2 := Lib.hid h2
  clear h1 h2
  by_cases hall : (b1 && b2) = true
  · simp only [Bool.and_eq_true] at hall
    obtain ⟨rfl, rfl⟩ := hall
    go_enter Try.func52, Try.ntmps52
    go_wp2_with fail
    generalize w.alloc (rotO r (.slice na r.nights.length ncap)) = wA at *
    have c0 := block_cell K0.out
    go_wp2_with (go_at_call 80; (first | (with_reducible refine (rwithin_is _ (r.nights.length : Int) 1 60 _ H1.out).mono ?_) | (with_reducible refine (rwithin_is _ r.gap 1 60 _ H2.out).mono ?_)); rintro e w2 ⟨rfl, rfl⟩)
    go_loop [5] (fun i => ∃ k : Nat, k ≤ r.nights.length ∧ i = .int .i64 k ∧ Hid (∀ j, j < k → ascB ((m : Int) - 1) 0 (r.nights.getD j []) = true)) (fun i => r.nights.length - (intOf i).toNat)
    case atStart => exact ⟨0, Nat.zero_le _, rfl, Lib.hid (fun j hj => by omega)⟩
    case round =>
      obtain ⟨k, hk, rfl, hf⟩ := hrel
      by_cases hlt : k < r.nights.length
      · obtain ⟨na', ncap', e1, _, _, hcc⟩ := HN.out
        injection e1 with e1 e2 e3
        subst e1
        obtain ⟨b, off, rfl, hbl, hcc⟩ := hcc (by omega)
        obtain ⟨u, g3, q2⟩ := hcc k hlt
        have k1 : (0 : Int) ≤ k := by omega
        have k2 : (k : Int) < r.nights.length := by omega
        have HNO := Lib.hid (fun h => rot_night (m := m) hlt HS.out h)
        obtain ⟨ua, ucap, rfl, u1, u2, ucc⟩ := q2
        have UC := Lib.hid ucc
        generalize hks : r.nights.getD k [] = ks at *
        have HKS := Lib.hid hks
        clear hcc e2 e3 hks ucc
        go_wp2_with fail
        go_loop [6, 7] (fun y x => ∃ j : Nat, j ≤ ks.length ∧ x = .int .i64 j ∧ ∃ lo : Int, -1 ≤ lo ∧ lo ≤ 12 ∧ y = .int .i64 lo ∧ Hid (ascB ((m : Int) - 1) 0 ks = ascB ((m : Int) - 1) (lo + 1) (ks.drop j))) (fun _ x => ks.length - (intOf x).toNat)
        case atStart => exact ⟨0, Nat.zero_le _, rfl, -1, by omega, by omega, rfl, Lib.hid (by rw [List.drop_zero]; rfl)⟩
        case round =>
          obtain ⟨j, hj, rfl, lo, lo1, lo2, rfl, hA⟩ := hrel
          by_cases hlj : j < ks.length
          · obtain ⟨ub, uoff, rfl, hubl, ucc⟩ := UC.out (by omega)
            have g4 := ucc j hlj
            have hA2 := hA.out
            rw [ascB_some hlj] at hA2
            generalize ks.getD j 0 = q at g4 hA2
            have HA2 := Lib.hid hA2
            have j1 : (0 : Int) ≤ j := by omega
            have j2 : (j : Int) < ks.length := by omega
            clear ucc hA2
            cases hq : decide (lo + 1 ≤ q ∧ q ≤ (m : Int) - 1)
            · have HQ := Lib.hid hq
              have HR := Lib.hid (HNO.out (by rw [HA2.out, hq]; rfl))
              clear hq
              go_wp2_with fail
              refine (rwithin_is _ _ _ _ _ HQ.out).mono ?_
              rintro e w2 ⟨rfl, rfl⟩
              go_wp2_with fail
              go_ret
              exact ⟨ret_bool HR.out, HB.out⟩
            · have HQ := Lib.hid hq
              have HA3 := Lib.hid (show ascB ((m : Int) - 1) 0 ks = ascB ((m : Int) - 1) (q + 1) (ks.drop (j + 1)) by rw [HA2.out, hq]; rfl)
              simp only [decide_eq_true_eq] at hq
              obtain ⟨q1, q2⟩ := hq
              go_wp2_with fail
              refine (rwithin_is _ _ _ _ _ HQ.out).mono ?_
              rintro e w2 ⟨rfl, rfl⟩
              go_wp2_with fail
              go_round
              case rel => exact ⟨j + 1, hlj, by go_num, q, by omega, by omega, rfl, HA3⟩
              case measure => simp [intOf]; omega
          · have HT := Lib.hid (show ascB ((m : Int) - 1) 0 ks = true by rw [hA.out, ascB_none (by omega)])
            go_wp2_with fail
            go_round
            case rel => exact ⟨k + 1, hlt, by go_num, Lib.hid (fun i hi => by
              by_cases e : i = k
              · rw [e, HKS.out]; exact HT.out
              · exact hf.out i (by omega))⟩
            case measure => simp [intOf]; omega
      · have HR := Lib.hid (rot_all HS.out (fun j hj => hf.out j (by omega)))
        go_wp2_with fail
        go_ret
        exact ⟨ret_bool HR.out, HB.out⟩
  · have HR := Lib.hid (show false = rotB m r by rw [HS.out]; simp only [Bool.not_eq_true] at hall; rw [hall]; rfl)
    cases b1 <;> cases b2
    all_goals try (exact absurd rfl hall)
    all_goals
      clear hall
      go_enter Try.func52, Try.ntmps52
      go_wp2_with fail
      generalize w.alloc (rotO r (.slice na r.nights.length ncap)) = wA at *
      have c0 := block_cell K0.out
      go_wp2_with (go_at_call 80; (first | (with_reducible refine (rwithin_is _ (r.nights.length : Int) 1 60 _ H1.out).mono ?_) | (with_reducible refine (rwithin_is _ r.gap 1 60 _ H2.out).mono ?_)); rintro e w2 ⟨rfl, rfl⟩)
      go_ret
      exact ⟨ret_bool HR.out, HB.out⟩

end Go.Proofs.Ytbiihhokcmdlhaa

/- Layer 3 (circuit): the list that the specification's every makes (its walk is not written: see NOTES). -/
namespace Go.Proofs.Ytbiihhokcmdlhaa
open Go.RowKit

def everyTo (c : Cir) (l : List Tri) (k : Nat) : List Nat := (l.take k).map (shownM c)
theorem everyTo_len {c : Cir} {l : List Tri} {k : Nat} (h : k ≤ l.length) : (everyTo c l k).length = k := by unfold everyTo; simp; omega
theorem everyTo_all (c : Cir) (l : List Tri) : everyTo c l l.length = setsM c l := by unfold everyTo setsM; simp
theorem everyTo_succ {c : Cir} {l : List Tri} {k : Nat} (h : k < l.length) : everyTo c l (k + 1) = everyTo c l k ++ [shownM c (l.getD k Tri.zero)] := by
  unfold everyTo
  rw [List.take_succ_eq_append_getElem h, List.getD_eq_getElem?_getD, List.getElem?_eq_getElem h, List.map_append]
  rfl

end Go.Proofs.Ytbiihhokcmdlhaa

/- append of a slice of elements (XGs) to a row that is owned: what every layer uses. -/
namespace Go.Proofs.Ytbiihhokcmdlhaa
open Go.RowKit

theorem own_base {w : World} {base : Nat} {e : TypeId} {m : Nat} {v : Value} {n : Nat} {xs : List Value} (h : w.ownsRow base e m v n xs) : ∀ k, v.ownBlock = some k → base ≤ k := by
  intro k hk
  rcases h.2 with ⟨rfl, _⟩ | ⟨g, cap, cur, rfl, hb, _⟩
  · simp [Value.ownBlock] at hk
  · simp [Value.ownBlock] at hk; omega

/-- append of a nil slice, whatever capacity it bears. -/
theorem app_nilc {P : Program} {w : World} {ops : Array Oper} {rest : List Oper} {o : Oper} {a : Act} {Q : Exit → Act → World → Prop} (hgd : o.guard = none) (s x : Operand) (t : TypeId)
    (ho : o.op = .call { callee := .builtin .append, args := #[s, x], argTypes := #[t, t] })
    (base : Nat) (e : TypeId) (i : TypeInfo) (size : Nat) (ht : P.underlying t = some (.slice e)) (hi : P.info? e = some i)
    (v : Value) (n : Nat) (xs : List Value) (c : Nat) (hs : a.eval s = v) (hown : w.ownsRow base e size v n xs) (hx : a.eval x = .slice none 0 c)
    (h : wpList P ops Q rest (a.put o.dst v) w) : wpList P ops Q (o :: rest) a w := by
  refine wpList_plain hgd fun K hK => ?_
  have hrun : (Builtin.append_ #[t, t] o.type #[v, .slice none 0 c]).run P w = .ok v w := by
    rcases hown.2 with ⟨rfl, rfl⟩ | ⟨g, cap, cur, rfl, _, _, hnc, _⟩
    · simp [Builtin.append_, run_underlying ht, sizeOf, typeInfo, hi, Builtin.lenOf, Builtin.firstCells]
    · simp [Builtin.append_, run_underlying ht, sizeOf, typeInfo, hi, Builtin.lenOf, Builtin.firstCells, hnc, storeCells]
  unfold Oper.wp
  simp [execOp, ho, resolve, invoke, builtin, hs, hx, hrun, Result.andThen]
  exact hK _ _ h

/-- append of elements that came in. -/
theorem app_elAt {P : Program} {w : World} {ops : Array Oper} {rest : List Oper} {o : Oper} {a : Act} {Q : Exit → Act → World → Prop} (hgd : o.guard = none) (s x : Operand) (t : TypeId)
    (ho : o.op = .call { callee := .builtin .append, args := #[s, x], argTypes := #[t, t] })
    (base : Nat) (e : TypeId) (i : TypeInfo) (z : Value) (size bytes : Nat) (ht : P.underlying t = some (.slice e)) (hi : P.info? e = some i) (hz : i.zero = some z)
    (hsize : i.size = size) (hby : i.bytes = bytes) (hzs : z.cells.size = size) (hsz : 0 < size)
    {α : Type} (f : α → List Value) (hf : ∀ x, (f x).length = size) (hf1 : ∀ x, ∀ u ∈ f x, u.oneCell' = true)
    (v : Value) (xs ys : List α) (hs : a.eval s = v) (hown : w.ownsRow base e size v xs.length (xs.flatMap f)) (vx : Value) (hx : a.eval x = vx) (hy : ElAt size f w vx ys)
    (h63 : xs.length + ys.length ≤ maxLen) (hbytes : (xs.length + ys.length) * bytes ≤ 140737488355328) (hbase : base ≤ w.heap.size)
    (h : ∀ v' w', w'.ownsRow base e size v' (xs ++ ys).length ((xs ++ ys).flatMap f) → Below base w w' → wpList P ops Q rest (a.put o.dst v') w') : wpList P ops Q (o :: rest) a w := by
  obtain ⟨ao, cap, rfl, h1, h2, h3⟩ := hy
  cases ao with
  | none =>
    have hy0 : ys = [] := by
      rcases Nat.eq_zero_or_pos ys.length with h0 | h0
      · exact List.eq_nil_of_length_eq_zero h0
      · obtain ⟨b, off, e1, _⟩ := h3 h0
        cases e1
    subst hy0
    exact app_nilc hgd s x t ho base e i size ht hi v _ _ cap hs hown hx (h v w (by simpa using hown) (Below.refl _ _))
  | some ad =>
    refine wpList_append_own w hgd s x t ho base e i z size bytes ht hi hz hsize hby hzs hsz v xs.length _ hs hown ad ys.length cap (ys.flatMap f) hx (flat_len hf ys) ?_ ?_ h63 hbytes hbase
      (fun v' w' o g _ => h v' w' (by rw [List.length_append, List.flatMap_append]; exact o) (below_grown g (own_base hown) hbase))
    · rcases Nat.eq_zero_or_pos ys.length with h0 | h0
      · have : ys = [] := List.eq_nil_of_length_eq_zero h0
        subst this
        intro j u hj
        simp at hj
      · obtain ⟨b, off, e1, _⟩ := h3 h0
        obtain rfl := Option.some.inj e1
        exact ElAt.news hf ⟨_, cap, rfl, h1, h2, h3⟩ h0
    · intro u hu
      obtain ⟨x, _, hx⟩ := List.mem_flatMap.1 hu
      exact hf1 x u hx

end Go.Proofs.Ytbiihhokcmdlhaa

/- append of a slice of elements to a row that is owned, as a step of a region that draws its order: what every layer uses. -/
namespace Go.Proofs.Ytbiihhokcmdlhaa
open Go.RowKit

theorem step_app_elAt {P : Program} {w : World} {ops : Array Oper} {o : Oper} {a : Act} {K : Act → World → Prop} {Q : Exit → Act → World → Prop} {E : Prop} (hgd : o.guard = none) (s x : Operand) (t : TypeId)
    (ho : o.op = .call { callee := .builtin .append, args := #[s, x], argTypes := #[t, t] })
    (base : Nat) (e : TypeId) (i : TypeInfo) (z : Value) (size bytes : Nat) (ht : P.underlying t = some (.slice e)) (hi : P.info? e = some i) (hz : i.zero = some z)
    (hsize : i.size = size) (hby : i.bytes = bytes) (hzs : z.cells.size = size) (hsz : 0 < size)
    {α : Type} (f : α → List Value) (hf : ∀ x, (f x).length = size) (hf1 : ∀ x, ∀ u ∈ f x, u.oneCell' = true)
    (v : Value) (xs ys : List α) (hs : a.eval s = v) (hown : w.ownsRow base e size v xs.length (xs.flatMap f)) (vx : Value) (hx : a.eval x = vx) (hy : ElAt size f w vx ys)
    (h63 : xs.length + ys.length ≤ maxLen) (hbytes : (xs.length + ys.length) * bytes ≤ 140737488355328) (hbase : base ≤ w.heap.size)
    (h : ∀ v' w', w'.ownsRow base e size v' (xs ++ ys).length ((xs ++ ys).flatMap f) → Below base w w' → K (a.put o.dst v') w') :
    if Region.wanted o (yielded ops a.tmps) = true then Oper.wp P o a w K Q else E := by
  have hw : Region.wanted o (yielded ops a.tmps) = true := by simp [Region.wanted, hgd]
  rw [if_pos hw]
  obtain ⟨ao, cap, rfl, h1, h2, h3⟩ := hy
  cases ao with
  | none =>
    have hy0 : ys = [] := by
      rcases Nat.eq_zero_or_pos ys.length with h0 | h0
      · exact List.eq_nil_of_length_eq_zero h0
      · obtain ⟨b, off, e1, _⟩ := h3 h0
        cases e1
    subst hy0
    have hrun : (Builtin.append_ #[t, t] o.type #[v, .slice none 0 cap]).run P w = .ok v w := by
      rcases hown.2 with ⟨rfl, h0⟩ | ⟨g, cap', cur, rfl, _, _, hnc, _⟩
      · simp [Builtin.append_, run_underlying ht, sizeOf, typeInfo, hi, Builtin.lenOf, Builtin.firstCells]
      · simp [Builtin.append_, run_underlying ht, sizeOf, typeInfo, hi, Builtin.lenOf, Builtin.firstCells, hnc, storeCells]
    unfold Oper.wp
    simp only [List.length_nil] at hx
    simp [execOp, ho, resolve, invoke, builtin, hs, hx, hrun, Result.andThen]
    exact h v w (by simpa using hown) (Below.refl _ _)
  | some ad =>
    refine wp_append_own w s x t ho base e i z size bytes ht hi hz hsize hby hzs hsz v xs.length _ hs hown ad ys.length cap (ys.flatMap f) hx (flat_len hf ys) ?_ ?_ h63 hbytes hbase
      (fun v' w' o g _ => h v' w' (by rw [List.length_append, List.flatMap_append]; exact o) (below_grown g (own_base hown) hbase))
    · rcases Nat.eq_zero_or_pos ys.length with h0 | h0
      · have : ys = [] := List.eq_nil_of_length_eq_zero h0
        subst this
        intro j u hj
        simp at hj
      · obtain ⟨b, off, e1, _⟩ := h3 h0
        obtain rfl := Option.some.inj e1
        exact ElAt.news hf ⟨_, cap, rfl, h1, h2, h3⟩ h0
    · intro u hu
      obtain ⟨x, _, hx⟩ := List.mem_flatMap.1 hu
      exact hf1 x u hx

end Go.Proofs.Ytbiihhokcmdlhaa
