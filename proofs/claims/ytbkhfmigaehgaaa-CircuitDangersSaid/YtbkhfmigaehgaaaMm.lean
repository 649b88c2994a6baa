/- Walks of layer 3 (circuit): Weak, Critical, Pairs of the specification. -/
import Derived.Test.YtbkhfmigaehgaaaMl
import Derived.Test.YtbkhfmigaehgaaaMj
namespace Go.Proofs.Ytbkhfmigaehgaaa
open Go.RowKit

set_option maxRecDepth 100000 in
set_option maxHeartbeats 4000000 in
theorem rWeak_any (c : Cir) (sv wv : Value) (k : Int) (w : World) (hv : CirAt w sv wv c) :
    Calls Try.prog 25 #[cirV c sv wv, .int .i64 k] w (ListErr (weakR c k) (weakE c k) w) := by
  have HB := Lib.hid ((Below.refl w.heap.size w).alloc (Nat.le_refl _) (cirO c sv wv))
  have K0 := Lib.hid (block_new w (cirO c sv wv) w.heap.size rfl)
  have HV := Lib.hid (hv.below HB.out (Nat.le_refl _))
  obtain ⟨⟨sa, scap, rfl, _, m2, _⟩, _⟩ := hv
  cases hq : validB c
  · have HR0 := Lib.hid (chkC_bad hq)
    have HE := Lib.hid (show weakE c k = 30 by unfold weakE; rw [hq]; rfl)
    have HL := Lib.hid (show weakR c k = [] by unfold weakR; rw [HE.out]; rfl)
    clear hq
    go_enter Try.func25, Try.ntmps25
    go_wp2_with fail
    generalize w.alloc (cirO c (.slice sa c.sw.length scap) wv) = wA at *
    refine (rcheck_any c _ _ _ HV.out).mono ?_
    rintro e w1 ⟨rfl, hb1⟩
    rw [← HR0.out]
    go_wp2
    go_ret2
    exact ⟨.slice none 0 0, by rw [HE.out]; rfl, by rw [HL.out]; exact InAt.nil _, HB.out.trans (hb1.mono HB.out.size)⟩
  · have HR0 := Lib.hid (chkC_ok hq)
    have HC := Lib.hid (cval hq)
    have s12 := (cval hq).s2
    cases hs : setB k c.sw.length
    · have HE := Lib.hid (show weakE c k = 1 by unfold weakE; rw [hq, hs]; rfl)
      have HL := Lib.hid (show weakR c k = [] by unfold weakR; rw [HE.out]; rfl)
      have HS := Lib.hid hs
      clear hq hs
      go_enter Try.func25, Try.ntmps25
      go_wp2_with fail
      generalize w.alloc (cirO c (.slice sa c.sw.length scap) wv) = wA at *
      refine (rcheck_any c _ _ _ HV.out).mono ?_
      rintro e w1 ⟨rfl, hb1⟩
      rw [← HR0.out]
      have c0 := block_cell (keepZ K0.out hb1)
      have HB1 := Lib.hid hb1
      have HV1 := Lib.hid (HV.out.below hb1 (Nat.le_refl _))
      clear hb1
      go_wp2_with fail
      refine (rcond_is HS.out (rswi_any c _ wv k _ HV1.out HC.out)).mono ?_
      rintro e w2 ⟨rfl, hb2⟩
      have HB2 := Lib.hid (HB1.out.trans (hb2.mono HB1.out.size))
      clear hb2 c0
      go_wp2_with fail
      go_ret2
      exact ⟨.slice none 0 0, by rw [HE.out]; rfl, by rw [HL.out]; exact InAt.nil _, HB.out.trans (HB2.out.mono HB.out.size)⟩
    · have HE := Lib.hid (show weakE c k = 0 by unfold weakE; rw [hq, hs]; rfl)
      have HL := Lib.hid (show weakR c k = natL (weakM c k.toNat) by unfold weakR; rw [HE.out]; rfl)
      have HS := Lib.hid hs
      obtain ⟨kn, rfl, kn20⟩ := set_nat hs (by omega)
      clear hq hs
      go_enter Try.func25, Try.ntmps25
      go_wp2_with fail
      generalize w.alloc (cirO c (.slice sa c.sw.length scap) wv) = wA at *
      refine (rcheck_any c _ _ _ HV.out).mono ?_
      rintro e w1 ⟨rfl, hb1⟩
      rw [← HR0.out]
      have c0 := block_cell (keepZ K0.out hb1)
      have HB1 := Lib.hid hb1
      have HV1 := Lib.hid (HV.out.below hb1 (Nat.le_refl _))
      clear hb1
      go_wp2_with fail
      refine (rcond_is HS.out (rswi_any c _ wv kn _ HV1.out HC.out)).mono ?_
      rintro e w2 ⟨rfl, hb2⟩
      have HB2 := Lib.hid (HB1.out.trans (hb2.mono HB1.out.size))
      clear hb2 c0
      have c0 := block_cell (keepZ K0.out HB2.out)
      go_wp2_with fail
      refine (rweak_any c _ wv kn _ (HV.out.below HB2.out (Nat.le_refl _)) HC.out kn20).mono ?_
      rintro e w3 ⟨v, rfl, hin, hb3⟩
      have HI := Lib.hid hin
      clear hin c0
      go_wp2
      go_ret2
      exact ⟨v, by rw [HE.out]; rfl, by rw [HL.out, Int.toNat_natCast]; exact HI.out, HB.out.trans ((HB2.out.trans (hb3.mono HB2.out.size)).mono HB.out.size)⟩

theorem critTo_no {c : Cir} {k : Nat} (h : dangB c (2 ^ k) = false) : (List.range (k + 1)).filter (fun h => dangB c (2 ^ h)) = (List.range k).filter (fun h => dangB c (2 ^ h)) := filter_no (p := fun h => dangB c (2 ^ h)) h
theorem critTo_yes {c : Cir} {k : Nat} (h : dangB c (2 ^ k) = true) : (List.range (k + 1)).filter (fun h => dangB c (2 ^ h)) = (List.range k).filter (fun h => dangB c (2 ^ h)) ++ [k] := filter_yes (p := fun h => dangB c (2 ^ h)) h

theorem dang_no {c : Cir} {cl : Nat} (h : dangB c cl = false) : (weakM c cl).length = 0 := by
  have := dang_len c cl
  rw [h, decide_eq_false_iff_not] at this
  omega
theorem dang_yes {c : Cir} {cl : Nat} (h : dangB c cl = true) : 0 < (weakM c cl).length := by
  have := dang_len c cl
  rw [h, decide_eq_true_eq] at this
  exact this

set_option maxRecDepth 100000 in
set_option maxHeartbeats 4000000 in
theorem rcritical_any (c : Cir) (sv wv : Value) (w : World) (hv : CirAt w sv wv c) :
    Calls Try.prog 28 #[cirV c sv wv] w (ListErr (critR c) (chkC c) w) := by
  have HB := Lib.hid ((Below.refl w.heap.size w).alloc (Nat.le_refl _) (cirO c sv wv))
  have K0 := Lib.hid (block_new w (cirO c sv wv) w.heap.size rfl)
  have HV := Lib.hid (hv.below HB.out (Nat.le_refl _))
  obtain ⟨⟨sa, scap, rfl, _, _, _⟩, _⟩ := hv
  cases hq : validB c
  · have HR := Lib.hid (chkC_bad hq)
    have HL := Lib.hid (show [] = critR c by unfold critR; rw [hq]; rfl)
    clear hq
    go_enter Try.func28, Try.ntmps28
    go_wp2_with fail
    generalize w.alloc (cirO c (.slice sa c.sw.length scap) wv) = wA at *
    refine (rcheck_any c _ _ _ HV.out).mono ?_
    rintro e w1 ⟨rfl, hb1⟩
    rw [← HR.out]
    go_wp2
    go_ret2
    exact ⟨.slice none 0 0, by rw [HR.out]; rfl, by rw [← HL.out]; exact InAt.nil _, HB.out.trans (hb1.mono HB.out.size)⟩
  · have HC := Lib.hid (cval hq)
    have HR := Lib.hid (chkC_ok hq)
    have HL := Lib.hid (show natL (critM c) = critR c by unfold critR; rw [hq]; rfl)
    have HFIN := Lib.hid (show critM c = (List.range c.sw.length).filter (fun h => dangB c (2 ^ h)) from rfl)
    have s2 := (cval hq).s2
    clear hq
    obtain ⟨i0, hi0, hz0, hz1, hz2⟩ := info_parts infoInt
    go_enter Try.func28, Try.ntmps28
    go_wp2_with fail
    generalize w.alloc (cirO c (.slice sa c.sw.length scap) wv) = wA at *
    refine (rcheck_any c _ _ _ HV.out).mono ?_
    rintro e w1 ⟨rfl, hb1⟩
    rw [← HR.out]
    have KW := Lib.hid (keepZ K0.out hb1)
    have HB1 := Lib.hid hb1
    clear hb1
    go_wp2_with fail
    go_loopw [4, 5] (fun v x wr => ∃ k : Nat, k ≤ c.sw.length ∧ x = .int .i64 k ∧ Hid (Below w1.heap.size w1 wr) ∧ Hid (wr.ownsRow w1.heap.size 3 1 v ((List.range k).filter (fun h => dangB c (2 ^ h))).length ((natL ((List.range k).filter (fun h => dangB c (2 ^ h)))).map (Value.int .i64)))) (fun _ x _ => c.sw.length - (intOf x).toNat)
    case atStart => exact ⟨0, Nat.zero_le _, rfl, Lib.hid (Below.refl _ _), Lib.hid ⟨by simp [natL], Or.inl ⟨rfl, by simp⟩⟩⟩
    case round =>
      obtain ⟨k, hk, rfl, hb, ho⟩ := hrel
      have c0 := block_cell (keepZ KW.out hb.out)
      obtain ⟨a, ac, rfl, hown⟩ := ownsRow_shape ho.out
      have HOWN := Lib.hid hown
      clear hown
      by_cases hlt : k < c.sw.length
      · have hpw := wrap64_pow (k := k) (by omega)
        have k0 : (0 : Int) ≤ k := by omega
        obtain ⟨A, hA⟩ : ∃ A, 2 ^ k = A := ⟨_, rfl⟩
        have hA20 : A < 1048576 := by rw [← hA]; exact pow_set (by omega)
        have HNO := Lib.hid (critTo_no (c := c) (k := k))
        have HYES := Lib.hid (critTo_yes (c := c) (k := k))
        rw [hA] at hpw HNO HYES
        have hle := filter_len (fun h => dangB c (2 ^ h)) k
        generalize hL : (List.range k).filter (fun h => dangB c (2 ^ h)) = L at *
        have HLL := Lib.hid hL
        clear hL hA
        go_wp2_with fail
        refine (rweak_any c _ wv A _ (HV.out.below (HB1.out.trans (hb.out.mono HB1.out.size)) (Nat.le_refl _)) HC.out hA20).mono ?_
        rintro e w2 ⟨v, rfl, ⟨va, vcap, rfl, v1, v2, _⟩, hb2⟩
        rw [natL_len]
        rw [natL_len] at v1
        have HB2 := Lib.hid (hb.out.trans (hb2.mono hb.out.size))
        have HO2 := Lib.hid (ownsRow_below ho.out hb2)
        have hsz := HB2.out.size
        clear hb2 c0
        have c0 := block_cell (keepZ KW.out HB2.out)
        cases hd : dangB c A
        · have HN := Lib.hid (HNO.out hd)
          have hw0 := dang_no hd
          clear hd
          rw [hw0]
          clear hw0
          go_wp2_with fail
          go_roundw
          case rel => exact ⟨k + 1, hlt, by go_num, HB2, by rw [HN.out]; exact HO2⟩
          case measure => simp [intOf]; omega
        · have HN := Lib.hid (HYES.out hd)
          have hw0 := dang_yes hd
          clear hd
          generalize (weakM c A).length = M at *
          have hM : (0 : Int) < M := by omega
          go_wp2_with (at_builtin; refine wpList_append_own _ rfl (.tmp 23) (.tmp 25) 22 rfl w1.heap.size 3 i0 (.int .i64 0) 1 8 Try.underlying22 hi0 hz0 hz1 hz2 rfl (by decide) _ L.length ((natL L).map (Value.int .i64)) rfl ?c0 _ _ _ [.int .i64 k] rfl rfl ?c1 ?c2 ?c3 ?c4 ?c5 ?_)
          case c0 => exact World.ownsRow.alloc HO2.out _
          case c1 => exact one_cell _ _ _ rfl
          case c2 => intro u hu; simp only [List.mem_cons, List.not_mem_nil, or_false] at hu; subst hu; rfl
          case c3 => unfold maxLen; omega
          case c4 => omega
          case c5 => exact Nat.le_trans hsz (al_le _ _)
          intro v2 w4 hown2 hgrow _
          have hbX := below_grown hgrow HOWN.out (Nat.le_trans hsz (al_le _ _))
          have HBX := Lib.hid (HB2.out.trans (((Below.refl _ _).alloc hsz _).trans hbX))
          have HO4 := Lib.hid (own_snoc hown2)
          obtain ⟨r2, rc2, rfl, _⟩ := ownsRow_shape hown2
          clear hown2 hgrow hbX c0
          go_wp2
          go_roundw
          case rel => exact ⟨k + 1, hlt, by go_num, HBX, by rw [HN.out]; exact HO4⟩
          case measure => simp [intOf]; omega
      · obtain rfl : k = c.sw.length := by omega
        have HI := Lib.hid (InAt.of_own ho.out)
        go_wp2_with fail
        go_ret2
        exact ⟨_, by rw [HR.out]; rfl, by rw [← HL.out, HFIN.out]; exact HI.out, HB.out.trans ((HB1.out.trans (hb.out.mono HB1.out.size)).mono HB.out.size)⟩

theorem pairRow_start (c : Cir) (i : Nat) : ∀ k, k ≤ i + 1 → pairRow c i k = []
  | 0, _ => rfl
  | k + 1, h => by rw [pairRow_no (pairB_lt (by omega))]; exact pairRow_start c i k (by omega)

end Go.Proofs.Ytbkhfmigaehgaaa
