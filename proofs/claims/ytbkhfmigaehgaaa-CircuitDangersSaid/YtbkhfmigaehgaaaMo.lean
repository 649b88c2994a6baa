/- Walks of layer 3 (circuit): Pairs of the specification. -/
import Derived.Test.YtbkhfmigaehgaaaMm
import Derived.Test.YtbkhfmigaehgaaaMf
namespace Go.Proofs.Ytbkhfmigaehgaaa
open Go.RowKit

set_option maxRecDepth 100000 in
set_option maxHeartbeats 8000000 in
theorem rpairs_any (c : Cir) (sv wv : Value) (w : World) (hv : CirAt w sv wv c) :
    Calls Try.prog 30 #[cirV c sv wv] w (PairErr (pairsR c) (chkC c) w) := by
  have HB := Lib.hid ((Below.refl w.heap.size w).alloc (Nat.le_refl _) (cirO c sv wv))
  have K0 := Lib.hid (block_new w (cirO c sv wv) w.heap.size rfl)
  have HV := Lib.hid (hv.below HB.out (Nat.le_refl _))
  obtain ⟨⟨sa, scap, rfl, _, _, _⟩, _⟩ := hv
  cases hq : validB c
  · have HR := Lib.hid (chkC_bad hq)
    have HL := Lib.hid (show [] = pairsR c by unfold pairsR; rw [hq]; rfl)
    clear hq
    go_enter Try.func30, Try.ntmps30
    go_wp2_with fail
    generalize w.alloc (cirO c (.slice sa c.sw.length scap) wv) = wA at *
    refine (rcheck_any c _ _ _ HV.out).mono ?_
    rintro e w1 ⟨rfl, hb1⟩
    rw [← HR.out]
    go_wp2
    go_ret2
    exact ⟨.slice none 0 0, by rw [HR.out]; rfl, by rw [← HL.out]; exact ElAt.nil _, HB.out.trans (hb1.mono HB.out.size)⟩
  · have HC := Lib.hid (cval hq)
    have HR := Lib.hid (chkC_ok hq)
    have HL := Lib.hid (show pairsM c = pairsR c by unfold pairsR; rw [hq]; rfl)
    have s2 := (cval hq).s2
    have s1 := (cval hq).s1
    clear hq
    obtain ⟨i0, hi0, hz0, hz1, hz2⟩ := info_parts infoPair
    go_enter Try.func30, Try.ntmps30
    go_wp2_with fail
    generalize w.alloc (cirO c (.slice sa c.sw.length scap) wv) = wA at *
    refine (rcheck_any c _ _ _ HV.out).mono ?_
    rintro e w1 ⟨rfl, hb1⟩
    rw [← HR.out]
    have KW := Lib.hid (keepZ K0.out hb1)
    have HB1 := Lib.hid hb1
    clear hb1
    go_wp2_with fail
    go_loopw [4, 5] (fun x i wr => ∃ k : Nat, k ≤ c.sw.length ∧ i = .int .i64 k ∧ Hid (Below w1.heap.size w1 wr) ∧ Hid (wr.ownsRow w1.heap.size 71 2 x (pairTo c k).length ((pairTo c k).flatMap prL))) (fun _ i _ => c.sw.length - (intOf i).toNat)
    case atStart => exact ⟨0, Nat.zero_le _, rfl, Lib.hid (Below.refl _ _), Lib.hid ⟨by simp [pairTo], Or.inl ⟨rfl, by simp [pairTo]⟩⟩⟩
    case round =>
      obtain ⟨i, hi, rfl, hb, ho⟩ := hrel
      obtain ⟨wo, rfl⟩ : ∃ wo : World, wo = wr := ⟨_, rfl⟩
      obtain ⟨xa, xc, rfl, _⟩ := ownsRow_shape ho.out
      have c0 := block_cell (keepZ KW.out hb.out)
      by_cases hlt : i < c.sw.length
      · have R0 := Lib.hid (show wo.ownsRow w1.heap.size 71 2 (.slice xa (pairTo c i).length xc) (pairTo c i ++ pairRow c i (i + 1)).length ((pairTo c i ++ pairRow c i (i + 1)).flatMap prL) by
          rw [show pairTo c i ++ pairRow c i (i + 1) = pairTo c i by rw [pairRow_start c i _ (Nat.le_refl _)]; simp]; exact ho.out)
        have hpl := pairTo_len c i
        have hpl2 : (pairTo c i).length ≤ 144 := Nat.le_trans hpl (Nat.mul_le_mul (by omega : i ≤ 12) s2)
        have i1 : (0 : Int) ≤ i := by omega
        clear ho hpl
        go_wp2_with fail
        clear c0
        go_loopw [4, 6] (fun x j wr => ∃ k : Nat, i < k ∧ k ≤ c.sw.length ∧ j = .int .i64 k ∧ Hid (Below w1.heap.size w1 wr) ∧ Hid (wr.ownsRow w1.heap.size 71 2 x (pairTo c i ++ pairRow c i k).length ((pairTo c i ++ pairRow c i k).flatMap prL))) (fun _ j _ => c.sw.length - (intOf j).toNat)
        case atStart => exact ⟨i + 1, by omega, hlt, by go_num, hb, R0⟩
        case round =>
          obtain ⟨k, hik, hk, rfl, hb2, ho2⟩ := hrel
          obtain ⟨ya, yc, rfl, hown⟩ := ownsRow_shape ho2.out
          have c0 := block_cell (keepZ KW.out hb2.out)
          by_cases hlk : k < c.sw.length
          · have HO := Lib.hid ho2.out
            have HOWN := Lib.hid hown
            have hrl := pairRow_len c i k
            have h1 : (pairTo c i ++ pairRow c i k).length ≤ 156 := by rw [List.length_append]; omega
            have HN := Lib.hid (pairRow_no (c := c) (i := i) (k := k))
            have HY := Lib.hid (pairRow_yes (c := c) (i := i) (k := k))
            have HF := Lib.hid (pair_flat (pairTo c i ++ pairRow c i k) i k)
            have HPI := Lib.hid (pairB_i (c := c) (i := i) (k := k))
            have HPK := Lib.hid (pairB_k (c := c) (i := i) (k := k))
            have HPS := Lib.hid (pairB_is (c := c) hik)
            have k0 : (0 : Int) ≤ k := by omega
            have hpi := wrap64_pow (k := i) (by omega)
            have hpk := wrap64_pow (k := k) (by omega)
            clear hrl hown ho2
            obtain ⟨A, hA⟩ : ∃ A, 2 ^ i = A := ⟨_, rfl⟩
            obtain ⟨D, hD⟩ : ∃ D, 2 ^ k = D := ⟨_, rfl⟩
            have a20 : A < 1048576 := by rw [← hA]; exact pow_set (by omega)
            have d20 : D < 1048576 := by rw [← hD]; exact pow_set (by omega)
            have hor := i64_or_nat A D (by omega) (by omega)
            have ho20 : A ||| D < 1048576 := Nat.or_lt_two_pow (n := 20) a20 d20
            rw [hA] at HPI HPS hpi
            rw [hD] at HPK HPS hpk
            have HV2 := Lib.hid (HV.out.below (HB1.out.trans (hb2.out.mono HB1.out.size)) (Nat.le_refl _))
            generalize hLL : (pairTo c i ++ pairRow c i k) = L at *
            have HLL := Lib.hid hLL
            clear hA hD hLL
            generalize A ||| D = M at *
            go_wp2_with fail
            refine (rweak_any c _ wv A _ HV2.out HC.out a20).mono ?_
            rintro e w3 ⟨v, rfl, ⟨va, vcap, rfl, v1, v2, _⟩, hb3⟩
            rw [natL_len]
            rw [natL_len] at v1
            have HB3 := Lib.hid (hb2.out.trans (hb3.mono hb2.out.size))
            have HO3 := Lib.hid (ownsRow_below HO.out hb3)
            have HV3 := Lib.hid (HV2.out.below hb3 (Nat.le_refl _))
            clear hb3 c0
            have c0 := block_cell (keepZ KW.out HB3.out)
            cases hdi : dangB c A
            rotate_left
            · have HP := Lib.hid (HN.out (HPI.out hdi))
              have hw0 := dang_yes hdi
              clear hdi
              generalize (weakM c A).length = Z at *
              have hZ : ¬ ((Z : Nat) : Int) = 0 := by omega
              go_wp2_with fail
              go_roundw
              case rel => exact ⟨k + 1, by omega, hlk, by go_num, HB3, by rw [HP.out, HLL.out]; exact HO3⟩
              case measure => simp [intOf]; omega
            have D1 := Lib.hid hdi
            rw [dang_no hdi]
            clear hdi v1
            go_wp2_with fail
            refine (rweak_any c _ wv D _ HV3.out HC.out d20).mono ?_
            rintro e w4 ⟨v, rfl, ⟨va4, vcap4, rfl, v1, v2, _⟩, hb4⟩
            rw [natL_len]
            rw [natL_len] at v1
            have HB4 := Lib.hid (HB3.out.trans (hb4.mono HB3.out.size))
            have HO4 := Lib.hid (ownsRow_below HO3.out hb4)
            have HV4 := Lib.hid (HV3.out.below hb4 (Nat.le_refl _))
            clear hb4 c0
            have c0 := block_cell (keepZ KW.out HB4.out)
            cases hdk : dangB c D
            rotate_left
            · have HP := Lib.hid (HN.out (HPK.out hdk))
              have hw0 := dang_yes hdk
              clear hdk
              generalize (weakM c D).length = Z at *
              have hZ : ¬ ((Z : Nat) : Int) = 0 := by omega
              go_wp2_with fail
              go_roundw
              case rel => exact ⟨k + 1, by omega, hlk, by go_num, HB4, by rw [HP.out, HLL.out]; exact HO4⟩
              case measure => simp [intOf]; omega
            have D2 := Lib.hid hdk
            rw [dang_no hdk]
            clear hdk v1
            go_wp2_with fail
            refine (rweak_any c _ wv M _ HV4.out HC.out ho20).mono ?_
            rintro e w5 ⟨v, rfl, ⟨va5, vcap5, rfl, v1, v2, _⟩, hb5⟩
            rw [natL_len]
            rw [natL_len] at v1
            have HB5 := Lib.hid (HB4.out.trans (hb5.mono HB4.out.size))
            have HO5 := Lib.hid (ownsRow_below HO4.out hb5)
            have hsz5 := HB5.out.size
            clear hb5 c0
            have PB := Lib.hid (HPS.out D1.out D2.out)
            cases hpb : dangB c M
            · have HP := Lib.hid (HN.out (PB.out.trans hpb))
              rw [dang_no hpb]
              clear hpb v1
              go_wp2_with fail
              go_roundw
              case rel => exact ⟨k + 1, by omega, hlk, by go_num, HB5, by rw [HP.out, HLL.out]; exact HO5⟩
              case measure => simp [intOf]; omega
            · have HP := Lib.hid (HY.out (PB.out.trans hpb))
              have hw0 := dang_yes hpb
              clear hpb
              generalize (weakM c M).length = Z at *
              have hZ : (0 : Int) < Z := by omega
              go_wp2_with (at_builtin; refine wpList_append_own _ rfl (.tmp 55) (.tmp 59) 39 rfl w1.heap.size 71 i0 (.agg #[.int .i64 0, .int .i64 0]) 2 16 Try.underlying39 hi0 hz0 hz1 hz2 rfl (by decide) _ L.length (L.flatMap prL) rfl ?g0 _ _ _ [.int .i64 i, .int .i64 k] rfl rfl ?g1 ?g2 ?g3 ?g4 ?g5 ?_)
              case g0 => exact World.ownsRow.alloc HO5.out _
              case g1 => exact cells_new _ _ _ rfl
              case g2 => intro u hu; simp only [List.mem_cons, List.not_mem_nil, or_false] at hu; rcases hu with rfl | rfl <;> rfl
              case g3 => unfold maxLen; omega
              case g4 => omega
              case g5 => exact Nat.le_trans hsz5 (al_le _ _)
              intro v2 w6 hown2 hgrow _
              have hbX := ((Below.refl _ _).alloc hsz5 _).trans (below_grown hgrow HOWN.out (Nat.le_trans hsz5 (al_le _ _)))
              have HB6 := Lib.hid (HB5.out.trans hbX)
              have HL2 := Lib.hid (show pairTo c i ++ pairRow c i (k + 1) = L ++ [(i, k)] by rw [HP.out, ← HLL.out, List.append_assoc])
              have HO6 : Hid (w6.ownsRow w1.heap.size 71 2 v2 (L ++ [(i, k)]).length ((L ++ [(i, k)]).flatMap prL)) := by
                rw [HF.out, show (L ++ [(i, k)]).length = L.length + 1 by simp]; exact hown2
              obtain ⟨ya2, yc2, rfl, _⟩ := ownsRow_shape hown2
              clear hown2 hgrow hbX
              go_wp2
              go_roundw
              case rel => exact ⟨k + 1, by omega, hlk, by go_num, HB6, by rw [HL2.out]; exact HO6⟩
              case measure => simp [intOf]; omega
          · obtain rfl : k = c.sw.length := by omega
            have HO := Lib.hid ho2.out
            clear ho2 hown
            go_wp2_with fail
            go_roundw
            case rel => exact ⟨i + 1, hlt, by go_num, hb2, HO⟩
            case measure => simp [intOf]; omega
      · obtain rfl : i = c.sw.length := by omega
        go_wp2_with fail
        go_ret2
        exact ⟨.slice xa (pairTo c c.sw.length).length xc, by rw [HR.out]; rfl, by rw [← HL.out]; exact ElAt.of_own (f := prL) (xs := pairsM c) (fun _ => rfl) ho.out, HB.out.trans ((HB1.out.trans (hb.out.mono HB1.out.size)).mono HB.out.size)⟩

end Go.Proofs.Ytbkhfmigaehgaaa
