import Derived.Test.YtbiihhokcmdlhaaZzC
import Derived.StillTailTactics
import Derived.Laws.MakeOwn
/- Texts of one seat, merged: Cj Bt Ck -/
/- Walks of layer 3 (circuit): Contains, Pairs of the program. -/
namespace Go.Proofs.Ytbiihhokcmdlhaa
open Go.RowKit

set_option maxRecDepth 100000 in
set_option maxHeartbeats 1000000 in
theorem indexOf_any (v : Value) (l : List Int) (x : Int) (w : World) (hv : InAt w v l) :
    Calls Try.prog 142 #[v, .int .i64 x] w fun e w' => ∃ r : Int, e = .returned (.int .i64 r) ∧ decide (0 ≤ r) = (l.any fun y => x == y) ∧ w = w' := by
  obtain ⟨a, cap, rfl, hn, hcap, hc⟩ := hv
  have HC := Lib.hid hc
  clear hc
  go_enter Try.func142, Try.ntmps142
  go_wp2_with fail
  go_loop [8] (fun i => ∃ k : Nat, k ≤ l.length ∧ i = .int .i64 k ∧ Hid (∀ i, i < k → (x == l.getD i 0) = false)) (fun i => l.length - (intOf i).toNat)
  case atStart => exact ⟨0, Nat.zero_le _, rfl, fun i hi => by omega⟩
  case round =>
    obtain ⟨k, hk, rfl, hf⟩ := hrel
    by_cases hlt : k < l.length
    · obtain ⟨b, off, rfl, hbl, hc⟩ := HC.out (by omega)
      have g1 := hc k hlt
      clear hc
      generalize hq0 : l.getD k 0 = q at g1
      have Hq := Lib.hid hq0
      clear hq0
      cases hq : (x == q)
      · have HQ := Lib.hid hq
        go_wp2
        go_round
        case rel => exact ⟨k + 1, hlt, by go_num, fun i hi => by
          by_cases hik : i = k
          · rw [hik, Hq.out]; exact HQ.out
          · exact hf.out i (by omega)⟩
        case measure => simp [intOf]; omega
      · have HQ := Lib.hid hq
        go_wp2
        go_ret
        exact ⟨k, rfl, by rw [any_true_of (d := 0) hlt (by rw [Hq.out]; exact HQ.out)]; simp, rfl⟩
    · go_wp2
      go_ret
      exact ⟨-1, rfl, by rw [any_false_of (d := 0) (fun i hi => hf.out i (by omega))]; simp, rfl⟩

set_option maxHeartbeats 400000 in
theorem containsOf_is (q : Bool) (v : Value) (l : List Int) (x : Int) (w : World) (hv : InAt w v l) (hq : (l.any fun y => x == y) = q) :
    Calls Try.prog 87 #[v, .int .i64 x] w fun e w' => e = .returned (.bool q) ∧ w = w' := by
  subst hq
  go_enter Try.func87, Try.ntmps87
  go_wp2_with fail
  refine (indexOf_any _ _ _ _ hv).mono ?_
  rintro e w1 ⟨r, rfl, hr, rfl⟩
  have HR := Lib.hid hr
  clear hr
  go_wp2
  go_ret
  exact ⟨ret_bool HR.out, rfl⟩

theorem calone_is (A k : Nat) (w : World) (hk : k ≤ 60) (hA : 2 ^ k = A) :
    Calls Try.prog 86 #[.int .i64 k] w fun e w' => e = .returned (.int .i64 (A : Int)) ∧ w = w' := by
  subst hA
  exact calone_any k w hk

theorem crit_has {c : Cir} {k : Nat} (hk : k < c.sw.length) : ((natL (critM c)).any fun y => (k : Int) == y) = dangB c (2 ^ k) := by
  cases hq : dangB c (2 ^ k)
  · rw [List.any_eq_false]
    intro y hy
    unfold natL at hy
    rw [List.mem_map] at hy
    obtain ⟨m, hm, rfl⟩ := hy
    intro he
    have e : k = m := by
      have := eq_of_beq he
      exact Int.ofNat.inj this
    subst e
    have := (List.mem_filter.1 hm).2
    rw [hq] at this; cases this
  · rw [List.any_eq_true]
    refine ⟨(k : Int), ?_, by simp⟩
    unfold natL
    rw [List.mem_map]
    exact ⟨k, List.mem_filter.2 ⟨List.mem_range.2 hk, hq⟩, rfl⟩

abbrev prL (p : Nat × Nat) : List Value := [.int .i64 p.1, .int .i64 p.2]
abbrev PrAt (w : World) (v : Value) (l : List (Nat × Nat)) : Prop := ElAt 2 prL w v l

theorem pairRow_no {c : Cir} {i k : Nat} (h : pairB c i k = false) : pairRow c i (k + 1) = pairRow c i k := by
  unfold pairRow; rw [List.range_succ, List.filter_append]; simp [h]
theorem pairRow_yes {c : Cir} {i k : Nat} (h : pairB c i k = true) : pairRow c i (k + 1) = pairRow c i k ++ [(i, k)] := by
  unfold pairRow; rw [List.range_succ, List.filter_append]; simp [h]
theorem pairRow_len (c : Cir) (i k : Nat) : (pairRow c i k).length ≤ k := by
  unfold pairRow
  have := List.length_filter_le (pairB c i) (List.range k)
  simpa using this
theorem pairTo_len (c : Cir) : ∀ i, (pairTo c i).length ≤ i * c.sw.length
  | 0 => by simp [pairTo]
  | i + 1 => by
    have h1 := pairTo_len c i
    have h2 := pairRow_len c i c.sw.length
    simp only [pairTo, List.length_append]
    rw [Nat.succ_mul]; omega

theorem infoPair : (Try.prog.info? 71).map (fun i => (i.zero, i.size, i.bytes)) = some (some (.agg #[.int .i64 0, .int .i64 0]), 2, 16) := by kernel_rfl

theorem cells_new (w : World) (cs : List Value) (t : TypeId) {g : Nat} (hg : g = w.heap.size) : ∀ j u, cs[j]? = some u → (w.alloc (.cells cs.toArray t)).cell? ((⟨g, 0, none⟩ : Addr).add j) = some u := by
  subst hg
  intro j u hj
  have h := cell_alloc_new w cs.toArray t (0, 0) w.heap.size j rfl
  have e9 : (⟨w.heap.size, 0, none⟩ : Addr).add j = ⟨w.heap.size, j, none⟩ := by unfold Addr.add; split <;> simp_all
  rw [e9, h]
  simpa using hj

theorem pair_flat (l : List (Nat × Nat)) (i k : Nat) : (l ++ [(i, k)]).flatMap prL = l.flatMap prL ++ [.int .i64 i, .int .i64 k] := by
  rw [List.flatMap_append]; simp

def PairErr (l : List (Nat × Nat)) (er : Int) (w : World) (e : Ending) (w' : World) : Prop := ∃ v, e = .returned (.tuple #[v, .int .i64 er]) ∧ PrAt w' v l ∧ Below w.heap.size w w'
def pairsR (c : Cir) : List (Nat × Nat) := if validB c = true then pairsM c else []

theorem pairB_lt {c : Cir} {i k : Nat} (h : ¬ i < k) : pairB c i k = false := by unfold pairB; rw [decide_eq_false h]; rfl
theorem pairB_i {c : Cir} {i k : Nat} (h : dangB c (2 ^ i) = true) : pairB c i k = false := by unfold pairB; rw [h]; simp
theorem pairB_k {c : Cir} {i k : Nat} (h : dangB c (2 ^ k) = true) : pairB c i k = false := by unfold pairB; rw [h]; simp
theorem pairB_is {c : Cir} {i k : Nat} (h : i < k) (h1 : dangB c (2 ^ i) = false) (h2 : dangB c (2 ^ k) = false) : pairB c i k = dangB c (2 ^ i ||| 2 ^ k) := by
  unfold pairB; rw [h1, h2, decide_eq_true h]; rfl

set_option maxRecDepth 100000 in
set_option maxHeartbeats 8000000 in
theorem cpairs_any (c : Cir) (sv wv : Value) (w : World) (hv : CirAt w sv wv c) :
    Calls Try.prog 29 #[cirV c sv wv] w (PairErr (pairsR c) (chkC c) w) := by
  have HB := Lib.hid ((Below.refl w.heap.size w).alloc (Nat.le_refl _) (cirO c sv wv))
  have K0 := Lib.hid (block_new w (cirO c sv wv) w.heap.size rfl)
  have HV := Lib.hid (hv.below HB.out (Nat.le_refl _))
  obtain ⟨⟨sa, scap, rfl, _, _, _⟩, _⟩ := hv
  cases hq : validB c
  · have HR := Lib.hid (chkC_bad hq)
    have HL := Lib.hid (show [] = pairsR c by unfold pairsR; rw [hq]; rfl)
    clear hq
    go_enter Try.func29, Try.ntmps29
    go_wp2_with fail
    generalize w.alloc (cirO c (.slice sa c.sw.length scap) wv) = wA at *
    refine (ccritical_any c _ _ _ HV.out).mono ?_
    rintro e w1 ⟨v, rfl, _, hb1⟩
    rw [← HR.out]
    go_wp2
    go_ret2
    exact ⟨_, by rw [HR.out]; rfl, by rw [← HL.out]; exact ElAt.nil _, HB.out.trans (hb1.mono HB.out.size)⟩
  · have HC := Lib.hid (cval hq)
    have HR := Lib.hid (chkC_ok hq)
    have HL := Lib.hid (show pairsM c = pairsR c by unfold pairsR; rw [hq]; rfl)
    have HCR := Lib.hid (show critR c = natL (critM c) by unfold critR; rw [hq]; rfl)
    have s2 := (cval hq).s2
    have s1 := (cval hq).s1
    clear hq
    obtain ⟨i0, hi0, hz0, hz1, hz2⟩ := info_parts infoPair
    go_enter Try.func29, Try.ntmps29
    go_wp2_with fail
    generalize w.alloc (cirO c (.slice sa c.sw.length scap) wv) = wA at *
    refine (ccritical_any c _ _ _ HV.out).mono ?_
    rintro e w1 ⟨v, rfl, hin, hb1⟩
    rw [← HR.out]
    rw [HCR.out] at hin
    have HI := Lib.hid hin
    obtain ⟨va, vcap, rfl, _⟩ := hin
    have KW := Lib.hid (keepZ K0.out hb1)
    have HB1 := Lib.hid hb1
    have c0 := block_cell KW.out
    clear hb1
    go_wp2_with fail
    clear c0
    go_loopw [6, 20] (fun x i wr => ∃ k : Nat, k ≤ c.sw.length ∧ i = .int .i64 k ∧ Hid (Below w1.heap.size w1 wr) ∧ Hid (wr.ownsRow w1.heap.size 71 2 x (pairTo c k).length ((pairTo c k).flatMap prL))) (fun _ i _ => c.sw.length - (intOf i).toNat)
    case atStart => exact ⟨0, Nat.zero_le _, rfl, Lib.hid (Below.refl _ _), Lib.hid ⟨by simp [pairTo], Or.inl ⟨rfl, by simp [pairTo]⟩⟩⟩
    case round =>
      obtain ⟨i, hi, rfl, hb, ho⟩ := hrel
      obtain ⟨wo, rfl⟩ : ∃ wo : World, wo = wr := ⟨_, rfl⟩
      obtain ⟨xa, xc, rfl, _⟩ := ownsRow_shape ho.out
      by_cases hlt : i < c.sw.length
      · have R0 := Lib.hid (show wo.ownsRow w1.heap.size 71 2 (.slice xa (pairTo c i).length xc) (pairTo c i ++ pairRow c i 0).length ((pairTo c i ++ pairRow c i 0).flatMap prL) by
          rw [show pairTo c i ++ pairRow c i 0 = pairTo c i by simp [pairRow]]; exact ho.out)
        have hpl := pairTo_len c i
        have hpl2 : (pairTo c i).length ≤ 144 := Nat.le_trans hpl (Nat.mul_le_mul (by omega : i ≤ 12) s2)
        have c0 := block_cell (keepZ KW.out hb.out)
        have i1 : (0 : Int) ≤ i := by omega
        clear ho hpl
        go_wp2_with fail
        clear c0
        go_loopw [6, 26] (fun x j wr => ∃ k : Nat, k ≤ c.sw.length ∧ j = .int .i64 k ∧ Hid (Below w1.heap.size w1 wr) ∧ Hid (wr.ownsRow w1.heap.size 71 2 x (pairTo c i ++ pairRow c i k).length ((pairTo c i ++ pairRow c i k).flatMap prL))) (fun _ j _ => c.sw.length - (intOf j).toNat)
        case atStart => exact ⟨0, Nat.zero_le _, rfl, hb, R0⟩
        case round =>
          obtain ⟨k, hk, rfl, hb2, ho2⟩ := hrel
          obtain ⟨ya, yc, rfl, hown⟩ := ownsRow_shape ho2.out
          by_cases hlk : k < c.sw.length
          · by_cases hik : i < k
            · have HO := Lib.hid ho2.out
              have HOWN := Lib.hid hown
              have hrl := pairRow_len c i k
              have h1 : (pairTo c i ++ pairRow c i k).length ≤ 156 := by rw [List.length_append]; omega
              have C1 := Lib.hid (crit_has (c := c) (k := i) hlt)
              have C2 := Lib.hid (crit_has (c := c) (k := k) hlk)
              have HN := Lib.hid (pairRow_no (c := c) (i := i) (k := k))
              have HY := Lib.hid (pairRow_yes (c := c) (i := i) (k := k))
              have HF := Lib.hid (pair_flat (pairTo c i ++ pairRow c i k) i k)
              have hin2 := HI.out.below hb2.out (Nat.le_refl _)
              have HI2 := Lib.hid hin2
              clear hrl hin2 hown ho2
              cases hdi : dangB c (2 ^ i)
              · cases hdk : dangB c (2 ^ k)
                · have PB := Lib.hid (pairB_is hik hdi hdk)
                  have D1 := Lib.hid hdi
                  have D2 := Lib.hid hdk
                  rw [hdi] at C1
                  rw [hdk] at C2
                  clear hdi hdk
                  obtain ⟨A, hA⟩ : ∃ A, 2 ^ i = A := ⟨_, rfl⟩
                  obtain ⟨D, hD⟩ : ∃ D, 2 ^ k = D := ⟨_, rfl⟩
                  have a20 : A < 1048576 := by rw [← hA]; exact pow_set (by omega)
                  have d20 : D < 1048576 := by rw [← hD]; exact pow_set (by omega)
                  have hor := i64_or_nat A D (by omega) (by omega)
                  have ho20 : A ||| D < 1048576 := Nat.or_lt_two_pow (n := 20) a20 d20
                  rw [hA, hD] at PB
                  have HA := Lib.hid hA
                  have HD := Lib.hid hD
                  have HV2 := Lib.hid (HV.out.below (HB1.out.trans (hb2.out.mono HB1.out.size)) (Nat.le_refl _))
                  have kc := keepZ KW.out hb2.out
                  have b1 := bw_cells (B := wr.heap.size) kc (lt_of_block kc)
                  have hzr := hb2.out.size
                  generalize hLL : (pairTo c i ++ pairRow c i k) = L at *
                  have HLL := Lib.hid hLL
                  clear hA hD a20 d20 kc hLL
                  cases hpb : dangB c (A ||| D)
                  · have HP := Lib.hid (HN.out (PB.out.trans hpb))
                    have HPB := Lib.hid hpb
                    clear hpb
                    go_wp2_with (go_at_call 87; (first | (with_reducible refine (containsOf_is false _ (natL (critM c)) i _ HI2.out C1.out).mono ?_) | (with_reducible refine (containsOf_is false _ (natL (critM c)) k _ HI2.out C2.out).mono ?_)); rintro e w3 ⟨rfl, rfl⟩)
                    refine wp_region_below (by kernel_rfl) (by kernel_rfl) (Below.refl wr.heap.size wr) ?_
                    repeat ((with_reducible refine wpQuiet_step (fun K hK => ?_)); go_simp; first | (refine hK _ ?_; clear hK K) | (apply Exists.intro; refine ⟨fun _ => ?_, hK _ ?_⟩; (first | (go_at_call 86; first | (with_reducible exact bw_same (calone_is A i _ (by omega) HA.out)) | (with_reducible exact bw_same (calone_is D k _ (by omega) HD.out))) | (go_at_call 85; with_reducible exact bw_call (Nat.le_refl _) (dang_is false c _ wv (A ||| D) _ (HV2.out.below (BW.b _) (Nat.le_refl _)) HC.out ho20 HPB.out))); clear hK K))
                    refine wpQuiet_nil ?_
                    intro wq hwq0
                    have hwq := bw_out hwq0
                    clear hwq0
                    have HB3 := Lib.hid (hb2.out.trans (hwq.mono hzr))
                    have HO3 := Lib.hid (ownsRow_below HO.out hwq)
                    clear hwq b1 hor
                    go_wp2_with fail
                    go_roundw
                    case rel => exact ⟨k + 1, hlk, by go_num, HB3, by rw [HP.out, HLL.out]; exact HO3⟩
                    case measure => simp [intOf]; omega
                  · have HP := Lib.hid (HY.out (PB.out.trans hpb))
                    have HPB := Lib.hid hpb
                    clear hpb
                    go_wp2_with (go_at_call 87; (first | (with_reducible refine (containsOf_is false _ (natL (critM c)) i _ HI2.out C1.out).mono ?_) | (with_reducible refine (containsOf_is false _ (natL (critM c)) k _ HI2.out C2.out).mono ?_)); rintro e w3 ⟨rfl, rfl⟩)
                    refine wp_region_below (by kernel_rfl) (by kernel_rfl) (Below.refl wr.heap.size wr) ?_
                    repeat ((with_reducible refine wpQuiet_step (fun K hK => ?_)); go_simp; first | (refine hK _ ?_; clear hK K) | (apply Exists.intro; refine ⟨fun _ => ?_, hK _ ?_⟩; (first | (go_at_call 86; first | (with_reducible exact bw_same (calone_is A i _ (by omega) HA.out)) | (with_reducible exact bw_same (calone_is D k _ (by omega) HD.out))) | (go_at_call 85; with_reducible exact bw_call (Nat.le_refl _) (dang_is true c _ wv (A ||| D) _ (HV2.out.below (BW.b _) (Nat.le_refl _)) HC.out ho20 HPB.out))); clear hK K))
                    refine wpQuiet_nil ?_
                    intro wq hwq0
                    have hwq := bw_out hwq0
                    clear hwq0
                    have HB3 := Lib.hid (hb2.out.trans (hwq.mono hzr))
                    have HO3 := Lib.hid (ownsRow_below HO.out hwq)
                    have hsz3 := Nat.le_trans hzr hwq.size
                    clear hwq b1 hor
                    go_wp2_with (at_builtin; refine wpList_append_own _ rfl (.tmp 49) (.tmp 53) 39 rfl w1.heap.size 71 i0 (.agg #[.int .i64 0, .int .i64 0]) 2 16 Try.underlying39 hi0 hz0 hz1 hz2 rfl (by decide) _ L.length (L.flatMap prL) rfl ?g0 _ _ _ [.int .i64 i, .int .i64 k] rfl rfl ?g1 ?g2 ?g3 ?g4 ?g5 ?_)
                    case g0 => exact World.ownsRow.alloc HO3.out _
                    case g1 => exact cells_new _ _ _ rfl
                    case g2 => intro u hu; simp only [List.mem_cons, List.not_mem_nil, or_false] at hu; rcases hu with rfl | rfl <;> rfl
                    case g3 => unfold maxLen; omega
                    case g4 => omega
                    case g5 => exact Nat.le_trans hsz3 (al_le _ _)
                    intro v2 w4 hown2 hgrow _
                    have hbX := ((Below.refl _ _).alloc hsz3 _).trans (below_grown hgrow HOWN.out (Nat.le_trans hsz3 (al_le _ _)))
                    have HB4 := Lib.hid (HB3.out.trans hbX)
                    have HL2 := Lib.hid (show pairTo c i ++ pairRow c i (k + 1) = L ++ [(i, k)] by rw [HP.out, ← HLL.out, List.append_assoc])
                    have HO4 : Hid (w4.ownsRow w1.heap.size 71 2 v2 (L ++ [(i, k)]).length ((L ++ [(i, k)]).flatMap prL)) := by
                      rw [HF.out, show (L ++ [(i, k)]).length = L.length + 1 by simp]; exact hown2
                    obtain ⟨ya2, yc2, rfl, _⟩ := ownsRow_shape hown2
                    clear hown2 hgrow hbX
                    go_wp2
                    go_roundw
                    case rel => exact ⟨k + 1, hlk, by go_num, HB4, by rw [HL2.out]; exact HO4⟩
                    case measure => simp [intOf]; omega
                · have HP := Lib.hid (HN.out (pairB_k hdk))
                  rw [hdi] at C1
                  rw [hdk] at C2
                  clear hdi hdk
                  generalize hLL : (pairTo c i ++ pairRow c i k) = L at *
                  have HLL := Lib.hid hLL
                  clear hLL
                  go_wp2_with (go_at_call 87; (first | (with_reducible refine (containsOf_is false _ (natL (critM c)) i _ HI2.out C1.out).mono ?_) | (with_reducible refine (containsOf_is true _ (natL (critM c)) k _ HI2.out C2.out).mono ?_)); rintro e w3 ⟨rfl, rfl⟩)
                  go_roundw
                  case rel => exact ⟨k + 1, hlk, by go_num, hb2, by rw [HP.out, HLL.out]; exact HO⟩
                  case measure => simp [intOf]; omega
              · have HP := Lib.hid (HN.out (pairB_i hdi))
                rw [hdi] at C1
                clear hdi C2
                generalize hLL : (pairTo c i ++ pairRow c i k) = L at *
                have HLL := Lib.hid hLL
                clear hLL
                go_wp2_with (go_at_call 87; (with_reducible refine (containsOf_is true _ (natL (critM c)) i _ HI2.out C1.out).mono ?_); rintro e w3 ⟨rfl, rfl⟩)
                go_roundw
                case rel => exact ⟨k + 1, hlk, by go_num, hb2, by rw [HP.out, HLL.out]; exact HO⟩
                case measure => simp [intOf]; omega
            · have HP := Lib.hid (pairRow_no (pairB_lt (c := c) hik))
              have HO := Lib.hid ho2.out
              clear ho2 hown
              generalize hLL : (pairTo c i ++ pairRow c i k) = L at *
              have HLL := Lib.hid hLL
              clear hLL
              go_wp2_with fail
              go_roundw
              case rel => exact ⟨k + 1, hlk, by go_num, hb2, by rw [HP.out, HLL.out]; exact HO⟩
              case measure => simp [intOf]; omega
          · obtain rfl : k = c.sw.length := by omega
            have HO := Lib.hid ho2.out
            clear ho2 hown
            go_wp2_with fail
            go_roundw
            case rel => exact ⟨i + 1, hlt, by go_num, hb2, HO⟩
            case measure => simp [intOf]; omega
      · obtain rfl : i = c.sw.length := by omega
        go_wp2_with fail
        go_ret2
        exact ⟨.slice xa (pairTo c c.sw.length).length xc, by rw [HR.out]; rfl, by rw [← HL.out]; exact ElAt.of_own (f := prL) (xs := pairsM c) (fun _ => rfl) ho.out, HB.out.trans ((HB1.out.trans (hb.out.mono HB1.out.size)).mono HB.out.size)⟩

end Go.Proofs.Ytbiihhokcmdlhaa

/- Regions that draw their order, whose operations read, or call what makes memory, and that end in a forced tail (a store): one walk in the order of the text. The library has the two halves (a class of worlds; a forced tail in one world): here they meet. -/
namespace Go.Proofs.Ytbiihhokcmdlhaa
open Go.RowKit

section
variable {P : Program} {ops : Array Oper} {md : Region.Mode} {C : World → Prop}

/-- The next f operations are of the first n, each quiet in the class; then L. -/
def HeadQ (P : Program) (md : Region.Mode) (ops : Array Oper) (C : World → Prop) (n : Nat) (L : Array Bool → Act → Prop) : Nat → Array Bool → Act → Prop
  | 0, s, a => L s a
  | f + 1, s, a => Region.ready md ops s ≠ [] ∧ ∀ i ∈ Region.ready md ops s, i < n ∧ qOp P ops C i (HeadQ P md ops C n L f (s.setIfInBounds i true)) a

theorem any_of_headQ {n g : Nat} {L : Array Bool → Act → Prop} {Q : Exit → Act → World → Prop} (hL : ∀ s a w, C w → L s a → wpAny P md ops Q g s a w) :
    ∀ (f : Nat) (s : Array Bool) (a : Act) (w : World), C w → HeadQ P md ops C n L f s a → wpAny P md ops Q (f + g) s a w := by
  intro f
  induction f with
  | zero => intro s a w hw h; rw [Nat.zero_add]; exact hL _ _ _ hw h
  | succ f ih =>
    intro s a w hw h
    rw [Nat.add_right_comm]
    exact ⟨fun h0 => absurd h0 h.1, fun i hi => wpOp_of_qOp hw (fun a' w' hw' h' => ih _ a' w' hw' h') (h.2 i hi).2⟩

theorem getD_false_of {s : Array Bool} {i : Nat} (h1 : s.getD i true = false) (h2 : s.getD i false = true) : False := by
  rw [getD_both h1] at h2; cases h2

/-- What may come up now may be taken first. -/
theorem headQ_first {n i : Nat} {o : Oper} {v : Value} {L : Array Bool → Act → Prop} (hi : ops[i]? = some o) (hsel : ∀ (j : Nat) (o : Oper) cs b, ops[j]? = some o → o.op ≠ .select cs b)
    (hs : Region.sinkB md ops n = true) (hc : Region.chainB md ops n = true) (hn : n < ops.size) (hin : i < n) (hdone : ∀ s a, L s a → ∀ j ∈ Region.ready md ops s, n ≤ j) :
    ∀ (f : Nat) (s : Array Bool) (a : Act), HeadInv md ops n s →
      (∀ j oj, ops[j]? = some oj → j ≠ i → s.getD j true = false → (∀ e ∈ oj.after, Region.binds md e = true → e.on ≠ i) → o.apart ops oj = true) →
      i ∈ Region.ready md ops s → YieldsIn P ops C o v a → HeadQ P md ops C n L f (s.setIfInBounds i true) (a.put o.dst v) → HeadQ P md ops C n L (f + 1) s a := by
  intro f
  induction f with
  | zero =>
    intro s a inv _ hr hy H
    refine ⟨(fun h => by rw [h] at hr; cases hr), fun j hj => ?_⟩
    have hjn : j < n := Nat.lt_of_not_le fun h => tail_waits hs hc hn inv _ i rfl hin (mem_ready.1 hr).1 j h hj
    refine ⟨hjn, ?_⟩
    by_cases e : j = i
    · rw [e]; exact hy.qOp hi H
    · exact absurd (hdone _ _ H j (ready_mono hj e)) (by omega)
  | succ f ih =>
    intro s a inv hfree hr hy H
    have hun := (mem_ready.1 hr).1
    refine ⟨(fun h => by rw [h] at hr; cases hr), fun j hj => ?_⟩
    have hjn : j < n := Nat.lt_of_not_le fun h => tail_waits hs hc hn inv _ i rfl hin hun j h hj
    refine ⟨hjn, ?_⟩
    by_cases e : j = i
    · rw [e]; exact hy.qOp hi H
    · obtain ⟨hju, oj, hoj, hall⟩ := mem_ready.1 hj
      have hq := qOp_put hoj (hfree j oj hoj e hju fun x hx hb hon => getD_false_of hun (by rw [← hon]; exact hall x hx hb)) (fun cs b => hsel i o cs b hi) (fun cs b => hsel j oj cs b hoj) hy (H.2 j (ready_mono hj e)).2
      refine qOp_mono (fun a' h3 => ih (s.setIfInBounds j true) a' (inv.set hj hjn) (fun k ok hk hki hu hno => hfree k ok hk hki ?_ hno) (ready_mono hr (Ne.symm e)) h3.1 ?_) hq
      · by_cases e2 : j = k
        · rw [← e2]; exact hju
        · rwa [getD_set_ne true e2] at hu
      · rw [Array.setIfInBounds_comm _ _ e]; exact h3.2

theorem headQ_lex {n g : Nat} {R : Act → Prop} (hsel : Region.noSelect ops = true) (hs : Region.sinkB md ops n = true) (hc : Region.chainB md ops n = true) (hn : n < ops.size) :
    ∀ (l : List Oper) (k : Nat) (s : Array Bool) (a : Act), (∀ j, j < l.length → l[j]? = ops[k + j]?) → k + l.length = n → HeadInv md ops n s → Region.lexHead md ops g l.length k s = true → wpQuiet P ops C R l a →
      HeadQ P md ops C n (fun s' a' => Region.seqB md ops g n s' = true ∧ R a') l.length s a := by
  intro l
  induction l with
  | nil =>
    intro k s a _ hk _ hB h
    obtain rfl : k = n := by simpa using hk
    exact ⟨by simpa [Region.lexHead] using hB, h⟩
  | cons o l ih =>
    intro k s a hl hk inv hB h
    have h0 : ops[k]? = some o := by simpa using (hl 0 (by simp)).symm
    simp only [List.length_cons] at hk hl
    simp only [List.length_cons, Region.lexHead, Bool.and_eq_true] at hB
    have hr : k ∈ Region.ready md ops s := by simpa using hB.1.1
    obtain ⟨v, hy, hK⟩ := yieldsIn_of_qOp (i := k) h0 (show qOp P ops C k (wpQuiet P ops C R l) a by unfold qOp; simp only [h0]; exact h)
    exact headQ_first h0 (Region.noSelect_spec hsel) hs hc hn (by omega) (fun _ _ hL => seqB_ready hL.1) l.length s a inv (Region.free_spec h0 hB.1.2) hr hy
      (ih (k + 1) _ _ (fun j hj => by have := hl (j + 1) (by omega); simpa [Nat.add_assoc, Nat.add_comm 1 j] using this) (by omega) (inv.set hr (by omega)) hB.2 hK)

/-- One walk for every order: the first n operations in the class, then the tail from any world of it. -/
theorem wp_region_qtail {id : Nat} {Q : Exit → Act → World → Prop} {a : Act} {w : World} {l : List Oper} (n : Nat) (hm : P.follows .mixedOrders = true) (hB : Region.lexTailB .any l.toArray n = true) (hC : C { w with drawn := w.drawn + 1 })
    (h : wpQuiet P l.toArray C (fun a' => ∀ w', C w' → wpList P l.toArray Q (l.drop n) a' w') (l.take n) a) : (Code.region id l.toArray true).wp P Q a w := by
  simp only [Region.lexTailB, Bool.and_eq_true, decide_eq_true_eq] at hB
  obtain ⟨⟨⟨⟨hsel, hn⟩, hs⟩, hc⟩, hlex⟩ := hB
  have hn' : n < l.length := by simpa using hn
  have htl : (l.take n).length = n := by rw [List.length_take]; omega
  have hdl : (l.drop n).length = l.toArray.size - n := by simp
  have inv0 : HeadInv .any l.toArray n (Array.replicate l.toArray.size false) :=
    ⟨Array.size_replicate, (fun j _ _ hl => by rw [getD_replicate_false] at hl; cases hl), fun t _ ht => getD_in (by rw [Array.size_replicate]; exact ht) (getD_replicate_false _ _)⟩
  have H := headQ_lex (g := l.toArray.size - n) hsel hs hc hn (l.take n) 0 _ a (fun j hj => by
    have hj' : j < n := by omega
    simp [hj']) (by omega) inv0 (by rw [htl]; exact hlex) h
  rw [htl] at H
  have H2 := any_of_headQ (Q := Q) (g := l.toArray.size - n) (fun s a' w' hw' hL => by
    have := wpAny_of_seq (md := .any) (Q' := Q) (l.drop n) n s a' w' (fun j => by simp [List.getElem?_drop]) (by rw [hdl]; exact hL.1) (hL.2 w' hw')
    rwa [hdl] at this) n _ a _ hC H
  rw [show n + (l.toArray.size - n) = l.toArray.size by omega] at H2
  exact wp_region_any hm H2
end

/-- The same for the worlds that are as W below block B. -/
theorem wp_region_belowtail {P : Program} {B : Nat} {W : World} {id : Nat} {Q : Exit → Act → World → Prop} {a : Act} {w : World} {l : List Oper} (n : Nat) (hm : P.follows .mixedOrders = true) (hB : Region.lexTailB .any l.toArray n = true) (hw : Below B W w)
    (h : wpQuiet P l.toArray (fun w' => ∃ x : BW B W, w' = x.w) (fun a' => ∀ w', (∃ x : BW B W, w' = x.w) → wpList P l.toArray Q (l.drop n) a' w') (l.take n) a) : (Code.region id l.toArray true).wp P Q a w :=
  wp_region_qtail (C := fun w' => ∃ x : BW B W, w' = x.w) n hm hB ⟨⟨_, hw.drew⟩, rfl⟩ h

end Go.Proofs.Ytbiihhokcmdlhaa

/- Walks of layer 3 (circuit): checkTrials, shows, shown, shownByEach of the program. -/
namespace Go.Proofs.Ytbiihhokcmdlhaa
open Go.RowKit

abbrev triL (t : Tri) : List Value := [.int .i64 t.hz, .int .i64 t.wire]
abbrev triV (t : Tri) : Value := .agg #[.int .i64 t.hz, .int .i64 t.wire]
abbrev TrAt (w : World) (v : Value) (l : List Tri) : Prop := ElAt 2 triL w v l
abbrev triO (t : Tri) : Obj := .cells #[.int .i64 t.hz, .int .i64 t.wire] 138

theorem tr_at {w w' : World} {b off : Nat} {l : List Tri} {k : Nat} (hb : Below w.heap.size w w') (hbl : b < w.heap.size)
    (hc : ∀ i x, l[i]? = some x → ∀ j u, (triL x)[j]? = some u → w.cell? ⟨b, off + i * 2 + j, none⟩ = some u) (hk : k < l.length) :
    w'.cell? ⟨b, off + k * 2, none⟩ = some (.int .i64 (l.getD k Tri.zero).hz) ∧ w'.cell? ⟨b, off + k * 2 + 1, none⟩ = some (.int .i64 (l.getD k Tri.zero).wire) := by
  have h := hc k _ (getD_get? hk Tri.zero)
  exact ⟨(hb.cell hbl).trans (h 0 _ rfl), (hb.cell hbl).trans (h 1 _ rfl)⟩

set_option maxRecDepth 100000 in
set_option maxHeartbeats 2000000 in
theorem tbad_any (t : Tri) (c : Cir) (sv wv : Value) (gc : Nat) (w : World) (hv : WsAt w wv c.ws) (hc : CVal c) (k0 : w.heap[gc]? = some (cirO c sv wv)) :
    Calls Try.prog 145 #[triV t, .pointer (some ⟨gc, 0, none⟩)] w fun e w' => e = .returned (.bool (!triB c t)) ∧ Below w.heap.size w w' := by
  have HB := Lib.hid ((Below.refl w.heap.size w).alloc (Nat.le_refl _) (triO t))
  have K0 := Lib.hid (block_alloc k0 (triO t))
  have K1 := Lib.hid (block_new w (triO t) w.heap.size rfl)
  obtain ⟨wa, wcap, rfl, _⟩ := hv
  obtain ⟨n, hn⟩ : ∃ n : Nat, c.hz = n := ⟨c.hz.toNat, by have := hc.h1; omega⟩
  have n8 : n ≤ 8 := by have := hc.h2; omega
  have w24 := hc.w2
  have HZ := Lib.hid hn
  clear k0 hn hc
  cases h1 : setB t.hz n
  · have H1 := Lib.hid h1
    have HR := Lib.hid (show true = !triB c t by unfold triB; rw [show c.hz.toNat = n by have := HZ.out; omega, h1]; rfl)
    clear h1
    have c0 := block_cell K0.out
    rw [HZ.out] at c0
    go_enter Try.func145, Try.ntmps145
    go_wp2_with fail
    refine (isSet_is _ _ _ _ (by omega) H1.out).mono ?_
    rintro e w1 ⟨rfl, rfl⟩
    go_wp2
    go_ret
    exact ⟨ret_bool HR.out, HB.out⟩
  · cases h2 : decide (0 ≤ t.wire ∧ t.wire ≤ (c.ws.length : Int) - 1)
    all_goals
      have H1 := Lib.hid h1
      have H2 := Lib.hid h2
      have HR := Lib.hid (show (!decide (0 ≤ t.wire ∧ t.wire ≤ (c.ws.length : Int) - 1)) = !triB c t by unfold triB; rw [show c.hz.toNat = n by have := HZ.out; omega, h1]; rfl)
      rw [h2] at HR
      clear h1 h2
      have c0 := block_cell K0.out
      rw [HZ.out] at c0
      go_enter Try.func145, Try.ntmps145
      go_wp2_with (first | (go_at_call 72; refine (isSet_is _ _ _ _ (by omega) H1.out).mono ?_; rintro e w1 ⟨rfl, rfl⟩) | (go_at_call 75; refine (cwithin_is _ _ _ _ _ H2.out).mono ?_; rintro e w1 ⟨rfl, rfl⟩))
      go_ret
      exact ⟨ret_bool HR.out, HB.out⟩

set_option maxHeartbeats 1000000 in
theorem indexTri_any {be : Nat} (v : Value) (l : List Tri) (p : Tri → Bool) (w : World) (hv : TrAt w v l)
    (hg : ∀ (x : Tri) (w1 : World), x ∈ l → Below w.heap.size w w1 → Calls Try.prog 145 #[triV x, .pointer (some ⟨be, 0, none⟩)] w1 fun e w' => e = .returned (.bool (p x)) ∧ Below w1.heap.size w1 w') :
    Calls Try.prog 168 #[v, .func (.func 145) #[] #[.pointer (some ⟨be, 0, none⟩)]] w (IdxRes (l.any p) w) := by
  obtain ⟨a, cap, rfl, hn, hcap, hc⟩ := hv
  have HC := Lib.hid hc
  have HG := Lib.hid hg
  clear hc hg
  go_enter Try.func168, Try.ntmps168
  go_wp2_with fail
  go_loopw [8] (fun i wr => ∃ k : Nat, k ≤ l.length ∧ i = .int .i64 k ∧ Below w.heap.size w wr ∧ Hid (∀ i, i < k → p (l.getD i Tri.zero) = false)) (fun i _ => l.length - (intOf i).toNat)
  case atStart => exact ⟨0, Nat.zero_le _, rfl, Below.refl _ _, fun i hi => by omega⟩
  case round =>
    obtain ⟨k, hk, rfl, hb, hf⟩ := hrel
    by_cases hlt : k < l.length
    · obtain ⟨b, off, rfl, hbl, hc⟩ := HC.out (by omega)
      have g1 := tr_at hb hbl hc hlt
      clear hc
      have hm := getD_mem hlt Tri.zero
      generalize hq0 : l.getD k Tri.zero = q at g1 hm
      have Hq := Lib.hid hq0
      have HM := Lib.hid hm
      clear hq0 hm
      go_wp2_with fail
      refine (HG.out q wr HM.out hb).mono ?_
      rintro e w1 ⟨rfl, hb1⟩
      have hb2 := hb.trans (hb1.mono hb.size)
      clear hb hb1 g1
      cases hq : p q
      · have HQ := Lib.hid hq
        clear hq
        go_wp2
        go_roundw
        case rel => exact ⟨k + 1, hlt, by go_num, hb2, fun i hi => by
          by_cases hik : i = k
          · rw [hik, Hq.out]; exact HQ.out
          · exact hf.out i (by omega)⟩
        case measure => simp [intOf]; omega
      · have HQ := Lib.hid hq
        clear hq
        go_wp2
        go_ret
        exact ⟨k, rfl, by rw [any_true_of (d := Tri.zero) hlt (by rw [Hq.out]; exact HQ.out)]; simp, hb2⟩
    · go_wp2
      go_ret
      exact ⟨-1, rfl, by rw [any_false_of (d := Tri.zero) (fun i hi => hf.out i (by omega))]; simp, hb⟩

set_option maxHeartbeats 400000 in
theorem containsTri_any {be : Nat} (v : Value) (l : List Tri) (p : Tri → Bool) (q : Bool) (w : World) (hv : TrAt w v l) (hq : l.any p = q)
    (hg : ∀ (x : Tri) (w1 : World), x ∈ l → Below w.heap.size w w1 → Calls Try.prog 145 #[triV x, .pointer (some ⟨be, 0, none⟩)] w1 fun e w' => e = .returned (.bool (p x)) ∧ Below w1.heap.size w1 w') :
    Calls Try.prog 146 #[v, .func (.func 145) #[] #[.pointer (some ⟨be, 0, none⟩)]] w fun e w' => e = .returned (.bool q) ∧ Below w.heap.size w w' := by
  subst hq
  have HG := Lib.hid hg
  clear hg
  go_enter Try.func146, Try.ntmps146
  go_wp2_with fail
  refine (indexTri_any _ _ p _ hv HG.out).mono ?_
  rintro e w1 ⟨r, rfl, hr, hb⟩
  have HR := Lib.hid hr
  clear hr
  go_wp2
  go_ret
  exact ⟨ret_bool HR.out, hb⟩

theorem chkT_bad {c : Cir} (l : List Tri) (h : validB c = false) : (30 : Int) = chkT c l := by unfold chkT; rw [h]; rfl
theorem chkT_many {c : Cir} {l : List Tri} (h : validB c = true) (h2 : 12 < l.length) : (2 : Int) = chkT c l := by unfold chkT; rw [h, if_neg (by simp), if_pos h2]
theorem chkT_trial {c : Cir} {l : List Tri} (h : validB c = true) (h2 : ¬ 12 < l.length) (h3 : l.all (triB c) = false) : (31 : Int) = chkT c l := by unfold chkT; rw [h, if_neg (by simp), if_neg h2, h3]; rfl
theorem chkT_ok {c : Cir} {l : List Tri} (h : validB c = true) (h2 : ¬ 12 < l.length) (h3 : l.all (triB c) = true) : (0 : Int) = chkT c l := by unfold chkT; rw [h, if_neg (by simp), if_neg h2, h3]; rfl

structure TVal (c : Cir) (l : List Tri) : Prop where
  cv : CVal c
  v : validB c = true
  n : l.length ≤ 12
  t : ∀ t ∈ l, triB c t = true
theorem tval {c : Cir} {l : List Tri} (h : chkT c l = 0) : TVal c l := by
  unfold chkT at h
  split at h
  · omega
  · rename_i hv
    have hv : validB c = true := by simpa using hv
    split at h
    · omega
    · split at h
      · rename_i h2 h3
        exact ⟨cval hv, hv, by omega, List.all_eq_true.1 h3⟩
      · omega

theorem all_any_tri (c : Cir) (l : List Tri) : (l.any fun t => !triB c t) = !(l.all (triB c)) := by
  induction l with
  | nil => rfl
  | cons x l ih => rw [List.any_cons, List.all_cons, ih]; cases triB c x <;> rfl

set_option maxRecDepth 100000 in
set_option maxHeartbeats 2000000 in
theorem ccheckT_any (c : Cir) (l : List Tri) (sv wv v : Value) (w : World) (hv : CirAt w sv wv c) (hl : TrAt w v l) :
    Calls Try.prog 90 #[cirV c sv wv, v] w fun e w' => e = .returned (.int .i64 (chkT c l)) ∧ Below w.heap.size w w' := by
  have HB := Lib.hid ((Below.refl w.heap.size w).alloc (Nat.le_refl _) (cirO c sv wv))
  have K0 := Lib.hid (block_new w (cirO c sv wv) w.heap.size rfl)
  have HV := Lib.hid (hv.below HB.out (Nat.le_refl _))
  have HT := Lib.hid (hl.below HB.out (Nat.le_refl _))
  obtain ⟨ta, tcap, rfl, m1, m2, _⟩ := hl
  have m3 : (l.length : Int) ≤ 9223372036854775807 := by omega
  cases hq : validB c
  · have HR := Lib.hid (chkT_bad l hq)
    have HR0 := Lib.hid (chkC_bad hq)
    clear hq
    go_enter Try.func90, Try.ntmps90
    go_wp2_with fail
    generalize w.alloc (cirO c sv wv) = wA at *
    refine (ccheck_any c _ _ _ HV.out).mono ?_
    rintro e w1 ⟨rfl, hb1⟩
    rw [← HR0.out]
    go_wp2
    go_ret
    exact ⟨ret_int HR.out, HB.out.trans (hb1.mono HB.out.size)⟩
  · have HR0 := Lib.hid (chkC_ok hq)
    by_cases hl : 12 < l.length
    · have HR := Lib.hid (chkT_many hq hl)
      have hl2 : (12 : Int) < l.length := by omega
      clear hq hl
      go_enter Try.func90, Try.ntmps90
      go_wp2_with fail
      generalize w.alloc (cirO c sv wv) = wA at *
      refine (ccheck_any c _ _ _ HV.out).mono ?_
      rintro e w1 ⟨rfl, hb1⟩
      rw [← HR0.out]
      go_wp2
      go_ret
      exact ⟨ret_int HR.out, HB.out.trans (hb1.mono HB.out.size)⟩
    · have HC := Lib.hid (cval hq)
      have hl2 : ¬ (12 : Int) < l.length := by omega
      cases h3 : l.all (triB c)
      all_goals
        first | have HR := Lib.hid (chkT_trial hq hl h3) | have HR := Lib.hid (chkT_ok hq hl h3)
        have HA := Lib.hid (all_any_tri c l)
        rw [h3] at HA
        clear hq hl h3
        go_enter Try.func90, Try.ntmps90
        go_wp2_with fail
        generalize w.alloc (cirO c sv wv) = wA at *
        refine (ccheck_any c _ _ _ HV.out).mono ?_
        rintro e w1 ⟨rfl, hb1⟩
        rw [← HR0.out]
        have HB1 := Lib.hid hb1
        clear hb1
        go_wp2_with fail
        refine (containsTri_any _ l _ _ _ (HT.out.below HB1.out (Nat.le_refl _)) HA.out (fun x w2 _ hb2 => tbad_any x c sv wv w.heap.size w2 (HV.out.ws.below (HB1.out.trans (hb2.mono HB1.out.size)) (Nat.le_refl _)) HC.out (keepZ (keepZ K0.out HB1.out) hb2))).mono ?_
        rintro e w2 ⟨rfl, hb2⟩
        go_wp2
        go_ret
        exact ⟨ret_int HR.out, HB.out.trans ((HB1.out.trans (hb2.mono HB1.out.size)).mono HB.out.size)⟩

/-! ### what a trial shows -/
theorem tri_nat {c : Cir} {t : Tri} (hc : CVal c) (h : triB c t = true) : ∃ hz wi : Nat, t.hz = hz ∧ t.wire = wi ∧ hz < 1048576 ∧ wi < c.ws.length := by
  unfold triB setB at h
  simp only [Bool.and_eq_true, decide_eq_true_eq] at h
  have gp := Nat.pow_le_pow_right (show 0 < 2 by omega) (show c.hz.toNat ≤ 8 by have := hc.h2; omega)
  have : ((2 : Int) ^ c.hz.toNat) = ((2 ^ c.hz.toNat : Nat) : Int) := by simp
  exact ⟨t.hz.toNat, t.wire.toNat, by omega, by omega, by omega, by omega⟩

set_option maxRecDepth 100000 in
set_option maxHeartbeats 4000000 in
theorem shows_any (c : Cir) (t : Tri) (sv wv : Value) (cl : Nat) (w : World) (hv : CirAt w sv wv c) (hc : CVal c) (ht : triB c t = true) (h2 : cl < 1048576) :
    Calls Try.prog 148 #[cirV c sv wv, triV t, .int .i64 cl] w fun e w' => e = .returned (.bool (toldB c t cl)) ∧ Below w.heap.size w w' := by
  obtain ⟨hz, wi, e1, e2, hz20, hwi⟩ := tri_nat hc ht
  obtain ⟨thz, twi⟩ := t
  dsimp only at e1 e2
  subst e1
  subst e2
  have HS1 := Lib.hid (sta_ok hz20 h2)
  have HS2 := Lib.hid (sta_ok hz20 (show 0 < 1048576 by decide))
  have HT := Lib.hid (show (cond c ⟨hz, cl, 0⟩ 24 wi && !cond c ⟨hz, 0, 0⟩ 24 wi) = toldB c ⟨hz, wi⟩ cl by unfold toldB; rw [Int.toNat_natCast])
  have HV0 := Lib.hid hv
  obtain ⟨⟨sa, scap, rfl, _⟩, ⟨wa, wcap, rfl, _⟩⟩ := hv
  have HB := Lib.hid ((blw3 w (cirO c (.slice sa c.sw.length scap) (.slice wa c.ws.length wcap)) (triO ⟨hz, wi⟩) (pliO c ⟨hz, 0, 0⟩ (.slice sa c.sw.length scap) (.slice wa c.ws.length wcap))).alloc (Nat.le_trans (Nat.le_trans (al_le _ _) (al_le _ _)) (al_le _ _)) (pliO c ⟨hz, cl, 0⟩ (.slice sa c.sw.length scap) (.slice wa c.ws.length wcap)))
  have KT := Lib.hid (block_alloc (three_1 w (cirO c (.slice sa c.sw.length scap) (.slice wa c.ws.length wcap)) (triO ⟨hz, wi⟩) (pliO c ⟨hz, 0, 0⟩ (.slice sa c.sw.length scap) (.slice wa c.ws.length wcap))) (pliO c ⟨hz, cl, 0⟩ (.slice sa c.sw.length scap) (.slice wa c.ws.length wcap)))
  have KS := Lib.hid (block_alloc (three_2 w (cirO c (.slice sa c.sw.length scap) (.slice wa c.ws.length wcap)) (triO ⟨hz, wi⟩) (pliO c ⟨hz, 0, 0⟩ (.slice sa c.sw.length scap) (.slice wa c.ws.length wcap))) (pliO c ⟨hz, cl, 0⟩ (.slice sa c.sw.length scap) (.slice wa c.ws.length wcap)))
  have HV := Lib.hid (HV0.out.below HB.out (Nat.le_refl _))
  have HC := Lib.hid hc
  have w24 := hc.w2
  clear hc ht
  go_enter Try.func148, Try.ntmps148
  go_wp2_with fail
  generalize (((w.alloc (cirO c (.slice sa c.sw.length scap) (.slice wa c.ws.length wcap))).alloc (triO ⟨hz, wi⟩)).alloc (pliO c ⟨hz, 0, 0⟩ (.slice sa c.sw.length scap) (.slice wa c.ws.length wcap))).alloc (pliO c ⟨hz, cl, 0⟩ (.slice sa c.sw.length scap) (.slice wa c.ws.length wcap)) = wA at *
  refine (conducts_any c ⟨hz, cl, 0⟩ (.slice sa c.sw.length scap) (.slice wa c.ws.length wcap) HC.out HS1.out 24 wi _ hwi (by omega) HV.out).mono ?_
  rintro e w1 ⟨rfl, hb1⟩
  have cT := block_cell (keepZ KT.out hb1)
  have cS := block_cell (keepZ KS.out hb1)
  have HB1 := Lib.hid hb1
  clear hb1
  cases hq : cond c ⟨hz, cl, 0⟩ 24 wi
  · rw [hq] at HT
    clear hq
    go_wp2_with fail
    go_ret
    exact ⟨ret_bool HT.out, HB.out.trans (HB1.out.mono HB.out.size)⟩
  · rw [hq] at HT
    clear hq
    go_wp2_with fail
    refine (conducts_any c ⟨hz, 0, 0⟩ (.slice sa c.sw.length scap) (.slice wa c.ws.length wcap) HC.out HS2.out 24 wi _ hwi (by omega) (HV.out.below HB1.out (Nat.le_refl _))).mono ?_
    rintro e w2 ⟨rfl, hb2⟩
    clear cT cS
    go_wp2_with fail
    go_ret
    exact ⟨ret_bool HT.out, HB.out.trans ((HB1.out.trans (hb2.mono HB1.out.size)).mono HB.out.size)⟩

theorem shows_is (q : Bool) (c : Cir) (t : Tri) (sv wv : Value) (cl : Nat) (w : World) (hv : CirAt w sv wv c) (hc : CVal c) (ht : triB c t = true) (h2 : cl < 1048576) (hq : toldB c t cl = q) :
    Calls Try.prog 148 #[cirV c sv wv, triV t, .int .i64 cl] w fun e w' => e = .returned (.bool q) ∧ Below w.heap.size w w' := by
  subst hq
  exact shows_any c t sv wv cl w hv hc ht h2

end Go.Proofs.Ytbiihhokcmdlhaa
