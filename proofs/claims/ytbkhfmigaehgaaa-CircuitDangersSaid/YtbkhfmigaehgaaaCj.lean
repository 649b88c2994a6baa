/- Walks of layer 3 (circuit): Contains, Pairs of the program. -/
import Derived.Test.YtbkhfmigaehgaaaCi
namespace Go.Proofs.Ytbkhfmigaehgaaa
open Go.RowKit

set_option maxRecDepth 100000 in
set_option maxHeartbeats 1000000 in
theorem indexOf_any (v : Value) (l : List Int) (x : Int) (w : World) (hv : InAt w v l) :
    Calls Try.prog 142 #[v, .int .i64 x] w fun e w' => ∃ r : Int, e = .returned (.int .i64 r) ∧ decide (0 ≤ r) = (l.any fun y => x == y) ∧ w = w' := by
  obtain ⟨a, cap, rfl, hn, hcap, hc⟩ := hv
  have HC := Lib.hid hc
  clear hc
  go_enter Try.func142, Try.ntmps142
  go_wp2_with fail
  go_loop [8] (fun i => ∃ k : Nat, k ≤ l.length ∧ i = .int .i64 k ∧ Hid (∀ i, i < k → (x == l.getD i 0) = false)) (fun i => l.length - (intOf i).toNat)
  case atStart => exact ⟨0, Nat.zero_le _, rfl, fun i hi => by omega⟩
  case round =>
    obtain ⟨k, hk, rfl, hf⟩ := hrel
    by_cases hlt : k < l.length
    · obtain ⟨b, off, rfl, hbl, hc⟩ := HC.out (by omega)
      have g1 := hc k hlt
      clear hc
      generalize hq0 : l.getD k 0 = q at g1
      have Hq := Lib.hid hq0
      clear hq0
      cases hq : (x == q)
      · have HQ := Lib.hid hq
        go_wp2
        go_round
        case rel => exact ⟨k + 1, hlt, by go_num, fun i hi => by
          by_cases hik : i = k
          · rw [hik, Hq.out]; exact HQ.out
          · exact hf.out i (by omega)⟩
        case measure => simp [intOf]; omega
      · have HQ := Lib.hid hq
        go_wp2
        go_ret
        exact ⟨k, rfl, by rw [any_true_of (d := 0) hlt (by rw [Hq.out]; exact HQ.out)]; simp, rfl⟩
    · go_wp2
      go_ret
      exact ⟨-1, rfl, by rw [any_false_of (d := 0) (fun i hi => hf.out i (by omega))]; simp, rfl⟩

set_option maxHeartbeats 400000 in
theorem containsOf_is (q : Bool) (v : Value) (l : List Int) (x : Int) (w : World) (hv : InAt w v l) (hq : (l.any fun y => x == y) = q) :
    Calls Try.prog 87 #[v, .int .i64 x] w fun e w' => e = .returned (.bool q) ∧ w = w' := by
  subst hq
  go_enter Try.func87, Try.ntmps87
  go_wp2_with fail
  refine (indexOf_any _ _ _ _ hv).mono ?_
  rintro e w1 ⟨r, rfl, hr, rfl⟩
  have HR := Lib.hid hr
  clear hr
  go_wp2
  go_ret
  exact ⟨ret_bool HR.out, rfl⟩

theorem calone_is (A k : Nat) (w : World) (hk : k ≤ 60) (hA : 2 ^ k = A) :
    Calls Try.prog 86 #[.int .i64 k] w fun e w' => e = .returned (.int .i64 (A : Int)) ∧ w = w' := by
  subst hA
  exact calone_any k w hk

theorem crit_has {c : Cir} {k : Nat} (hk : k < c.sw.length) : ((natL (critM c)).any fun y => (k : Int) == y) = dangB c (2 ^ k) := by
  cases hq : dangB c (2 ^ k)
  · rw [List.any_eq_false]
    intro y hy
    unfold natL at hy
    rw [List.mem_map] at hy
    obtain ⟨m, hm, rfl⟩ := hy
    intro he
    have e : k = m := by
      have := eq_of_beq he
      exact Int.ofNat.inj this
    subst e
    have := (List.mem_filter.1 hm).2
    rw [hq] at this; cases this
  · rw [List.any_eq_true]
    refine ⟨(k : Int), ?_, by simp⟩
    unfold natL
    rw [List.mem_map]
    exact ⟨k, List.mem_filter.2 ⟨List.mem_range.2 hk, hq⟩, rfl⟩

abbrev prL (p : Nat × Nat) : List Value := [.int .i64 p.1, .int .i64 p.2]
abbrev PrAt (w : World) (v : Value) (l : List (Nat × Nat)) : Prop := ElAt 2 prL w v l

theorem pairRow_no {c : Cir} {i k : Nat} (h : pairB c i k = false) : pairRow c i (k + 1) = pairRow c i k := by
  unfold pairRow; rw [List.range_succ, List.filter_append]; simp [h]
theorem pairRow_yes {c : Cir} {i k : Nat} (h : pairB c i k = true) : pairRow c i (k + 1) = pairRow c i k ++ [(i, k)] := by
  unfold pairRow; rw [List.range_succ, List.filter_append]; simp [h]
theorem pairRow_len (c : Cir) (i k : Nat) : (pairRow c i k).length ≤ k := by
  unfold pairRow
  have := List.length_filter_le (pairB c i) (List.range k)
  simpa using this
theorem pairTo_len (c : Cir) : ∀ i, (pairTo c i).length ≤ i * c.sw.length
  | 0 => by simp [pairTo]
  | i + 1 => by
    have h1 := pairTo_len c i
    have h2 := pairRow_len c i c.sw.length
    simp only [pairTo, List.length_append]
    rw [Nat.succ_mul]; omega

theorem infoPair : (Try.prog.info? 71).map (fun i => (i.zero, i.size, i.bytes)) = some (some (.agg #[.int .i64 0, .int .i64 0]), 2, 16) := by kernel_rfl

theorem cells_new (w : World) (cs : List Value) (t : TypeId) {g : Nat} (hg : g = w.heap.size) : ∀ j u, cs[j]? = some u → (w.alloc (.cells cs.toArray t)).cell? ((⟨g, 0, none⟩ : Addr).add j) = some u := by
  subst hg
  intro j u hj
  have h := cell_alloc_new w cs.toArray t (0, 0) w.heap.size j rfl
  have e9 : (⟨w.heap.size, 0, none⟩ : Addr).add j = ⟨w.heap.size, j, none⟩ := by unfold Addr.add; split <;> simp_all
  rw [e9, h]
  simpa using hj

theorem pair_flat (l : List (Nat × Nat)) (i k : Nat) : (l ++ [(i, k)]).flatMap prL = l.flatMap prL ++ [.int .i64 i, .int .i64 k] := by
  rw [List.flatMap_append]; simp

def PairErr (l : List (Nat × Nat)) (er : Int) (w : World) (e : Ending) (w' : World) : Prop := ∃ v, e = .returned (.tuple #[v, .int .i64 er]) ∧ PrAt w' v l ∧ Below w.heap.size w w'
def pairsR (c : Cir) : List (Nat × Nat) := if validB c = true then pairsM c else []

theorem pairB_lt {c : Cir} {i k : Nat} (h : ¬ i < k) : pairB c i k = false := by unfold pairB; rw [decide_eq_false h]; rfl
theorem pairB_i {c : Cir} {i k : Nat} (h : dangB c (2 ^ i) = true) : pairB c i k = false := by unfold pairB; rw [h]; simp
theorem pairB_k {c : Cir} {i k : Nat} (h : dangB c (2 ^ k) = true) : pairB c i k = false := by unfold pairB; rw [h]; simp
theorem pairB_is {c : Cir} {i k : Nat} (h : i < k) (h1 : dangB c (2 ^ i) = false) (h2 : dangB c (2 ^ k) = false) : pairB c i k = dangB c (2 ^ i ||| 2 ^ k) := by
  unfold pairB; rw [h1, h2, decide_eq_true h]; rfl

set_option maxRecDepth 100000 in
set_option maxHeartbeats 8000000 in
theorem cpairs_any (c : Cir) (sv wv : Value) (w : World) (hv : CirAt w sv wv c) :
    Calls Try.prog 29 #[cirV c sv wv] w (PairErr (pairsR c) (chkC c) w) := by
  have HB := Lib.hid ((Below.refl w.heap.size w).alloc (Nat.le_refl _) (cirO c sv wv))
  have K0 := Lib.hid (block_new w (cirO c sv wv) w.heap.size rfl)
  have HV := Lib.hid (hv.below HB.out (Nat.le_refl _))
  obtain ⟨⟨sa, scap, rfl, _, _, _⟩, _⟩ := hv
  cases hq : validB c
  · have HR := Lib.hid (chkC_bad hq)
    have HL := Lib.hid (show [] = pairsR c by unfold pairsR; rw [hq]; rfl)
    clear hq
    go_enter Try.func29, Try.ntmps29
    go_wp2_with fail
    generalize w.alloc (cirO c (.slice sa c.sw.length scap) wv) = wA at *
    refine (ccritical_any c _ _ _ HV.out).mono ?_
    rintro e w1 ⟨v, rfl, _, hb1⟩
    rw [← HR.out]
    go_wp2
    go_ret2
    exact ⟨_, by rw [HR.out]; rfl, by rw [← HL.out]; exact ElAt.nil _, HB.out.trans (hb1.mono HB.out.size)⟩
  · have HC := Lib.hid (cval hq)
    have HR := Lib.hid (chkC_ok hq)
    have HL := Lib.hid (show pairsM c = pairsR c by unfold pairsR; rw [hq]; rfl)
    have HCR := Lib.hid (show critR c = natL (critM c) by unfold critR; rw [hq]; rfl)
    have s2 := (cval hq).s2
    have s1 := (cval hq).s1
    clear hq
    obtain ⟨i0, hi0, hz0, hz1, hz2⟩ := info_parts infoPair
    go_enter Try.func29, Try.ntmps29
    go_wp2_with fail
    generalize w.alloc (cirO c (.slice sa c.sw.length scap) wv) = wA at *
    refine (ccritical_any c _ _ _ HV.out).mono ?_
    rintro e w1 ⟨v, rfl, hin, hb1⟩
    rw [← HR.out]
    rw [HCR.out] at hin
    have HI := Lib.hid hin
    obtain ⟨va, vcap, rfl, _⟩ := hin
    have KW := Lib.hid (keepZ K0.out hb1)
    have HB1 := Lib.hid hb1
    have c0 := block_cell KW.out
    clear hb1
    go_wp2_with fail
    clear c0
    go_loopw [6, 20] (fun x i wr => ∃ k : Nat, k ≤ c.sw.length ∧ i = .int .i64 k ∧ Hid (Below w1.heap.size w1 wr) ∧ Hid (wr.ownsRow w1.heap.size 71 2 x (pairTo c k).length ((pairTo c k).flatMap prL))) (fun _ i _ => c.sw.length - (intOf i).toNat)
    case atStart => exact ⟨0, Nat.zero_le _, rfl, Lib.hid (Below.refl _ _), Lib.hid ⟨by simp [pairTo], Or.inl ⟨rfl, by simp [pairTo]⟩⟩⟩
    case round =>
      obtain ⟨i, hi, rfl, hb, ho⟩ := hrel
      obtain ⟨wo, rfl⟩ : ∃ wo : World, wo = wr := ⟨_, rfl⟩
      obtain ⟨xa, xc, rfl, _⟩ := ownsRow_shape ho.out
      by_cases hlt : i < c.sw.length
      · have R0 := Lib.hid (show wo.ownsRow w1.heap.size 71 2 (.slice xa (pairTo c i).length xc) (pairTo c i ++ pairRow c i 0).length ((pairTo c i ++ pairRow c i 0).flatMap prL) by
          rw [show pairTo c i ++ pairRow c i 0 = pairTo c i by simp [pairRow]]; exact ho.out)
        have hpl := pairTo_len c i
        have hpl2 : (pairTo c i).length ≤ 144 := Nat.le_trans hpl (Nat.mul_le_mul (by omega : i ≤ 12) s2)
        have c0 := block_cell (keepZ KW.out hb.out)
        have i1 : (0 : Int) ≤ i := by omega
        clear ho hpl
        go_wp2_with fail
        clear c0
        go_loopw [6, 26] (fun x j wr => ∃ k : Nat, k ≤ c.sw.length ∧ j = .int .i64 k ∧ Hid (Below w1.heap.size w1 wr) ∧ Hid (wr.ownsRow w1.heap.size 71 2 x (pairTo c i ++ pairRow c i k).length ((pairTo c i ++ pairRow c i k).flatMap prL))) (fun _ j _ => c.sw.length - (intOf j).toNat)
        case atStart => exact ⟨0, Nat.zero_le _, rfl, hb, R0⟩
        case round =>
          obtain ⟨k, hk, rfl, hb2, ho2⟩ := hrel
          obtain ⟨ya, yc, rfl, hown⟩ := ownsRow_shape ho2.out
          by_cases hlk : k < c.sw.length
          · by_cases hik : i < k
            · have HO := Lib.hid ho2.out
              have HOWN := Lib.hid hown
              have hrl := pairRow_len c i k
              have h1 : (pairTo c i ++ pairRow c i k).length ≤ 156 := by rw [List.length_append]; omega
              have C1 := Lib.hid (crit_has (c := c) (k := i) hlt)
              have C2 := Lib.hid (crit_has (c := c) (k := k) hlk)
              have HN := Lib.hid (pairRow_no (c := c) (i := i) (k := k))
              have HY := Lib.hid (pairRow_yes (c := c) (i := i) (k := k))
              have HF := Lib.hid (pair_flat (pairTo c i ++ pairRow c i k) i k)
              have hin2 := HI.out.below hb2.out (Nat.le_refl _)
              have HI2 := Lib.hid hin2
              clear hrl hin2 hown ho2
              cases hdi : dangB c (2 ^ i)
              · cases hdk : dangB c (2 ^ k)
                · have PB := Lib.hid (pairB_is hik hdi hdk)
                  have D1 := Lib.hid hdi
                  have D2 := Lib.hid hdk
                  rw [hdi] at C1
                  rw [hdk] at C2
                  clear hdi hdk
                  obtain ⟨A, hA⟩ : ∃ A, 2 ^ i = A := ⟨_, rfl⟩
                  obtain ⟨D, hD⟩ : ∃ D, 2 ^ k = D := ⟨_, rfl⟩
                  have a20 : A < 1048576 := by rw [← hA]; exact pow_set (by omega)
                  have d20 : D < 1048576 := by rw [← hD]; exact pow_set (by omega)
                  have hor := i64_or_nat A D (by omega) (by omega)
                  have ho20 : A ||| D < 1048576 := Nat.or_lt_two_pow (n := 20) a20 d20
                  rw [hA, hD] at PB
                  have HA := Lib.hid hA
                  have HD := Lib.hid hD
                  have HV2 := Lib.hid (HV.out.below (HB1.out.trans (hb2.out.mono HB1.out.size)) (Nat.le_refl _))
                  have kc := keepZ KW.out hb2.out
                  have b1 := bw_cells (B := wr.heap.size) kc (lt_of_block kc)
                  have hzr := hb2.out.size
                  generalize hLL : (pairTo c i ++ pairRow c i k) = L at *
                  have HLL := Lib.hid hLL
                  clear hA hD a20 d20 kc hLL
                  cases hpb : dangB c (A ||| D)
                  · have HP := Lib.hid (HN.out (PB.out.trans hpb))
                    have HPB := Lib.hid hpb
                    clear hpb
                    go_wp2_with (go_at_call 87; (first | (with_reducible refine (containsOf_is false _ (natL (critM c)) i _ HI2.out C1.out).mono ?_) | (with_reducible refine (containsOf_is false _ (natL (critM c)) k _ HI2.out C2.out).mono ?_)); rintro e w3 ⟨rfl, rfl⟩)
                    refine wp_region_below (by kernel_rfl) (by kernel_rfl) (Below.refl wr.heap.size wr) ?_
                    repeat ((with_reducible refine wpQuiet_step (fun K hK => ?_)); go_simp; first | (refine hK _ ?_; clear hK K) | (apply Exists.intro; refine ⟨fun _ => ?_, hK _ ?_⟩; (first | (go_at_call 86; first | (with_reducible exact bw_same (calone_is A i _ (by omega) HA.out)) | (with_reducible exact bw_same (calone_is D k _ (by omega) HD.out))) | (go_at_call 85; with_reducible exact bw_call (Nat.le_refl _) (dang_is false c _ wv (A ||| D) _ (HV2.out.below (BW.b _) (Nat.le_refl _)) HC.out ho20 HPB.out))); clear hK K))
                    refine wpQuiet_nil ?_
                    intro wq hwq0
                    have hwq := bw_out hwq0
                    clear hwq0
                    have HB3 := Lib.hid (hb2.out.trans (hwq.mono hzr))
                    have HO3 := Lib.hid (ownsRow_below HO.out hwq)
                    clear hwq b1 hor
                    go_wp2_with fail
                    go_roundw
                    case rel => exact ⟨k + 1, hlk, by go_num, HB3, by rw [HP.out, HLL.out]; exact HO3⟩
                    case measure => simp [intOf]; omega
                  · have HP := Lib.hid (HY.out (PB.out.trans hpb))
                    have HPB := Lib.hid hpb
                    clear hpb
                    go_wp2_with (go_at_call 87; (first | (with_reducible refine (containsOf_is false _ (natL (critM c)) i _ HI2.out C1.out).mono ?_) | (with_reducible refine (containsOf_is false _ (natL (critM c)) k _ HI2.out C2.out).mono ?_)); rintro e w3 ⟨rfl, rfl⟩)
                    refine wp_region_below (by kernel_rfl) (by kernel_rfl) (Below.refl wr.heap.size wr) ?_
                    repeat ((with_reducible refine wpQuiet_step (fun K hK => ?_)); go_simp; first | (refine hK _ ?_; clear hK K) | (apply Exists.intro; refine ⟨fun _ => ?_, hK _ ?_⟩; (first | (go_at_call 86; first | (with_reducible exact bw_same (calone_is A i _ (by omega) HA.out)) | (with_reducible exact bw_same (calone_is D k _ (by omega) HD.out))) | (go_at_call 85; with_reducible exact bw_call (Nat.le_refl _) (dang_is true c _ wv (A ||| D) _ (HV2.out.below (BW.b _) (Nat.le_refl _)) HC.out ho20 HPB.out))); clear hK K))
                    refine wpQuiet_nil ?_
                    intro wq hwq0
                    have hwq := bw_out hwq0
                    clear hwq0
                    have HB3 := Lib.hid (hb2.out.trans (hwq.mono hzr))
                    have HO3 := Lib.hid (ownsRow_below HO.out hwq)
                    have hsz3 := Nat.le_trans hzr hwq.size
                    clear hwq b1 hor
                    go_wp2_with (at_builtin; refine wpList_append_own _ rfl (.tmp 49) (.tmp 53) 39 rfl w1.heap.size 71 i0 (.agg #[.int .i64 0, .int .i64 0]) 2 16 Try.underlying39 hi0 hz0 hz1 hz2 rfl (by decide) _ L.length (L.flatMap prL) rfl ?g0 _ _ _ [.int .i64 i, .int .i64 k] rfl rfl ?g1 ?g2 ?g3 ?g4 ?g5 ?_)
                    case g0 => exact World.ownsRow.alloc HO3.out _
                    case g1 => exact cells_new _ _ _ rfl
                    case g2 => intro u hu; simp only [List.mem_cons, List.not_mem_nil, or_false] at hu; rcases hu with rfl | rfl <;> rfl
                    case g3 => unfold maxLen; omega
                    case g4 => omega
                    case g5 => exact Nat.le_trans hsz3 (al_le _ _)
                    intro v2 w4 hown2 hgrow _
                    have hbX := ((Below.refl _ _).alloc hsz3 _).trans (below_grown hgrow HOWN.out (Nat.le_trans hsz3 (al_le _ _)))
                    have HB4 := Lib.hid (HB3.out.trans hbX)
                    have HL2 := Lib.hid (show pairTo c i ++ pairRow c i (k + 1) = L ++ [(i, k)] by rw [HP.out, ← HLL.out, List.append_assoc])
                    have HO4 : Hid (w4.ownsRow w1.heap.size 71 2 v2 (L ++ [(i, k)]).length ((L ++ [(i, k)]).flatMap prL)) := by
                      rw [HF.out, show (L ++ [(i, k)]).length = L.length + 1 by simp]; exact hown2
                    obtain ⟨ya2, yc2, rfl, _⟩ := ownsRow_shape hown2
                    clear hown2 hgrow hbX
                    go_wp2
                    go_roundw
                    case rel => exact ⟨k + 1, hlk, by go_num, HB4, by rw [HL2.out]; exact HO4⟩
                    case measure => simp [intOf]; omega
                · have HP := Lib.hid (HN.out (pairB_k hdk))
                  rw [hdi] at C1
                  rw [hdk] at C2
                  clear hdi hdk
                  generalize hLL : (pairTo c i ++ pairRow c i k) = L at *
                  have HLL := Lib.hid hLL
                  clear hLL
                  go_wp2_with (go_at_call 87; (first | (with_reducible refine (containsOf_is false _ (natL (critM c)) i _ HI2.out C1.out).mono ?_) | (with_reducible refine (containsOf_is true _ (natL (critM c)) k _ HI2.out C2.out).mono ?_)); rintro e w3 ⟨rfl, rfl⟩)
                  go_roundw
                  case rel => exact ⟨k + 1, hlk, by go_num, hb2, by rw [HP.out, HLL.out]; exact HO⟩
                  case measure => simp [intOf]; omega
              · have HP := Lib.hid (HN.out (pairB_i hdi))
                rw [hdi] at C1
                clear hdi C2
                generalize hLL : (pairTo c i ++ pairRow c i k) = L at *
                have HLL := Lib.hid hLL
                clear hLL
                go_wp2_with (go_at_call 87; (with_reducible refine (containsOf_is true _ (natL (critM c)) i _ HI2.out C1.out).mono ?_); rintro e w3 ⟨rfl, rfl⟩)
                go_roundw
                case rel => exact ⟨k + 1, hlk, by go_num, hb2, by rw [HP.out, HLL.out]; exact HO⟩
                case measure => simp [intOf]; omega
            · have HP := Lib.hid (pairRow_no (pairB_lt (c := c) hik))
              have HO := Lib.hid ho2.out
              clear ho2 hown
              generalize hLL : (pairTo c i ++ pairRow c i k) = L at *
              have HLL := Lib.hid hLL
              clear hLL
              go_wp2_with fail
              go_roundw
              case rel => exact ⟨k + 1, hlk, by go_num, hb2, by rw [HP.out, HLL.out]; exact HO⟩
              case measure => simp [intOf]; omega
          · obtain rfl : k = c.sw.length := by omega
            have HO := Lib.hid ho2.out
            clear ho2 hown
            go_wp2_with fail
            go_roundw
            case rel => exact ⟨i + 1, hlt, by go_num, hb2, HO⟩
            case measure => simp [intOf]; omega
      · obtain rfl : i = c.sw.length := by omega
        go_wp2_with fail
        go_ret2
        exact ⟨.slice xa (pairTo c c.sw.length).length xc, by rw [HR.out]; rfl, by rw [← HL.out]; exact ElAt.of_own (f := prL) (xs := pairsM c) (fun _ => rfl) ho.out, HB.out.trans ((HB1.out.trans (hb.out.mono HB1.out.size)).mono HB.out.size)⟩

end Go.Proofs.Ytbkhfmigaehgaaa
