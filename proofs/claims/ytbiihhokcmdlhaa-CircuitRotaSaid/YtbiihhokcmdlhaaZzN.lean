import Derived.Test.YtbiihhokcmdlhaaZzM
/- Texts of one seat, merged: Nh Ni Nj -/
/- Walks of layer 3 (circuit): Blind, Fewest of the program. -/
namespace Go.Proofs.Ytbiihhokcmdlhaa
open Go.RowKit

theorem sets_len (c : Cir) (l : List Tri) : (setsM c l).length = l.length := by simp [setsM]
theorem memL_ok {c : Cir} {l : List Tri} {s : Nat} : ∀ k ∈ natL (memM s l.length), 0 ≤ k ∧ k < (setsM c l).length := by
  intro k hk
  unfold natL at hk
  obtain ⟨j, hj, rfl⟩ := List.mem_map.1 hk
  have := (mem_memM.1 hj).1
  rw [sets_len]
  show (0 : Int) ≤ (j : Int) ∧ (j : Int) < (l.length : Int)
  omega
theorem union_memL (sets : List Nat) (s n : Nat) : unionM sets (natL (memM s n)) = unionTo sets s n := union_mem sets s n

theorem unionM_is (sets : List Nat) (s n : Nat) (sv kv : Value) (w : World) (hs : InAt w sv (natL sets)) (hk : InAt w kv (natL (memM s n))) (hb : ∀ s ∈ sets, s < 1048576) (hks : ∀ k ∈ natL (memM s n), 0 ≤ k ∧ k < sets.length) :
    Calls Try.prog 95 #[sv, kv] w fun e w' => e = .returned (.int .i64 (unionTo sets s n : Nat)) ∧ w = w' := by
  rw [← union_memL]
  exact union_any sets _ sv kv w hs hk hb hks

set_option maxRecDepth 100000 in
set_option maxHeartbeats 1000000 in
theorem blind1_any (s k gs : Nat) (w : World) (hs : s < 1048576) (hk : k ≤ 60) (k1 : w.heap[gs]? = some (.cells #[.int .i64 s] 3)) :
    Calls Try.prog 98 #[.int .i64 k, .pointer (some ⟨gs, 0, none⟩)] w fun e w' => e = .returned (.bool (!s.testBit k)) ∧ Below w.heap.size w w' := by
  have c0 := block_cell k1
  have hs2 : s < 4611686018427387904 := by omega
  go_enter Try.func98, Try.ntmps98
  go_wp2_with fail
  refine (chas_any s k _ hs2 hk).mono ?_
  rintro e w1 ⟨rfl, rfl⟩
  go_wp2_with fail
  go_ret
  exact ⟨rfl, Below.refl _ _⟩

theorem enters_blind1 : Enters 98 := fun _ _ => by kernel_rfl

set_option maxRecDepth 100000 in
set_option maxHeartbeats 4000000 in
theorem cblind_any (c : Cir) (l : List Tri) (sv wv v : Value) (w : World) (hv : CirAt w sv wv c) (hl : TrAt w v l) :
    Calls Try.prog 36 #[cirV c sv wv, v] w (ListErr (blindR c l) (chkT c l) w) := by
  have HB := Lib.hid ((Below.refl w.heap.size w).alloc (Nat.le_refl _) (cirO c sv wv))
  have K0 := Lib.hid (block_new w (cirO c sv wv) w.heap.size rfl)
  have HV := Lib.hid (hv.below HB.out (Nat.le_refl _))
  have HT := Lib.hid (hl.below HB.out (Nat.le_refl _))
  obtain ⟨⟨sa, scap, rfl, _⟩, _⟩ := hv
  obtain ⟨ta, tcap, rfl, _, m2, _⟩ := hl
  have m3 : (l.length : Int) ≤ 9223372036854775807 := by omega
  by_cases ht : chkT c l = 0
  · have HTV := Lib.hid (tval ht)
    have l12 := (tval ht).n
    have s12 := (tval ht).cv.s2
    have HC := Lib.hid ht
    have HR := Lib.hid (show blindR c l = natL (blindM c l) by unfold blindR; rw [if_pos ht])
    have HST := Lib.hid (sets_lt (l := l) HTV.out.cv)
    have HS20 := Lib.hid (show seenM c l < 1048576 from unionTo_lt HST.out _ _)
    have HSE := Lib.hid (show unionTo (setsM c l) (2 ^ l.length - 1) l.length = seenM c l from rfl)
    clear ht
    go_enter Try.func36, Try.ntmps36
    go_wp2_with fail
    generalize w.alloc (cirO c (.slice sa c.sw.length scap) wv) = wA at *
    refine (ccheckT_any c l _ _ _ _ HV.out HT.out).mono ?_
    rintro e w1 ⟨rfl, hb1⟩
    rw [HC.out]
    have HB1 := Lib.hid hb1
    have c0 := block_cell (keepZ K0.out hb1)
    clear hb1
    go_wp2_with fail
    refine (shownEach_any c l _ wv _ _ (HV.out.below HB1.out (Nat.le_refl _)) (HT.out.below HB1.out (Nat.le_refl _)) HTV.out).mono ?_
    rintro e w2 ⟨v2, rfl, hin, hb2⟩
    have HB2 := Lib.hid (HB1.out.trans (hb2.mono HB1.out.size))
    clear hb2
    have HI := Lib.hid hin
    obtain ⟨va, vcap, rfl, _⟩ := hin
    clear c0
    go_wp2_with fail
    refine (upTo_any l.length _ (by omega)).mono ?_
    rintro e w3 ⟨v3, rfl, hin, hb3⟩
    have HI3 := Lib.hid (HI.out.below hb3 (Nat.le_refl _))
    have HB3 := Lib.hid (HB2.out.trans (hb3.mono HB2.out.size))
    clear hb3
    have HU := Lib.hid hin
    obtain ⟨ua, ucap, rfl, _⟩ := hin
    clear HI
    go_wp2_with fail
    refine (unionM_is (setsM c l) _ _ _ _ _ HI3.out HU.out HST.out memL_ok).mono ?_
    rintro e w4 ⟨rfl, rfl⟩
    rw [HSE.out]
    have KS := Lib.hid (block_new w3 (.cells #[.int .i64 (seenM c l : Nat)] 3) w3.heap.size rfl)
    have HBS := Lib.hid ((Below.refl w3.heap.size w3).alloc (Nat.le_refl _) (.cells #[.int .i64 (seenM c l : Nat)] 3))
    have c0 := block_cell (keepZ K0.out (HB3.out.trans (HBS.out.mono HB3.out.size)))
    have HFI := Lib.hid (show (List.range c.sw.length).filter (fun k => !(seenM c l).testBit k) = blindM c l from rfl)
    have HSL := Lib.hid HS20.out
    generalize seenM c l = S at *
    go_wp2_with fail
    generalize w3.alloc (.cells #[.int .i64 S] 3) = wS at *
    refine (those_any _ #[] #[.pointer (some ⟨w3.heap.size, 0, none⟩)] c.sw.length (fun k => !S.testBit k) _ (by omega) enters_blind1 (fun k w5 hk hb5 => ?_)).mono ?_
    · exact blind1_any S k _ w5 HSL.out (by omega) (keepZ KS.out hb5)
    rintro e w5 ⟨v5, rfl, hin, hb5⟩
    have HI5 := Lib.hid hin
    clear hin c0
    go_wp2
    go_ret2
    exact ⟨v5, by rw [HC.out]; rfl, by rw [HR.out, ← HFI.out]; exact HI5.out, HB.out.trans ((HB3.out.trans ((HBS.out.trans (hb5.mono HBS.out.size)).mono HB3.out.size)).mono HB.out.size)⟩
  · have HR := Lib.hid (show blindR c l = [] by unfold blindR; rw [if_neg ht])
    have hqb : (chkT c l == 0) = false := by simpa using ht
    have hqc : (chkT c l != 0) = true := by simpa using ht
    have HM := Lib.hid (rfl : chkT c l = chkT c l)
    clear ht
    go_enter Try.func36, Try.ntmps36
    go_wp2_with fail
    generalize w.alloc (cirO c (.slice sa c.sw.length scap) wv) = wA at *
    refine (ccheckT_any c l _ _ _ _ HV.out HT.out).mono ?_
    rintro e w1 ⟨rfl, hb1⟩
    generalize chkT c l = m at *
    go_wp2
    go_ret2
    exact ⟨.slice none 0 0, rfl, by rw [HR.out]; exact InAt.nil _, HB.out.trans (hb1.mono HB.out.size)⟩

theorem few_no {sets : List Nat} {n k : Nat} (h : (decide (unionTo sets k n = unionTo sets (2 ^ n - 1) n) && befB (memM k n) (memM (fewM sets n k) n)) = false) : fewM sets n (k + 1) = fewM sets n k := by
  rw [fewM, h]; rfl
theorem few_yes {sets : List Nat} {n k : Nat} (h : (decide (unionTo sets k n = unionTo sets (2 ^ n - 1) n) && befB (memM k n) (memM (fewM sets n k) n)) = true) : fewM sets n (k + 1) = k := by
  rw [fewM, if_pos h]

set_option maxRecDepth 100000 in
set_option maxHeartbeats 8000000 in
theorem cfewest_any (c : Cir) (l : List Tri) (sv wv v : Value) (w : World) (hv : CirAt w sv wv c) (hl : TrAt w v l) :
    Calls Try.prog 38 #[cirV c sv wv, v] w (ListErr (fewestR c l) (chkT c l) w) := by
  have HB := Lib.hid ((Below.refl w.heap.size w).alloc (Nat.le_refl _) (cirO c sv wv))
  have K0 := Lib.hid (block_new w (cirO c sv wv) w.heap.size rfl)
  have HV := Lib.hid (hv.below HB.out (Nat.le_refl _))
  have HT := Lib.hid (hl.below HB.out (Nat.le_refl _))
  obtain ⟨⟨sa, scap, rfl, _⟩, _⟩ := hv
  obtain ⟨ta, tcap, rfl, _, m2, _⟩ := hl
  have m3 : (l.length : Int) ≤ 9223372036854775807 := by omega
  by_cases ht : chkT c l = 0
  · have HTV := Lib.hid (tval ht)
    have l12 := (tval ht).n
    have HC := Lib.hid ht
    have HR := Lib.hid (show fewestR c l = natL (memM (fewestM c l) l.length) by unfold fewestR; rw [if_pos ht])
    have HST := Lib.hid (sets_lt (l := l) HTV.out.cv)
    have HFI := Lib.hid (show fewestM c l = fewM (setsM c l) l.length (2 ^ l.length) from rfl)
    have HOK := Lib.hid (fun s => memL_ok (c := c) (l := l) (s := s))
    have HNO := Lib.hid (fun k => few_no (sets := setsM c l) (n := l.length) (k := k))
    have HYE := Lib.hid (fun k => few_yes (sets := setsM c l) (n := l.length) (k := k))
    have hpw := wrap64_pow (k := l.length) (by omega)
    have hpm : 2 ^ l.length < 1048576 := pow_set (by omega)
    have k0 : (0 : Int) ≤ (l.length : Int) := by omega
    have hz : memM (fewM (setsM c l) l.length 0) l.length = memM (2 ^ l.length - 1) l.length := rfl
    have HZ := Lib.hid hz
    clear ht hz
    go_enter Try.func38, Try.ntmps38
    go_wp2_with fail
    generalize w.alloc (cirO c (.slice sa c.sw.length scap) wv) = wA at *
    refine (ccheckT_any c l _ _ _ _ HV.out HT.out).mono ?_
    rintro e w1 ⟨rfl, hb1⟩
    rw [HC.out]
    have HB1 := Lib.hid hb1
    have c0 := block_cell (keepZ K0.out hb1)
    clear hb1
    go_wp2_with fail
    refine (shownEach_any c l _ wv _ _ (HV.out.below HB1.out (Nat.le_refl _)) (HT.out.below HB1.out (Nat.le_refl _)) HTV.out).mono ?_
    rintro e w2 ⟨v2, rfl, hin, hb2⟩
    have HB2 := Lib.hid (HB1.out.trans (hb2.mono HB1.out.size))
    clear hb2
    have HI := Lib.hid hin
    obtain ⟨va, vcap, hvv, _⟩ := hin
    subst hvv
    generalize (natL (setsM c l)).length = vl at *
    clear c0
    go_wp2_with fail
    refine (upTo_any l.length _ (by omega)).mono ?_
    rintro e w3 ⟨v3, rfl, hin, hb3⟩
    have HI3 := Lib.hid (HI.out.below hb3 (Nat.le_refl _))
    have HB3 := Lib.hid (HB2.out.trans (hb3.mono HB2.out.size))
    clear hb3
    have HU := Lib.hid hin
    obtain ⟨ua, ucap, huv, _⟩ := hin
    subst huv
    generalize (natL (memM (2 ^ l.length - 1) l.length)).length = ul at *
    clear HI
    go_wp2_with fail
    refine (unionM_is (setsM c l) _ _ _ _ _ HI3.out HU.out HST.out (HOK.out _)).mono ?_
    rintro e w4 ⟨rfl, rfl⟩
    generalize hP : 2 ^ l.length = P at *
    generalize hX : unionTo (setsM c l) (P - 1) l.length = X at *
    go_wp2_with fail
    rw [hpw]
    go_loopw [8, 30] (fun v i wr => ∃ k : Nat, k ≤ P ∧ i = .int .i64 k ∧ Hid (Below w3.heap.size w3 wr) ∧ Hid (InAt wr v (natL (memM (fewM (setsM c l) l.length k) l.length)))) (fun _ i _ => P - (intOf i).toNat)
    case atStart => exact ⟨0, Nat.zero_le _, rfl, Lib.hid (Below.refl _ _), by rw [HZ.out]; exact HU⟩
    case round =>
      obtain ⟨k, hk, rfl, hb, hF⟩ := hrel
      by_cases hlt : k < P
      · have HN0 := Lib.hid (HNO.out k)
        have HY0 := Lib.hid (HYE.out k)
        have HF0 := Lib.hid hF.out
        obtain ⟨fa, fcap, hfv, _⟩ := hF.out
        subst hfv
        generalize fewM (setsM c l) l.length k = F at *
        generalize (natL (memM F l.length)).length = fl at *
        go_wp2_with fail
        refine (members_any k l.length _ (by omega) (by omega)).mono ?_
        rintro e w5 ⟨v5, rfl, hin, hb5⟩
        have HB5 := Lib.hid (hb.out.trans (hb5.mono hb.out.size))
        have HF5 := Lib.hid (HF0.out.below hb5 (Nat.le_refl _))
        have HM5 := Lib.hid hin
        obtain ⟨ma, mcap, hmv, _⟩ := hin
        subst hmv
        generalize (natL (memM k l.length)).length = ml at *
        clear hb5 hF HF0
        go_wp2_with fail
        refine (unionM_is (setsM c l) k l.length _ _ _ (HI3.out.below HB5.out (Nat.le_refl _)) HM5.out HST.out (HOK.out _)).mono ?_
        rintro e w6 ⟨rfl, rfl⟩
        generalize unionTo (setsM c l) k l.length = Y at *
        by_cases hxy : Y = X
        · have hxb : ((Y : Int) == (X : Int)) = true := by simp [hxy]
          have HXY := Lib.hid hxy
          clear hxy
          go_wp2_with fail
          refine (before_any _ _ _ _ _ HM5.out HF5.out).mono ?_
          rintro e w7 ⟨rfl, hb7⟩
          have HB7 := Lib.hid (HB5.out.trans (hb7.mono HB5.out.size))
          have HF7 := Lib.hid (HF5.out.below hb7 (Nat.le_refl _))
          have HM7 := Lib.hid (HM5.out.below hb7 (Nat.le_refl _))
          clear hb7
          cases hq : befB (memM k l.length) (memM F l.length)
          · have HN := Lib.hid (HN0.out (by rw [hq]; simp))
            clear hq
            go_wp2_with fail
            go_roundw
            case rel => exact ⟨k + 1, hlt, by go_num, HB7, by rw [HN.out]; exact HF7⟩
            case measure => simp [intOf]; omega
          · have HN := Lib.hid (HY0.out (by rw [hq, HXY.out]; simp))
            clear hq
            go_wp2_with fail
            go_roundw
            case rel => exact ⟨k + 1, hlt, by go_num, HB7, by rw [HN.out]; exact HM7⟩
            case measure => simp [intOf]; omega
        · have hxb : ((Y : Int) == (X : Int)) = false := by simp only [beq_eq_false_iff_ne, ne_eq]; omega
          have HN := Lib.hid (HN0.out (by rw [decide_eq_false hxy]; rfl))
          clear hxy
          go_wp2_with fail
          go_roundw
          case rel => exact ⟨k + 1, hlt, by go_num, HB5, by rw [HN.out]; exact HF5⟩
          case measure => simp [intOf]; omega
      · obtain rfl : k = P := by omega
        have HF := Lib.hid hF.out
        go_wp2_with fail
        go_ret2
        exact ⟨_, by rw [HC.out]; rfl, by rw [HR.out, HFI.out]; exact HF.out, HB.out.trans ((HB3.out.trans (hb.out.mono HB3.out.size)).mono HB.out.size)⟩
  · have HR := Lib.hid (show fewestR c l = [] by unfold fewestR; rw [if_neg ht])
    have hqb : (chkT c l == 0) = false := by simpa using ht
    have hqc : (chkT c l != 0) = true := by simpa using ht
    clear ht
    go_enter Try.func38, Try.ntmps38
    go_wp2_with fail
    generalize w.alloc (cirO c (.slice sa c.sw.length scap) wv) = wA at *
    refine (ccheckT_any c l _ _ _ _ HV.out HT.out).mono ?_
    rintro e w1 ⟨rfl, hb1⟩
    generalize chkT c l = m at *
    go_wp2
    go_ret2
    exact ⟨.slice none 0 0, rfl, by rw [HR.out]; exact InAt.nil _, HB.out.trans (hb1.mono HB.out.size)⟩

end Go.Proofs.Ytbiihhokcmdlhaa

/- Walks of layer 3 (circuit): members, all, Shows, Blind of the specification. -/
namespace Go.Proofs.Ytbiihhokcmdlhaa
open Go.RowKit

set_option maxRecDepth 100000 in
set_option maxHeartbeats 2000000 in
theorem rmembers_any (s n : Nat) (w : World) (hs : s < 1048576) (hn : n ≤ 20) :
    Calls Try.prog 93 #[.int .i64 s, .int .i64 n] w (ListRes (natL (memM s n)) w) := by
  obtain ⟨i0, hi0, hz0, hz1, hz2⟩ := info_parts infoInt
  go_enter Try.func93, Try.ntmps93
  go_wp2_with fail
  go_loopw [5, 6] (fun v x wr => ∃ k : Nat, k ≤ n ∧ x = .int .i64 k ∧ Hid (Below w.heap.size w wr) ∧ Hid (wr.ownsRow w.heap.size 3 1 v (memM s k).length ((natL (memM s k)).map (Value.int .i64)))) (fun _ x _ => n - (intOf x).toNat)
  case atStart => exact ⟨0, Nat.zero_le _, rfl, Lib.hid (Below.refl _ _), Lib.hid ⟨by simp [natL, memM], Or.inl ⟨rfl, by simp [memM]⟩⟩⟩
  case round =>
    obtain ⟨k, hk, rfl, hb, ho⟩ := hrel
    obtain ⟨a, ac, rfl, hown⟩ := ownsRow_shape ho.out
    have HOWN := Lib.hid hown
    clear hown
    by_cases hlt : k < n
    · have hbit := and_one_bit (s := s) (k := k) (by omega)
      have k0 : (0 : Int) ≤ k := by omega
      have hsz := hb.out.size
      have hle := memM_len s k
      have HNO := Lib.hid (memM_no (s := s) (n := k))
      have HYE := Lib.hid (memM_yes (s := s) (n := k))
      generalize memM s k = L at *
      cases hq : s.testBit k
      · have HN := Lib.hid (HNO.out hq)
        rw [hq] at hbit
        clear hq
        go_wp2_with fail
        go_roundw
        case rel => exact ⟨k + 1, hlt, by go_num, hb, by rw [HN.out]; exact ho⟩
        case measure => simp [intOf]; omega
      · have HN := Lib.hid (HYE.out hq)
        rw [hq] at hbit
        clear hq
        go_wp2_with (at_builtin; refine wpList_append_own _ rfl (.tmp 18) (.tmp 20) 22 rfl w.heap.size 3 i0 (.int .i64 0) 1 8 Try.underlying22 hi0 hz0 hz1 hz2 rfl (by decide) _ L.length ((natL L).map (Value.int .i64)) rfl ?c0 _ _ _ [.int .i64 k] rfl rfl ?c1 ?c2 ?c3 ?c4 ?c5 ?_)
        case c0 => exact World.ownsRow.alloc ho.out _
        case c1 => exact one_cell _ _ _ rfl
        case c2 => intro u hu; simp only [List.mem_cons, List.not_mem_nil, or_false] at hu; subst hu; rfl
        case c3 => unfold maxLen; omega
        case c4 => omega
        case c5 => exact Nat.le_trans hsz (al_le _ _)
        intro v2 w4 hown2 hgrow _
        have hbX := below_grown hgrow HOWN.out (Nat.le_trans hsz (al_le _ _))
        have HBX := Lib.hid (hb.out.trans (((Below.refl _ _).alloc hsz _).trans hbX))
        have HO4 := Lib.hid (own_snoc hown2)
        obtain ⟨r2, rc2, rfl, _⟩ := ownsRow_shape hown2
        clear hown2 hgrow hbX
        go_wp2
        go_roundw
        case rel => exact ⟨k + 1, hlt, by go_num, HBX, by rw [HN.out]; exact HO4⟩
        case measure => simp [intOf]; omega
    · obtain rfl : k = n := by omega
      have HI := Lib.hid (InAt.of_own ho.out)
      go_wp2_with fail
      go_ret
      exact ⟨_, rfl, HI.out, hb.out⟩

theorem unionTo_no {sets : List Nat} {s k : Nat} (h : s.testBit k = false) : unionTo sets s (k + 1) = unionTo sets s k := by rw [unionTo, h]; rfl
theorem unionTo_yes {sets : List Nat} {s k : Nat} (h : s.testBit k = true) : unionTo sets s (k + 1) = unionTo sets s k ||| sets.getD k 0 := by rw [unionTo, if_pos h]
theorem sets_at {c : Cir} {l : List Tri} {k : Nat} (h : k < l.length) : (setsM c l).getD k 0 = shownM c (l.getD k Tri.zero) := by
  unfold setsM
  rw [List.getD_eq_getElem?_getD, List.getElem?_map, List.getD_eq_getElem?_getD, List.getElem?_eq_getElem h]; rfl

theorem rshown_is {y : Nat} {c : Cir} {t : Tri} {sv wv : Value} {w : World} (h : shownM c t = y) (hv : CirAt w sv wv c) (hc : CVal c) (ht : triB c t = true) :
    Calls Try.prog 94 #[cirV c sv wv, triV t] w fun e w' => e = .returned (.int .i64 y) ∧ Below w.heap.size w w' := by
  subst h
  exact rshown_any c t sv wv w hv hc ht

set_option maxRecDepth 100000 in
set_option maxHeartbeats 4000000 in
theorem rall_any (c : Cir) (l : List Tri) (s : Nat) (sv wv v : Value) (w : World) (hv : CirAt w sv wv c) (hl : TrAt w v l) (ht : TVal c l) (hs : s < 1048576) :
    Calls Try.prog 100 #[cirV c sv wv, v, .int .i64 s] w fun e w' => e = .returned (.int .i64 (unionTo (setsM c l) s l.length : Nat)) ∧ Below w.heap.size w w' := by
  have HB := Lib.hid ((Below.refl w.heap.size w).alloc (Nat.le_refl _) (cirO c sv wv))
  have K0 := Lib.hid (block_new w (cirO c sv wv) w.heap.size rfl)
  have HV := Lib.hid (hv.below HB.out (Nat.le_refl _))
  have HT := Lib.hid (hl.below HB.out (Nat.le_refl _))
  have HTV := Lib.hid ht
  have l12 := ht.n
  have HST := Lib.hid (sets_lt (l := l) ht.cv)
  obtain ⟨ta, tcap, rfl, m1, m2, _⟩ := hl
  clear ht
  go_enter Try.func100, Try.ntmps100
  go_wp2_with fail
  generalize w.alloc (cirO c sv wv) = wA at *
  go_loopw [7, 8] (fun x i wr => ∃ k : Nat, k ≤ l.length ∧ i = .int .i64 k ∧ x = .int .i64 (unionTo (setsM c l) s k : Nat) ∧ Hid (Below wA.heap.size wA wr)) (fun _ i _ => l.length - (intOf i).toNat)
  case atStart => exact ⟨0, Nat.zero_le _, rfl, rfl, Lib.hid (Below.refl _ _)⟩
  case round =>
    obtain ⟨k, hk, rfl, rfl, hb⟩ := hrel
    by_cases hlt : k < l.length
    · have hbit := and_one_bit (s := s) (k := k) (by omega)
      have k1 : (0 : Int) ≤ k := by omega
      have k2 : (k : Int) < l.length := by omega
      have HNO := Lib.hid (unionTo_no (sets := setsM c l) (s := s) (k := k))
      have HYE := Lib.hid (unionTo_yes (sets := setsM c l) (s := s) (k := k))
      rw [sets_at hlt] at HYE
      have hx := unionTo_lt HST.out s k
      have hy := shown_lt c (l.getD k Tri.zero) HTV.out.cv
      cases hq : s.testBit k
      · have HN := Lib.hid (HNO.out hq)
        rw [hq] at hbit
        generalize unionTo (setsM c l) s k = x at *
        clear hq
        go_wp2_with fail
        go_roundw
        case rel => exact ⟨k + 1, hlt, by go_num, by rw [HN.out], hb⟩
        case measure => simp [intOf]; omega
      · have HN := Lib.hid (HYE.out hq)
        rw [hq] at hbit
        obtain ⟨_, _, e1, _, _, hcc⟩ := HT.out
        injection e1 with e1 e2 e3
        subst e1
        obtain ⟨tb, toff, rfl, hbl, hcc⟩ := hcc (by omega)
        obtain ⟨g1, g2⟩ := tr_at hb.out hbl hcc hlt
        have hbl2 := Nat.lt_of_lt_of_le hbl hb.out.size
        have HTK := Lib.hid (HTV.out.t _ (getD_mem hlt Tri.zero))
        generalize l.getD k Tri.zero = t at *
        have b1 := bw_cells (B := wr.heap.size) (keepZ K0.out hb.out) (lt_of_block (keepZ K0.out hb.out))
        have b2 := bw_cell (B := wr.heap.size) g1 hbl2
        have b3 := bw_cell (B := wr.heap.size) g2 hbl2
        have HVR := Lib.hid (HV.out.below hb.out (Nat.le_refl _))
        have hX : Hid (∀ x : BW wr.heap.size wr, CirAt x.w sv wv c) := fun x => HVR.out.below x.b (Nat.le_refl _)
        have HNX := Lib.hid HN.out
        generalize unionTo (setsM c l) s k = x at *
        generalize hyy : shownM c t = y at *
        have HYY := Lib.hid hyy
        have hor := i64_or_nat x y (by omega) (by omega)
        clear hyy hq hcc e2 e3 g1 g2 HN
        go_wp2_with fail
        refine wp_region_below (by kernel_rfl) (by kernel_rfl) (Below.refl wr.heap.size wr) ?_
        repeat ((with_reducible refine wpQuiet_step (fun K hK => ?_)); go_simp; first | (refine hK _ ?_; clear hK K) | (apply Exists.intro; refine ⟨fun _ => ?_, hK _ ?_⟩; ((go_at_call 94; exact bw_call (Nat.le_refl _) (rshown_is HYY.out (hX.out _) HTV.out.cv HTK.out))); clear hK K))
        refine wpQuiet_nil ?_
        intro wq hwq0
        have hwq := bw_out hwq0
        clear hwq0
        have HB2 := Lib.hid (hb.out.trans (hwq.mono hb.out.size))
        clear hwq b1 b2 b3
        go_wp2_with fail
        go_roundw
        case rel => exact ⟨k + 1, hlt, by go_num, by rw [HNX.out], HB2⟩
        case measure => simp [intOf]; omega
    · obtain rfl : k = l.length := by omega
      go_wp2_with fail
      go_ret
      exact ⟨rfl, HB.out.trans (hb.out.mono HB.out.size)⟩

set_option maxRecDepth 100000 in
set_option maxHeartbeats 4000000 in
theorem rshows_any (c : Cir) (l : List Tri) (t : Int) (sv wv v : Value) (w : World) (hv : CirAt w sv wv c) (hl : TrAt w v l) :
    Calls Try.prog 35 #[cirV c sv wv, v, .int .i64 t] w (ListErr (showsR c l t) (trialE c l t) w) := by
  have HB := Lib.hid ((Below.refl w.heap.size w).alloc (Nat.le_refl _) (cirO c sv wv))
  have K0 := Lib.hid (block_new w (cirO c sv wv) w.heap.size rfl)
  have HV := Lib.hid (hv.below HB.out (Nat.le_refl _))
  have HT := Lib.hid (hl.below HB.out (Nat.le_refl _))
  obtain ⟨⟨sa, scap, rfl, _⟩, _⟩ := hv
  obtain ⟨ta, tcap, rfl, _, m2, _⟩ := hl
  have m3 : (l.length : Int) ≤ 9223372036854775807 := by omega
  by_cases ht : chkT c l = 0
  · have HTV := Lib.hid (tval ht)
    have l12 := (tval ht).n
    have s12 := (tval ht).cv.s2
    have HC := Lib.hid ht
    cases hw : decide (0 ≤ t ∧ t ≤ (l.length : Int) - 1)
    · have HE := Lib.hid (show trialE c l t = 1 by unfold trialE; rw [if_pos ht, hw]; rfl)
      have HR := Lib.hid (show showsR c l t = [] by unfold showsR; rw [HE.out]; rfl)
      have HW := Lib.hid hw
      clear ht hw
      go_enter Try.func35, Try.ntmps35
      go_wp2_with fail
      generalize w.alloc (cirO c (.slice sa c.sw.length scap) wv) = wA at *
      refine (rcheckT_any c l _ _ _ _ HV.out HT.out).mono ?_
      rintro e w1 ⟨rfl, hb1⟩
      rw [HC.out]
      go_wp2_with fail
      refine (rwithin_is _ t 0 _ _ HW.out).mono ?_
      rintro e w2 ⟨rfl, rfl⟩
      go_wp2_with fail
      go_ret2
      exact ⟨.slice none 0 0, by rw [HE.out]; rfl, by rw [HR.out]; exact InAt.nil _, HB.out.trans (hb1.mono HB.out.size)⟩
    · have HE := Lib.hid (show trialE c l t = 0 by unfold trialE; rw [if_pos ht, hw]; rfl)
      have HW := Lib.hid hw
      simp only [decide_eq_true_eq] at hw
      obtain ⟨k, rfl⟩ : ∃ k : Nat, t = k := ⟨t.toNat, by omega⟩
      have hk : k < l.length := by omega
      have HR := Lib.hid (show showsR c l k = natL (memM (shownM c (l.getD k Tri.zero)) c.sw.length) by unfold showsR; rw [HE.out, Int.toNat_natCast]; rfl)
      have HTK := Lib.hid (HTV.out.t _ (getD_mem hk Tri.zero))
      clear ht hw
      go_enter Try.func35, Try.ntmps35
      go_wp2_with fail
      generalize w.alloc (cirO c (.slice sa c.sw.length scap) wv) = wA at *
      refine (rcheckT_any c l _ _ _ _ HV.out HT.out).mono ?_
      rintro e w1 ⟨rfl, hb1⟩
      rw [HC.out]
      have HB1 := Lib.hid hb1
      clear hb1
      go_wp2_with fail
      refine (rwithin_is _ _ 0 _ _ HW.out).mono ?_
      rintro e w2 ⟨rfl, rfl⟩
      obtain ⟨_, _, e1, _, _, hcc⟩ := HT.out
      injection e1 with e1 e2 e3
      subst e1
      obtain ⟨tb, toff, rfl, hbl, hcc⟩ := hcc (by omega)
      have k1 : (0 : Int) ≤ k := by omega
      have k2 : (k : Int) < l.length := by omega
      have hx := shown_lt c (l.getD k Tri.zero) HTV.out.cv
      have D : ∀ w', Below wA.heap.size wA w' → ((w'.cell? ⟨w.heap.size, 0, none⟩ = some (.int .i64 c.hz) ∧ w'.cell? ⟨w.heap.size, 1, none⟩ = some (.slice sa c.sw.length scap) ∧ w'.cell? ⟨w.heap.size, 2, none⟩ = some wv) ∧ (w'.cell? ⟨tb, toff + k * 2, none⟩ = some (.int .i64 (l.getD k Tri.zero).hz) ∧ w'.cell? ⟨tb, toff + k * 2 + 1, none⟩ = some (.int .i64 (l.getD k Tri.zero).wire))) ∧ Below wA.heap.size wA w' := by
        intro w' h
        obtain ⟨g1, g2⟩ := tr_at h hbl hcc hk
        have c0 := block_cell (keepZ K0.out h)
        exact ⟨⟨⟨c0 0, c0 1, c0 2⟩, g1, g2⟩, h⟩
      generalize l.getD k Tri.zero = T at *
      clear hcc e2 e3
      go_upto_region 6 with fail
      go_region_held3 (fun w' => ((w'.cell? ⟨w.heap.size, 0, none⟩ = some (.int .i64 c.hz) ∧ w'.cell? ⟨w.heap.size, 1, none⟩ = some (.slice sa c.sw.length scap) ∧ w'.cell? ⟨w.heap.size, 2, none⟩ = some wv) ∧ (w'.cell? ⟨tb, toff + k * 2, none⟩ = some (.int .i64 T.hz) ∧ w'.cell? ⟨tb, toff + k * 2 + 1, none⟩ = some (.int .i64 T.wire))) ∧ Below wA.heap.size wA w')
        (first | (with_reducible exact D _ (Below.drew HB1.out)) | (with_reducible exact D _ hB2) | (with_reducible exact D _ hB1) | fail)
        (first | (go_at_call 94; have hB0 := And.right ‹_ ∧ Below wA.heap.size wA _›; refine (rshown_any c T _ wv _ (HV.out.below hB0 (Nat.le_refl _)) HTV.out.cv HTK.out).mono ?_; rintro e w3 ⟨rfl, hb3⟩; have hB1 := hB0.trans (hb3.mono hB0.size)) | (go_at_call 93; refine (rmembers_any _ _ _ (by omega) (by omega)).mono ?_; rintro e w4 ⟨v4, rfl, hin4, hb4⟩; have hI4 := Lib.hid hin4; have hB2 := hB1.trans (hb4.mono hB1.size)))
      all_goals
        go_wp2_with fail
        go_ret2
        exact ⟨_, by rw [HE.out]; rfl, by rw [HR.out]; exact hI4.out, HB.out.trans ((And.right ‹_ ∧ Below wA.heap.size wA _›).mono HB.out.size)⟩
  · have HE := Lib.hid (show chkT c l = trialE c l t by unfold trialE; rw [if_neg ht])
    have HR := Lib.hid (show showsR c l t = [] by unfold showsR; rw [if_neg (by rw [← HE.out]; exact ht)])
    have hqb : (chkT c l == 0) = false := by simpa using ht
    have hqc : (chkT c l != 0) = true := by simpa using ht
    clear ht
    go_enter Try.func35, Try.ntmps35
    go_wp2_with fail
    generalize w.alloc (cirO c (.slice sa c.sw.length scap) wv) = wA at *
    refine (rcheckT_any c l _ _ _ _ HV.out HT.out).mono ?_
    rintro e w1 ⟨rfl, hb1⟩
    generalize chkT c l = m at *
    go_wp2
    go_ret2
    exact ⟨.slice none 0 0, by rw [HE.out]; rfl, by rw [HR.out]; exact InAt.nil _, HB.out.trans (hb1.mono HB.out.size)⟩

end Go.Proofs.Ytbiihhokcmdlhaa

/- Walks of layer 3 (circuit): Blind, less, Fewest of the specification. -/
namespace Go.Proofs.Ytbiihhokcmdlhaa
open Go.RowKit

theorem wrap64_pow1 {k W : Nat} (h : k ≤ 60) (hW : 2 ^ k = W + 1) : wrap64 ((2 : Int) ^ k) = (W : Int) + 1 := by
  rw [wrap64_pow h, hW]; simp

theorem sub_cast {B S : Nat} (h : S < B + 1) : (B : Int) - (S : Int) = ((B - S : Nat) : Int) := by omega

theorem blind_mem {s n : Nat} (hs : s < 2 ^ n) : memM (2 ^ n - 1 - s) n = (List.range n).filter fun k => !s.testBit k := mem_sub hs

theorem unionTo_lt2 {sets : List Nat} {B : Nat} (h : ∀ s ∈ sets, s < 2 ^ B) (s : Nat) : ∀ n, unionTo sets s n < 2 ^ B
  | 0 => by unfold unionTo; exact Nat.two_pow_pos B
  | n + 1 => by
    unfold unionTo
    split
    · exact Nat.or_lt_two_pow (unionTo_lt2 h s n) (getD_lt h (Nat.two_pow_pos B) _)
    · exact unionTo_lt2 h s n

theorem sets_lt2 (c : Cir) (l : List Tri) : ∀ s ∈ setsM c l, s < 2 ^ c.sw.length := by
  intro s hs
  unfold setsM at hs
  obtain ⟨t, _, rfl⟩ := List.mem_map.1 hs
  exact bitsOf_lt _ _

theorem rmembers_is {s n : Nat} {L : List Nat} {w : World} (h : memM s n = L) (hs : s < 1048576) (hn : n ≤ 20) : Calls Try.prog 93 #[.int .i64 s, .int .i64 n] w (ListRes (natL L) w) := by
  subst h
  exact rmembers_any s n w hs hn

set_option maxRecDepth 100000 in
set_option maxHeartbeats 4000000 in
theorem rblind_any (c : Cir) (l : List Tri) (sv wv v : Value) (w : World) (hv : CirAt w sv wv c) (hl : TrAt w v l) :
    Calls Try.prog 37 #[cirV c sv wv, v] w (ListErr (blindR c l) (chkT c l) w) := by
  have HB := Lib.hid ((Below.refl w.heap.size w).alloc (Nat.le_refl _) (cirO c sv wv))
  have K0 := Lib.hid (block_new w (cirO c sv wv) w.heap.size rfl)
  have HV := Lib.hid (hv.below HB.out (Nat.le_refl _))
  have HT := Lib.hid (hl.below HB.out (Nat.le_refl _))
  obtain ⟨⟨sa, scap, rfl, _⟩, _⟩ := hv
  obtain ⟨ta, tcap, rfl, _, m2, _⟩ := hl
  have m3 : (l.length : Int) ≤ 9223372036854775807 := by omega
  by_cases ht : chkT c l = 0
  · have HTV := Lib.hid (tval ht)
    have l12 := (tval ht).n
    have s12 := (tval ht).cv.s2
    have HC := Lib.hid ht
    have HR := Lib.hid (show blindR c l = natL (blindM c l) by unfold blindR; rw [if_pos ht])
    have HS := Lib.hid (show seenM c l < 2 ^ c.sw.length from unionTo_lt2 (sets_lt2 c l) _ _)
    have HBM := Lib.hid (show memM (2 ^ c.sw.length - 1 - seenM c l) c.sw.length = blindM c l from blind_mem HS.out)
    have HSE := Lib.hid (show unionTo (setsM c l) (2 ^ l.length - 1) l.length = seenM c l from rfl)
    have q1 : 2 ^ l.length < 1048576 := pow_set (by omega)
    have q2 : 2 ^ c.sw.length < 1048576 := pow_set (by omega)
    obtain ⟨A, hA⟩ : ∃ A, 2 ^ l.length = A + 1 := ⟨2 ^ l.length - 1, by have := Nat.one_le_two_pow (n := l.length); omega⟩
    obtain ⟨B, hB⟩ : ∃ B, 2 ^ c.sw.length = B + 1 := ⟨2 ^ c.sw.length - 1, by have := Nat.one_le_two_pow (n := c.sw.length); omega⟩
    have hpA := wrap64_pow1 (by omega) hA
    have hpB := wrap64_pow1 (by omega) hB
    rw [hA, Nat.add_sub_cancel] at HSE
    rw [hB, Nat.add_sub_cancel] at HBM
    rw [hB] at HS
    generalize seenM c l = S at *
    have hs2 := HS.out
    have hsub := sub_cast hs2
    have HSUB := Lib.hid hsub
    have l0 : (0 : Int) ≤ l.length := by omega
    have s0 : (0 : Int) ≤ c.sw.length := by omega
    rw [hA] at q1
    rw [hB] at q2
    clear ht hsub hA hB
    go_enter Try.func37, Try.ntmps37
    go_wp2_with fail
    generalize w.alloc (cirO c (.slice sa c.sw.length scap) wv) = wA at *
    refine (rcheckT_any c l _ _ _ _ HV.out HT.out).mono ?_
    rintro e w1 ⟨rfl, hb1⟩
    rw [HC.out]
    have HB1 := Lib.hid hb1
    have c0 := block_cell (keepZ K0.out hb1)
    clear hb1
    go_wp2_with fail
    refine (rall_any c l A _ wv _ _ (HV.out.below HB1.out (Nat.le_refl _)) (HT.out.below HB1.out (Nat.le_refl _)) HTV.out (by omega)).mono ?_
    rintro e w2 ⟨rfl, hb2⟩
    rw [HSE.out]
    have HB2 := Lib.hid (HB1.out.trans (hb2.mono HB1.out.size))
    clear hb2
    clear c0
    have c0 := block_cell (keepZ K0.out HB2.out)
    go_wp2_with fail
    rw [HSUB.out]
    refine (rmembers_is HBM.out (by omega) (by omega)).mono ?_
    rintro e w3 ⟨v3, rfl, hin, hb3⟩
    have HI := Lib.hid hin
    clear hin c0
    go_wp2
    go_ret2
    exact ⟨v3, by rw [HC.out]; rfl, by rw [HR.out]; exact HI.out, HB.out.trans ((HB2.out.trans (hb3.mono HB2.out.size)).mono HB.out.size)⟩
  · have HR := Lib.hid (show blindR c l = [] by unfold blindR; rw [if_neg ht])
    have hqb : (chkT c l == 0) = false := by simpa using ht
    have hqc : (chkT c l != 0) = true := by simpa using ht
    clear ht
    go_enter Try.func37, Try.ntmps37
    go_wp2_with fail
    generalize w.alloc (cirO c (.slice sa c.sw.length scap) wv) = wA at *
    refine (rcheckT_any c l _ _ _ _ HV.out HT.out).mono ?_
    rintro e w1 ⟨rfl, hb1⟩
    generalize chkT c l = m at *
    go_wp2
    go_ret2
    exact ⟨.slice none 0 0, rfl, by rw [HR.out]; exact InAt.nil _, HB.out.trans (hb1.mono HB.out.size)⟩

theorem lessL_drop {L M : List Nat} {j : Nat} (h1 : j < L.length) (h2 : j < M.length) : lessL (L.drop j) (M.drop j) = if L.getD j 0 = M.getD j 0 then lessL (L.drop (j + 1)) (M.drop (j + 1)) else decide (L.getD j 0 < M.getD j 0) := by
  rw [List.drop_eq_getElem_cons h1, List.drop_eq_getElem_cons h2, lessL, List.getD_eq_getElem?_getD, List.getElem?_eq_getElem h1, List.getD_eq_getElem?_getD, List.getElem?_eq_getElem h2]; rfl
theorem lessL_end {L M : List Nat} {j : Nat} (h1 : L.length ≤ j) : lessL (L.drop j) (M.drop j) = false := by
  rw [List.drop_eq_nil_of_le h1]; rfl

set_option maxRecDepth 100000 in
set_option maxHeartbeats 2000000 in
theorem rless_any (L M : List Nat) (v v2 : Value) (w : World) (hv : InAt w v (natL L)) (hv2 : InAt w v2 (natL M)) (hlm : L.length = M.length) :
    Calls Try.prog 103 #[v, v2] w fun e w' => e = .returned (.bool (lessL L M)) ∧ Below w.heap.size w w' := by
  obtain ⟨a, cap, rfl, h1, h2, hc⟩ := hv
  obtain ⟨a2, cap2, rfl, h3, h4, hc2⟩ := hv2
  have HC := Lib.hid hc
  have HC2 := Lib.hid hc2
  have HLM := Lib.hid hlm
  rw [natL_len] at h1 h3
  rw [natL_len, natL_len, ← hlm]
  clear hc hc2 hlm
  go_enter Try.func103, Try.ntmps103
  go_wp2_with fail
  go_loopw [5] (fun i wr => ∃ j : Nat, j ≤ L.length ∧ i = .int .i64 j ∧ Hid (Below w.heap.size w wr) ∧ Hid (lessL L M = lessL (L.drop j) (M.drop j))) (fun i _ => L.length - (intOf i).toNat)
  case atStart => exact ⟨0, Nat.zero_le _, rfl, Lib.hid (Below.refl _ _), Lib.hid rfl⟩
  case round =>
    obtain ⟨j, hj, rfl, hb, hI⟩ := hrel
    by_cases hlt : j < L.length
    · obtain ⟨b, off, rfl, hbl, hc⟩ := HC.out (by rw [natL_len]; omega)
      obtain ⟨b2, off2, rfl, hbl2, hc2⟩ := HC2.out (by rw [natL_len, ← HLM.out]; omega)
      have g1 := (hb.out.cell (p := ⟨b, off + j, none⟩) hbl).trans (hc j (by rw [natL_len]; exact hlt))
      have g2 := (hb.out.cell (p := ⟨b2, off2 + j, none⟩) hbl2).trans (hc2 j (by rw [natL_len, ← HLM.out]; exact hlt))
      rw [natL_getD] at g1 g2
      have HO := Lib.hid (lessL_drop hlt (by rw [← HLM.out]; exact hlt))
      have j1 : (0 : Int) ≤ j := by omega
      have j2 : (j : Int) < L.length := by omega
      generalize L.getD j 0 = x at *
      generalize M.getD j 0 = y at *
      clear hc hc2
      by_cases hxy : x = y
      · have HN := Lib.hid (show lessL L M = lessL (L.drop (j + 1)) (M.drop (j + 1)) by rw [hI.out, HO.out, if_pos hxy])
        subst hxy
        go_wp2_with fail
        go_quiet (fail)
        go_wp2
        go_roundw
        case rel => exact ⟨j + 1, hlt, by go_num, Lib.hid (below_drewN hb.out _), HN⟩
        case measure => simp [intOf]; omega
      · have hxb : ((x : Int) == (y : Int)) = false := by simp only [beq_eq_false_iff_ne, ne_eq]; omega
        have hxc : ((x : Int) != (y : Int)) = true := by simp only [bne_iff_ne, ne_eq]; omega
        have HN := Lib.hid (show lessL L M = decide (x < y) by rw [hI.out, HO.out, if_neg hxy])
        have hxd : ¬ (x : Int) = (y : Int) := by omega
        clear hxy
        go_wp2_with fail
        go_quiet (fail)
        go_wp2
        go_quiet (fail)
        go_wp2
        go_ret
        exact ⟨ret_bool HN.out.symm, below_drewN (below_drewN hb.out _) _⟩
    · have HN := Lib.hid (show lessL L M = false by rw [hI.out, lessL_end (by omega)])
      go_wp2_with fail
      go_ret
      exact ⟨ret_bool HN.out.symm, hb.out⟩

end Go.Proofs.Ytbiihhokcmdlhaa
