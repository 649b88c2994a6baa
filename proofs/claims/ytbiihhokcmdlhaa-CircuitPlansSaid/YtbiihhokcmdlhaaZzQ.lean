import Derived.Test.YtbiihhokcmdlhaaZzP
import Derived.WalkSpells
/- Texts of one seat, merged: Pc Pd -/
/- Walks of layer 3 (circuit): Rota of the program. -/
namespace Go.Proofs.Ytbiihhokcmdlhaa
open Go.RowKit

def rotE (c : Cir) (l : List Tri) (N gap : Int) : Int :=
  if chkT c l = 0 then
    (if (decide (1 ≤ N ∧ N ≤ 60) && decide (1 ≤ gap ∧ gap ≤ 60)) = true then
      (if 20000 < pcM (l.length + 1) N.toNat then 2 else
        match bstM (setsM c l) c.sw.length gap.toNat (l.length + 1) N.toNat (pcM (l.length + 1) N.toNat) with | none => 3 | some _ => 0)
    else 1)
  else chkT c l
def rotR (c : Cir) (l : List Tri) (N gap : Int) : List Int :=
  if rotE c l N gap = 0 then
    (match bstM (setsM c l) c.sw.length gap.toNat (l.length + 1) N.toNat (pcM (l.length + 1) N.toNat) with | none => [] | some b => digM (l.length + 1) b N.toNat)
  else []

/-- The best list so far lies in memory; none: nil. -/
def BestAt (w : World) (t N : Nat) (o : Option Nat) (v : Value) : Prop := match o with
  | none => v = .slice none 0 0
  | some b => ∃ g, v = .slice (some ⟨g, 0, none⟩) N N ∧ InAt w v (digM t b N)
theorem BestAt.below {w w' : World} {t N : Nat} {o : Option Nat} {v : Value} (h : BestAt w t N o v) (hb : Below w.heap.size w w') : BestAt w' t N o v := by
  unfold BestAt at h ⊢
  split at h
  · exact h
  · obtain ⟨g, e, hi⟩ := h; exact ⟨g, e, hi.below hb (Nat.le_refl _)⟩

/-! ### the row of what is shown while it is made -/
def frow (sets : List Nat) (L : List Int) (M : List Nat) (N j : Nat) : List Int := (List.range N).map fun i => if i ∈ M.take j then ((sets.getD (L.getD i 0).toNat 0 : Nat) : Int) else 0
theorem frow_len (sets : List Nat) (L : List Int) (M : List Nat) (N j : Nat) : (frow sets L M N j).length = N := by simp [frow]
theorem frow_zero (sets : List Nat) (L : List Int) (M : List Nat) (N : Nat) : frow sets L M N 0 = List.replicate N 0 := by
  unfold frow
  apply List.ext_getElem
  · simp
  · intro i h1 h2; simp
theorem frow_set {sets : List Nat} {L : List Int} {M : List Nat} {N j : Nat} (hj : j < M.length) (_hm : M.getD j 0 < N) :
    (frow sets L M N j).set (M.getD j 0) ((sets.getD (L.getD (M.getD j 0) 0).toNat 0 : Nat) : Int) = frow sets L M N (j + 1) := by
  unfold frow
  apply List.ext_getElem
  · simp
  · intro i h1 h2
    rw [List.getElem_set]
    simp only [List.getElem_map, List.getElem_range]
    have h3 := take_mem (L := M) (k := j) (s := i) hj
    by_cases e : M.getD j 0 = i
    · subst e
      have h4 : M.getD j 0 ∈ M.take (j + 1) := of_decide_eq_true (h3.trans (by simp))
      rw [if_pos rfl, if_pos h4]
    · rw [if_neg e]
      have e2 : ¬ i = M.getD j 0 := fun h => e h.symm
      have h4 : (i ∈ M.take (j + 1)) ↔ (i ∈ M.take j) := decide_eq_decide.1 (h3.trans (by rw [decide_eq_false e2, Bool.or_false]))
      by_cases h5 : i ∈ M.take j
      · rw [if_pos h5, if_pos (h4.2 h5)]
      · rw [if_neg h5, if_neg (fun h => h5 (h4.1 h))]

def madeM (L : List Int) (N : Nat) : List Nat := (List.range N).filter fun i => L.getD i 0 != -1
theorem made_mem {L : List Int} {N i : Nat} : i ∈ madeM L N ↔ i < N ∧ L.getD i 0 ≠ -1 := by
  unfold madeM; rw [List.mem_filter, List.mem_range]; simp
theorem made_cnt {L : List Int} {N : Nat} (h : L.length = N) : (madeM L N).length = cntT L := by unfold madeM cntT; rw [h]
theorem frow_end {sets : List Nat} {L : List Int} {N : Nat} (h : L.length = N) : frow sets L (madeM L N) N (madeM L N).length = natL (rndM sets L) := by
  unfold frow natL rndM
  rw [List.take_length]
  apply List.ext_getElem
  · simp [h]
  · intro i h1 h2
    simp only [List.length_map, List.length_range] at h1
    simp only [List.getElem_map, List.getElem_range]
    have hg : L.getD i 0 = L[i]'(by omega) := by rw [List.getD_eq_getElem?_getD, List.getElem?_eq_getElem (by omega)]; rfl
    by_cases e : L.getD i 0 = -1
    · rw [if_neg (fun hm => (made_mem.1 hm).2 e), if_pos (by rw [← hg]; exact e)]; rfl
    · rw [if_pos (made_mem.2 ⟨h1, e⟩), if_neg (by rw [← hg]; exact e), ← hg]; rfl

theorem in_open {w : World} {a : Option Addr} {n cap : Nat} {xs : List Int} (h : InAt w (.slice a n cap) xs) (hp : 0 < xs.length) : ∃ b off, a = some ⟨b, off, none⟩ ∧ b < w.heap.size ∧ ∀ i, i < xs.length → w.cell? ⟨b, off + i, none⟩ = some (.int .i64 (xs.getD i 0)) := by
  obtain ⟨a', c', e, _, _, h3⟩ := h
  injection e with e1 e2 e3
  subst e1
  exact h3 hp

theorem bst_no {sets : List Nat} {n gap t N k : Nat} (h : (decide (cntT (digM t k N) < fewN t N (bstM sets n gap t N k)) && okM sets n gap (digM t k N)) = false) : bstM sets n gap t N (k + 1) = bstM sets n gap t N k := by rw [bst_succ, h]; rfl
theorem bst_yes {sets : List Nat} {n gap t N k : Nat} (h : (decide (cntT (digM t k N) < fewN t N (bstM sets n gap t N k)) && okM sets n gap (digM t k N)) = true) : bstM sets n gap t N (k + 1) = some k := by rw [bst_succ, if_pos h]
theorem rnd_lt {sets : List Nat} (h : ∀ s ∈ sets, s < 1048576) (L : List Int) : ∀ s ∈ rndM sets L, s < 1048576 := by
  intro s hs
  unfold rndM at hs
  obtain ⟨d, _, rfl⟩ := List.mem_map.1 hs
  split
  · decide
  · exact getD_lt h (by decide) _

set_option maxRecDepth 100000 in
set_option maxHeartbeats 8000000 in
theorem crotaM_any (c : Cir) (l : List Tri) (Ni gi : Int) (sv wv v : Value) (w : World) (hv : CirAt w sv wv c) (hl : TrAt w v l) :
    Calls Try.prog 43 #[cirV c sv wv, v, .int .i64 Ni, .int .i64 gi] w (ListErr (rotR c l Ni gi) (rotE c l Ni gi) w) := by
  have HB := Lib.hid ((Below.refl w.heap.size w).alloc (Nat.le_refl _) (cirO c sv wv))
  have K0 := Lib.hid (block_new w (cirO c sv wv) w.heap.size rfl)
  have HV := Lib.hid (hv.below HB.out (Nat.le_refl _))
  have HT := Lib.hid (hl.below HB.out (Nat.le_refl _))
  obtain ⟨⟨sa, scap, rfl, _⟩, _⟩ := hv
  obtain ⟨ta, tcap, rfl, _, m2, _⟩ := hl
  have m3 : (l.length : Int) ≤ 9223372036854775807 := by omega
  by_cases ht : chkT c l = 0
  rotate_left
  · have HE := Lib.hid (show chkT c l = rotE c l Ni gi by unfold rotE; rw [if_neg ht])
    have HR := Lib.hid (show rotR c l Ni gi = [] by unfold rotR; rw [if_neg (by rw [← HE.out]; exact ht)])
    have hqb : (chkT c l == 0) = false := by simpa using ht
    have hqc : (chkT c l != 0) = true := by simpa using ht
    clear ht
    go_enter Try.func43, Try.ntmps43
    go_wp2_with fail
    generalize w.alloc (cirO c (.slice sa c.sw.length scap) wv) = wA at *
    refine (ccheckT_any c l _ _ _ _ HV.out HT.out).mono ?_
    rintro e w1 ⟨rfl, hb1⟩
    generalize chkT c l = m at *
    go_wp2
    go_ret2
    exact ⟨.slice none 0 0, by rw [HE.out]; rfl, by rw [HR.out]; exact InAt.nil _, HB.out.trans (hb1.mono HB.out.size)⟩
  have HC := Lib.hid ht
  have HTV := Lib.hid (tval ht)
  have l12 := (tval ht).n
  have s12 := (tval ht).cv.s2
  obtain ⟨b1, h1⟩ : ∃ b, decide (1 ≤ Ni ∧ Ni ≤ 60) = b := ⟨_, rfl⟩
  obtain ⟨b2, h2⟩ : ∃ b, decide (1 ≤ gi ∧ gi ≤ 60) = b := ⟨_, rfl⟩
  have H1 := Lib.hid h1
  have H2 := Lib.hid h2
  by_cases hall : (b1 && b2) = true
  rotate_left
  · have HE := Lib.hid (show rotE c l Ni gi = 1 by unfold rotE; rw [if_pos ht, h1, h2, if_neg hall])
    have HR := Lib.hid (show rotR c l Ni gi = [] by unfold rotR; rw [HE.out]; rfl)
    clear ht h1 h2
    cases b1 <;> cases b2
    all_goals try (exact absurd rfl hall)
    all_goals
      clear hall
      go_enter Try.func43, Try.ntmps43
      go_wp2_with fail
      generalize w.alloc (cirO c (.slice sa c.sw.length scap) wv) = wA at *
      refine (ccheckT_any c l _ _ _ _ HV.out HT.out).mono ?_
      rintro e w1 ⟨rfl, hb1⟩
      rw [HC.out]
      go_wp2_with (go_at_call 75; (first | (with_reducible refine (cwithin_is _ Ni 1 60 _ H1.out).mono ?_) | (with_reducible refine (cwithin_is _ gi 1 60 _ H2.out).mono ?_)); rintro e w2 ⟨rfl, rfl⟩)
      go_ret2
      exact ⟨.slice none 0 0, by rw [HE.out]; rfl, by rw [HR.out]; exact InAt.nil _, HB.out.trans (hb1.mono HB.out.size)⟩
  simp only [Bool.and_eq_true] at hall
  obtain ⟨rfl, rfl⟩ := hall
  simp only [decide_eq_true_eq] at h1 h2
  obtain ⟨N, rfl⟩ : ∃ N : Nat, Ni = N := ⟨Ni.toNat, by omega⟩
  obtain ⟨gp, rfl⟩ : ∃ g : Nat, gi = g := ⟨gi.toNat, by omega⟩
  have n1 : 1 ≤ N := by omega
  have n60 : N ≤ 60 := by omega
  have g1 : 1 ≤ gp := by omega
  have g60 : gp ≤ 60 := by omega
  have HEE := Lib.hid (show rotE c l N gp = if 20000 < pcM (l.length + 1) N then 2 else match bstM (setsM c l) c.sw.length gp (l.length + 1) N (pcM (l.length + 1) N) with | none => 3 | some _ => 0 by
    unfold rotE; rw [if_pos ht, H1.out, H2.out]; rfl)
  clear ht h1 h2
  by_cases hpc : 20000 < pcM (l.length + 1) N
  · have HE := Lib.hid (show rotE c l N gp = 2 by rw [HEE.out, if_pos hpc])
    have HR := Lib.hid (show rotR c l N gp = [] by unfold rotR; rw [HE.out]; rfl)
    clear HEE
    go_enter Try.func43, Try.ntmps43
    go_wp2_with fail
    generalize w.alloc (cirO c (.slice sa c.sw.length scap) wv) = wA at *
    refine (ccheckT_any c l _ _ _ _ HV.out HT.out).mono ?_
    rintro e w1 ⟨rfl, hb1⟩
    rw [HC.out]
    go_wp2_with (go_at_call 75; (first | (with_reducible refine (cwithin_is _ (N : Int) 1 60 _ H1.out).mono ?_) | (with_reducible refine (cwithin_is _ (gp : Int) 1 60 _ H2.out).mono ?_)); rintro e w2 ⟨rfl, rfl⟩)
    refine (countRotas_any l.length N _ l12 n60).mono ?_
    rintro e w2 ⟨rfl, rfl⟩
    generalize pcM (l.length + 1) N = P at *
    go_wp2
    go_ret2
    exact ⟨.slice none 0 0, by rw [HE.out]; rfl, by rw [HR.out]; exact InAt.nil _, HB.out.trans (hb1.mono HB.out.size)⟩
  have HRR := Lib.hid (show rotR c l N gp = match bstM (setsM c l) c.sw.length gp (l.length + 1) N (pcM (l.length + 1) N) with | none => [] | some b => digM (l.length + 1) b N by
    unfold rotR
    rw [HEE.out, if_neg hpc]
    cases hb : bstM (setsM c l) c.sw.length gp (l.length + 1) N (pcM (l.length + 1) N) with
    | none => rfl
    | some b => simp only [Int.toNat_natCast, hb]; rfl)
  rw [if_neg hpc] at HEE
  have HST := Lib.hid (sets_lt (l := l) HTV.out.cv)
  have HSL := Lib.hid (sets_len c l)
  have HNO := Lib.hid (fun k => bst_no (sets := setsM c l) (n := c.sw.length) (gap := gp) (t := l.length + 1) (N := N) (k := k))
  have HYE := Lib.hid (fun k => bst_yes (sets := setsM c l) (n := c.sw.length) (gap := gp) (t := l.length + 1) (N := N) (k := k))
  obtain ⟨i0, hi, hz0, hz1, hz2⟩ := info_parts infoInt
  have hnil : ∀ (W : World) (a : Option Addr) (n c : Nat), (binOp .eql 22 (.slice a n c) (.slice none 0 0)).run Try.prog W = .ok (.bool a.isNone) W := fun W a n c => Lib.run_eql_slice_nil W _ _ a n c 0 0 Try.underlying22
  go_enter Try.func43, Try.ntmps43
  go_wp2_with fail
  generalize w.alloc (cirO c (.slice sa c.sw.length scap) wv) = wA at *
  refine (ccheckT_any c l _ _ _ _ HV.out HT.out).mono ?_
  rintro e w1 ⟨rfl, hb1⟩
  rw [HC.out]
  have HB1 := Lib.hid hb1
  have c0 := block_cell (keepZ K0.out hb1)
  clear hb1
  go_wp2_with (go_at_call 75; (first | (with_reducible refine (cwithin_is _ (N : Int) 1 60 _ H1.out).mono ?_) | (with_reducible refine (cwithin_is _ (gp : Int) 1 60 _ H2.out).mono ?_)); rintro e w2 ⟨rfl, rfl⟩)
  refine (countRotas_any l.length N _ l12 n60).mono ?_
  rintro e w2 ⟨rfl, rfl⟩
  have HPB := Lib.hid (pcM_bound (show l.length + 1 ≤ 13 by omega) N)
  generalize pcM (l.length + 1) N = P at *
  go_wp2_with fail
  refine (shownEach_any c l _ wv _ _ (HV.out.below HB1.out (Nat.le_refl _)) (HT.out.below HB1.out (Nat.le_refl _)) HTV.out).mono ?_
  rintro e w2 ⟨v2, rfl, hin, hb2⟩
  have HB2 := Lib.hid (HB1.out.trans (hb2.mono HB1.out.size))
  clear hb2
  have HI := Lib.hid hin
  obtain ⟨va, vcap, hvv, _⟩ := hin
  subst hvv
  rw [natL_len] at HI ⊢
  rw [HSL.out] at HI ⊢
  clear c0
  have HZ0 := Lib.hid (show bstM (setsM c l) c.sw.length gp (l.length + 1) N 0 = none from rfl)
  generalize setsM c l = sets at *
  go_wp2_with fail
  go_loopw [13, 14, 50] (fun x v i wr => ∃ k : Nat, k ≤ P ∧ i = .int .i64 k ∧ x = .int .i64 (fewN (l.length + 1) N (bstM sets c.sw.length gp (l.length + 1) N k) : Nat) ∧ Hid (BestAt wr (l.length + 1) N (bstM sets c.sw.length gp (l.length + 1) N k) v) ∧ Hid (Below w2.heap.size w2 wr)) (fun _ _ i _ => P - (intOf i).toNat)
  case atStart => exact ⟨0, Nat.zero_le _, rfl, by rw [HZ0.out]; rfl, by rw [HZ0.out]; exact Lib.hid rfl, Lib.hid (Below.refl _ _)⟩
  case round =>
    obtain ⟨k, hk, rfl, rfl, hbest, hb⟩ := hrel
    obtain ⟨wo, rfl⟩ : ∃ wo : World, wo = wr := ⟨_, rfl⟩
    have hsz := hb.out.size
    by_cases hlt : k < P
    · have HN0 := Lib.hid (HNO.out k)
      have HY0 := Lib.hid (HYE.out k)
      generalize bstM sets c.sw.length gp (l.length + 1) N k = o at *
      have hkb : k ≤ 260000 := by have := HPB.out; omega
      go_wp2_with fail
      refine (numbered_any k l.length N _ hkb l12 n60).mono ?_
      rintro e w3 ⟨g, rfl, hin, hb3⟩
      have HB3 := Lib.hid (hb.out.trans (hb3.mono hsz))
      have HBE3 := Lib.hid (hbest.out.below hb3)
      have HL3 := Lib.hid hin
      have HLEN := Lib.hid (digM_len (l.length + 1) N k)
      have HDB := Lib.hid (digM_bd (t := l.length + 1) (by omega) N k)
      generalize hLL : digM (l.length + 1) k N = L at *
      have HLL := Lib.hid hLL
      clear hb3 hin hbest hb hsz hLL
      have hbT := (Below.refl w3.heap.size w3).alloc (Nat.le_refl _) (.cells #[.slice (some ⟨g, 0, none⟩) N N] 22)
      have KT := Lib.hid (block_new w3 (.cells #[.slice (some ⟨g, 0, none⟩) N N] 22) w3.heap.size rfl)
      have HBT := Lib.hid hbT
      have HLT := Lib.hid (HL3.out.below hbT (Nat.le_refl _))
      have HB4 := Lib.hid (HB3.out.trans (hbT.mono HB3.out.size))
      have HBE4 := Lib.hid (HBE3.out.below hbT)
      clear hbT HBE3 HB3 HL3
      go_wp2_with fail
      generalize w3.alloc (.cells #[.slice (some ⟨g, 0, none⟩) N N] 22) = wT at *
      refine (those_any _ #[] #[.pointer (some ⟨w3.heap.size, 0, none⟩)] N (fun i => L.getD i 0 != -1) _ (by omega) enters_rota1 (fun i w5 hi5 hb5 => ?_)).mono ?_
      · exact rota1_any L N i g _ w5 HLEN.out n60 hi5 (HLT.out.below hb5 (Nat.le_refl _)) (keepZ KT.out hb5)
      rintro e w5 ⟨v5, rfl, hin, hb5⟩
      have HB5 := Lib.hid (HB4.out.trans (hb5.mono HB4.out.size))
      have HBE5 := Lib.hid (HBE4.out.below hb5)
      have HL5 := Lib.hid (HLT.out.below hb5 (Nat.le_refl _))
      have KT5 := Lib.hid (keepZ KT.out hb5)
      have HMC := Lib.hid (made_cnt HLEN.out)
      have HMM := Lib.hid (fun i (h : i ∈ madeM L N) => made_mem.1 h)
      have HFE := Lib.hid (frow_end (sets := sets) HLEN.out)
      have HFS := Lib.hid (fun j (h1 : j < (madeM L N).length) h2 => frow_set (sets := sets) (L := L) (N := N) h1 h2)
      have HM5 := Lib.hid (show InAt w5 v5 (natL (madeM L N)) from hin)
      obtain ⟨ma, mcap, hmv, _⟩ := HM5.out
      subst hmv
      have hml := cntT_le L
      rw [HLEN.out] at hml
      generalize madeM L N = M at *
      rw [natL_len] at HM5 ⊢
      rw [HMC.out] at HM5 ⊢
      clear hb5 hin HBE4 HB4 KT HLT
      by_cases hcf : cntT L < fewN (l.length + 1) N o
      rotate_left
      · have HN := Lib.hid (HN0.out (by rw [decide_eq_false hcf]; rfl))
        have hge : ((fewN (l.length + 1) N o : Nat) : Int) ≤ cntT L := by omega
        go_wp2_with fail
        go_roundw
        case rel => exact ⟨k + 1, hlt, by go_num, by rw [HN.out], by rw [HN.out]; exact HBE5, HB5⟩
        case measure => simp [intOf]; omega
      have hge : ¬ ((fewN (l.length + 1) N o : Nat) : Int) ≤ cntT L := by omega
      go_wp2_with (refine wpList_make_full _ rfl (.tmp 65) (.tmp 65) 22 rfl w5.heap.size 3 i0 (.int .i64 0) 1 Try.underlying22 hi hz0 hz1 .i64 .i64 _ _ N rfl rfl rfl rfl ?m1 ?m2 (Nat.le_refl _) ?_)
      case m1 => rw [hz2]; omega
      case m2 => unfold maxLen; omega
      intro w6 hown hgrow
      have hb6 : Below w5.heap.size w5 w6 := (Below.refl _ _).grown hgrow (Nat.le_refl _) (fun k h => by cases h)
      have hrow := (IntRow.of_own (xs := List.replicate N 0) (by rw [← made1]; exact hown)).1
      rw [← frow_zero sets L M N] at hrow
      have R0 := Lib.hid hrow
      have HB6 := Lib.hid hb6
      clear hown hgrow hb6 hrow
      generalize hGG : w5.heap.size = G at *
      have HG0 := Lib.hid hGG
      have KT6 := KT5.out
      have zT := lt_of_block KT6
      rw [hGG] at zT
      clear hGG KT6
      go_wp2_with fail
      go_loopw [69] (fun i wr => ∃ j : Nat, j ≤ cntT L ∧ i = .int .i64 j ∧ Hid (Below G w5 wr) ∧ Hid (IntRow wr G (frow sets L M N j))) (fun i _ => cntT L - (intOf i).toNat)
      case atStart => exact ⟨0, Nat.zero_le _, rfl, HB6, R0⟩
      case round =>
        obtain ⟨j, hj, rfl, hbj, hRJ⟩ := hrel
        have cT := block_cell ((hbj.out.block _ zT).trans KT5.out)
        have zz := hbj.out.size
        have zTr := Nat.lt_of_lt_of_le zT (Nat.le_trans (Nat.le_of_eq HG0.out.symm) zz)
        by_cases hlj : j < cntT L
        · obtain ⟨mb, moff, e1, mbl, mcc⟩ := in_open HM5.out (by rw [natL_len, HMC.out]; omega)
          subst e1
          have q1 := mcc j (by rw [natL_len, HMC.out]; exact hlj)
          rw [natL_getD] at q1
          have q1 := (hbj.out.cell (p := ⟨mb, moff + j, none⟩) (by rw [← HG0.out]; exact mbl)).trans q1
          obtain ⟨pN, pne⟩ := HMM.out _ (getD_mem (show j < M.length by rw [HMC.out]; exact hlj) 0)
          have HSET := Lib.hid (HFS.out j (by rw [HMC.out]; exact hlj) pN)
          generalize M.getD j 0 = p at *
          obtain ⟨gb, goff, e2, gbl, gcc⟩ := in_open HL5.out (by rw [HLEN.out]; omega)
          injection e2 with e2
          injection e2 with e2 e3
          subst e2 e3
          have q2 := gcc p (by rw [HLEN.out]; exact pN)
          rw [Nat.zero_add] at q2
          have q2 := (hbj.out.cell (p := ⟨g, p, none⟩) (by rw [← HG0.out]; exact gbl)).trans q2
          obtain ⟨d1, d2⟩ := HDB.out _ (getD_mem (show p < L.length by rw [HLEN.out]; exact pN) 0)
          obtain ⟨q, hq⟩ : ∃ q : Nat, L.getD p 0 = q := ⟨(L.getD p 0).toNat, by omega⟩
          rw [hq, Int.toNat_natCast] at HSET
          rw [hq] at q2 d2
          have hqT : q < l.length := by omega
          obtain ⟨sb, soff, e4, sbl, scc⟩ := in_open HI.out (by rw [natL_len, HSL.out]; omega)
          subst e4
          have q3 := scc q (by rw [natL_len, HSL.out]; exact hqT)
          rw [natL_getD] at q3
          have hBj := (HB5.out.trans (hbj.out.mono (by rw [← HG0.out]; exact HB5.out.size)))
          have q3 := (hBj.cell (p := ⟨sb, soff + q, none⟩) sbl).trans q3
          have q4 := hRJ.out.cell (i := p) (by rw [frow_len]; exact pN)
          have f4 := hRJ.out.free p
          have z4 := hRJ.out.lt
          have HNX := Lib.hid (hRJ.out.set (i := p) (by rw [frow_len]; exact pN) (sets.getD q 0 : Nat))
          rw [HSET.out] at HNX
          generalize sets.getD q 0 = y at *
          generalize (frow sets L M N j).getD p 0 = old at *
          have HBX := Lib.hid (hbj.out.setCell (p := ⟨G, p, none⟩) (Nat.le_refl _) (.int .i64 (y : Nat)))
          have j1 : (0 : Int) ≤ j := by omega
          have j2 : (j : Int) < cntT L := by omega
          have p1 : (0 : Int) ≤ p := by omega
          have p2 : (p : Int) < N := by omega
          have q5 : (0 : Int) ≤ q := by omega
          have q6 : (q : Int) < l.length := by omega
          clear mcc gcc scc hq d1 d2 pne hBj
          go_wp2_with fail
          go_roundw
          case rel => exact ⟨j + 1, hlj, by go_num, HBX, HNX⟩
          case measure => simp [intOf]; omega
        · obtain rfl : j = cntT L := by omega
          have HBJ := Lib.hid (HB5.out.trans (hbj.out.mono (by rw [← HG0.out]; exact HB5.out.size)))
          have HBO := Lib.hid (HB2.out.trans (HBJ.out.mono HB2.out.size))
          have c0 := block_cell (keepZ K0.out HBO.out)
          have HIN := Lib.hid (show InAt wr (.slice (some ⟨G, 0, none⟩) N N) (natL (rndM sets L)) by
            have h1 := hRJ.out
            rw [← HMC.out, HFE.out] at h1
            have hl : (natL (rndM sets L)).length = N := by rw [natL_len]; simp [rndM, HLEN.out]
            have := h1.inAt (cap := N) (by omega) (by omega)
            rwa [hl] at this)
          have HRL := Lib.hid (show (rndM sets L).length = N by simp [rndM, HLEN.out])
          have HRT := Lib.hid (rnd_lt HST.out L)
          obtain ⟨t1, t2, t3, hT⟩ : ∃ t1 t2 t3, triesM (rndM sets L) gp c.sw.length = ⟨t1, t2, t3⟩ := ⟨_, _, _, rfl⟩
          have HTT := Lib.hid hT
          have HOK := Lib.hid (show okM sets c.sw.length gp L = t3 by unfold okM; rw [hT])
          clear hT
          go_wp2_with fail
          refine (tries_any c.sw.length (rndM sets L) gp _ _ HIN.out (by rw [HRL.out]; exact n1) (by rw [HRL.out]; omega) (by omega) s12 HRT.out).mono ?_
          rintro e w7 ⟨rfl, hb7⟩
          rw [HTT.out]
          have HB7 := Lib.hid (HBJ.out.trans (hb7.mono HBJ.out.size))
          have HBE7 := Lib.hid ((HBE5.out.below (hbj.out.mono (by rw [HG0.out]; exact Nat.le_refl _))).below hb7)
          have HL7 := Lib.hid ((HL5.out.below hbj.out (by rw [HG0.out]; exact Nat.le_refl _)).below hb7 (Nat.le_refl _))
          have kT7 := (hb7.block _ zTr).trans ((hbj.out.block _ zT).trans KT5.out)
          have yT := bw_cells (B := w7.heap.size) kT7 (lt_of_block kT7)
          clear c0 cT hb7 kT7
          cases t3
          · have HN := Lib.hid (HN0.out (by rw [HOK.out]; simp))
            clear yT
            go_wp2_with fail
            go_roundw
            case rel => exact ⟨k + 1, hlt, by go_num, by rw [HN.out], by rw [HN.out]; exact HBE7, HB7⟩
            case measure => simp [intOf]; omega
          · have HN := Lib.hid (HY0.out (by rw [HOK.out, decide_eq_true hcf]; rfl))
            go_wp2_with fail
            refine wp_region_below (by kernel_rfl) (by kernel_rfl) (Below.refl w7.heap.size w7) ?_
            repeat ((with_reducible refine wpQuiet_step (fun K hK => ?_)); go_simp; first | (refine hK _ ?_; clear hK K) | (apply Exists.intro; refine ⟨fun _ => ?_, hK _ ?_⟩; (fail); clear hK K))
            refine wpQuiet_nil ?_
            intro wq hwq0
            have hwq := bw_out hwq0
            clear hwq0
            have HB8 := Lib.hid (HB7.out.trans (hwq.mono HB7.out.size))
            have HL8 := Lib.hid (HL7.out.below hwq (Nat.le_refl _))
            clear hwq yT
            go_wp2_with fail
            go_roundw
            case rel => exact ⟨k + 1, hlt, by go_num, by rw [HN.out]; unfold fewN; simp only [HLL.out], by rw [HN.out]; exact Lib.hid ⟨g, rfl, by rw [HLL.out]; exact HL8.out⟩, HB8⟩
            case measure => simp [intOf]; omega
    · obtain rfl : k = P := by omega
      cases hbs : bstM sets c.sw.length gp (l.length + 1) N k with
      | none =>
        have HE := Lib.hid (show rotE c l N gp = 3 by rw [HEE.out, hbs])
        have HR := Lib.hid (show rotR c l N gp = [] by rw [HRR.out, hbs])
        have hv0 := hbest.out
        rw [hbs] at hv0
        obtain rfl : _ = Value.slice none 0 0 := hv0
        clear hbs hbest
        go_wp2_with fail
        go_ret2
        exact ⟨.slice none 0 0, by rw [HE.out]; rfl, by rw [HR.out]; exact InAt.nil _, HB.out.trans ((HB2.out.trans (hb.out.mono HB2.out.size)).mono HB.out.size)⟩
      | some b =>
        have HE := Lib.hid (show rotE c l N gp = 0 by rw [HEE.out, hbs])
        have HR := Lib.hid (show rotR c l N gp = digM (l.length + 1) b N by rw [HRR.out, hbs])
        have hv0 := hbest.out
        rw [hbs] at hv0
        obtain ⟨g, rfl, hin⟩ := hv0
        have HL := Lib.hid hin
        clear hbs hin hbest
        go_wp2_with fail
        go_ret2
        exact ⟨.slice (some ⟨g, 0, none⟩) N N, by rw [HE.out]; rfl, by rw [HR.out]; exact HL.out, HB.out.trans ((HB2.out.trans (hb.out.mono HB2.out.size)).mono HB.out.size)⟩

end Go.Proofs.Ytbiihhokcmdlhaa

/- Walks of layer 3 (circuit): AsRota, tried of the specification. -/
namespace Go.Proofs.Ytbiihhokcmdlhaa
open Go.RowKit

def asR (L : List Int) (gap : Int) : Rot := ⟨L.map fun d => if 0 ≤ d then [d] else [], gap⟩

/-- A night of one trial, or none, in memory. -/
def OneAt (w : World) (d : Int) (u : Value) : Prop := (0 ≤ d ∧ ∃ h, u = .slice (some ⟨h, 0, none⟩) 1 1 ∧ w.heap[h]? = some (.cells #[.int .i64 d] 3)) ∨ (d < 0 ∧ u = .slice none 0 0)
theorem OneAt.later {w w' : World} {d : Int} {u : Value} (h : OneAt w d u) (hb : ∀ (k : Nat) (o : Array Value), w.heap[k]? = some (Obj.cells o 3) → w'.heap[k]? = some (Obj.cells o 3)) : OneAt w' d u := by
  rcases h with ⟨h0, g, rfl, h1⟩ | h
  · exact Or.inl ⟨h0, g, rfl, hb _ _ h1⟩
  · exact Or.inr h
theorem OneAt.in {w : World} {d : Int} {u : Value} (h : OneAt w d u) : InAt w u (if 0 ≤ d then [d] else []) := by
  rcases h with ⟨h0, g, rfl, h1⟩ | ⟨h0, rfl⟩
  · rw [if_pos h0]; exact in_block (xs := [d]) h1 (by simp)
  · rw [if_neg (by omega)]; exact InAt.nil w

def NightsOwn (w : World) (base : Nat) (v : Value) (L : List Int) (k : Nat) : Prop := ∃ vals : List Value, w.ownsRow base 22 1 v k vals ∧ vals.length = k ∧ ∀ i, i < k → ∃ u, vals[i]? = some u ∧ OneAt w (L.getD i 0) u

theorem own_nights {w : World} {base : Nat} {v : Value} {L : List Int} (h : NightsOwn w base v L L.length) (gap : Int) : NsAt w v (asR L gap).nights := by
  obtain ⟨vals, h1, h2, h3⟩ := h
  have he : ElAt 1 (fun u => [u]) w v vals := ElAt.of_own (m := 1) (f := fun u : Value => [u]) (xs := vals) (fun _ => rfl) (by rw [h2, List.flatMap_singleton']; exact h1)
  obtain ⟨a, cap, rfl, g1, g2, g3⟩ := he
  have hl : (asR L gap).nights.length = vals.length := by simp [asR, h2]
  refine ⟨a, cap, by rw [hl], by rw [hl]; exact g1, g2, fun hp => ?_⟩
  rw [hl] at hp
  obtain ⟨b, off, rfl, hb, hc⟩ := g3 hp
  refine ⟨b, off, rfl, hb, fun i hi => ?_⟩
  rw [hl, h2] at hi
  obtain ⟨u, hu, ho⟩ := h3 i hi
  refine ⟨u, ?_, ?_⟩
  · have := hc i u hu 0 u rfl
    simpa using this
  · have e : (asR L gap).nights.getD i [] = if 0 ≤ L.getD i 0 then [L.getD i 0] else [] := by
      unfold asR
      rw [List.getD_eq_getElem?_getD, List.getElem?_map, List.getD_eq_getElem?_getD, List.getElem?_eq_getElem hi]; rfl
    rw [e]
    exact ho.in

theorem infoInts : (Try.prog.info? 22).map (fun i => (i.zero, i.size, i.bytes)) = some (some (.slice none 0 0), 1, 24) := by kernel_rfl

/-- One night more. -/
theorem own_more {w w' : World} {base : Nat} {v v' : Value} {L : List Int} {k : Nat} {vals : List Value} {u : Value} (h1 : w.ownsRow base 22 1 v k vals) (h3 : ∀ i, i < k → ∃ u, vals[i]? = some u ∧ OneAt w (L.getD i 0) u) (hl : vals.length = k)
    (hg : w.grownBy w' v.ownBlock) (h2 : w'.ownsRow base 22 1 v' (k + 1) (vals ++ [u])) (hu : OneAt w (L.getD k 0) u) : NightsOwn w' base v' L (k + 1) := by
  have key : ∀ (b : Nat) (o : Array Value), w.heap[b]? = some (Obj.cells o 3) → w'.heap[b]? = some (Obj.cells o 3) := by
    intro b o hb
    rw [hg.block b (lt_of_block hb)]; exact hb
    intro e
    obtain ⟨_, h4 | ⟨g, cap, cur, rfl, _, h5, _⟩⟩ := h1
    · obtain ⟨rfl, _⟩ := h4; cases e
    · have : b = g := by simpa [Value.ownBlock] using e
      subst this
      rw [hb] at h5
      injection h5 with h5
      injection h5 with _ h6
      exact absurd h6 (by decide)
  refine ⟨_, h2, by simp [hl], fun i hi => ?_⟩
  by_cases e : i = k
  · subst e
    exact ⟨u, by rw [List.getElem?_append_right (by omega)]; simp [hl], hu.later key⟩
  · obtain ⟨x, hx, ho⟩ := h3 i (by omega)
    exact ⟨x, by rw [List.getElem?_append_left (by omega)]; exact hx, ho.later key⟩

theorem NightsOwn.alloc {w : World} {base : Nat} {v : Value} {L : List Int} {k : Nat} (h : NightsOwn w base v L k) (o : Obj) : NightsOwn (w.alloc o) base v L k := by
  obtain ⟨vals, h1, h2, h3⟩ := h
  exact ⟨vals, h1.alloc o, h2, fun i hi => by obtain ⟨u, hu, ho⟩ := h3 i hi; exact ⟨u, hu, ho.later (fun b o' hb => block_alloc hb o)⟩⟩
theorem NightsOwn.set {w : World} {base : Nat} {v : Value} {L : List Int} {k : Nat} (h : NightsOwn w base v L k) {p : Addr} (hp : p.block < base) {T : TypeId} {ob : Array Value} (hpb : w.heap[p.block]? = some (Obj.cells ob T)) (hT : T ≠ 3) (u : Value) : NightsOwn (w.setCell p u) base v L k := by
  obtain ⟨vals, h1, h2, h3⟩ := h
  refine ⟨vals, ownsRow_setCell h1 hp u, h2, fun i hi => ?_⟩
  obtain ⟨x, hx, ho⟩ := h3 i hi
  refine ⟨x, hx, ho.later (fun b o hb => block_set_other hb ?_ u)⟩
  intro e
  rw [← e, hb] at hpb
  injection hpb with hpb
  injection hpb with _ h6
  exact hT h6.symm

abbrev rotO2 (v : Value) (gap : Int) : Obj := .cells #[v, .int .i64 gap] 52

set_option maxRecDepth 100000 in
set_option maxHeartbeats 4000000 in
theorem asRota_any (L : List Int) (gap : Int) (v : Value) (w : World) (hv : InAt w v L) (hn : L.length ≤ 100) :
    Calls Try.prog 54 #[v, .int .i64 gap] w fun e w' => ∃ nv, e = .returned (rotV (asR L gap) nv) ∧ NsAt w' nv (asR L gap).nights ∧ Below w.heap.size w w' := by
  obtain ⟨a, cap, rfl, n1, n2, hc⟩ := hv
  have HC := Lib.hid hc
  have hb0 := blw2 w (rotO2 (.slice none 0 0) 0) (rotO2 (.slice none 0 0) gap)
  have HB := Lib.hid hb0
  have K0 := Lib.hid (two_od w (rotO2 (.slice none 0 0) 0) (rotO2 (.slice none 0 0) gap))
  have K1 := Lib.hid (two_nw w (rotO2 (.slice none 0 0) 0) (rotO2 (.slice none 0 0) gap))
  obtain ⟨i0, hi0, hz0, hz1, hz2⟩ := info_parts infoInts
  have HSZ := Lib.hid (show ((w.alloc (rotO2 (.slice none 0 0) 0)).alloc (rotO2 (.slice none 0 0) gap)).heap.size = w.heap.size + 2 by simp only [size_alloc])
  clear hc hb0
  go_enter Try.func54, Try.ntmps54
  go_wp2_with fail
  generalize (w.alloc (rotO2 (.slice none 0 0) 0)).alloc (rotO2 (.slice none 0 0) gap) = wA at *
  go_loopw [6] (fun i wr => ∃ k : Nat, k ≤ L.length ∧ i = .int .i64 k ∧ Hid (Below w.heap.size w wr) ∧ Hid (wr.heap[w.heap.size]? = some (rotO2 (.slice none 0 0) 0)) ∧ ∃ v, Hid (wr.heap[w.heap.size + 1]? = some (rotO2 v gap)) ∧ Hid (NightsOwn wr (w.heap.size + 2) v L k) ∧ Hid (w.heap.size + 2 ≤ wr.heap.size)) (fun i _ => L.length - (intOf i).toNat)
  case atStart => exact ⟨0, Nat.zero_le _, rfl, HB, K0, _, K1, Lib.hid ⟨[], ⟨rfl, Or.inl ⟨rfl, rfl⟩⟩, rfl, fun i hi => by omega⟩, Lib.hid (Nat.le_of_eq HSZ.out.symm)⟩
  case round =>
    obtain ⟨k, hk, rfl, hb, h0, v, h1, hN, hz⟩ := hrel
    have c1 := block_cell h1.out
    have hz2' := hz.out
    have z1 : w.heap.size + 1 < wr.heap.size := by omega
    by_cases hlt : k < L.length
    · obtain ⟨b, off, rfl, hbl, hcc⟩ := HC.out (by omega)
      have g1 := (hb.out.cell (p := ⟨b, off + k, none⟩) hbl).trans (hcc k hlt)
      have HD := Lib.hid (rfl : L.getD k 0 = L.getD k 0)
      obtain ⟨vals, ho, hl, hvals⟩ := hN.out
      have HO := Lib.hid ho
      have HVA := Lib.hid hvals
      have HL := Lib.hid hl
      obtain ⟨va, vc, rfl, hown⟩ := ownsRow_shape ho
      have HOWN := Lib.hid hown
      have k1 : (0 : Int) ≤ k := by omega
      have k2 : (k : Int) < L.length := by omega
      clear hcc ho hvals hl hown
      obtain ⟨d, hd⟩ : ∃ d, L.getD k 0 = d := ⟨_, rfl⟩
      have HDD := Lib.hid hd
      rw [hd] at g1
      clear hd HD
      by_cases h0d : 0 ≤ d
      · go_wp2_with (at_builtin; refine wpList_append_own _ rfl (.tmp 27) (.tmp 29) 50 rfl (w.heap.size + 2) 22 i0 (.slice none 0 0) 1 24 Try.underlying50 hi0 hz0 hz1 hz2 rfl (by decide) _ k vals rfl ?c0 _ _ _ [.slice (some ⟨wr.heap.size, 0, none⟩) 1 1] rfl rfl ?c1 ?c2 ?c3 ?c4 ?c5 ?_)
        case c0 => exact World.ownsRow.alloc (World.ownsRow.alloc HO.out _) _
        case c1 => exact one_cell _ _ _ (by simp)
        case c2 => intro u hu; simp only [List.mem_cons, List.not_mem_nil, or_false] at hu; subst hu; rfl
        case c3 => unfold maxLen; omega
        case c4 => omega
        case c5 => exact Nat.le_trans hz.out (Nat.le_trans (al_le _ _) (al_le _ _))
        intro v2 w4 hown2 hgrow _
        have bb : Below wr.heap.size wr (wr.alloc (Obj.cells #[.int .i64 d] 3)) := ((Below.refl _ _).alloc (Nat.le_refl _) _)
        have OA := Lib.hid (own_more (w := (wr.alloc (Obj.cells #[.int .i64 d] 3)).alloc (Obj.cells #[.slice (some ⟨wr.heap.size, 0, none⟩) 1 1] 22)) (k := k) (World.ownsRow.alloc (by first | exact HO.out | exact World.ownsRow.alloc HO.out _) _) (fun i hi => by obtain ⟨u, hu, hx⟩ := HVA.out i hi; exact ⟨u, hu, (hx.later (fun b o' hb => block_alloc hb _)).later (fun b o' hb => block_alloc hb _)⟩) HL.out hgrow hown2 (by rw [HDD.out]; exact (Or.inl ⟨h0d, _, rfl, block_alloc (block_new wr (Obj.cells #[.int .i64 d] 3) wr.heap.size rfl) _⟩)))
        have hbX := below_grown hgrow HOWN.out (Nat.le_trans hz.out (Nat.le_trans bb.size (al_le _ _)))
        have bA := bb.alloc bb.size (Obj.cells #[.slice (some ⟨wr.heap.size, 0, none⟩) 1 1] 22)
        have hsz4 := hbX.size
        have hszA := bA.size
        have k1' := (hbX.block (w.heap.size + 1) (by omega)).trans ((bA.block (w.heap.size + 1) z1).trans h1.out)
        have k0' := (hbX.block (w.heap.size) (by omega)).trans ((bA.block (w.heap.size) (by omega)).trans h0.out)
        have BX := Lib.hid ((hb.out.trans ((bA.mono (by have := hz.out; omega)).trans (hbX.mono (by omega)))))
        have c1' := block_cell k1'
        have f1' := block_free k1'
        have z1' : w.heap.size + 1 < w4.heap.size := lt_of_block k1'
        have K1' := Lib.hid k1'
        have K0' := Lib.hid k0'
        obtain ⟨r2, rc2, rfl, _⟩ := ownsRow_shape hown2
        clear hown2 hgrow hbX c1 g1 bb bA k0' k1'
        go_wp2_with fail
        go_roundw
        case rel => exact ⟨k + 1, hlt, by go_num, Lib.hid (BX.out.setCell (p := ⟨w.heap.size + 1, 0, none⟩) (by simp) _), Lib.hid (block_set_other (p := ⟨w.heap.size + 1, 0, none⟩) K0'.out (by simp) _), _, Lib.hid (block_set K1'.out 0 _), Lib.hid (OA.out.set (p := ⟨w.heap.size + 1, 0, none⟩) (by simp) K1'.out (by decide) _), Lib.hid (by simp; omega)⟩
        case measure => simp [intOf]; omega
      · go_wp2_with (at_builtin; refine wpList_append_own _ rfl (.tmp 27) (.tmp 29) 50 rfl (w.heap.size + 2) 22 i0 (.slice none 0 0) 1 24 Try.underlying50 hi0 hz0 hz1 hz2 rfl (by decide) _ k vals rfl ?c0 _ _ _ [.slice none 0 0] rfl rfl ?c1 ?c2 ?c3 ?c4 ?c5 ?_)
        case c0 => exact World.ownsRow.alloc HO.out _
        try (case c1 => exact one_cell _ _ _ (by simp))
        case c2 => first | rfl | (intro u hu; simp only [List.mem_cons, List.not_mem_nil, or_false] at hu; subst hu; rfl)
        case c3 => unfold maxLen; omega
        case c4 => omega
        case c5 => first | exact Nat.le_trans hz.out (al_le _ _) | exact hz.out | (have := hz.out; simp; omega)
        intro v2 w4 hown2 hgrow _
        have bb : Below wr.heap.size wr (wr) := (Below.refl _ _)
        have OA := Lib.hid (own_more (w := (wr).alloc (Obj.cells #[.slice none 0 0] 22)) (k := k) (World.ownsRow.alloc (by first | exact HO.out | exact World.ownsRow.alloc HO.out _) _) (fun i hi => by obtain ⟨u, hu, hx⟩ := HVA.out i hi; exact ⟨u, hu, hx.later (fun b o' hb => block_alloc hb _)⟩) HL.out hgrow hown2 (by rw [HDD.out]; exact (Or.inr ⟨by omega, rfl⟩)))
        have hbX := below_grown hgrow HOWN.out (Nat.le_trans hz.out (Nat.le_trans bb.size (al_le _ _)))
        have bA := bb.alloc bb.size (Obj.cells #[.slice none 0 0] 22)
        have hsz4 := hbX.size
        have hszA := bA.size
        have k1' := (hbX.block (w.heap.size + 1) (by omega)).trans ((bA.block (w.heap.size + 1) z1).trans h1.out)
        have k0' := (hbX.block (w.heap.size) (by omega)).trans ((bA.block (w.heap.size) (by omega)).trans h0.out)
        have BX := Lib.hid ((hb.out.trans ((bA.mono (by have := hz.out; omega)).trans (hbX.mono (by omega)))))
        have c1' := block_cell k1'
        have f1' := block_free k1'
        have z1' : w.heap.size + 1 < w4.heap.size := lt_of_block k1'
        have K1' := Lib.hid k1'
        have K0' := Lib.hid k0'
        obtain ⟨r2, rc2, rfl, _⟩ := ownsRow_shape hown2
        clear hown2 hgrow hbX c1 g1 bb bA k0' k1'
        go_wp2_with fail
        go_roundw
        case rel => exact ⟨k + 1, hlt, by go_num, Lib.hid (BX.out.setCell (p := ⟨w.heap.size + 1, 0, none⟩) (by simp) _), Lib.hid (block_set_other (p := ⟨w.heap.size + 1, 0, none⟩) K0'.out (by simp) _), _, Lib.hid (block_set K1'.out 0 _), Lib.hid (OA.out.set (p := ⟨w.heap.size + 1, 0, none⟩) (by simp) K1'.out (by decide) _), Lib.hid (by simp; omega)⟩
        case measure => simp [intOf]; omega
    · obtain rfl : k = L.length := by omega
      obtain ⟨vals, ho, _, _⟩ := hN.out
      obtain ⟨va, vc, rfl, _⟩ := ownsRow_shape ho
      have HNW := Lib.hid (own_nights ((hN.out.set (p := ⟨w.heap.size, 0, none⟩) (by simp) h0.out (by decide) (.slice va L.length vc)).set (p := ⟨w.heap.size, 1, none⟩) (by simp) (block_set h0.out 0 (.slice va L.length vc)) (by decide) (.int .i64 gap)) gap)
      have c0 := block_cell h0.out
      have f0 := block_free h0.out
      have z0 : w.heap.size < wr.heap.size := by omega
      go_wp2_with fail
      have KW := block_set (block_set h0.out 0 (.slice va L.length vc)) 1 (.int .i64 gap)
      have e0 := block_cell KW 0
      have e1 := block_cell KW 1
      exact bodyPost_ret (v := rotV (asR L gap) (.slice va L.length vc)) (by simp [results, Try.results54, go_sem, e0, e1]; rfl) rfl ⟨_, rfl, HNW.out, (hb.out.setCell (p := ⟨w.heap.size, 0, none⟩) (Nat.le_refl _) _).setCell (p := ⟨w.heap.size, 1, none⟩) (Nat.le_refl _) _⟩

theorem tried_cnt {L : List Int} (h : ∀ d ∈ L, -1 ≤ d) : cntB (fun i => decide (0 ≤ L.getD i 0)) L.length = cntT L := by
  rw [cntB_filter]
  unfold cntT
  congr 1
  apply List.filter_congr
  intro i hi
  have := h _ (getD_mem (List.mem_range.1 hi) 0)
  by_cases e : L.getD i 0 = -1
  · rw [e]; rfl
  · rw [decide_eq_true (by omega)]
    exact (bne_iff_ne.2 e).symm

set_option maxRecDepth 100000 in
set_option maxHeartbeats 1000000 in
theorem tried_any (L : List Int) (v : Value) (w : World) (hv : InAt w v L) (h : ∀ d ∈ L, -1 ≤ d) :
    Calls Try.prog 110 #[v] w fun e w' => e = .returned (.int .i64 (cntT L : Nat)) ∧ w = w' := by
  obtain ⟨a, cap, rfl, n1, n2, hc⟩ := hv
  have HC := Lib.hid hc
  have HT := Lib.hid (tried_cnt h)
  obtain ⟨f, hf⟩ : ∃ f : Nat → Bool, f = fun i => decide (0 ≤ L.getD i 0) := ⟨_, rfl⟩
  rw [← hf] at HT
  have HFK := Lib.hid (fun k => show f k = decide (0 ≤ L.getD k 0) by rw [hf])
  clear hc h hf
  go_enter Try.func110, Try.ntmps110
  go_wp2_with fail
  go_loop [3, 4] (fun y i => ∃ k : Nat, k ≤ L.length ∧ i = .int .i64 k ∧ y = .int .i64 (cntB f k : Nat)) (fun _ i => L.length - (intOf i).toNat)
  case atStart => exact ⟨0, Nat.zero_le _, rfl, rfl⟩
  case round =>
    obtain ⟨k, hk, rfl, rfl⟩ := hrel
    by_cases hlt : k < L.length
    · obtain ⟨b, off, rfl, hbl, hcc⟩ := HC.out (by omega)
      have g1 := hcc k hlt
      have k1 : (0 : Int) ≤ k := by omega
      have k2 : (k : Int) < L.length := by omega
      have hcl := cntB_le f k
      have HN := Lib.hid (show cntB f (k + 1) = if f k = true then cntB f k + 1 else cntB f k from rfl)
      rw [HFK.out] at HN
      generalize cntB f k = cn at *
      generalize L.getD k 0 = d at *
      clear hcc
      by_cases h0 : 0 ≤ d
      · have HN2 := Lib.hid (HN.out.trans (if_pos (decide_eq_true h0)))
        go_wp2_with fail
        go_round
        case rel => exact ⟨k + 1, hlt, by go_num, by rw [HN2.out]; go_num⟩
        case measure => simp [intOf]; omega
      · have HN2 := Lib.hid (HN.out.trans (if_neg (by simpa using h0)))
        go_wp2_with fail
        go_round
        case rel => exact ⟨k + 1, hlt, by go_num, by rw [HN2.out]⟩
        case measure => simp [intOf]; omega
    · obtain rfl : k = L.length := by omega
      go_wp2_with fail
      go_ret
      exact ⟨ret_int (by rw [HT.out]), rfl⟩

end Go.Proofs.Ytbiihhokcmdlhaa
