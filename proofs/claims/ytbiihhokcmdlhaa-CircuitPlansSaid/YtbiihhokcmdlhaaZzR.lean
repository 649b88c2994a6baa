import Derived.Test.YtbiihhokcmdlhaaZzQ
/- Texts of one seat, merged: Pe Pf Pg -/
/- Walks of layer 3 (circuit): Rota of the specification. -/
namespace Go.Proofs.Ytbiihhokcmdlhaa
open Go.RowKit

theorem asR_round {sets : List Nat} {L : List Int} (h : ∀ d ∈ L, -1 ≤ d) (gap : Int) : (asR L gap).nights.map (unionM sets) = rndM sets L := by
  unfold asR rndM
  rw [List.map_map]
  apply List.map_congr_left
  intro d hd
  have := h d hd
  show unionM sets (if 0 ≤ d then [d] else []) = _
  by_cases e : d = -1
  · subst e; rfl
  · rw [if_pos (by omega), if_neg e]
    simp [unionM]

theorem asR_ok {L : List Int} {T : Nat} (h : ∀ d ∈ L, -1 ≤ d ∧ d < T) (gap : Int) : ∀ ks ∈ (asR L gap).nights, ∀ k ∈ ks, 0 ≤ k ∧ k < T := by
  intro ks hks k hk
  unfold asR at hks
  obtain ⟨d, hd, rfl⟩ := List.mem_map.1 hks
  have := h d hd
  split at hk
  · rw [List.mem_singleton] at hk; subst hk; omega
  · cases hk

theorem asR_len (L : List Int) (gap : Int) : (asR L gap).nights.length = L.length := by simp [asR]

set_option maxRecDepth 100000 in
set_option maxHeartbeats 8000000 in
theorem rrotaM_any (c : Cir) (l : List Tri) (Ni gi : Int) (sv wv v : Value) (w : World) (hv : CirAt w sv wv c) (hl : TrAt w v l) :
    Calls Try.prog 44 #[cirV c sv wv, v, .int .i64 Ni, .int .i64 gi] w (ListErr (rotR c l Ni gi) (rotE c l Ni gi) w) := by
  have HB := Lib.hid ((Below.refl w.heap.size w).alloc (Nat.le_refl _) (cirO c sv wv))
  have K0 := Lib.hid (block_new w (cirO c sv wv) w.heap.size rfl)
  have HV := Lib.hid (hv.below HB.out (Nat.le_refl _))
  have HT := Lib.hid (hl.below HB.out (Nat.le_refl _))
  obtain ⟨⟨sa, scap, rfl, _⟩, _⟩ := hv
  obtain ⟨ta, tcap, rfl, _, m2, _⟩ := hl
  have m3 : (l.length : Int) ≤ 9223372036854775807 := by omega
  by_cases ht : chkT c l = 0
  rotate_left
  · have HE := Lib.hid (show chkT c l = rotE c l Ni gi by unfold rotE; rw [if_neg ht])
    have HR := Lib.hid (show rotR c l Ni gi = [] by unfold rotR; rw [if_neg (by rw [← HE.out]; exact ht)])
    have hqb : (chkT c l == 0) = false := by simpa using ht
    have hqc : (chkT c l != 0) = true := by simpa using ht
    clear ht
    go_enter Try.func44, Try.ntmps44
    go_wp2_with fail
    generalize w.alloc (cirO c (.slice sa c.sw.length scap) wv) = wA at *
    refine (rcheckT_any c l _ _ _ _ HV.out HT.out).mono ?_
    rintro e w1 ⟨rfl, hb1⟩
    generalize chkT c l = m at *
    go_wp2
    go_ret2
    exact ⟨.slice none 0 0, by rw [HE.out]; rfl, by rw [HR.out]; exact InAt.nil _, HB.out.trans (hb1.mono HB.out.size)⟩
  have HC := Lib.hid ht
  have HTV := Lib.hid (tval ht)
  have l12 := (tval ht).n
  have s12 := (tval ht).cv.s2
  obtain ⟨b1, h1⟩ : ∃ b, decide (1 ≤ Ni ∧ Ni ≤ 60) = b := ⟨_, rfl⟩
  obtain ⟨b2, h2⟩ : ∃ b, decide (1 ≤ gi ∧ gi ≤ 60) = b := ⟨_, rfl⟩
  have H1 := Lib.hid h1
  have H2 := Lib.hid h2
  by_cases hall : (b1 && b2) = true
  rotate_left
  · have HE := Lib.hid (show rotE c l Ni gi = 1 by unfold rotE; rw [if_pos ht, h1, h2, if_neg hall])
    have HR := Lib.hid (show rotR c l Ni gi = [] by unfold rotR; rw [HE.out]; rfl)
    clear ht h1 h2
    cases b1 <;> cases b2
    all_goals try (exact absurd rfl hall)
    all_goals
      clear hall
      go_enter Try.func44, Try.ntmps44
      go_wp2_with fail
      generalize w.alloc (cirO c (.slice sa c.sw.length scap) wv) = wA at *
      refine (rcheckT_any c l _ _ _ _ HV.out HT.out).mono ?_
      rintro e w1 ⟨rfl, hb1⟩
      rw [HC.out]
      go_wp2_with (go_at_call 80; (first | (with_reducible refine (rwithin_is _ Ni 1 60 _ H1.out).mono ?_) | (with_reducible refine (rwithin_is _ gi 1 60 _ H2.out).mono ?_)); rintro e w2 ⟨rfl, rfl⟩)
      go_ret2
      exact ⟨.slice none 0 0, by rw [HE.out]; rfl, by rw [HR.out]; exact InAt.nil _, HB.out.trans (hb1.mono HB.out.size)⟩
  simp only [Bool.and_eq_true] at hall
  obtain ⟨rfl, rfl⟩ := hall
  simp only [decide_eq_true_eq] at h1 h2
  obtain ⟨N, rfl⟩ : ∃ N : Nat, Ni = N := ⟨Ni.toNat, by omega⟩
  obtain ⟨gp, rfl⟩ : ∃ g : Nat, gi = g := ⟨gi.toNat, by omega⟩
  have n1 : 1 ≤ N := by omega
  have n60 : N ≤ 60 := by omega
  have g1 : 1 ≤ gp := by omega
  have g60 : gp ≤ 60 := by omega
  have HEE := Lib.hid (show rotE c l N gp = if 20000 < pcM (l.length + 1) N then 2 else match bstM (setsM c l) c.sw.length gp (l.length + 1) N (pcM (l.length + 1) N) with | none => 3 | some _ => 0 by
    unfold rotE; rw [if_pos ht, H1.out, H2.out]; rfl)
  clear ht h1 h2
  have HMANY := Lib.hid (fun (hpc : 20000 < pcM (l.length + 1) N) => show rotE c l N gp = 2 ∧ rotR c l N gp = [] by
    have HE : rotE c l N gp = 2 := by rw [HEE.out, if_pos hpc]
    exact ⟨HE, by unfold rotR; rw [HE]; rfl⟩)
  have HFEW := Lib.hid (fun (hpc : ¬ 20000 < pcM (l.length + 1) N) => show rotE c l N gp = (match bstM (setsM c l) c.sw.length gp (l.length + 1) N (pcM (l.length + 1) N) with | none => 3 | some _ => 0) ∧ rotR c l N gp = match bstM (setsM c l) c.sw.length gp (l.length + 1) N (pcM (l.length + 1) N) with | none => [] | some b => digM (l.length + 1) b N by
    refine ⟨by rw [HEE.out, if_neg hpc], ?_⟩
    unfold rotR
    rw [HEE.out, if_neg hpc]
    cases hb : bstM (setsM c l) c.sw.length gp (l.length + 1) N (pcM (l.length + 1) N) with
    | none => rfl
    | some b => simp only [Int.toNat_natCast, hb]; rfl)
  have HST := Lib.hid (sets_lt (l := l) HTV.out.cv)
  have HSL := Lib.hid (sets_len c l)
  have HNO := Lib.hid (fun k => bst_no (sets := setsM c l) (n := c.sw.length) (gap := gp) (t := l.length + 1) (N := N) (k := k))
  have HYE := Lib.hid (fun k => bst_yes (sets := setsM c l) (n := c.sw.length) (gap := gp) (t := l.length + 1) (N := N) (k := k))
  have hnil : ∀ (W : World) (a : Option Addr) (n c : Nat), (binOp .eql 22 (.slice a n c) (.slice none 0 0)).run Try.prog W = .ok (.bool a.isNone) W := fun W a n c => Lib.run_eql_slice_nil W _ _ a n c 0 0 Try.underlying22
  have hnin : ∀ (W : World) (a : Option Addr) (n c : Nat), (binOp .neq 22 (.slice a n c) (.slice none 0 0)).run Try.prog W = .ok (.bool (!a.isNone)) W := fun W a n c => run_neq_slice_nil_any W _ _ a n c 0 0 Try.underlying22
  obtain ⟨i0, hi, hz0, hz1, hz2⟩ := info_parts infoInt
  go_enter Try.func44, Try.ntmps44
  go_wp2_with fail
  generalize w.alloc (cirO c (.slice sa c.sw.length scap) wv) = wA at *
  refine (rcheckT_any c l _ _ _ _ HV.out HT.out).mono ?_
  rintro e w1 ⟨rfl, hb1⟩
  rw [HC.out]
  have HB1 := Lib.hid hb1
  clear hb1
  go_wp2_with (go_at_call 80; (first | (with_reducible refine (rwithin_is _ (N : Int) 1 60 _ H1.out).mono ?_) | (with_reducible refine (rwithin_is _ (gp : Int) 1 60 _ H2.out).mono ?_)); rintro e w2 ⟨rfl, rfl⟩)
  go_loop [11, 12] (fun x i => ∃ k : Nat, k ≤ N ∧ i = .int .i64 k ∧ x = .int .i64 (pcM (l.length + 1) k : Nat) ∧ pcM (l.length + 1) k ≤ 20000) (fun _ i => N - (intOf i).toNat)
  case atStart => exact ⟨0, Nat.zero_le _, rfl, rfl, by unfold pcM; omega⟩
  case round =>
    obtain ⟨k, hk, rfl, rfl, hp⟩ := hrel
    by_cases hlt : k < N
    · have hpr := wrap_mul (show pcM (l.length + 1) k ≤ 260000 by omega) l12
      have HX := Lib.hid (pcM_yes hp)
      have HG := Lib.hid (fun h => pcM_great (t := l.length + 1) (n := N) (k := k + 1) h hlt)
      obtain ⟨q, hq⟩ : ∃ q, q = pcM (l.length + 1) k * (l.length + 1) := ⟨_, rfl⟩
      rw [← hq] at hpr HX
      rw [HX.out] at HG
      have hqb : q ≤ 260000 := by
        have := Nat.mul_le_mul hp (show l.length + 1 ≤ 13 by omega)
        omega
      clear hq
      generalize pcM (l.length + 1) k = x at *
      have HPR := Lib.hid hpr
      clear hpr
      by_cases h2 : q ≤ 20000
      · go_upto_region 11 with fail
        rw [HPR.out]
        go_wp2_with fail
        go_round
        case rel => exact ⟨k + 1, hlt, by go_num, by rw [HX.out], by rw [HX.out]; exact h2⟩
        case measure => simp [intOf]; omega
      · have HE := Lib.hid (HMANY.out (HG.out (by omega)))
        go_upto_region 11 with fail
        rw [HPR.out]
        go_wp2
        go_ret2
        exact ⟨.slice none 0 0, by rw [HE.out.1]; rfl, by rw [HE.out.2]; exact InAt.nil _, HB.out.trans (HB1.out.mono HB.out.size)⟩
    · obtain rfl : k = N := by omega
      have HF := Lib.hid (HFEW.out (by omega))
      have hP26 := hp
      have c0 := block_cell (keepZ K0.out HB1.out)
      generalize pcM (l.length + 1) k = P at *
      go_wp2_with fail
      refine (revery_any c l _ wv _ _ (HV.out.below HB1.out (Nat.le_refl _)) (HT.out.below HB1.out (Nat.le_refl _)) HTV.out).mono ?_
      rintro e w2 ⟨v2, rfl, hin, hb2⟩
      have HB2 := Lib.hid (HB1.out.trans (hb2.mono HB1.out.size))
      clear hb2
      have HI := Lib.hid hin
      obtain ⟨va, vcap, hvv, _⟩ := hin
      subst hvv
      rw [natL_len] at HI ⊢
      rw [HSL.out] at HI ⊢
      clear c0
      have HZ0 := Lib.hid (show bstM (setsM c l) c.sw.length gp (l.length + 1) k 0 = none from rfl)
      generalize setsM c l = sets at *
      go_wp2_with fail
      go_loopw [13, 15] (fun v i wr => ∃ m : Nat, m ≤ P ∧ i = .int .i64 m ∧ Hid (BestAt wr (l.length + 1) k (bstM sets c.sw.length gp (l.length + 1) k m) v) ∧ Hid (Below w2.heap.size w2 wr)) (fun _ i _ => P - (intOf i).toNat)
      case atStart => exact ⟨0, Nat.zero_le _, rfl, by rw [HZ0.out]; exact Lib.hid rfl, Lib.hid (Below.refl _ _)⟩
      case round =>
        obtain ⟨m, hm, rfl, hbest, hb⟩ := hrel
        obtain ⟨wo, rfl⟩ : ∃ wo : World, wo = wr := ⟨_, rfl⟩
        have hsz := hb.out.size
        by_cases hmP : m < P
        · have HN0 := Lib.hid (HNO.out m)
          have HY0 := Lib.hid (HYE.out m)
          have HLEN := Lib.hid (digM_len (l.length + 1) k m)
          have HDB := Lib.hid (digM_bd (t := l.length + 1) (by omega) k m)
          have HBD2 := Lib.hid (digM_bd (t := l.length + 1) (by omega) k)
          have hm26 : m ≤ 260000 := by omega
          generalize bstM sets c.sw.length gp (l.length + 1) k m = o at *
          go_wp2_with (refine wpList_make_full _ rfl (.tmp 56) (.tmp 56) 22 rfl wo.heap.size 3 i0 (.int .i64 0) 1 Try.underlying22 hi hz0 hz1 .i64 .i64 _ _ k rfl rfl rfl rfl ?m1 ?m2 (Nat.le_refl _) ?_)
          case m1 => rw [hz2]; omega
          case m2 => unfold maxLen; omega
          intro w3 hown hgrow
          have hb3 : Below wo.heap.size wo w3 := (Below.refl _ _).grown hgrow (Nat.le_refl _) (fun k h => by cases h)
          have hrow := (IntRow.of_own (xs := List.replicate k 0) (by rw [← made1]; exact hown)).1
          have R0 := Lib.hid hrow
          have HB3 := Lib.hid hb3
          clear hown hgrow hb3 hrow
          generalize hG : wo.heap.size = G at *
          have HG := Lib.hid hG
          clear hG
          go_wp2_with fail
          go_loopw [17, 18] (fun a i wr => ∃ j : Nat, j ≤ k ∧ i = .int .i64 ((k : Int) - 1 - j) ∧ ∃ y : Nat, y ≤ 260000 ∧ a = .int .i64 y ∧ Hid (Below G wo wr) ∧ ∃ suf : List Int, suf.length = j ∧ Hid (digM (l.length + 1) m k = digM (l.length + 1) y (k - j) ++ suf) ∧ Hid (IntRow wr G (List.replicate (k - j) 0 ++ suf))) (fun _ i _ => (intOf i + 1).toNat)
          case atStart => exact ⟨0, Nat.zero_le _, by simp, m, by omega, rfl, HB3, [], rfl, Lib.hid (by simp), Lib.hid (by simpa using R0.out)⟩
          case round =>
            obtain ⟨j, hj, rfl, y, hy, rfl, hbj, suf, hs, hD, hR⟩ := hrel
            by_cases hlj : j < k
            · obtain ⟨r, hr⟩ : ∃ r, k - j = r + 1 := ⟨k - j - 1, by omega⟩
              rw [hr] at hD hR
              have HDD := Lib.hid (show digM (l.length + 1) m k = digM (l.length + 1) (y / (l.length + 1)) r ++ ((((y % (l.length + 1) : Nat) : Int) - 1) :: suf) by rw [hD.out, digM]; simp)
              have hidx : (k : Int) - 1 - j = r := by omega
              have hmod : (y : Int).tmod ((l.length : Int) + 1) = ((y % (l.length + 1) : Nat) : Int) := tmod_nat y (l.length + 1)
              have hdiv : (y : Int).tdiv ((l.length : Int) + 1) = ((y / (l.length + 1) : Nat) : Int) := tdiv_nat y (l.length + 1)
              have hle : y / (l.length + 1) ≤ y := Nat.div_le_self _ _
              have hml : y % (l.length + 1) < l.length + 1 := Nat.mod_lt _ (by omega)
              have HNR := Lib.hid (show k - (j + 1) = r by omega)
              have HRJ := Lib.hid (show (r : Int) - 1 = (k : Int) - 1 - ((j + 1 : Nat) : Int) by omega)
              have hrl : r < k := by omega
              have r1 : (0 : Int) ≤ r := by omega
              have r2 : (r : Int) < k := by omega
              have q4 := hR.out.cell (i := r) (by simp; omega)
              have f4 := hR.out.free r
              have z4 := hR.out.lt
              generalize y / (l.length + 1) = yd at *
              generalize y % (l.length + 1) = ym at *
              have HNX := Lib.hid (show IntRow (wr.setCell ⟨G, r, none⟩ (.int .i64 ((ym : Int) - 1))) G (List.replicate r 0 ++ (((ym : Int) - 1) :: suf)) by
                have := hR.out.set (i := r) (by simp; omega) ((ym : Int) - 1)
                rwa [set_row] at this)
              have HBX := Lib.hid (hbj.out.setCell (p := ⟨G, r, none⟩) (Nat.le_refl _) (.int .i64 ((ym : Int) - 1)))
              generalize (List.replicate (r + 1) (0 : Int) ++ suf).getD r 0 = old at *
              rw [hidx]
              clear hidx hr
              go_wp2_with fail
              go_roundw
              case rel => exact ⟨j + 1, hlj, by rw [← HRJ.out], yd, by omega, rfl, HBX, _ :: suf, by simp [hs], by rw [HNR.out]; exact HDD, by rw [HNR.out]; exact HNX⟩
              case measure => first | (simp [intOf]; omega) | simp [intOf]
            · obtain rfl : j = k := by omega
              have HIL := Lib.hid (show InAt wr (.slice (some ⟨G, 0, none⟩) j j) (digM (l.length + 1) m j) by
                have h1 := hR.out
                have h2 := hD.out
                rw [Nat.sub_self] at h1 h2
                simp only [List.replicate_zero, List.nil_append, digM] at h1 h2
                rw [h2]
                have := h1.inAt (cap := j) (by omega) (by omega)
                rwa [hs] at this)
              have hneg : (j : Int) - 1 - j = -1 := by omega
              rw [hneg]
              have HBE := Lib.hid (hbest.out.below (by rw [HG.out]; exact hbj.out))
              have HBJ := Lib.hid (hb.out.trans (hbj.out.mono hsz))
              have HDM := Lib.hid (fun d h => (HDB.out d h).1)
              have HFN := Lib.hid (show fewN (l.length + 1) j (some m) = cntT (digM (l.length + 1) m j) from rfl)
              generalize hLL : digM (l.length + 1) m j = L at *
              have HLL := Lib.hid hLL
              have hcl := cntT_le L
              rw [HLEN.out] at hcl
              clear hLL hD hR hbest hneg
              have HBO := Lib.hid (HB2.out.trans (HBJ.out.mono HB2.out.size))
              have HRND := Lib.hid (asR_round (sets := sets) HDM.out gp)
              have HAOK := Lib.hid (asR_ok (L := L) (T := sets.length) (fun d h => by have := HDB.out d h; rw [HSL.out]; omega) gp)
              have HALN := Lib.hid (asR_len L gp)
              have HIJ := Lib.hid (HI.out.below HBJ.out (Nat.le_refl _))
              obtain ⟨t1, t2, t3, hT⟩ : ∃ t1 t2 t3, triesM (rndM sets L) gp c.sw.length = ⟨t1, t2, t3⟩ := ⟨_, _, _, rfl⟩
              have HTT := Lib.hid hT
              have HOK := Lib.hid (show okM sets c.sw.length gp L = t3 by unfold okM; rw [hT])
              clear hT
              have HGAP := Lib.hid (show triesM ((asR L gp).nights.map (unionM sets)) (asR L gp).gap.toNat c.sw.length = ⟨t1, t2, t3⟩ by
                rw [HRND.out]
                show triesM _ (gp : Int).toNat _ = _
                rw [Int.toNat_natCast]; exact HTT.out)
              have D : ∀ w', Below wr.heap.size wr w' → (w'.cell? ⟨w.heap.size, 0, none⟩ = some (.int .i64 c.hz) ∧ w'.cell? ⟨w.heap.size, 1, none⟩ = some (.slice sa c.sw.length scap) ∧ w'.cell? ⟨w.heap.size, 2, none⟩ = some wv) ∧ Below wr.heap.size wr w' := by
                intro w' h
                have c0 := block_cell (keepZ (keepZ K0.out HBO.out) h)
                exact ⟨⟨c0 0, c0 1, c0 2⟩, h⟩
              have hcases : (∃ b, o = some b ∧ cntT (digM (l.length + 1) b j) ≤ cntT L) ∨ cntT L < fewN (l.length + 1) j o := by
                cases o with
                | none => right; unfold fewN; dsimp only; omega
                | some b =>
                  by_cases h : cntT (digM (l.length + 1) b j) ≤ cntT L
                  · exact Or.inl ⟨b, rfl, h⟩
                  · right; unfold fewN; dsimp only; omega
              rcases hcases with ⟨b, rfl, hle⟩ | hcf
              · have HN := Lib.hid (HN0.out (by rw [decide_eq_false (by unfold fewN; dsimp only; omega)]; rfl))
                obtain ⟨g, rfl, hin⟩ := HBE.out
                have HBI := Lib.hid hin
                have HBM := Lib.hid (fun d h => (HBD2.out b d h).1)
                have hle2 : ((cntT (digM (l.length + 1) b j) : Nat) : Int) ≤ ((cntT L : Nat) : Int) := by omega
                clear hin D
                go_wp2_with (go_at_call 110; (first | (with_reducible refine (tried_any L _ _ HIL.out HDM.out).mono ?_) | (with_reducible refine (tried_any (digM (l.length + 1) b j) _ _ HBI.out HBM.out).mono ?_)); rintro e w4 ⟨rfl, rfl⟩)
                go_roundw
                case rel => exact ⟨m + 1, hmP, by go_num, by rw [HN.out]; exact Lib.hid ⟨g, rfl, HBI.out⟩, HBJ⟩
                case measure => simp [intOf]; omega
              · have HPRE : Hid (o = none ∨ ∃ b, o = some b ∧ ¬ cntT (digM (l.length + 1) b j) ≤ cntT L) := by
                  cases o with
                  | none => exact Or.inl rfl
                  | some b =>
                    refine Or.inr ⟨b, rfl, ?_⟩
                    unfold fewN at hcf; dsimp only at hcf; omega
                rcases HPRE.out with ho | ⟨b, ho, hnle⟩
                · subst ho
                  obtain rfl : _ = Value.slice none 0 0 := HBE.out
                  go_upto_region 26 with (go_at_call 110; (first | (with_reducible refine (tried_any L _ _ HIL.out HDM.out).mono ?_) | (with_reducible refine (tried_any (digM (l.length + 1) b j) _ _ HBI.out HBM.out).mono ?_)); rintro e w4 ⟨rfl, rfl⟩)
                  go_cut [19, 20, 21] (fun s19 s20 s21 wx => s19 = .int .i64 t1 ∧ s20 = .int .i64 t2 ∧ s21 = .bool t3 ∧ Hid (Below wr.heap.size wr wx))
                  case first =>
                    go_region_held3 (fun w' => (w'.cell? ⟨w.heap.size, 0, none⟩ = some (.int .i64 c.hz) ∧ w'.cell? ⟨w.heap.size, 1, none⟩ = some (.slice sa c.sw.length scap) ∧ w'.cell? ⟨w.heap.size, 2, none⟩ = some wv) ∧ Below wr.heap.size wr w')
                      (first | (with_reducible exact D _ (Below.drew (Below.refl _ _))) | (with_reducible exact D _ hB2) | (with_reducible exact D _ hB1) | fail)
                      (first | (go_at_call 54; have hB0 := And.right ‹_ ∧ Below wr.heap.size wr _›; refine (asRota_any L gp _ _ (HIL.out.below hB0 (Nat.le_refl _)) (by rw [HLEN.out]; omega)).mono ?_; rintro e w5 ⟨nv, rfl, hns, hb5⟩; have hB1 := hB0.trans (hb5.mono hB0.size)) | (go_at_call 106; refine (rgap_any c sets (asR L gp) _ wv _ nv _ ((HV.out.below HBO.out (Nat.le_refl _)).below hB1 (Nat.le_refl _)) (HIJ.out.below hB1 (Nat.le_refl _)) hns s12 (by rw [HALN.out, HLEN.out]; exact n1) (by rw [HALN.out, HLEN.out]; exact n60) (by show (1 : Int) ≤ gp; omega) (by show (gp : Int) ≤ 60; omega) HST.out HAOK.out).mono ?_; rintro e w6 ⟨rfl, hb6⟩; rw [HGAP.out]; have hB2 := hB1.trans (hb6.mono hB1.size)))
                    all_goals
                      go_wp2_with fail
                      go_meet
                      exact ⟨rfl, rfl, rfl, And.right ‹_ ∧ Below wr.heap.size wr _›⟩
                  case rest =>
                    obtain ⟨rfl, rfl, rfl, HN1⟩ := hcut
                    have HBF := Lib.hid (HBJ.out.trans (HN1.out.mono HBJ.out.size))
                    have HBEF := Lib.hid (HBE.out.below HN1.out)
                    have HILF := Lib.hid (HIL.out.below HN1.out (Nat.le_refl _))
                    clear D
                    cases t3
                    · have HN := Lib.hid (HN0.out (by rw [HOK.out]; simp))
                      go_wp2_with fail
                      go_roundw
                      case rel => exact ⟨m + 1, hmP, by go_num, by rw [HN.out]; exact HBEF, HBF⟩
                      case measure => simp [intOf]; omega
                    · have HN := Lib.hid (HY0.out (by rw [HOK.out, decide_eq_true hcf]; rfl))
                      go_wp2_with fail
                      go_roundw
                      case rel => exact ⟨m + 1, hmP, by go_num, by rw [HN.out]; exact Lib.hid ⟨_, rfl, by rw [HLL.out]; exact HILF.out⟩, HBF⟩
                      case measure => simp [intOf]; omega
                · subst ho
                  obtain ⟨g, rfl, hin⟩ := HBE.out
                  have HBI := Lib.hid hin
                  have HBM := Lib.hid (fun d h => (HBD2.out b d h).1)
                  have hle2 : ¬ ((cntT (digM (l.length + 1) b j) : Nat) : Int) ≤ ((cntT L : Nat) : Int) := by omega
                  clear hin
                  go_upto_region 26 with (go_at_call 110; (first | (with_reducible refine (tried_any L _ _ HIL.out HDM.out).mono ?_) | (with_reducible refine (tried_any (digM (l.length + 1) b j) _ _ HBI.out HBM.out).mono ?_)); rintro e w4 ⟨rfl, rfl⟩)
                  go_cut [19, 20, 21] (fun s19 s20 s21 wx => s19 = .int .i64 t1 ∧ s20 = .int .i64 t2 ∧ s21 = .bool t3 ∧ Hid (Below wr.heap.size wr wx))
                  case first =>
                    go_region_held3 (fun w' => (w'.cell? ⟨w.heap.size, 0, none⟩ = some (.int .i64 c.hz) ∧ w'.cell? ⟨w.heap.size, 1, none⟩ = some (.slice sa c.sw.length scap) ∧ w'.cell? ⟨w.heap.size, 2, none⟩ = some wv) ∧ Below wr.heap.size wr w')
                      (first | (with_reducible exact D _ (Below.drew (Below.refl _ _))) | (with_reducible exact D _ hB2) | (with_reducible exact D _ hB1) | fail)
                      (first | (go_at_call 54; have hB0 := And.right ‹_ ∧ Below wr.heap.size wr _›; refine (asRota_any L gp _ _ (HIL.out.below hB0 (Nat.le_refl _)) (by rw [HLEN.out]; omega)).mono ?_; rintro e w5 ⟨nv, rfl, hns, hb5⟩; have hB1 := hB0.trans (hb5.mono hB0.size)) | (go_at_call 106; refine (rgap_any c sets (asR L gp) _ wv _ nv _ ((HV.out.below HBO.out (Nat.le_refl _)).below hB1 (Nat.le_refl _)) (HIJ.out.below hB1 (Nat.le_refl _)) hns s12 (by rw [HALN.out, HLEN.out]; exact n1) (by rw [HALN.out, HLEN.out]; exact n60) (by show (1 : Int) ≤ gp; omega) (by show (gp : Int) ≤ 60; omega) HST.out HAOK.out).mono ?_; rintro e w6 ⟨rfl, hb6⟩; rw [HGAP.out]; have hB2 := hB1.trans (hb6.mono hB1.size)))
                    all_goals
                      go_wp2_with fail
                      go_meet
                      exact ⟨rfl, rfl, rfl, And.right ‹_ ∧ Below wr.heap.size wr _›⟩
                  case rest =>
                    obtain ⟨rfl, rfl, rfl, HN1⟩ := hcut
                    have HBF := Lib.hid (HBJ.out.trans (HN1.out.mono HBJ.out.size))
                    have HBEF := Lib.hid (HBE.out.below HN1.out)
                    have HILF := Lib.hid (HIL.out.below HN1.out (Nat.le_refl _))
                    clear D
                    cases t3
                    · have HN := Lib.hid (HN0.out (by rw [HOK.out]; simp))
                      go_wp2_with fail
                      go_roundw
                      case rel => exact ⟨m + 1, hmP, by go_num, by rw [HN.out]; exact HBEF, HBF⟩
                      case measure => simp [intOf]; omega
                    · have HN := Lib.hid (HY0.out (by rw [HOK.out, decide_eq_true hcf]; rfl))
                      go_wp2_with fail
                      go_roundw
                      case rel => exact ⟨m + 1, hmP, by go_num, by rw [HN.out]; exact Lib.hid ⟨_, rfl, by rw [HLL.out]; exact HILF.out⟩, HBF⟩
                      case measure => simp [intOf]; omega
        · obtain rfl : m = P := by omega
          cases hbs : bstM sets c.sw.length gp (l.length + 1) k m with
          | none =>
            have HE := Lib.hid (show rotE c l k gp = 3 by rw [HF.out.1, hbs])
            have HR := Lib.hid (show rotR c l k gp = [] by rw [HF.out.2, hbs])
            have hv0 := hbest.out
            rw [hbs] at hv0
            obtain rfl : _ = Value.slice none 0 0 := hv0
            clear hbs hbest
            go_wp2_with fail
            go_ret2
            exact ⟨.slice none 0 0, by rw [HE.out]; rfl, by rw [HR.out]; exact InAt.nil _, HB.out.trans ((HB2.out.trans (hb.out.mono HB2.out.size)).mono HB.out.size)⟩
          | some b =>
            have HE := Lib.hid (show rotE c l k gp = 0 by rw [HF.out.1, hbs])
            have HR := Lib.hid (show rotR c l k gp = digM (l.length + 1) b k by rw [HF.out.2, hbs])
            have hv0 := hbest.out
            rw [hbs] at hv0
            obtain ⟨g, rfl, hin⟩ := hv0
            have HL := Lib.hid hin
            clear hbs hin hbest
            go_wp2_with fail
            go_ret2
            exact ⟨.slice (some ⟨g, 0, none⟩) k k, by rw [HE.out]; rfl, by rw [HR.out]; exact HL.out, HB.out.trans ((HB2.out.trans (hb.out.mono HB2.out.size)).mono HB.out.size)⟩

end Go.Proofs.Ytbiihhokcmdlhaa

/- CircuitPlans walked. -/
namespace Go.Proofs.Ytbiihhokcmdlhaa
open Go.RowKit

abbrev wisO (a b : Int) : Obj := .cells #[.int .i64 a, .int .i64 b] 58

set_option maxRecDepth 100000 in
set_option maxHeartbeats 8000000 in
theorem lawPlans_any (c : Cir) (sv wv : Value) (l : List Tri) (v : Value) (ni gi : Int) (w : World) (hv : CirAt w sv wv c) (hl : TrAt w v l) :
    Calls Try.prog 7 #[cirV c sv wv, v, .agg #[.int .i64 ni, .int .i64 gi]] w fun e w' => e = .returned (.bool true) ∧ Below w.heap.size w w' := by
  have hb0 := blw2 w (cirO c sv wv) (wisO ni gi)
  have HB := Lib.hid hb0
  have K0 := Lib.hid (two_od w (cirO c sv wv) (wisO ni gi))
  have K1 := Lib.hid (two_nw w (cirO c sv wv) (wisO ni gi))
  have HV := Lib.hid (hv.below hb0 (Nat.le_refl _))
  have HT := Lib.hid (hl.below hb0 (Nat.le_refl _))
  obtain ⟨ta, tcap, rfl, _, m2, _⟩ := hl
  have m3 : (l.length : Int) ≤ 9223372036854775807 := by omega
  clear hb0 hv
  go_enter Try.func7, Try.ntmps7
  go_wp2_with fail
  generalize (w.alloc (cirO c sv wv)).alloc (wisO ni gi) = wA at *
  refine (far_any c _ wv _ HV.out).mono ?_
  rintro e w1 ⟨q, rfl, hb1⟩
  have HB1 := Lib.hid hb1
  clear hb1
  cases q
  rotate_left
  · go_wp2_with fail
    refine (works_any _).mono ?_
    rintro e wz ⟨rfl, hbz⟩
    go_wp2_with fail
    go_ret
    exact ⟨rfl, HB.out.trans ((HB1.out.trans (hbz.mono HB1.out.size)).mono HB.out.size)⟩
  by_cases h20 : (20 : Int) < l.length
  · go_wp2_with fail
    refine (works_any _).mono ?_
    rintro e wz ⟨rfl, hbz⟩
    go_wp2_with fail
    go_ret
    exact ⟨rfl, HB.out.trans ((HB1.out.trans (hbz.mono HB1.out.size)).mono HB.out.size)⟩
  have c0 := block_cell (keepZ K0.out HB1.out)
  have c1 := block_cell (keepZ K1.out HB1.out)
  go_wp2_with fail
  refine (crotaM_any c l ni gi _ wv _ _ (HV.out.below HB1.out (Nat.le_refl _)) (HT.out.below HB1.out (Nat.le_refl _))).mono ?_
  rintro e w2 ⟨v2, rfl, hin, hb2⟩
  have HB2 := Lib.hid (HB1.out.trans (hb2.mono HB1.out.size))
  clear hb2
  have HI := Lib.hid hin
  obtain ⟨va, vcap, rfl, _⟩ := hin
  clear c0 c1
  have c0 := block_cell (keepZ K0.out HB2.out)
  have c1 := block_cell (keepZ K1.out HB2.out)
  go_wp2_with fail
  refine (rrotaM_any c l ni gi _ wv _ _ (HV.out.below HB2.out (Nat.le_refl _)) (HT.out.below HB2.out (Nat.le_refl _))).mono ?_
  rintro e w3 ⟨v3, rfl, hin, hb3⟩
  have H1 := Lib.hid (HI.out.below hb3 (Nat.le_refl _))
  have H2 := Lib.hid hin
  obtain ⟨va2, vcap2, rfl, _⟩ := hin
  have HB3 := Lib.hid (HB2.out.trans (hb3.mono HB2.out.size))
  clear hb3
  clear HI c0 c1
  generalize rotE c l ni gi = E at *
  generalize rotR c l ni gi = R at *
  go_wp2_with fail
  refine (sameInts_any _ _ _ _ H1.out H2.out).mono ?_
  rintro e w4 ⟨rfl, hb4⟩
  have HB4 := Lib.hid (HB3.out.trans (hb4.mono HB3.out.size))
  clear hb4
  go_wp2_with fail
  refine (works_any _).mono ?_
  rintro e wz ⟨rfl, hbz⟩
  go_wp2_with fail
  go_ret
  exact ⟨rfl, HB.out.trans ((HB4.out.trans (hbz.mono HB4.out.size)).mono HB.out.size)⟩

theorem cells_wish : Try.prog.cellsOf 58 = 2 := by kernel_rfl

end Go.Proofs.Ytbiihhokcmdlhaa

/- How wishes, and trials with a rota, read as arguments of layer 3's statements. -/
namespace Go.Proofs.Ytbiihhokcmdlhaa
open Go.ChangeShapes Go.WideShapes Go.ChangeAt Go.RowKit Go.Deep
set_option maxRecDepth 100000

theorem cells_kept : Try.prog.cellsOf 62 = 3 := by kernel_rfl
theorem cells_trials : Try.prog.cellsOf 46 = 1 := by kernel_rfl

section
variable {H : Type} {enc : TypeId × Value → H} {W : World} {d : DataW H} {ps : List MemPlace}

theorem wish_of {v : Value} (hv : Value.okWide Try.prog W .any 0 58 v) (h : DataW.Trod enc Try.prog W 0 (fun _ => true) true 58 v d ps) : ∃ a b : Int, v = .agg #[.int .i64 a, .int .i64 b] := by
  obtain ⟨cs, rfl, _⟩ := okWide_struct Try.underlying58 hv
  obtain ⟨fuel, hf⟩ := h
  obtain ⟨l⟩ := cs
  obtain ⟨n, hl, parts, _, hx⟩ := fieldOf Try.underlying58 hf
  simp only [Value.cells] at hl hx
  rw [cells_wish] at hl
  obtain ⟨y0, h0, _⟩ : ∃ y, DataW.trod enc Try.prog W 0 (fun _ => true) true n 3 ((l.drop 0).take (Try.prog.cellsOf 3)) = some y ∧ parts[0]? = some y.1 := hx 0 _ rfl
  rw [cells_int] at h0
  obtain ⟨x0, e0⟩ := intAt Try.underlying3 h0
  obtain ⟨y1, h1, _⟩ : ∃ y, DataW.trod enc Try.prog W 0 (fun _ => true) true n 3 ((l.drop 1).take (Try.prog.cellsOf 3)) = some y ∧ parts[1]? = some y.1 := hx 1 _ rfl
  rw [cells_int] at h1
  obtain ⟨x1, e1⟩ := intAt Try.underlying3 h1
  match l, hl with
  | [c0, c1], _ =>
    simp at e0 e1
    subst e0 e1
    exact ⟨x0, x1, rfl⟩

theorem kept_of {v : Value} (hv : Value.okWide Try.prog W .any 0 62 v) (h : DataW.Trod enc Try.prog W 0 (fun _ => true) true 62 v d ps) : ∃ (ts : List Tri) (tv : Value) (r : Rot) (nv : Value), v = .agg #[tv, nv, .int .i64 r.gap] ∧ TrAt W tv ts ∧ NsAt W nv r.nights := by
  obtain ⟨cs, rfl, _⟩ := okWide_struct Try.underlying62 hv
  obtain ⟨fuel, hf⟩ := h
  obtain ⟨l⟩ := cs
  obtain ⟨n, hl, parts, _, hx⟩ := fieldOf Try.underlying62 hf
  simp only [Value.cells] at hl hx
  rw [cells_kept] at hl
  obtain ⟨y0, h0, _⟩ : ∃ y, DataW.trod enc Try.prog W 0 (fun _ => true) true n 46 ((l.drop 0).take (Try.prog.cellsOf 46)) = some y ∧ parts[0]? = some y.1 := hx 0 _ rfl
  rw [cells_trials] at h0
  obtain ⟨y1, h1, _⟩ : ∃ y, DataW.trod enc Try.prog W 0 (fun _ => true) true n 52 ((l.drop 1).take (Try.prog.cellsOf 52)) = some y ∧ parts[1]? = some y.1 := hx 1 _ rfl
  rw [cells_rota] at h1
  match l, hl with
  | [c0, c1, c2], _ =>
    obtain ⟨ts, hts, _⟩ := trisl_cells (v := c0) (by simpa using h0)
    obtain ⟨r, nv, e, hr⟩ := rota_cells (cs := [c1, c2]) (by simpa using h1)
    injection e with e1 e2
    injection e2 with e2
    subst e1 e2
    exact ⟨ts, c0, r, c1, rfl, hts, hr⟩

end

end Go.Proofs.Ytbiihhokcmdlhaa
