import Derived.Test.YtbiihhokcmdlhaaZzR
/- Texts of one seat, merged: Ph -/
/- CircuitRota walked. -/
namespace Go.Proofs.Ytbiihhokcmdlhaa
open Go.RowKit

theorem chkR_as {c : Cir} {l : List Tri} {L : List Int} {gap : Int} (ht : chkT c l = 0) (h : ∀ d ∈ L, -1 ≤ d ∧ d < (l.length : Int)) (h1 : 1 ≤ L.length) (h2 : L.length ≤ 60) (h3 : 1 ≤ gap) (h4 : gap ≤ 60) : chkR c l (asR L gap) = 0 := by
  refine (chkR_ok ht ?_).symm
  unfold rotB
  rw [decide_eq_true (show 1 ≤ (asR L gap).nights.length ∧ (asR L gap).nights.length ≤ 60 by rw [asR_len]; exact ⟨h1, h2⟩), decide_eq_true (show 1 ≤ (asR L gap).gap ∧ (asR L gap).gap ≤ 60 from ⟨h3, h4⟩), Bool.true_and, Bool.true_and, List.all_eq_true]
  intro ks hks
  unfold asR at hks
  obtain ⟨d, hd, rfl⟩ := List.mem_map.1 hks
  have := h d hd
  split
  · unfold ascB ascB
    rw [decide_eq_true (by omega)]; rfl
  · rfl

theorem rota_as {c : Cir} {l : List Tri} {L : List Int} {gp : Nat} (hr : chkR c l (asR L gp) = 0) (h : ∀ d ∈ L, -1 ≤ d) : rotaM c l (asR L gp) = triesM (rndM (setsM c l) L) gp c.sw.length := by
  rw [rota_ok hr]
  show triesM ((asR L gp).nights.map (unionM (setsM c l))) (gp : Int).toNat _ = _
  rw [asR_round h, Int.toNat_natCast]

/-- Each number of the first k is one of a trial, or none. -/
def vldB (L : List Int) (T k : Nat) : Bool := (List.range k).all fun i => decide (-1 ≤ L.getD i 0) && decide (L.getD i 0 < (T : Int))
theorem vld_succ (L : List Int) (T k : Nat) : vldB L T (k + 1) = (vldB L T k && (decide (-1 ≤ L.getD k 0) && decide (L.getD k 0 < (T : Int)))) := by
  unfold vldB; rw [List.range_succ, List.all_append]; simp
theorem vld_all {L : List Int} {T : Nat} (h : vldB L T L.length = true) : ∀ d ∈ L, -1 ≤ d ∧ d < (T : Int) := by
  intro d hd
  obtain ⟨i, hi, rfl⟩ := List.getElem_of_mem hd
  have := List.all_eq_true.1 h i (List.mem_range.2 hi)
  rw [List.getD_eq_getElem?_getD, List.getElem?_eq_getElem hi] at this
  simpa using this

theorem best_of {sets : List Nat} {n gp t N : Nat} {L : List Int} (ht : 0 < t) (hP : pcM t N ≤ 20000) (hl : L.length = N) (h : ∀ d ∈ L, -1 ≤ d ∧ d < (t : Int) - 1) (hok : okM sets n gp L = true) :
    ∃ b, bstM sets n gp t N (pcM t N) = some b ∧ cntT (digM t b N) ≤ cntT L := by
  obtain ⟨x, hx, he⟩ := digM_find ht N L hl h
  rw [← he]
  exact (bst_spec (pcM t N)).2 x (by rw [pcM_pow hP N (Nat.le_refl _)]; exact hx) (by rw [he]; exact hok)

abbrev kepO (tv nv : Value) (gap : Int) : Obj := .cells #[tv, nv, .int .i64 gap] 62

set_option maxRecDepth 100000 in
set_option maxHeartbeats 8000000 in
theorem lawRota_any (c : Cir) (sv wv : Value) (l : List Tri) (tv : Value) (r : Rot) (nv : Value) (L : List Int) (ov : Value) (w : World) (hv : CirAt w sv wv c) (hl : TrAt w tv l) (_hr : NsAt w nv r.nights) (ho : InAt w ov L) :
    Calls Try.prog 15 #[cirV c sv wv, .agg #[tv, nv, .int .i64 r.gap], ov] w fun e w' => e = .returned (.bool true) ∧ Below w.heap.size w w' := by
  have hb0 := blw2 w (cirO c sv wv) (kepO tv nv r.gap)
  have HB := Lib.hid hb0
  have K0 := Lib.hid (two_od w (cirO c sv wv) (kepO tv nv r.gap))
  have K1 := Lib.hid (two_nw w (cirO c sv wv) (kepO tv nv r.gap))
  have HV := Lib.hid (hv.below hb0 (Nat.le_refl _))
  have HT := Lib.hid (hl.below hb0 (Nat.le_refl _))
  have HO := Lib.hid (ho.below hb0 (Nat.le_refl _))
  obtain ⟨ta, tcap, rfl, _, m2, _⟩ := hl
  obtain ⟨oa, ocap, rfl, o1, o2, _⟩ := ho
  have m3 : (l.length : Int) ≤ 9223372036854775807 := by omega
  generalize r.gap = gi at *
  clear hb0 hv _hr
  go_enter Try.func15, Try.ntmps15
  go_wp2_with fail
  generalize (w.alloc (cirO c sv wv)).alloc (kepO (.slice ta l.length tcap) nv gi) = wA at *
  refine (far_any c _ wv _ HV.out).mono ?_
  rintro e w1 ⟨q, rfl, hb1⟩
  have HB1 := Lib.hid hb1
  clear hb1
  cases q
  rotate_left
  · go_wp2_with fail
    refine (works_any _).mono ?_
    rintro e wz ⟨rfl, hbz⟩
    go_wp2_with fail
    go_ret
    exact ⟨rfl, HB.out.trans ((HB1.out.trans (hbz.mono HB1.out.size)).mono HB.out.size)⟩
  have c0 := block_cell (keepZ K0.out HB1.out)
  have c1 := block_cell (keepZ K1.out HB1.out)
  go_wp2_with fail
  refine (rcheckT_any c l _ wv _ _ (HV.out.below HB1.out (Nat.le_refl _)) (HT.out.below HB1.out (Nat.le_refl _))).mono ?_
  rintro e w2 ⟨rfl, hb2⟩
  have HB2 := Lib.hid (HB1.out.trans (hb2.mono HB1.out.size))
  clear hb2
  clear c0 c1
  by_cases ht : chkT c l = 0
  rotate_left
  · have hqb : (chkT c l == 0) = false := by simpa using ht
    have hqc : (chkT c l != 0) = true := by simpa using ht
    clear ht
    generalize chkT c l = m at *
    go_wp2_with fail
    refine (works_any _).mono ?_
    rintro e wz ⟨rfl, hbz⟩
    go_wp2_with fail
    go_ret
    exact ⟨rfl, HB.out.trans ((HB2.out.trans (hbz.mono HB2.out.size)).mono HB.out.size)⟩
  rw [ht]
  have HC := Lib.hid ht
  have l12 := (tval ht).n
  by_cases hz : L.length = 0
  · have hz2 : ((L.length : Int) == 0) = true := by simp [hz]
    go_wp2_with fail
    refine (works_any _).mono ?_
    rintro e wz ⟨rfl, hbz⟩
    go_wp2_with fail
    go_ret
    exact ⟨rfl, HB.out.trans ((HB2.out.trans (hbz.mono HB2.out.size)).mono HB.out.size)⟩
  have hz2 : ((L.length : Int) == 0) = false := by simp only [beq_eq_false_iff_ne, ne_eq]; omega
  by_cases h6 : (6 : Int) < L.length
  · go_wp2_with fail
    refine (works_any _).mono ?_
    rintro e wz ⟨rfl, hbz⟩
    go_wp2_with fail
    go_ret
    exact ⟨rfl, HB.out.trans ((HB2.out.trans (hbz.mono HB2.out.size)).mono HB.out.size)⟩
  have c1 := block_cell (keepZ K1.out HB2.out)
  by_cases hg1 : gi < 1
  · go_wp2_with fail
    refine (works_any _).mono ?_
    rintro e wz ⟨rfl, hbz⟩
    go_wp2_with fail
    go_ret
    exact ⟨rfl, HB.out.trans ((HB2.out.trans (hbz.mono HB2.out.size)).mono HB.out.size)⟩
  by_cases hg2 : 60 < gi
  · go_wp2_with fail
    refine (works_any _).mono ?_
    rintro e wz ⟨rfl, hbz⟩
    go_wp2_with fail
    go_ret
    exact ⟨rfl, HB.out.trans ((HB2.out.trans (hbz.mono HB2.out.size)).mono HB.out.size)⟩
  obtain ⟨gp, rfl⟩ : ∃ g : Nat, gi = g := ⟨gi.toNat, by omega⟩
  have n1 : 1 ≤ L.length := by omega
  have n6 : L.length ≤ 6 := by omega
  have g1 : 1 ≤ gp := by omega
  have g60 : gp ≤ 60 := by omega
  have c0 := block_cell (keepZ K0.out HB2.out)
  go_wp2_with fail
  refine (crotaM_any c l L.length gp _ wv _ _ (HV.out.below HB2.out (Nat.le_refl _)) (HT.out.below HB2.out (Nat.le_refl _))).mono ?_
  rintro e w3 ⟨v3, rfl, hin, hb3⟩
  have HB3 := Lib.hid (HB2.out.trans (hb3.mono HB2.out.size))
  clear hb3
  clear c0 c1 hz hz2 hg1 hg2 h6
  have HEE := Lib.hid (show rotE c l L.length gp = if 20000 < pcM (l.length + 1) L.length then 2 else match bstM (setsM c l) c.sw.length gp (l.length + 1) L.length (pcM (l.length + 1) L.length) with | none => 3 | some _ => 0 by
    unfold rotE
    rw [if_pos ht, decide_eq_true (show 1 ≤ (L.length : Int) ∧ (L.length : Int) ≤ 60 by omega), decide_eq_true (show 1 ≤ (gp : Int) ∧ (gp : Int) ≤ 60 by omega)]
    rfl)
  by_cases hpc : 20000 < pcM (l.length + 1) L.length
  · have HE := Lib.hid (show rotE c l L.length gp = 2 by rw [HEE.out, if_pos hpc])
    obtain ⟨va, vcap, rfl, _⟩ := hin
    rw [HE.out]
    clear HEE ht hpc
    go_wp2_with fail
    refine (works_any _).mono ?_
    rintro e wz ⟨rfl, hbz⟩
    go_wp2_with fail
    go_ret
    exact ⟨rfl, HB.out.trans ((HB3.out.trans (hbz.mono HB3.out.size)).mono HB.out.size)⟩
  have HRR := Lib.hid (show rotE c l L.length gp = 0 → rotR c l L.length gp = match bstM (setsM c l) c.sw.length gp (l.length + 1) L.length (pcM (l.length + 1) L.length) with | none => [] | some b => digM (l.length + 1) b L.length by
    intro h
    unfold rotR
    rw [if_pos h]
    simp only [Int.toNat_natCast]
    rfl)
  rw [if_neg hpc] at HEE
  have HSL := Lib.hid (sets_len c l)
  have HBF := Lib.hid (fun (hd : ∀ d ∈ L, -1 ≤ d ∧ d < (l.length : Int)) (hok : okM (setsM c l) c.sw.length gp L = true) => best_of (sets := setsM c l) (n := c.sw.length) (gp := gp) (t := l.length + 1) (by omega) (by omega) rfl (fun d h => by have := hd d h; omega) hok)
  have HBS := Lib.hid ((bst_spec (sets := setsM c l) (n := c.sw.length) (gap := gp) (t := l.length + 1) (N := L.length) (pcM (l.length + 1) L.length)).1)
  have HAS := Lib.hid (fun (M : List Int) (hM : ∀ d ∈ M, -1 ≤ d ∧ d < (l.length : Int)) (h1 : 1 ≤ M.length) (h2 : M.length ≤ 60) => show chkR c l (asR M gp) = 0 ∧ rotaM c l (asR M gp) = triesM (rndM (setsM c l) M) gp c.sw.length by
    have h := chkR_as (c := c) ht hM h1 h2 (show (1 : Int) ≤ gp by omega) (by omega)
    exact ⟨h, rota_as h (fun d hd => (hM d hd).1)⟩)
  have HDB := Lib.hid (fun b => digM_bd (t := l.length + 1) (by omega) L.length b)
  have HDL := Lib.hid (fun b => digM_len (l.length + 1) L.length b)
  clear hpc ht
  obtain ⟨fo, hfo⟩ : ∃ f : Nat → Bool, f = fun i => decide (0 ≤ L.getD i 0) := ⟨_, rfl⟩
  have HFO := Lib.hid (fun k => show fo k = decide (0 ≤ L.getD k 0) by rw [hfo])
  have HCO := Lib.hid (fun (hd : ∀ d ∈ L, -1 ≤ d) => show cntB fo L.length = cntT L by rw [hfo]; exact tried_cnt hd)
  have HVA := Lib.hid (fun h => vld_all (L := L) (T := l.length) h)
  clear hfo
  generalize setsM c l = sets at *
  generalize pcM (l.length + 1) L.length = P at *
  have HI := Lib.hid hin
  obtain ⟨va, vcap, hvv, _⟩ := hin
  subst hvv
  generalize hE : rotE c l L.length gp = E at *
  generalize hR : rotR c l L.length gp = R at *
  have HJ : Hid ((E = 3 ∧ bstM sets c.sw.length gp (l.length + 1) L.length P = none) ∨ (E = 0 ∧ ∃ b, bstM sets c.sw.length gp (l.length + 1) L.length P = some b ∧ R = digM (l.length + 1) b L.length)) := by
    have h1 := HEE.out
    cases hb : bstM sets c.sw.length gp (l.length + 1) L.length P with
    | none => rw [hb] at h1; exact Or.inl ⟨h1, rfl⟩
    | some b =>
      rw [hb] at h1
      have h2 := HRR.out h1
      rw [hb] at h2
      exact Or.inr ⟨h1, b, rfl, h2⟩
  have hE2 : (E == 2) = false := by rcases HJ.out with ⟨h, _⟩ | ⟨h, _⟩ <;> rw [h] <;> rfl
  clear hE hR HEE HRR
  go_wp2_with fail
  go_loopw [9, 10, 11] (fun x y i wr => ∃ k : Nat, k ≤ L.length ∧ i = .int .i64 k ∧ x = .bool (vldB L l.length k) ∧ y = .int .i64 (cntB fo k : Nat) ∧ Hid (Below w3.heap.size w3 wr)) (fun _ _ i _ => L.length - (intOf i).toNat)
  case atStart => exact ⟨0, Nat.zero_le _, rfl, rfl, rfl, Lib.hid (Below.refl _ _)⟩
  case round =>
    obtain ⟨k, hk, rfl, rfl, rfl, hb⟩ := hrel
    have HBW := Lib.hid (HB3.out.trans (hb.out.mono HB3.out.size))
    by_cases hlt : k < L.length
    · have k1 := keepZ K1.out HBW.out
      have y1 := bw_cells (B := wr.heap.size) k1 (lt_of_block k1)
      obtain ⟨_, _, e1, _, _, hcc⟩ := (HO.out.below HBW.out (Nat.le_refl _))
      injection e1 with e1 e2 e3
      subst e1
      obtain ⟨b, off, rfl, hbl, hcc⟩ := hcc (by omega)
      have q1 := hcc k hlt
      have HVS := Lib.hid (vld_succ L l.length k)
      have HCS := Lib.hid (show cntB fo (k + 1) = if fo k = true then cntB fo k + 1 else cntB fo k from rfl)
      rw [HFO.out] at HCS
      have hcl := cntB_le fo k
      generalize vldB L l.length k = vk at *
      generalize cntB fo k = cn at *
      generalize L.getD k 0 = d at *
      have y2 := bw_cell (B := wr.heap.size) q1 hbl
      have i1 : (0 : Int) ≤ k := by omega
      have i2 : (k : Int) < L.length := by omega
      clear hcc e2 e3 k1
      obtain ⟨cn2, hcn2⟩ : ∃ cn2 : Nat, cn2 = if decide (0 ≤ d) = true then cn + 1 else cn := ⟨_, rfl⟩
      rw [← hcn2] at HCS
      cases vk
      · go_wp2_with fail
        refine wp_region_below (by kernel_rfl) (by kernel_rfl) (Below.refl wr.heap.size wr) ?_
        repeat ((with_reducible refine wpQuiet_step (fun K hK => ?_)); go_simp; first | (refine hK _ ?_; clear hK K) | (apply Exists.intro; refine ⟨fun _ => ?_, hK _ ?_⟩; (fail); clear hK K))
        refine wpQuiet_nil ?_
        intro wq hwq0
        have hwq := bw_out hwq0
        clear hwq0
        have qd := (hwq.cell (p := ⟨b, off + k, none⟩) hbl).trans q1
        have HBQ := Lib.hid (hb.out.trans (hwq.mono hb.out.size))
        clear y1 y2 q1 hwq
        by_cases h0 : 0 ≤ d
        all_goals
          simp only [h0, decide_true, decide_false, if_true, if_false, Bool.false_eq_true] at hcn2
          go_wp2_with fail
          go_roundw
          case rel => exact ⟨k + 1, hlt, by go_num, (by rw [HVS.out]; first | rfl | (simp only [hd2]; rfl)), (by first | (rw [HCS.out, hcn2]; done) | (rw [HCS.out, hcn2]; go_num)), HBQ⟩
          case measure => simp [intOf]; omega
      · by_cases h1 : -1 ≤ d
        · by_cases h2 : d < (l.length : Int)
          · rw [decide_eq_true h1, decide_eq_true h2] at HVS
            go_wp2_with fail
            refine wp_region_below (by kernel_rfl) (by kernel_rfl) (Below.refl wr.heap.size wr) ?_
            repeat ((with_reducible refine wpQuiet_step (fun K hK => ?_)); go_simp; first | (refine hK _ ?_; clear hK K) | (apply Exists.intro; refine ⟨fun _ => ?_, hK _ ?_⟩; (fail); clear hK K))
            refine wpQuiet_nil ?_
            intro wq hwq0
            have hwq := bw_out hwq0
            clear hwq0
            have qd := (hwq.cell (p := ⟨b, off + k, none⟩) hbl).trans q1
            have HBQ := Lib.hid (hb.out.trans (hwq.mono hb.out.size))
            clear y1 y2 q1 hwq
            by_cases h0 : 0 ≤ d
            all_goals
              simp only [h0, decide_true, decide_false, if_true, if_false, Bool.false_eq_true] at hcn2
              go_wp2_with fail
              go_roundw
              case rel => exact ⟨k + 1, hlt, by go_num, (by rw [HVS.out]; first | rfl | (simp only [hd2]; rfl)), (by first | (rw [HCS.out, hcn2]; done) | (rw [HCS.out, hcn2]; go_num)), HBQ⟩
              case measure => simp [intOf]; omega
          · rw [decide_eq_true h1, decide_eq_false h2] at HVS
            have hd2 : decide (d < (l.length : Int)) = false := decide_eq_false h2
            go_wp2_with fail
            refine wp_region_below (by kernel_rfl) (by kernel_rfl) (Below.refl wr.heap.size wr) ?_
            repeat ((with_reducible refine wpQuiet_step (fun K hK => ?_)); go_simp; first | (refine hK _ ?_; clear hK K) | (apply Exists.intro; refine ⟨fun _ => ?_, hK _ ?_⟩; (fail); clear hK K))
            refine wpQuiet_nil ?_
            intro wq hwq0
            have hwq := bw_out hwq0
            clear hwq0
            have qd := (hwq.cell (p := ⟨b, off + k, none⟩) hbl).trans q1
            have HBQ := Lib.hid (hb.out.trans (hwq.mono hb.out.size))
            clear y1 y2 q1 hwq
            by_cases h0 : 0 ≤ d
            all_goals
              simp only [h0, decide_true, decide_false, if_true, if_false, Bool.false_eq_true] at hcn2
              go_wp2_with fail
              go_roundw
              case rel => exact ⟨k + 1, hlt, by go_num, (by rw [HVS.out]; first | rfl | (simp only [hd2]; rfl)), (by first | (rw [HCS.out, hcn2]; done) | (rw [HCS.out, hcn2]; go_num)), HBQ⟩
              case measure => simp [intOf]; omega
        · rw [decide_eq_false h1] at HVS
          have hd1 : decide (-1 ≤ d) = false := decide_eq_false h1
          go_wp2_with fail
          refine wp_region_below (by kernel_rfl) (by kernel_rfl) (Below.refl wr.heap.size wr) ?_
          repeat ((with_reducible refine wpQuiet_step (fun K hK => ?_)); go_simp; first | (refine hK _ ?_; clear hK K) | (apply Exists.intro; refine ⟨fun _ => ?_, hK _ ?_⟩; (fail); clear hK K))
          refine wpQuiet_nil ?_
          intro wq hwq0
          have hwq := bw_out hwq0
          clear hwq0
          have qd := (hwq.cell (p := ⟨b, off + k, none⟩) hbl).trans q1
          have HBQ := Lib.hid (hb.out.trans (hwq.mono hb.out.size))
          clear y1 y2 q1 hwq
          by_cases h0 : 0 ≤ d
          all_goals
            simp only [h0, decide_true, decide_false, if_true, if_false, Bool.false_eq_true] at hcn2
            go_wp2_with fail
            go_roundw
            case rel => exact ⟨k + 1, hlt, by go_num, (by rw [HVS.out]; first | rfl | (simp only [hd2]; rfl)), (by first | (rw [HCS.out, hcn2]; done) | (rw [HCS.out, hcn2]; go_num)), HBQ⟩
            case measure => simp [intOf]; omega
    · obtain rfl : k = L.length := by omega
      have HF : Hid (vldB L l.length L.length = true → ∀ d ∈ L, -1 ≤ d ∧ d < (l.length : Int)) := HVA
      have HCX := HCO
      have hcl := cntB_le fo L.length
      generalize cntB fo L.length = cn at *
      have HOW := Lib.hid (HO.out.below HBW.out (Nat.le_refl _))
      clear hk
      go_upto_if 100 with (fail)
      go_cut [9] (fun s9 wx => ∃ vv : Bool, s9 = .bool vv ∧ Hid (vv = true → E = 0 ∧ ∃ b, bstM sets c.sw.length gp (l.length + 1) L.length P = some b ∧ cntT (digM (l.length + 1) b L.length) ≤ cn) ∧ Hid (Below wr.heap.size wr wx))
      case first =>
        cases hV : vldB L l.length L.length
        · go_wp2_with fail
          go_meet
          exact ⟨false, rfl, Lib.hid (fun h => by cases h), Lib.hid (Below.refl _ _)⟩
        · have HM := Lib.hid (HF.out hV)
          obtain ⟨hck, hro⟩ := HAS.out L HM.out n1 (by omega)
          obtain ⟨t1, t2, t3, hT⟩ : ∃ t1 t2 t3, triesM (rndM sets L) gp c.sw.length = ⟨t1, t2, t3⟩ := ⟨_, _, _, rfl⟩
          have HRO := Lib.hid (hro.trans hT)
          have HCK := Lib.hid hck
          have HOK := Lib.hid (show okM sets c.sw.length gp L = t3 by unfold okM; rw [hT])
          have HEZ : Hid (t3 = true → E = 0 ∧ ∃ b, bstM sets c.sw.length gp (l.length + 1) L.length P = some b ∧ cntT (digM (l.length + 1) b L.length) ≤ cn) := by
            intro h
            obtain ⟨b, hb1, hb2⟩ := HBF.out HM.out (by rw [HOK.out]; exact h)
            have hcc := HCX.out (fun d hd => (HM.out d hd).1)
            rcases HJ.out with ⟨_, h2⟩ | ⟨h2, _⟩
            · rw [hb1] at h2; cases h2
            · exact ⟨h2, b, hb1, by rw [hcc]; exact hb2⟩
          have D : ∀ w', Below wr.heap.size wr w' → ((w'.cell? ⟨w.heap.size, 0, none⟩ = some (.int .i64 c.hz) ∧ w'.cell? ⟨w.heap.size, 1, none⟩ = some sv ∧ w'.cell? ⟨w.heap.size, 2, none⟩ = some wv) ∧ (w'.cell? ⟨w.heap.size + 1, 0, none⟩ = some (.slice ta l.length tcap) ∧ w'.cell? ⟨w.heap.size + 1, 1, none⟩ = some nv ∧ w'.cell? ⟨w.heap.size + 1, 2, none⟩ = some (.int .i64 gp))) ∧ Below wr.heap.size wr w' := by
            intro w' h
            have c0 := block_cell (keepZ (keepZ K0.out HBW.out) h)
            have c1 := block_cell (keepZ (keepZ K1.out HBW.out) h)
            exact ⟨⟨⟨c0 0, c0 1, c0 2⟩, c1 0, c1 1, c1 2⟩, h⟩
          clear hV hT hro hck
          go_upto_region 14 with fail
          go_cut [12, 13, 14, 15] (fun s12 s13 s14 s15 wx => s12 = .int .i64 t1 ∧ s13 = .int .i64 t2 ∧ s14 = .bool t3 ∧ s15 = .int .i64 0 ∧ Hid (Below wr.heap.size wr wx))
          case first =>
            go_region_held3 (fun w' => ((w'.cell? ⟨w.heap.size, 0, none⟩ = some (.int .i64 c.hz) ∧ w'.cell? ⟨w.heap.size, 1, none⟩ = some sv ∧ w'.cell? ⟨w.heap.size, 2, none⟩ = some wv) ∧ (w'.cell? ⟨w.heap.size + 1, 0, none⟩ = some (.slice ta l.length tcap) ∧ w'.cell? ⟨w.heap.size + 1, 1, none⟩ = some nv ∧ w'.cell? ⟨w.heap.size + 1, 2, none⟩ = some (.int .i64 gp))) ∧ Below wr.heap.size wr w')
              (first | (with_reducible exact D _ (Below.drew (Below.refl _ _))) | (with_reducible exact D _ hB2) | (with_reducible exact D _ hB1) | fail)
              (first | (go_at_call 54; have hB0 := And.right ‹_ ∧ Below wr.heap.size wr _›; refine (asRota_any L gp _ _ (HOW.out.below hB0 (Nat.le_refl _)) (by omega)).mono ?_; rintro e w5 ⟨nv5, rfl, hns, hb5⟩; have hB1 := hB0.trans (hb5.mono hB0.size)) | (go_at_call 41; refine (crota_any c l (asR L gp) _ wv _ nv5 _ ((HV.out.below HBW.out (Nat.le_refl _)).below hB1 (Nat.le_refl _)) ((HT.out.below HBW.out (Nat.le_refl _)).below hB1 (Nat.le_refl _)) hns).mono ?_; rintro e w6 ⟨rfl, hb6⟩; rw [HRO.out, HCK.out]; have hB2 := hB1.trans (hb6.mono hB1.size)))
            all_goals
              go_wp2_with fail
              go_meet
              exact ⟨rfl, rfl, rfl, rfl, And.right ‹_ ∧ Below wr.heap.size wr _›⟩
          case rest =>
            obtain ⟨rfl, rfl, rfl, rfl, HN1⟩ := hcut
            clear D
            cases t3
            · go_wp2_with fail
              go_meet
              exact ⟨false, rfl, Lib.hid (fun h => by cases h), HN1⟩
            · have hE0 := (HEZ.out rfl).1
              have HEZ2 := Lib.hid (HEZ.out rfl)
              subst hE0
              go_wp2_with fail
              go_meet
              exact ⟨true, rfl, Lib.hid (fun _ => HEZ2.out), HN1⟩
      case rest =>
        obtain ⟨vv, rfl, HVV, HN0⟩ := hcut
        have HBX := Lib.hid (HBW.out.trans (HN0.out.mono HBW.out.size))
        have HLX := Lib.hid (HI.out.below (hb.out.trans (HN0.out.mono hb.out.size)) (Nat.le_refl _))
        rcases HJ.out with ⟨h3, _⟩ | ⟨h0, b, hbs, hRb⟩
        · subst h3
          have hvf : vv = false := by
            cases vv
            · rfl
            · have := (HVV.out rfl).1; omega
          subst hvf
          go_wp2_with fail
          refine (works_any _).mono ?_
          rintro e wz ⟨rfl, hbz⟩
          go_wp2_with fail
          go_ret
          exact ⟨rfl, HB.out.trans ((HBX.out.trans (hbz.mono HBX.out.size)).mono HB.out.size)⟩
        · subst h0
          have HLN := Lib.hid (show R.length = L.length by rw [hRb, HDL.out])
          have HRB := Lib.hid (show ∀ d ∈ R, -1 ≤ d ∧ d < (l.length : Int) by rw [hRb]; intro d hd; have := HDB.out b d hd; omega)
          have HOKB := Lib.hid (show okM sets c.sw.length gp R = true by rw [hRb]; exact HBS.out b hbs)
          have HVN : Hid (vv = true → cntT R ≤ cn) := fun h => by
            obtain ⟨_, b', hb', hle⟩ := HVV.out h
            rw [hbs] at hb'
            injection hb' with hb'
            subst hb'
            rw [hRb]; exact hle
          obtain ⟨fr, hfr⟩ : ∃ f : Nat → Bool, f = fun i => decide (0 ≤ R.getD i 0) := ⟨_, rfl⟩
          have HFR := Lib.hid (fun k => show fr k = decide (0 ≤ R.getD k 0) by rw [hfr])
          have HCR := Lib.hid (show cntB fr R.length = cntT R by rw [hfr]; exact tried_cnt (fun d hd => (HRB.out d hd).1))
          clear hfr hRb hbs hE2
          obtain ⟨hck, hro⟩ := HAS.out R HRB.out (by rw [HLN.out]; exact n1) (by rw [HLN.out]; omega)
          obtain ⟨t1, t2, t3, hT⟩ : ∃ t1 t2 t3, triesM (rndM sets R) gp c.sw.length = ⟨t1, t2, t3⟩ := ⟨_, _, _, rfl⟩
          have HRO := Lib.hid (hro.trans hT)
          have HCK := Lib.hid hck
          have HT3 := Lib.hid (show t3 = true by have := HOKB.out; unfold okM at this; rw [hT] at this; exact this)
          clear hck hro hT
          rw [HLN.out] at HLX ⊢
          have hrl6 : R.length ≤ 6 := by rw [HLN.out]; omega
          have hne : ((L.length : Int) == (L.length : Int)) = true := by simp
          have hnf : ((L.length : Int) != (L.length : Int)) = false := by simp
          go_wp2_with fail
          go_loopw [16, 17] (fun y i w9 => ∃ k : Nat, k ≤ L.length ∧ i = .int .i64 k ∧ y = .int .i64 (cntB fr k : Nat) ∧ Hid (Below wc.heap.size wc w9)) (fun _ i _ => L.length - (intOf i).toNat)
          case atStart => exact ⟨0, Nat.zero_le _, rfl, rfl, Lib.hid (Below.refl _ _)⟩
          case round =>
            obtain ⟨k, hk, rfl, rfl, hb9⟩ := hrel
            have HBW9 := Lib.hid (HBX.out.trans (hb9.out.mono HBX.out.size))
            by_cases hlt : k < L.length
            · have k1 := keepZ K1.out HBW9.out
              have y1 := bw_cells (B := wr.heap.size) k1 (lt_of_block k1)
              obtain ⟨b9, off, e1, hbl, hcc⟩ := in_open (HLX.out.below hb9.out (Nat.le_refl _)) (by rw [HLN.out]; omega)
              subst e1
              have q1 := hcc k (by rw [HLN.out]; exact hlt)
              obtain ⟨d1, d2⟩ := HRB.out _ (getD_mem (show k < R.length by rw [HLN.out]; exact hlt) 0)
              have HCS := Lib.hid (show cntB fr (k + 1) = if fr k = true then cntB fr k + 1 else cntB fr k from rfl)
              rw [HFR.out] at HCS
              have hcl9 := cntB_le fr k
              generalize cntB fr k = m at *
              generalize R.getD k 0 = d at *
              have y2 := bw_cell (B := wr.heap.size) q1 hbl
              have i1 : (0 : Int) ≤ k := by omega
              have i2 : (k : Int) < L.length := by omega
              have hd1 : decide (d < -1) = false := decide_eq_false (by omega)
              have hd2 : decide ((l.length : Int) ≤ d) = false := decide_eq_false (by omega)
              have HD12 := Lib.hid (show -1 ≤ d ∧ d < (l.length : Int) from ⟨d1, d2⟩)
              clear hcc k1
              go_wp2_with fail
              refine wp_region_below (by kernel_rfl) (by kernel_rfl) (Below.refl wr.heap.size wr) ?_
              repeat ((with_reducible refine wpQuiet_step (fun K hK => ?_)); go_simp; first | (refine hK _ ?_; clear hK K) | (apply Exists.intro; refine ⟨fun _ => ?_, hK _ ?_⟩; (fail); clear hK K))
              refine wpQuiet_nil ?_
              intro wq hwq0
              have hwq := bw_out hwq0
              clear hwq0
              have qd := (hwq.cell (p := ⟨b9, off + k, none⟩) hbl).trans q1
              have HBQ := Lib.hid (hb9.out.trans (hwq.mono hb9.out.size))
              clear y1 y2 q1 hwq
              by_cases h0 : 0 ≤ d
              · have HC2 := Lib.hid (HCS.out.trans (if_pos (decide_eq_true h0)))
                go_wp2_with fail
                go_roundw
                case rel => exact ⟨k + 1, hlt, by go_num, (by rw [HC2.out]; go_num), HBQ⟩
                case measure => simp [intOf]; omega
              · have HC2 := Lib.hid (HCS.out.trans (if_neg (by simpa using h0)))
                go_wp2_with fail
                go_roundw
                case rel => exact ⟨k + 1, hlt, by go_num, (by rw [HC2.out]), HBQ⟩
                case measure => simp [intOf]; omega
            · obtain rfl : k = L.length := by omega
              have HBW := HBW9
              have HRX := Lib.hid (HLX.out.below hb9.out (Nat.le_refl _))
              have hle := HVN.out
              have hcr := HCR.out
              rw [HLN.out] at hcr
              rw [hcr]
              generalize cntT R = m at *
              have hcm : m ≤ 6 := by
                have := cntB_le fr L.length
                omega
              have HLE := Lib.hid hle
              have D : ∀ w', Below wr.heap.size wr w' → ((w'.cell? ⟨w.heap.size, 0, none⟩ = some (.int .i64 c.hz) ∧ w'.cell? ⟨w.heap.size, 1, none⟩ = some sv ∧ w'.cell? ⟨w.heap.size, 2, none⟩ = some wv) ∧ (w'.cell? ⟨w.heap.size + 1, 0, none⟩ = some (.slice ta l.length tcap) ∧ w'.cell? ⟨w.heap.size + 1, 1, none⟩ = some nv ∧ w'.cell? ⟨w.heap.size + 1, 2, none⟩ = some (.int .i64 gp))) ∧ Below wr.heap.size wr w' := by
                intro w' h
                have c0 := block_cell (keepZ (keepZ K0.out HBW.out) h)
                have c1 := block_cell (keepZ (keepZ K1.out HBW.out) h)
                exact ⟨⟨⟨c0 0, c0 1, c0 2⟩, c1 0, c1 1, c1 2⟩, h⟩
              clear hle hcr hne hnf
              go_upto_region 30 with fail
              go_cut [18, 19, 20, 21] (fun s18 s19 s20 s21 wx => s18 = .int .i64 t1 ∧ s19 = .int .i64 t2 ∧ s20 = .bool t3 ∧ s21 = .int .i64 0 ∧ Hid (Below wr.heap.size wr wx))
              case first =>
                go_region_held3 (fun w' => ((w'.cell? ⟨w.heap.size, 0, none⟩ = some (.int .i64 c.hz) ∧ w'.cell? ⟨w.heap.size, 1, none⟩ = some sv ∧ w'.cell? ⟨w.heap.size, 2, none⟩ = some wv) ∧ (w'.cell? ⟨w.heap.size + 1, 0, none⟩ = some (.slice ta l.length tcap) ∧ w'.cell? ⟨w.heap.size + 1, 1, none⟩ = some nv ∧ w'.cell? ⟨w.heap.size + 1, 2, none⟩ = some (.int .i64 gp))) ∧ Below wr.heap.size wr w')
                  (first | (with_reducible exact D _ (Below.drew (Below.refl _ _))) | (with_reducible exact D _ hB2) | (with_reducible exact D _ hB1) | fail)
                  (first | (go_at_call 54; have hB0 := And.right ‹_ ∧ Below wr.heap.size wr _›; refine (asRota_any R gp _ _ (HRX.out.below hB0 (Nat.le_refl _)) (by omega)).mono ?_; rintro e w5 ⟨nv5, rfl, hns, hb5⟩; have hB1 := hB0.trans (hb5.mono hB0.size)) | (go_at_call 41; refine (crota_any c l (asR R gp) _ wv _ nv5 _ ((HV.out.below HBW.out (Nat.le_refl _)).below hB1 (Nat.le_refl _)) ((HT.out.below HBW.out (Nat.le_refl _)).below hB1 (Nat.le_refl _)) hns).mono ?_; rintro e w6 ⟨rfl, hb6⟩; rw [HRO.out, HCK.out]; have hB2 := hB1.trans (hb6.mono hB1.size)))
                all_goals
                  go_wp2_with fail
                  go_meet
                  exact ⟨rfl, rfl, rfl, rfl, And.right ‹_ ∧ Below wr.heap.size wr _›⟩
              case rest =>
                obtain ⟨rfl, rfl, rfl, rfl, HN1⟩ := hcut
                obtain rfl := HT3.out
                clear D
                have HX9 := Lib.hid (HBW.out.trans (HN1.out.mono HBW.out.size))
                cases vv
                · go_wp2_with fail
                  refine (works_any _).mono ?_
                  rintro e wz ⟨rfl, hbz⟩
                  go_wp2_with fail
                  go_ret
                  exact ⟨rfl, HB.out.trans ((HX9.out.trans (hbz.mono HX9.out.size)).mono HB.out.size)⟩
                · have hle := HLE.out rfl
                  have hle2 : (m : Int) ≤ cn := by omega
                  go_wp2_with fail
                  refine (works_any _).mono ?_
                  rintro e wz ⟨rfl, hbz⟩
                  go_wp2_with fail
                  go_ret
                  exact ⟨rfl, HB.out.trans ((HX9.out.trans (hbz.mono HX9.out.size)).mono HB.out.size)⟩

end Go.Proofs.Ytbiihhokcmdlhaa
