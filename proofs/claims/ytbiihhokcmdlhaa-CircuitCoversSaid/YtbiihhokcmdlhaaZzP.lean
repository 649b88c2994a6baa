import Derived.Test.YtbiihhokcmdlhaaZzO
/- Texts of one seat, merged: Ob Pa Pb -/
/- CircuitCovers walked. -/
namespace Go.Proofs.Ytbiihhokcmdlhaa
open Go.RowKit

theorem row_put {w : World} {g m U j : Nat} {b : Bool} {L : List Nat} (h : BoRow w g m (fun s => U.testBit s || (b && decide (s ∈ L.take j)))) (hj : j < L.length) (hx : L.getD j 0 < m) (v : Bool)
    (hv : v = ((U.testBit (L.getD j 0) || (b && decide (L.getD j 0 ∈ L.take j))) || b)) : BoRow (w.setCell ⟨g, L.getD j 0, none⟩ (.bool v)) g m (fun s => U.testBit s || (b && decide (s ∈ L.take (j + 1)))) := by
  refine (h.set hx v).congr fun s _ => ?_
  show (if s = L.getD j 0 then v else _) = _
  rw [hv]
  exact row_step hj U b s

theorem cell_of {w : World} {b off n cap : Nat} {xs : List Nat} (h : InAt w (.slice (some ⟨b, off, none⟩) n cap) (natL xs)) {j : Nat} (hj : j < xs.length) : w.cell? ⟨b, off + j, none⟩ = some (.int .i64 ((natL xs).getD j 0)) := by
  obtain ⟨a, c, e, _, _, h3⟩ := h
  injection e with e1 e2 e3
  obtain ⟨b', off', e4, _, hc⟩ := h3 (by rw [natL_len]; omega)
  rw [e4] at e1
  injection e1 with e1
  injection e1 with e5 e6
  subst e5 e6
  exact hc j (by rw [natL_len]; exact hj)
theorem blk_lt {w : World} {b off n cap : Nat} {xs : List Nat} (h : InAt w (.slice (some ⟨b, off, none⟩) n cap) (natL xs)) {j : Nat} (hj : j < xs.length) : b < w.heap.size := by
  obtain ⟨a, c, e, _, _, h3⟩ := h
  injection e with e1 e2 e3
  obtain ⟨b', off', e4, hb, hc⟩ := h3 (by rw [natL_len]; omega)
  rw [e4] at e1
  injection e1 with e1
  injection e1 with e5 e6
  subst e5 e6
  exact hb

theorem whole_succ (V Y k : Nat) : ((List.range (k + 1)).all fun s => (V.testBit s || !Y.testBit s)) = (((List.range k).all fun s => (V.testBit s || !Y.testBit s)) && (V.testBit k || !Y.testBit k)) := by
  rw [List.range_succ, List.all_append]; simp

theorem two_rows (w : World) (m : Nat) :
    Below w.heap.size w ((w.alloc (.cells (madeCells #[.bool false] m) 4)).alloc (.cells (madeCells #[.bool false] m) 4)).drew ∧
    BoRow ((w.alloc (.cells (madeCells #[.bool false] m) 4)).alloc (.cells (madeCells #[.bool false] m) 4)).drew w.heap.size m (fun _ => false) ∧
    BoRow ((w.alloc (.cells (madeCells #[.bool false] m) 4)).alloc (.cells (madeCells #[.bool false] m) 4)).drew (w.heap.size + 1) m (fun _ => false) :=
  ⟨Below.drew (blw2 w _ _), ((BoRow.new w m rfl).alloc _).drew, (BoRow.new _ m (by rw [size_alloc])).drew⟩

set_option maxRecDepth 100000 in
set_option maxHeartbeats 8000000 in
theorem lawCovers_any (c : Cir) (sv wv : Value) (l : List Tri) (v : Value) (fw : Int) (w : World) (hv : CirAt w sv wv c) (hl : TrAt w v l) :
    Calls Try.prog 13 #[cirV c sv wv, v, .int .i64 fw] w fun e w' => e = .returned (.bool true) ∧ Below w.heap.size w w' := by
  have HB := Lib.hid ((Below.refl w.heap.size w).alloc (Nat.le_refl _) (cirO c sv wv))
  have K0 := Lib.hid (block_new w (cirO c sv wv) w.heap.size rfl)
  have HV := Lib.hid (hv.below HB.out (Nat.le_refl _))
  have HT := Lib.hid (hl.below HB.out (Nat.le_refl _))
  obtain ⟨⟨sa, scap, rfl, _⟩, _⟩ := hv
  obtain ⟨ta, tcap, rfl, _, m2, _⟩ := hl
  have m3 : (l.length : Int) ≤ 9223372036854775807 := by omega
  go_enter Try.func13, Try.ntmps13
  go_wp2_with fail
  generalize w.alloc (cirO c (.slice sa c.sw.length scap) wv) = wA at *
  refine (far_any c _ wv _ HV.out).mono ?_
  rintro e w1 ⟨q, rfl, hb1⟩
  have HB1 := Lib.hid hb1
  clear hb1
  cases q
  rotate_left
  · go_wp2_with fail
    refine (works_any _).mono ?_
    rintro e wz ⟨rfl, hbz⟩
    go_wp2_with fail
    go_ret
    exact ⟨rfl, HB.out.trans ((HB1.out.trans (hbz.mono HB1.out.size)).mono HB.out.size)⟩
  have c0 := block_cell (keepZ K0.out HB1.out)
  go_wp2_with fail
  refine (rcheckT_any c l _ wv _ _ (HV.out.below HB1.out (Nat.le_refl _)) (HT.out.below HB1.out (Nat.le_refl _))).mono ?_
  rintro e w2 ⟨rfl, hb2⟩
  have HB2 := Lib.hid (HB1.out.trans (hb2.mono HB1.out.size))
  clear hb2
  clear c0
  by_cases ht : chkT c l = 0
  rotate_left
  · have hqb : (chkT c l == 0) = false := by simpa using ht
    have hqc : (chkT c l != 0) = true := by simpa using ht
    clear ht
    generalize chkT c l = m at *
    go_wp2_with fail
    refine (works_any _).mono ?_
    rintro e wz ⟨rfl, hbz⟩
    go_wp2_with fail
    go_ret
    exact ⟨rfl, HB.out.trans ((HB2.out.trans (hbz.mono HB2.out.size)).mono HB.out.size)⟩
  rw [ht]
  have HC := Lib.hid ht
  have HTV := Lib.hid (tval ht)
  have l12 := (tval ht).n
  have s12 := (tval ht).cv.s2
  have HR1 := Lib.hid (show fewestR c l = natL (memM (fewestM c l) l.length) by unfold fewestR; rw [if_pos ht])
  have HR2 := Lib.hid (show blindR c l = natL (blindM c l) by unfold blindR; rw [if_pos ht])
  clear ht
  have c0 := block_cell (keepZ K0.out HB2.out)
  go_wp2_with fail
  refine (cfewest_any c l _ wv _ _ (HV.out.below HB2.out (Nat.le_refl _)) (HT.out.below HB2.out (Nat.le_refl _))).mono ?_
  rintro e w3 ⟨v3, rfl, hin, hb3⟩
  rw [HC.out]
  rw [HR1.out] at hin
  have HB3 := Lib.hid (HB2.out.trans (hb3.mono HB2.out.size))
  clear hb3
  have HI := Lib.hid hin
  obtain ⟨fa, fcap, hfv, _⟩ := hin
  subst hfv
  rw [natL_len] at HI ⊢
  clear c0
  have c0 := block_cell (keepZ K0.out HB3.out)
  go_wp2_with fail
  refine (cblind_any c l _ wv _ _ (HV.out.below HB3.out (Nat.le_refl _)) (HT.out.below HB3.out (Nat.le_refl _))).mono ?_
  rintro e w4 ⟨v4, rfl, hin, hb4⟩
  rw [HC.out]
  rw [HR2.out] at hin
  have HF := Lib.hid (HI.out.below hb4 (Nat.le_refl _))
  have HB4 := Lib.hid (HB3.out.trans (hb4.mono HB3.out.size))
  clear hb4
  have HBL := Lib.hid hin
  obtain ⟨ba, bcap, hbv, _⟩ := hin
  subst hbv
  rw [natL_len] at HBL ⊢
  clear c0 HI
  generalize hFL : (memM (fewestM c l) l.length).length = fl at *
  generalize (blindM c l).length = bl at *
  have HFL := Lib.hid hFL
  clear hFL
  have c0 := block_cell (keepZ K0.out HB4.out)
  have hmk := make_bools c.sw.length (by omega)
  have z0 := lt_of_block (keepZ K0.out HB4.out)
  have c1 := block_cell (block_alloc (keepZ K0.out HB4.out) (Obj.cells (madeCells #[Value.bool false] c.sw.length) 4))
  go_upto_region 7 with fail
  go_cut [11, 12] (fun s11 s12 wx => ∃ ga gb : Nat, s11 = .slice (some ⟨ga, 0, none⟩) c.sw.length c.sw.length ∧ s12 = .slice (some ⟨gb, 0, none⟩) c.sw.length c.sw.length ∧ ga ≠ gb ∧ w4.heap.size ≤ ga ∧ w4.heap.size ≤ gb ∧ Hid (Below w4.heap.size w4 wx) ∧ Hid (BoRow wx ga c.sw.length (fun _ => false)) ∧ Hid (BoRow wx gb c.sw.length (fun _ => false)))
  case first =>
    go_region
    all_goals
      go_wp2_with fail
      go_meet
      first
        | exact ⟨_, _, rfl, rfl, by omega, by omega, by omega, Lib.hid (two_rows w4 c.sw.length).1, Lib.hid (two_rows w4 c.sw.length).2.1, Lib.hid (two_rows w4 c.sw.length).2.2⟩
        | exact ⟨_, _, rfl, rfl, by omega, by omega, by omega, Lib.hid (two_rows w4 c.sw.length).1, Lib.hid (two_rows w4 c.sw.length).2.2, Lib.hid (two_rows w4 c.sw.length).2.1⟩
  case rest =>
    obtain ⟨ga, gb, rfl, rfl, hne, hga, hgb, hb5, hra, hrb⟩ := hcut
    clear c0 c1 hmk
    obtain ⟨fb, hfb⟩ : ∃ fb : Nat → Bool, fb = fun i => (bits .and .i64 (fw / 2 ^ i) 1 == 1) := ⟨_, rfl⟩
    have HFB := Lib.hid (fun k => show (bits .and .i64 (fw / 2 ^ k) 1 == 1) = fb k by rw [hfb])
    have HSB := Lib.hid (fun k => unionTo_succ_bit (setsM c l) (fewestM c l) k)
    have HCV := Lib.hid (fun h => covers (c := c) (l := l) (f := fb) h)
    have HAL := Lib.hid (fewest_all c l)
    have HRE := Lib.hid (fun S i s h => row_end (sets := setsM c l) (S := S) (i := i) (m := c.sw.length) (s := s) h)
    have HBI := Lib.hid (fun k (h : k < l.length) => show (bitsOf fb l.length).testBit k = fb k by rw [testBit_bitsOf, decide_eq_true h, Bool.true_and])
    have HSH := Lib.hid (fun k (h : k < l.length) => show trialE c l k = 0 ∧ showsR c l k = natL (memM ((setsM c l).getD k 0) c.sw.length) by
      have e1 : trialE c l k = 0 := by unfold trialE; rw [if_pos HC.out, decide_eq_true (by omega)]; rfl
      refine ⟨e1, ?_⟩
      unfold showsR
      rw [if_pos e1, Int.toNat_natCast, sets_at h])
    have HFH := Lib.hid (fun i (h : i < l.length) => few_has (S := fewestM c l) h)
    generalize fewestM c l = S at *
    generalize bitsOf fb l.length = Fs at *
    clear hfb
    go_wp2_with fail
    go_loopw [13, 14] (fun x i wr => ∃ k : Nat, k ≤ l.length ∧ i = .int .i64 k ∧ x = .int .i64 (cntB fb k : Nat) ∧ Hid (Below w4.heap.size w4 wr) ∧ Hid (BoRow wr ga c.sw.length (fun s => (unionTo (setsM c l) S k).testBit s)) ∧ Hid (BoRow wr gb c.sw.length (fun s => (unionTo (setsM c l) Fs k).testBit s))) (fun _ i _ => l.length - (intOf i).toNat)
    case atStart => exact ⟨0, Nat.zero_le _, rfl, rfl, hb5, Lib.hid (hra.out.congr (fun s _ => by simp [unionTo])), Lib.hid (hrb.out.congr (fun s _ => by simp [unionTo]))⟩
    case round =>
      obtain ⟨k, hk, rfl, rfl, hb, hA, hBB⟩ := hrel
      by_cases hlt : k < l.length
      · have HBW := Lib.hid (HB4.out.trans (hb.out.mono HB4.out.size))
        have c0 := block_cell (keepZ K0.out HBW.out)
        obtain ⟨hE, hS⟩ := HSH.out k hlt
        go_wp2_with fail
        refine (cshows_any c l k _ wv _ _ (HV.out.below HBW.out (Nat.le_refl _)) (HT.out.below HBW.out (Nat.le_refl _))).mono ?_
        rintro e w6 ⟨v6, rfl, hin, hb6⟩
        rw [hE]
        rw [hS] at hin
        have HB6 := Lib.hid (hb.out.trans (hb6.mono hb.out.size))
        have hA6 := Lib.hid (hA.out.later hb6 hA.out.lt)
        have hB6 := Lib.hid (hBB.out.later hb6 hBB.out.lt)
        have hml := memM_len ((setsM c l).getD k 0) c.sw.length
        have HMM := Lib.hid (fun x (h : x ∈ memM ((setsM c l).getD k 0) c.sw.length) => (mem_memM.1 h).1)
        have HR1 := Lib.hid (fun s h => HRE.out S k s h)
        have HR2 := Lib.hid (fun s h => HRE.out Fs k s h)
        have HBK := Lib.hid (HBI.out k hlt)
        have HFK := Lib.hid (HFH.out k hlt)
        have hfk := HFB.out k
        generalize memM ((setsM c l).getD k 0) c.sw.length = L at *
        have HL := Lib.hid hin
        obtain ⟨va, vcap, hvv, _⟩ := hin
        subst hvv
        rw [natL_len] at HL ⊢
        have hcl := cntB_le fb k
        have HCN := Lib.hid (show cntB fb (k + 1) = if fb k = true then cntB fb k + 1 else cntB fb k from rfl)
        generalize cntB fb k = cn at *
        generalize unionTo (setsM c l) S k = U at *
        generalize unionTo (setsM c l) Fs k = V at *
        have k0 : (0 : Int) ≤ k := by omega
        clear hA hBB hb hb6 hE hS c0
        generalize hdd : fb k = d at *
        have hdc : d = true ∨ d = false := by cases d <;> simp
        obtain ⟨cn2, hcn2⟩ : ∃ cn2 : Nat, cn2 = if d = true then cn + 1 else cn := ⟨_, rfl⟩
        rw [← hcn2] at HCN
        rcases hdc with hd | hd
        all_goals
          have HD := Lib.hid hd
          rw [hd] at hfk
          clear hd hdd
          have HCN2 := Lib.hid hcn2
          rw [HD.out] at hcn2
          simp only [if_true, if_false, Bool.false_eq_true] at hcn2
          go_wp2_with fail
          go_loopw [18] (fun i wr => ∃ j : Nat, j ≤ L.length ∧ i = .int .i64 j ∧ Hid (InAt wr (.slice va L.length vcap) (natL L)) ∧ Hid (Below w4.heap.size w4 wr) ∧ Hid (BoRow wr ga c.sw.length (fun s => U.testBit s || (S.testBit k && decide (s ∈ L.take j)))) ∧ Hid (BoRow wr gb c.sw.length (fun s => V.testBit s || (d && decide (s ∈ L.take j))))) (fun i _ => L.length - (intOf i).toNat)
          case atStart => exact ⟨0, Nat.zero_le _, rfl, HL, HB6, Lib.hid (hA6.out.congr (fun s _ => by simp)), Lib.hid (hB6.out.congr (fun s _ => by simp))⟩
          case round =>
            obtain ⟨j, hj, rfl, hLj, hbj, hRA, hRB⟩ := hrel
            by_cases hlj : j < L.length
            · have hLm := HMM.out _ (getD_mem hlj 0)
              have HPA := Lib.hid (fun (w : World) (h : BoRow w ga c.sw.length (fun s => U.testBit s || (S.testBit k && decide (s ∈ L.take j)))) => row_put h hlj hLm)
              have HPB := Lib.hid (fun (w : World) (h : BoRow w gb c.sw.length (fun s => V.testBit s || (d && decide (s ∈ L.take j)))) => row_put h hlj hLm)
              obtain ⟨_, _, e1, _, _, hcc⟩ := hLj.out
              injection e1 with e1 e2 e3
              subst e1
              obtain ⟨b, off, rfl, hbl, hcc⟩ := hcc (by rw [natL_len]; omega)
              have g1 := hcc j (by rw [natL_len]; exact hlj)
              rw [natL_getD] at g1
              have qa := hRA.out.cell hLm
              have qb := hRB.out.cell hLm
              have za := hRA.out.lt
              have zb := hRB.out.lt
              generalize hxx : L.getD j 0 = x at *
              have HXX := Lib.hid hxx
              have x3 := hLm
              generalize hpa : (U.testBit x || (S.testBit k && decide (x ∈ L.take j))) = pa at *
              generalize hpb : (V.testBit x || (d && decide (x ∈ L.take j))) = pb at *
              have j1 : (0 : Int) ≤ j := by omega
              have j2 : (j : Int) < L.length := by omega
              have x1 : (0 : Int) ≤ x := by omega
              have x2 : (x : Int) < c.sw.length := by omega
              have HPBX := Lib.hid hpb
              clear hcc e2 e3 hpa hpb hxx
              have y1 := bw_cell (B := wr.heap.size) g1 hbl
              have y2 := bw_cell (B := wr.heap.size) qa za
              have HFX := Lib.hid (HF.out.below hbj.out (Nat.le_refl _))
              have hX : Hid (∀ x : BW wr.heap.size wr, InAt x.w (.slice fa fl fcap) (natL (memM S l.length))) := fun x => HFX.out.below x.b (Nat.le_refl _)
              go_upto_region 23 with fail
              go_cut [18] (fun s18 wx => s18 = .int .i64 j ∧ Hid (InAt wx (.slice (some ⟨b, off, none⟩) L.length vcap) (natL L)) ∧ Hid (Below w4.heap.size w4 wx) ∧ Hid (BoRow wx ga c.sw.length (fun s => U.testBit s || (S.testBit k && decide (s ∈ L.take (j + 1))))) ∧ Hid (BoRow wx gb c.sw.length (fun s => V.testBit s || (d && decide (s ∈ L.take j)))))
              case first =>
                cases pa
                all_goals
                  refine wp_region_belowtail 18 (by kernel_rfl) (by kernel_rfl) (Below.refl wr.heap.size wr) ?_
                  simp only [List.take_succ_cons, List.take_zero, List.drop_succ_cons, List.drop_zero]
                  repeat ((with_reducible refine wpQuiet_step (fun K hK => ?_)); go_simp; first | (refine hK _ ?_; clear hK K) | (apply Exists.intro; refine ⟨fun _ => ?_, hK _ ?_⟩; ((go_at_call 49; exact bw_same (hasOf_is _ _ _ _ _ (hX.out _) HFK.out))); clear hK K))
                  refine wpQuiet_nil ?_
                  intro wq hwq0
                  have hwq := bw_out hwq0
                  clear hwq0
                  have qaq := (hwq.cell (p := ⟨ga, x, none⟩) za).trans qa
                  have RAQ := Lib.hid (hRA.out.later hwq za)
                  have RBQ := Lib.hid (hRB.out.later hwq zb)
                  have LQ := Lib.hid (hLj.out.below hwq (Nat.le_refl _))
                  have faq := RAQ.out.free x
                  have zaq := RAQ.out.lt
                  have BQ := Lib.hid (hbj.out.trans (hwq.mono hbj.out.size))
                  clear y1 y2 g1 qa qb hwq
                  go_wp2_with fail
                  go_meet
                  exact ⟨rfl, Lib.hid (LQ.out.put RAQ.out _ _), Lib.hid (BQ.out.setCell (p := ⟨ga, x, none⟩) hga _), Lib.hid (HPA.out _ RAQ.out _ rfl), Lib.hid (RBQ.out.set_other (Ne.symm hne) _ _)⟩
              case rest =>
                obtain ⟨rfl, hLj2, hbj2, hRA2, hRB2⟩ := hcut
                have g1 := cell_of (hLj2.out) hlj
                rw [natL_getD, HXX.out] at g1
                have qb := hRB2.out.cell x3
                have zb2 := hRB2.out.lt
                have za2 := hRA2.out.lt
                have hbl2 := blk_lt hLj2.out hlj
                simp only [HPBX.out] at qb
                clear y1 y2 qa za zb
                have y1 := bw_cell (B := wc.heap.size) g1 hbl2
                have y2 := bw_cell (B := wc.heap.size) qb zb2
                clear g1
                go_upto_region 24 with fail
                cases pb
                all_goals
                  refine wp_region_belowtail 16 (by kernel_rfl) (by kernel_rfl) (Below.refl wc.heap.size wc) ?_
                  simp only [List.take_succ_cons, List.take_zero, List.drop_succ_cons, List.drop_zero]
                  repeat ((with_reducible refine wpQuiet_step (fun K hK => ?_)); go_simp; first | (refine hK _ ?_; clear hK K) | (apply Exists.intro; refine ⟨fun _ => ?_, hK _ ?_⟩; (fail); clear hK K))
                  refine wpQuiet_nil ?_
                  intro wq hwq0
                  have hwq := bw_out hwq0
                  clear hwq0
                  have qbq := (hwq.cell (p := ⟨gb, x, none⟩) zb2).trans qb
                  have RAQ := Lib.hid (hRA2.out.later hwq za2)
                  have RBQ := Lib.hid (hRB2.out.later hwq zb2)
                  have LQ := Lib.hid (hLj2.out.below hwq (Nat.le_refl _))
                  have fbq := RBQ.out.free x
                  have zbq := RBQ.out.lt
                  have BQ := Lib.hid (hbj2.out.trans (hwq.mono hbj2.out.size))
                  clear y1 y2 qb hwq
                  go_wp2_with fail
                  go_roundw
                  case rel => exact ⟨j + 1, hlj, by go_num, Lib.hid (LQ.out.put RBQ.out _ _), Lib.hid (BQ.out.setCell (p := ⟨gb, x, none⟩) hgb _), Lib.hid (RAQ.out.set_other hne _ _), Lib.hid (HPB.out _ RBQ.out _ (by rw [HD.out]; rfl))⟩
                  case measure => simp [intOf]; omega
            · obtain rfl : j = L.length := by omega
              have HN1 := Lib.hid (hRA.out.congr (fun s hs => HR1.out s hs))
              have HN2 := Lib.hid (hRB.out.congr (f' := fun s => (unionTo (setsM c l) Fs (k + 1)).testBit s) (fun s hs => by have := HR2.out s hs; rw [HBK.out] at this; exact this))
              go_wp2_with fail
              go_roundw
              case rel => exact ⟨k + 1, hlt, by go_num, (by first | (rw [HCN.out, ← hcn2]; done) | (rw [HCN.out, hcn2]; go_num)), hbj, HN1, HN2⟩
              case measure => simp [intOf]; omega
      · obtain rfl : k = l.length := by omega
        have HBW := Lib.hid (HB4.out.trans (hb.out.mono HB4.out.size))
        have HRA := Lib.hid (show BoRow wr ga c.sw.length (fun s => (seenM c l).testBit s) from hA.out.congr (fun s _ => by rw [HAL.out]))
        have HBH := Lib.hid (fun s (h : s < c.sw.length) => blind_has (c := c) (l := l) h)
        have HCV2 := Lib.hid (fun (h : ∀ s, s < c.sw.length → ((unionTo (setsM c l) Fs l.length).testBit s || !(seenM c l).testBit s) = true) => HCV.out h)
        generalize unionTo (setsM c l) Fs l.length = V at *
        generalize seenM c l = Y at *
        have hcl := cntB_le fb l.length
        rw [HFL.out] at HCV2
        generalize cntB fb l.length = cn at *
        clear hA hk
        go_wp2_with fail
        go_loopw [19, 20] (fun x i wr => ∃ k : Nat, k ≤ c.sw.length ∧ i = .int .i64 k ∧ x = .bool ((List.range k).all fun s => (V.testBit s || !Y.testBit s)) ∧ Hid (Below w4.heap.size w4 wr) ∧ Hid (BoRow wr ga c.sw.length (fun s => Y.testBit s)) ∧ Hid (BoRow wr gb c.sw.length (fun s => V.testBit s))) (fun _ i _ => c.sw.length - (intOf i).toNat)
        case atStart => exact ⟨0, Nat.zero_le _, rfl, rfl, hb, HRA, hBB⟩
        case round =>
          obtain ⟨k, hk, rfl, rfl, hb2, hRA, hRB⟩ := hrel
          by_cases hlt : k < c.sw.length
          · have HWS := Lib.hid (whole_succ V Y k)
            have HBK := Lib.hid (HBH.out k hlt)
            have qa := hRA.out.cell hlt
            have qb := hRB.out.cell hlt
            have za := hRA.out.lt
            have zb := hRB.out.lt
            have y1 := bw_cell (B := wr.heap.size) qa za
            have y2 := bw_cell (B := wr.heap.size) qb zb
            have HBX := Lib.hid (HBL.out.below hb2.out (Nat.le_refl _))
            have hX : Hid (∀ x : BW wr.heap.size wr, InAt x.w (.slice ba bl bcap) (natL (blindM c l))) := fun x => HBX.out.below x.b (Nat.le_refl _)
            have k1 : (0 : Int) ≤ k := by omega
            have k2 : (k : Int) < c.sw.length := by omega
            generalize ((List.range k).all fun s => (V.testBit s || !Y.testBit s)) = W at *
            generalize Y.testBit k = y at *
            generalize V.testBit k = p2 at *
            have e1 : (y == !y) = false := by cases y <;> rfl
            go_wp2_with fail
            refine wp_region_below (by kernel_rfl) (by kernel_rfl) (Below.refl wr.heap.size wr) ?_
            repeat ((with_reducible refine wpQuiet_step (fun K hK => ?_)); go_simp; first | (refine hK _ ?_; clear hK K) | (apply Exists.intro; refine ⟨fun _ => ?_, hK _ ?_⟩; ((go_at_call 49; exact bw_same (hasOf_is _ _ _ _ _ (hX.out _) HBK.out))); clear hK K))
            refine wpQuiet_nil ?_
            intro wq hwq0
            have hwq := bw_out hwq0
            clear hwq0
            have qbq := (hwq.cell (p := ⟨gb, k, none⟩) zb).trans qb
            have RAQ := Lib.hid (hRA.out.later hwq za)
            have RBQ := Lib.hid (hRB.out.later hwq zb)
            have BQ := Lib.hid (hb2.out.trans (hwq.mono hb2.out.size))
            have HBQ := Lib.hid (HBX.out.below hwq (Nat.le_refl _))
            clear y1 y2 qa qb hwq
            cases W
            · go_wp2_with fail
              go_roundw
              case rel => exact ⟨k + 1, hlt, by go_num, by rw [HWS.out]; rfl, BQ, RAQ, RBQ⟩
              case measure => simp [intOf]; omega
            · cases p2
              · go_wp2_with (go_at_call 49; refine (hasOf_is _ _ _ _ _ HBQ.out HBK.out).mono ?_; rintro e w8 ⟨rfl, rfl⟩)
                go_roundw
                case rel => exact ⟨k + 1, hlt, by go_num, by rw [HWS.out]; rfl, BQ, RAQ, RBQ⟩
                case measure => simp [intOf]; omega
              · go_wp2_with fail
                go_roundw
                case rel => exact ⟨k + 1, hlt, by go_num, by rw [HWS.out]; rfl, BQ, RAQ, RBQ⟩
                case measure => simp [intOf]; omega
          · obtain rfl : k = c.sw.length := by omega
            have HX9 := Lib.hid (HB4.out.trans (hb2.out.mono HB4.out.size))
            cases hW : (List.range c.sw.length).all fun s => (V.testBit s || !Y.testBit s)
            · clear hW
              go_wp2_with fail
              refine (works_any _).mono ?_
              rintro e wz ⟨rfl, hbz⟩
              go_wp2_with fail
              go_ret
              exact ⟨rfl, HB.out.trans ((HX9.out.trans (hbz.mono HX9.out.size)).mono HB.out.size)⟩
            · have hle := HCV2.out (fun s hs => List.all_eq_true.1 hW s (List.mem_range.2 hs))
              have hle2 : (fl : Int) ≤ cn := by omega
              clear hW
              go_wp2_with fail
              refine (works_any _).mono ?_
              rintro e wz ⟨rfl, hbz⟩
              go_wp2_with fail
              go_ret
              exact ⟨rfl, HB.out.trans ((HX9.out.trans (hbz.mono HX9.out.size)).mono HB.out.size)⟩

end Go.Proofs.Ytbiihhokcmdlhaa

/- The plain mathematics of layer 3 (circuit), fourth part: rotas by number. Nothing here speaks of the program. -/
namespace Go.Proofs.Ytbiihhokcmdlhaa

/-- How many rotas there are; not counted beyond 20000. -/
def pcM (t : Nat) : Nat → Nat
  | 0 => 1
  | k + 1 => if pcM t k ≤ 20000 then pcM t k * t else pcM t k

theorem pcM_stay {t k : Nat} (h : 20000 < pcM t k) : ∀ d, pcM t (k + d) = pcM t k
  | 0 => rfl
  | d + 1 => by
    have e : pcM t ((k + d) + 1) = if pcM t (k + d) ≤ 20000 then pcM t (k + d) * t else pcM t (k + d) := rfl
    rw [← Nat.add_assoc, e, pcM_stay h d, if_neg (by omega)]
theorem pcM_small {t n k : Nat} (h : pcM t n ≤ 20000) (hk : k ≤ n) : pcM t k ≤ 20000 := by
  apply Nat.le_of_not_lt
  intro h2
  have := pcM_stay h2 (n - k)
  rw [show k + (n - k) = n by omega] at this
  omega
theorem pcM_great {t n k : Nat} (h : 20000 < pcM t k) (hk : k ≤ n) : 20000 < pcM t n := by
  have := pcM_stay h (n - k)
  rw [show k + (n - k) = n by omega] at this
  omega
theorem pcM_bound {t : Nat} (ht : t ≤ 13) : ∀ k, pcM t k ≤ 260000
  | 0 => by unfold pcM; omega
  | k + 1 => by
    unfold pcM
    split
    · rename_i h
      have := Nat.mul_le_mul h ht
      omega
    · exact pcM_bound ht k

theorem pcM_pow {t n : Nat} (h : pcM t n ≤ 20000) : ∀ k, k ≤ n → pcM t k = t ^ k
  | 0, _ => rfl
  | k + 1, hk => by
    have h1 := pcM_small h (show k ≤ n by omega)
    unfold pcM
    rw [if_pos h1, pcM_pow h k (by omega), Nat.pow_succ]

/-- The digits of a number, the last one the lowest; 0 means none. -/
def digM (t : Nat) (x : Nat) : Nat → List Int
  | 0 => []
  | n + 1 => digM t (x / t) n ++ [((x % t : Nat) : Int) - 1]

theorem digM_len (t : Nat) : ∀ n x, (digM t x n).length = n
  | 0, _ => rfl
  | n + 1, x => by rw [digM, List.length_append, digM_len t n]; rfl

theorem digM_bd {t : Nat} (ht : 0 < t) : ∀ n x, ∀ d ∈ digM t x n, -1 ≤ d ∧ d < (t : Int) - 1
  | 0, _, d, hd => by cases hd
  | n + 1, x, d, hd => by
    rw [digM, List.mem_append] at hd
    rcases hd with hd | hd
    · exact digM_bd ht n _ d hd
    · rw [List.mem_singleton] at hd
      have := Nat.mod_lt x ht
      omega

/-- Each list of such digits has a number. -/
theorem digM_find {t : Nat} (ht : 0 < t) : ∀ (n : Nat) (l : List Int), l.length = n → (∀ d ∈ l, -1 ≤ d ∧ d < (t : Int) - 1) → ∃ x, x < t ^ n ∧ digM t x n = l
  | 0, l, hl, _ => ⟨0, by simp, by have : l = [] := List.eq_nil_of_length_eq_zero hl; subst this; rfl⟩
  | n + 1, l, hl, hd => by
    have hne : l ≠ [] := by intro e; subst e; simp at hl
    have e := List.dropLast_concat_getLast hne
    obtain ⟨y, hy, he⟩ := digM_find ht n l.dropLast (by rw [List.length_dropLast]; omega) (fun d h => hd d (List.dropLast_subset l h))
    have hlast := hd _ (List.getLast_mem hne)
    obtain ⟨r, hr⟩ : ∃ r : Nat, l.getLast hne = (r : Int) - 1 := ⟨(l.getLast hne + 1).toNat, by omega⟩
    have hrt : r < t := by omega
    refine ⟨y * t + r, ?_, ?_⟩
    · rw [Nat.pow_succ]
      calc y * t + r < y * t + t := by omega
        _ = (y + 1) * t := by rw [Nat.succ_mul]
        _ ≤ t ^ n * t := Nat.mul_le_mul_right t hy
    · rw [digM, show (y * t + r) / t = y by rw [Nat.mul_comm, Nat.mul_add_div ht, Nat.div_eq_of_lt hrt]; omega, show (y * t + r) % t = r by rw [Nat.mul_comm, Nat.mul_add_mod, Nat.mod_eq_of_lt hrt], he, ← hr]
      exact e

/-- How many trials a list has. -/
def cntT (l : List Int) : Nat := ((List.range l.length).filter fun i => l.getD i 0 != -1).length
/-- What is shown in each night. -/
def rndM (sets : List Nat) (l : List Int) : List Nat := l.map fun d => if d = -1 then 0 else sets.getD d.toNat 0
def okM (sets : List Nat) (n gap : Nat) (l : List Int) : Bool := (triesM (rndM sets l) gap n).ok

/-- The best of the first k rotas. -/
def bstM (sets : List Nat) (n gap t N : Nat) : Nat → Option Nat
  | 0 => none
  | k + 1 => if (decide (cntT (digM t k N) < (match bstM sets n gap t N k with | none => N + 1 | some b => cntT (digM t b N))) && okM sets n gap (digM t k N)) = true then some k else bstM sets n gap t N k

theorem cntT_le (l : List Int) : cntT l ≤ l.length := by
  have := List.length_filter_le (fun i => l.getD i 0 != -1) (List.range l.length)
  unfold cntT
  simpa using this

def fewN (t N : Nat) (o : Option Nat) : Nat := match o with | none => N + 1 | some b => cntT (digM t b N)
theorem bst_succ (sets : List Nat) (n gap t N k : Nat) : bstM sets n gap t N (k + 1) = if (decide (cntT (digM t k N) < fewN t N (bstM sets n gap t N k)) && okM sets n gap (digM t k N)) = true then some k else bstM sets n gap t N k := rfl

theorem bst_lt {sets : List Nat} {n gap t N : Nat} : ∀ k b, bstM sets n gap t N k = some b → b < k
  | 0, b, h => by cases h
  | k + 1, b, h => by
    rw [bst_succ] at h
    split at h
    · injection h with h; omega
    · have := bst_lt k b h; omega

/-- What the best is. -/
theorem bst_spec {sets : List Nat} {n gap t N : Nat} : ∀ k, (∀ b, bstM sets n gap t N k = some b → okM sets n gap (digM t b N) = true) ∧
    ∀ j, j < k → okM sets n gap (digM t j N) = true → ∃ b, bstM sets n gap t N k = some b ∧ cntT (digM t b N) ≤ cntT (digM t j N)
  | 0 => ⟨fun b h => (by cases h), fun j hj => by omega⟩
  | k + 1 => by
    obtain ⟨h1, h2⟩ := bst_spec (sets := sets) (n := n) (gap := gap) (t := t) (N := N) k
    have e : bstM sets n gap t N (k + 1) = if (decide (cntT (digM t k N) < fewN t N (bstM sets n gap t N k)) && okM sets n gap (digM t k N)) = true then some k else bstM sets n gap t N k := rfl
    by_cases hc : (decide (cntT (digM t k N) < fewN t N (bstM sets n gap t N k)) && okM sets n gap (digM t k N)) = true
    · rw [e, if_pos hc]
      simp only [Bool.and_eq_true, decide_eq_true_eq] at hc
      refine ⟨fun b hb => by injection hb with hb; subst hb; exact hc.2, fun j hj hok => ⟨k, rfl, ?_⟩⟩
      by_cases ej : j = k
      · rw [ej]; exact Nat.le_refl _
      · obtain ⟨b, hb, hle⟩ := h2 j (by omega) hok
        have := hc.1
        rw [hb] at this
        unfold fewN at this
        dsimp only at this
        omega
    · rw [e, if_neg hc]
      refine ⟨h1, fun j hj hok => ?_⟩
      by_cases ej : j = k
      · subst ej
        rw [hok, Bool.and_true, decide_eq_true_eq] at hc
        cases hb : bstM sets n gap t N j with
        | none =>
          rw [hb] at hc
          unfold fewN at hc
          dsimp only at hc
          have := cntT_le (digM t j N)
          rw [digM_len] at this
          omega
        | some b =>
          rw [hb] at hc
          unfold fewN at hc
          dsimp only at hc
          exact ⟨b, rfl, by omega⟩
      · exact h2 j (by omega) hok

end Go.Proofs.Ytbiihhokcmdlhaa

/- Walks of layer 3 (circuit): countRotas, numbered of the program. -/
namespace Go.Proofs.Ytbiihhokcmdlhaa
open Go.RowKit

theorem pcM_yes {t k : Nat} (h : pcM t k ≤ 20000) : pcM t (k + 1) = pcM t k * t := by unfold pcM; rw [if_pos h]; cases k <;> rfl
theorem pcM_no {t k : Nat} (h : ¬ pcM t k ≤ 20000) : pcM t (k + 1) = pcM t k := by rw [show pcM t (k + 1) = if pcM t k ≤ 20000 then pcM t k * t else pcM t k from rfl, if_neg h]

theorem wrap_mul {x T : Nat} (h1 : x ≤ 260000) (h2 : T ≤ 12) : wrap64 ((x : Int) * ((T : Int) + 1)) = ((x * (T + 1) : Nat) : Int) := by
  have e : (x : Int) * ((T : Int) + 1) = ((x * (T + 1) : Nat) : Int) := by simp
  have hb : x * (T + 1) ≤ 260000 * 13 := Nat.mul_le_mul h1 (by omega)
  rw [e]
  exact IntWalk.wrap64_in _ ⟨by omega, by omega⟩

set_option maxRecDepth 100000 in
set_option maxHeartbeats 1000000 in
theorem countRotas_any (T N : Nat) (w : World) (hT : T ≤ 12) (hN : N ≤ 60) : Calls Try.prog 107 #[.int .i64 T, .int .i64 N] w fun e w' => e = .returned (.int .i64 (pcM (T + 1) N : Nat)) ∧ w = w' := by
  go_enter Try.func107, Try.ntmps107
  go_wp2_with fail
  go_loop [5, 7] (fun x i => ∃ k : Nat, k ≤ N ∧ i = .int .i64 k ∧ x = .int .i64 (pcM (T + 1) k : Nat)) (fun _ i => N - (intOf i).toNat)
  case atStart => exact ⟨0, Nat.zero_le _, rfl, rfl⟩
  case round =>
    obtain ⟨k, hk, rfl, rfl⟩ := hrel
    by_cases hlt : k < N
    · have hb := pcM_bound (show T + 1 ≤ 13 by omega) k
      have HY := Lib.hid (pcM_yes (t := T + 1) (k := k))
      have HN := Lib.hid (pcM_no (t := T + 1) (k := k))
      generalize pcM (T + 1) k = x at *
      have hpr := wrap_mul hb hT
      obtain ⟨q, hq⟩ : ∃ q, q = x * (T + 1) := ⟨_, rfl⟩
      rw [← hq] at hpr HY
      clear hq
      by_cases h2 : x ≤ 20000
      · have HX := Lib.hid (HY.out h2)
        go_wp2_with fail
        go_round
        case rel => exact ⟨k + 1, hlt, by go_num, by rw [HX.out, hpr]⟩
        case measure => simp [intOf]; omega
      · have HX := Lib.hid (HN.out h2)
        go_wp2_with fail
        go_round
        case rel => exact ⟨k + 1, hlt, by go_num, by rw [HX.out]⟩
        case measure => simp [intOf]; omega
    · obtain rfl : k = N := by omega
      go_wp2_with fail
      go_ret
      exact ⟨rfl, rfl⟩

theorem tdiv_nat (a b : Nat) : ((a : Int)).tdiv (b : Int) = ((a / b : Nat) : Int) := by
  rw [Int.tdiv_eq_ediv_of_nonneg (by omega)]
  simp

theorem set_row {r : Nat} (suf : List Int) (d : Int) : ((List.replicate (r + 1) (0 : Int)) ++ suf).set r d = List.replicate r 0 ++ (d :: suf) := by
  rw [List.replicate_succ', List.append_assoc, List.set_append_right _ _ (by simp)]
  simp

/-- A list of N numbers in a new block. -/
def NewRow (l : List Int) (N : Nat) (w : World) (e : Ending) (w' : World) : Prop := ∃ g, e = .returned (.slice (some ⟨g, 0, none⟩) N N) ∧ InAt w' (.slice (some ⟨g, 0, none⟩) N N) l ∧ Below w.heap.size w w'

set_option maxRecDepth 100000 in
set_option maxHeartbeats 4000000 in
theorem numbered_any (x T N : Nat) (w : World) (hx : x ≤ 260000) (hT : T ≤ 12) (hN : N ≤ 60) : Calls Try.prog 108 #[.int .i64 x, .int .i64 T, .int .i64 N] w (NewRow (digM (T + 1) x N) N w) := by
  obtain ⟨i0, hi, hz0, hz1, hz2⟩ := info_parts infoInt
  have HLEN := Lib.hid (digM_len (T + 1) N x)
  go_enter Try.func108, Try.ntmps108
  go_wp2_with (refine wpList_make_full _ rfl (.tmp 9) (.tmp 9) 22 rfl w.heap.size 3 i0 (.int .i64 0) 1 Try.underlying22 hi hz0 hz1 .i64 .i64 _ _ N rfl rfl rfl rfl ?m1 ?m2 (Nat.le_refl _) ?_)
  case m1 => rw [hz2]; omega
  case m2 => unfold maxLen; omega
  intro w3 hown hgrow
  have hb3 : Below w.heap.size w w3 := (Below.refl _ _).grown hgrow (Nat.le_refl _) (fun k h => by cases h)
  have hrow := (IntRow.of_own (xs := List.replicate N 0) (by rw [← made1]; exact hown)).1
  have R0 := Lib.hid hrow
  have HB3 := Lib.hid hb3
  clear hown hgrow hb3 hrow hi hz0 hz1 hz2
  generalize hG : w.heap.size = G at *
  have HG := Lib.hid hG
  clear hG
  go_wp2_with fail
  go_loopw [0, 12] (fun a i wr => ∃ k : Nat, k ≤ N ∧ i = .int .i64 k ∧ ∃ y : Nat, y ≤ 260000 ∧ a = .int .i64 y ∧ Hid (Below G w wr) ∧ ∃ suf : List Int, suf.length = k ∧ Hid (digM (T + 1) x N = digM (T + 1) y (N - k) ++ suf) ∧ Hid (IntRow wr G (List.replicate (N - k) 0 ++ suf))) (fun _ i _ => N - (intOf i).toNat)
  case atStart => exact ⟨0, Nat.zero_le _, rfl, x, hx, rfl, HB3, [], rfl, Lib.hid (by simp), Lib.hid (by simpa using R0.out)⟩
  case round =>
    obtain ⟨k, hk, rfl, y, hy, rfl, hb, suf, hs, hD, hR⟩ := hrel
    by_cases hlt : k < N
    · obtain ⟨r, hr⟩ : ∃ r, N - k = r + 1 := ⟨N - k - 1, by omega⟩
      rw [hr] at hD hR
      have HDD := Lib.hid (show digM (T + 1) x N = digM (T + 1) (y / (T + 1)) r ++ ((((y % (T + 1) : Nat) : Int) - 1) :: suf) by rw [hD.out, digM]; simp)
      have hidx : (N : Int) - 1 - k = r := by omega
      have hmod : (y : Int).tmod ((T : Int) + 1) = ((y % (T + 1) : Nat) : Int) := tmod_nat y (T + 1)
      have hdiv : (y : Int).tdiv ((T : Int) + 1) = ((y / (T + 1) : Nat) : Int) := tdiv_nat y (T + 1)
      have hle : y / (T + 1) ≤ y := Nat.div_le_self _ _
      have hml : y % (T + 1) < T + 1 := Nat.mod_lt _ (by omega)
      have HNR := Lib.hid (show N - (k + 1) = r by omega)
      have hrl : r < N := by omega
      have r1 : (0 : Int) ≤ r := by omega
      have r2 : (r : Int) < N := by omega
      have q4 := hR.out.cell (i := r) (by simp; omega)
      have f4 := hR.out.free r
      have z4 := hR.out.lt
      generalize y / (T + 1) = yd at *
      generalize y % (T + 1) = ym at *
      have HNX := Lib.hid (show IntRow (wr.setCell ⟨G, r, none⟩ (.int .i64 ((ym : Int) - 1))) G (List.replicate r 0 ++ (((ym : Int) - 1) :: suf)) by
        have := hR.out.set (i := r) (by simp; omega) ((ym : Int) - 1)
        rwa [set_row] at this)
      have HBX := Lib.hid (hb.out.setCell (p := ⟨G, r, none⟩) (Nat.le_refl _) (.int .i64 ((ym : Int) - 1)))
      generalize (List.replicate (r + 1) (0 : Int) ++ suf).getD r 0 = old at *
      go_wp2_with fail
      go_roundw
      case rel => exact ⟨k + 1, hlt, by go_num, yd, by omega, rfl, HBX, _ :: suf, by simp [hs], by rw [HNR.out]; exact HDD, by rw [HNR.out]; exact HNX⟩
      case measure => simp [intOf]; omega
    · obtain rfl : k = N := by omega
      have HI := Lib.hid (show InAt wr (.slice (some ⟨G, 0, none⟩) k k) (digM (T + 1) x k) by
        have h1 := hR.out
        have h2 := hD.out
        rw [Nat.sub_self] at h1 h2
        simp only [List.replicate_zero, List.nil_append, digM] at h1 h2
        rw [h2]
        have := h1.inAt (cap := k) (by omega) (by omega)
        rwa [hs] at this)
      go_wp2_with fail
      go_ret
      exact ⟨G, rfl, HI.out, by rw [HG.out]; exact hb.out⟩

set_option maxRecDepth 100000 in
set_option maxHeartbeats 1000000 in
theorem rota1_any (l : List Int) (N k g gt : Nat) (w : World) (hl : l.length = N) (hN : N ≤ 60) (hk : k < N) (hi : InAt w (.slice (some ⟨g, 0, none⟩) N N) l) (k1 : w.heap[gt]? = some (.cells #[.slice (some ⟨g, 0, none⟩) N N] 22)) :
    Calls Try.prog 109 #[.int .i64 k, .pointer (some ⟨gt, 0, none⟩)] w fun e w' => e = .returned (.bool (l.getD k 0 != -1)) ∧ Below w.heap.size w w' := by
  obtain ⟨a, c, e, _, _, hc⟩ := hi
  injection e with e1 e2 e3
  obtain ⟨b, off, e4, hb, hc⟩ := hc (by omega)
  rw [e4] at e1
  injection e1 with e1
  injection e1 with e5 e6
  subst e5 e6
  have g1 := hc k (by omega)
  rw [Nat.zero_add] at g1
  have c0 := block_cell k1
  have i1 : (0 : Int) ≤ k := by omega
  have i2 : (k : Int) < N := by omega
  generalize l.getD k 0 = q at *
  clear hc e2 e3 e4 hl
  go_enter Try.func109, Try.ntmps109
  go_wp2_with fail
  go_ret
  exact ⟨ret_bool (by simp), Below.refl _ _⟩

theorem enters_rota1 : Enters 109 := fun _ _ => by kernel_rfl

end Go.Proofs.Ytbiihhokcmdlhaa
