/- Walks of layer 5 (lift): Levels of the specification. -/
import Derived.Test.YtnefbiaopconkaaJa
import Derived.Test.YtnefbiaopconkaaJq
namespace Go.Proofs.Ytnefbiaopconkaa
open Go.RowKit

theorem apa_near {S lev : Int} (_h : 0 ≤ lev) : decide (lev < apaM S 0) = !inB S (-lev) lev := by
  unfold apaM inB
  by_cases h1 : lev < max (S - 0) (0 - S)
  · rw [decide_eq_true h1, decide_eq_false (by omega)]; rfl
  · rw [decide_eq_false h1, decide_eq_true (by omega)]; rfl

theorem loads_no {L : Lif} {l : List Int} {k : Nat} (hk : k < l.length) (h : inB (l.getD k 0) 0 L.rat = false) : loadsB L l = false := by
  unfold loadsB
  rw [List.all_eq_false]
  exact ⟨_, getD_mem hk 0, by rw [h]; decide⟩
theorem loads_yes {L : Lif} {l : List Int} (h : ∀ k, k < l.length → inB (l.getD k 0) 0 L.rat = true) : loadsB L l = true := by
  unfold loadsB
  rw [List.all_eq_true]
  intro x hx
  obtain ⟨i, hi, rfl⟩ := List.getElem_of_mem hx
  have := h i hi
  rwa [List.getD_eq_getElem?_getD, List.getElem?_eq_getElem hi] at this

set_option maxRecDepth 100000 in
set_option maxHeartbeats 8000000 in
theorem rLevels_any (L : Lif) (fv v : Value) (f : Int) (l : List Int) (w : World) (hv : InAt w fv L.fl) (hl : InAt w v l) :
    Calls Try.prog 30 #[lifV L fv, .int .i64 f, v] w (ListsErr (levO L f l) (levA L f l) (levE L f l) w) := by
  have HB := Lib.hid ((Below.refl w.heap.size w).alloc (Nat.le_refl _) (lifO L fv))
  have K0 := Lib.hid (block_new w (lifO L fv) w.heap.size rfl)
  have HSZ := Lib.hid (size_alloc w (lifO L fv))
  have HV := Lib.hid (hv.below HB.out (Nat.le_refl _))
  have HI := Lib.hid (@lev_in L f l)
  have HRO := Lib.hid (show levO L f l = if levE L f l = 0 then offL L f l l.length else [] from rfl)
  have HRA := Lib.hid (show levA L f l = if levE L f l = 0 then agaL L f l l.length else [] from rfl)
  have HBAD := Lib.hid (show ∀ E, levE L f l = E → E ≠ 0 → levO L f l = [] ∧ levA L f l = [] ∧ levE L f l = E from fun E h h0 => ⟨by rw [HRO.out, if_neg (by rw [h]; exact h0)], by rw [HRA.out, if_neg (by rw [h]; exact h0)], h⟩)
  cases hok : okB L
  · have HK := Lib.hid (chkE_no (x := 0) hok).symm
    obtain ⟨b1, b2, b3⟩ := HBAD.out 50 (chkE_no hok).symm (by decide)
    rw [b1, b2, b3]
    clear hok
    go_enter Try.func30, Try.ntmps30
    go_wp2_with fail
    generalize w.alloc (lifO L fv) = wA at *
    have c0 := block_cell K0.out
    go_wp2_with (go_at_call 22; refine (int_is HK.out (rCheck_any L fv _ HV.out)).mono ?_; rintro e w1 ⟨rfl, hb1⟩)
    go_ret3
    exact ⟨_, _, rfl, InAt.nil _, InAt.nil _, HB.out.trans (hb1.mono HB.out.size)⟩
  have HK := Lib.hid (chkE_ok (x := 0) hok).symm
  have hL := ok_of hok
  have HE := Lib.hid (show levE L f l = fitE (inB f 0 ((L.fl.length : Int) - 1) && inB (l.length : Int) 1 60 && loadsB L l) from (chkE_ok hok).symm)
  obtain ⟨a, cap, rfl, hn, hcap, hc⟩ := hl
  have HC := Lib.hid hc
  have HV0 := Lib.hid hv
  obtain ⟨sa, scap, rfl, sn, scp, sc⟩ := hv
  clear hc sc hok
  cases hq1 : inB f 0 ((L.fl.length : Int) - 1)
  · obtain ⟨b1, b2, b3⟩ := HBAD.out 1 (by rw [HE.out, hq1]; rfl) (by decide)
    rw [b1, b2, b3]
    have HQ1 := Lib.hid hq1
    clear hq1 hL
    go_enter Try.func30, Try.ntmps30
    go_wp2_with fail
    generalize w.alloc (lifO L (.slice sa L.fl.length scap)) = wA at *
    have c0 := block_cell K0.out
    go_wp2_with (first | (go_at_call 22; refine (int_is HK.out (rCheck_any L _ _ HV.out)).mono ?_; rintro e w1 ⟨rfl, hb1⟩; clear c0; have c0 := block_cell (keepZ K0.out hb1)) | (go_at_call 55; refine (rwithin_is false _ _ _ _ HQ1.out).mono ?_; rintro e w2 ⟨rfl, rfl⟩))
    go_ret3
    exact ⟨_, _, rfl, InAt.nil _, InAt.nil _, HB.out.trans (hb1.mono HB.out.size)⟩
  have HQ1 := Lib.hid hq1
  cases hq2 : inB (l.length : Int) 1 60
  · obtain ⟨b1, b2, b3⟩ := HBAD.out 1 (by rw [HE.out, hq1, hq2]; rfl) (by decide)
    rw [b1, b2, b3]
    have HQ2 := Lib.hid hq2
    clear hq1 hq2 hL
    go_enter Try.func30, Try.ntmps30
    go_wp2_with fail
    generalize w.alloc (lifO L (.slice sa L.fl.length scap)) = wA at *
    have c0 := block_cell K0.out
    go_wp2_with (first | (go_at_call 22; refine (int_is HK.out (rCheck_any L _ _ HV.out)).mono ?_; rintro e w1 ⟨rfl, hb1⟩; clear c0; have c0 := block_cell (keepZ K0.out hb1)) | (go_at_call 55; (first | with_reducible refine (rwithin_is true _ _ _ _ HQ1.out).mono ?_ | with_reducible refine (rwithin_is false _ _ _ _ HQ2.out).mono ?_); rintro e w2 ⟨rfl, rfl⟩))
    go_ret3
    exact ⟨_, _, rfl, InAt.nil _, InAt.nil _, HB.out.trans (hb1.mono HB.out.size)⟩
  have HQ2 := Lib.hid hq2
  have hf := inB_iff.1 hq1
  have hln := inB_iff.1 hq2
  have n1 : 1 ≤ l.length := by omega
  have n2 : l.length ≤ 60 := by omega
  obtain ⟨b, off, rfl, hbl, hc⟩ := HC.out (by omega)
  have hbl2 := Nat.lt_of_lt_of_le hbl HB.out.size
  have HC2 := Lib.hid hc
  have HB1N := Lib.hid (fun (k : Nat) (hk : k < l.length) (h : inB (l.getD k 0) 0 L.rat = false) => HBAD.out 1 (by rw [HE.out, hq1, hq2, loads_no hk h]; rfl) (by decide))
  have HYES := Lib.hid (fun h => (show levE L f l = 0 by rw [HE.out, hq1, hq2, @loads_yes L l h]; rfl))
  clear hq1 hq2 hc HC HE
  go_enter Try.func30, Try.ntmps30
  go_wp2_with fail
  generalize w.alloc (lifO L (.slice sa L.fl.length scap)) = wA at *
  have c0 := block_cell K0.out
  go_wp2_with (first | (go_at_call 22; refine (int_is HK.out (rCheck_any L _ _ HV.out)).mono ?_; rintro e w1 ⟨rfl, hb1⟩; clear c0; have c0 := block_cell (keepZ K0.out hb1)) | (go_at_call 55; (first | with_reducible refine (rwithin_is true _ _ _ _ HQ1.out).mono ?_ | with_reducible refine (rwithin_is true _ _ _ _ HQ2.out).mono ?_); rintro e w2 ⟨rfl, rfl⟩))
  clear c0
  go_loopw [6, 7, 9] (fun s6 s7 i wr => ∃ k : Nat, k ≤ l.length ∧ i = .int .i64 k ∧ s6 = .slice none 0 0 ∧ s7 = .slice none 0 0 ∧ Hid (∀ j, j < k → inB (l.getD j 0) 0 L.rat = true) ∧ Hid (Below wA.heap.size wA wr)) (fun _ _ i _ => l.length - (intOf i).toNat)
  case atStart => exact ⟨0, Nat.zero_le _, rfl, rfl, rfl, Lib.hid (fun j hj => by omega), Lib.hid hb1⟩
  case round =>
    obtain ⟨k, hk, rfl, rfl, rfl, hA, hb⟩ := hrel
    by_cases hlt : k < l.length
    · have g1 := (hb.out.cell (p := ⟨b, off + k, none⟩) hbl2).trans (in_at HB.out hbl HC2.out hlt)
      have y0 := bw_cells (B := wr.heap.size) (keepZ K0.out hb.out) (lt_of_block (keepZ K0.out hb.out))
      have y1 := bw_cell (B := wr.heap.size) g1 (Nat.lt_of_lt_of_le hbl2 hb.out.size)
      have HN := Lib.hid (HB1N.out k hlt)
      have HX := Lib.hid (show ∀ q, inB (l.getD k 0) 0 L.rat = q → inB (l.getD k 0) 0 L.rat = q from fun _ h => h)
      obtain ⟨x, hx⟩ : ∃ x, l.getD k 0 = x := ⟨_, rfl⟩
      rw [hx] at g1 y1 HN
      have j0 : (0 : Int) ≤ k := by omega
      have j1 : (k : Int) < l.length := by omega
      cases hq : inB x 0 L.rat
      · have HQ := Lib.hid hq
        obtain ⟨b1, b2, b3⟩ := HN.out hq
        have B1 := Lib.hid b1
        have B2 := Lib.hid b2
        have B3 := Lib.hid b3
        clear hq b1 b2 b3 hx g1
        go_wp2_with fail
        refine wp_region_below (by kernel_rfl) (by kernel_rfl) (Below.refl wr.heap.size wr) ?_
        repeat ((with_reducible refine wpQuiet_step (fun K hK => ?_)); go_simp; first | (refine hK _ ?_; clear hK K) | (apply Exists.intro; refine ⟨fun _ => ?_, hK _ ?_⟩; ((go_at_call 55; exact bw_same (rwithin_is false _ _ _ _ HQ.out))); clear hK K))
        refine wpQuiet_nil ?_
        intro wq hwq0
        have hwq := bw_out hwq0
        clear hwq0
        go_wp2
        go_ret3
        exact ⟨_, _, by rw [B3.out]; rfl, by rw [B1.out]; exact InAt.nil _, by rw [B2.out]; exact InAt.nil _, HB.out.trans ((hb.out.trans (hwq.mono hb.out.size)).mono HB.out.size)⟩
      · have HQ := Lib.hid hq
        have HAn : Hid (∀ j, j < k + 1 → inB (l.getD j 0) 0 L.rat = true) := Lib.hid (fun j hj => by
          by_cases hjk : j = k
          · rw [hjk, hx]; exact hq
          · exact hA.out j (by omega))
        clear hq hx g1
        go_wp2_with fail
        refine wp_region_below (by kernel_rfl) (by kernel_rfl) (Below.refl wr.heap.size wr) ?_
        repeat ((with_reducible refine wpQuiet_step (fun K hK => ?_)); go_simp; first | (refine hK _ ?_; clear hK K) | (apply Exists.intro; refine ⟨fun _ => ?_, hK _ ?_⟩; ((go_at_call 55; exact bw_same (rwithin_is true _ _ _ _ HQ.out))); clear hK K))
        refine wpQuiet_nil ?_
        intro wq hwq0
        have hwq := bw_out hwq0
        clear hwq0
        go_wp2
        go_roundw
        case rel => exact ⟨k + 1, hlt, by go_num, rfl, rfl, HAn, Lib.hid (hb.out.trans (hwq.mono hb.out.size))⟩
        case measure => simp [intOf]; omega
    · obtain rfl : k = l.length := by omega
      have hE := HYES.out hA.out
      obtain ⟨_, i1, i2, HDD⟩ := HI.out hE
      have HR1 := Lib.hid (HRO.out.trans (if_pos hE))
      have HR2 := Lib.hid (HRA.out.trans (if_pos hE))
      have HR3 := Lib.hid hE
      have HD := Lib.hid HDD
      have HVK := Lib.hid (fun k hk => lvK_in (L := L) (f := f) n1 HDD k hk)
      have HS := Lib.hid (fun (a b : Int) a0 a1 b0 b1 w1 (h : InAt w1 (.slice sa L.fl.length scap) L.fl) => rsink_any L (.slice sa L.fl.length scap) f a b w1 h hL i1.1 i1.2 a0 a1 b0 b1)
      have HSB := Lib.hid (fun (a b : Int) a0 a1 b0 b1 => (sink_bd (a := a) (b := b) hL i1.1 i1.2 a0 a1 b0 b1).2)
      have hlv1 := hL.l1
      have hlv2 := hL.l2
      have HBZ := Lib.hid (HB.out.trans (hb.out.mono HB.out.size))
      have g0 := (hb.out.cell (p := ⟨b, off + 0, none⟩) hbl2).trans (in_at HB.out hbl HC2.out (show 0 < l.length by omega))
      rw [Nat.add_zero] at g0
      clear hE HDD hL HBAD HB1N HYES i1 i2
      generalize wr = wB at *
      obtain ⟨i0, hi0, hz0, hz1, hz2⟩ := info_parts infoInt
      go_wp2_with fail
      clear g0
      go_loopw [6, 7, 10, 11] (fun va vb x i wr => ∃ k : Nat, k ≤ l.length ∧ i = .int .i64 k ∧ x = .int .i64 (lvK L f l k) ∧ Hid (TwoRows wr wB.heap.size va vb (offL L f l k) (agaL L f l k)) ∧ Hid (Below wB.heap.size wB wr)) (fun _ _ _ i _ => l.length - (intOf i).toNat)
      case atStart => exact ⟨0, Nat.zero_le _, rfl, rfl, Lib.hid (TwoRows.nil _ _), Lib.hid (Below.refl _ _)⟩
      case round =>
        obtain ⟨k, hk, rfl, rfl, hT, hb2⟩ := hrel
        have HBK := Lib.hid (hb.out.trans (hb2.out.mono hb.out.size))
        by_cases hlt : k < l.length
        · have g1 := (HBK.out.cell (p := ⟨b, off + k, none⟩) hbl2).trans (in_at HB.out hbl HC2.out hlt)
          obtain ⟨x0, x1⟩ := HD.out k hlt
          obtain ⟨y0, y1⟩ := HVK.out k hk
          have HO := Lib.hid (offL_succ L f l k)
          have HA1 := Lib.hid (@agaL_near L f l k)
          have HA2 := Lib.hid (@agaL_far L f l k)
          have HL1 := Lib.hid (show lvK L f l (k + 1) = if neaK L f l k = true then lvK L f l k else l.getD k 0 from rfl)
          have HOK := Lib.hid (show offK L f l k = if neaK L f l k = true then sinkM L f (lvK L f l k) (l.getD k 0) else 0 from rfl)
          have HNK := Lib.hid (show neaK L f l k = inB (sinkM L f (lvK L f l k) (l.getD k 0)) (-L.lev) L.lev from rfl)
          have hla : (offL L f l k).length ≤ 60 := by rw [offL_len]; omega
          have hlb : (agaL L f l k).length ≤ 60 := Nat.le_trans (agaL_len L f l k) (by omega)
          have HR := Lib.hid (HS.out (lvK L f l k) (l.getD k 0) y0 y1 x0 x1)
          obtain ⟨z0, z1⟩ := HSB.out (lvK L f l k) (l.getD k 0) y0 y1 x0 x1
          generalize offL L f l k = A at *
          generalize agaL L f l k = B at *
          generalize lvK L f l k = lv at *
          generalize l.getD k 0 = x at *
          generalize sinkM L f lv x = S at *
          have HAP := Lib.hid (apa_near (S := S) hlv1)
          have y0 := bw_cells (B := wr.heap.size) (keepZ K0.out HBK.out) (lt_of_block (keepZ K0.out HBK.out))
          have hbl3 := Nat.lt_of_lt_of_le hbl2 HBK.out.size
          have y1 := bw_cell (B := wr.heap.size) g1 hbl3
          have HVr := Lib.hid (HV.out.below HBK.out (Nat.le_refl _))
          obtain ⟨ra, ca, rfl, _⟩ := ownsRow_shape hT.out.a
          obtain ⟨rb, cb, rfl, _⟩ := ownsRow_shape hT.out.b
          have j0 : (0 : Int) ≤ k := by omega
          have j1 : (k : Int) < l.length := by omega
          go_wp2_with fail
          refine wp_region_below (by kernel_rfl) (by kernel_rfl) (Below.refl wr.heap.size wr) ?_
          repeat ((with_reducible refine wpQuiet_step (fun K hK => ?_)); go_simp; first | (refine hK _ ?_; clear hK K) | (apply Exists.intro; refine ⟨fun _ => ?_, hK _ ?_⟩; ((go_at_call 74; exact bw_call (Nat.le_refl _) (HR.out _ (HVr.out.below (BW.b _) (Nat.le_refl _))))); clear hK K))
          refine wpQuiet_nil ?_
          intro wq hwq0
          have hwq := bw_out hwq0
          clear hwq0
          have KQ := Lib.hid (keepZ (keepZ K0.out HBK.out) hwq)
          have HGQ := Lib.hid ((hwq.cell (p := ⟨b, off + k, none⟩) hbl3).trans g1)
          have hblq := Nat.lt_of_lt_of_le hbl3 hwq.size
          have HTQ := Lib.hid (hT.out.below hwq)
          have HBQ := Lib.hid (hb2.out.trans (hwq.mono hb2.out.size))
          clear y0 y1 g1 hwq
          have y0 := bw_cells (B := wq.heap.size) KQ.out (lt_of_block KQ.out)
          generalize wq = wp at *
          cases hq : neaK L f l k
          · have HQ := Lib.hid hq
            have HN := Lib.hid (show decide (L.lev < apaM S 0) = true by rw [HAP.out, ← HNK.out, hq]; rfl)
            have hn1 := HN.out
            have HL2 := Lib.hid (HL1.out.trans (if_neg (by rw [hq]; decide)))
            have HO2 := Lib.hid (HO.out.trans (by rw [HOK.out, if_neg (by rw [hq]; decide)]))
            have HA3 := Lib.hid (HA2.out hq)
            clear hq
            go_wp2_with fail
            refine wp_region_below (by kernel_rfl) (by kernel_rfl) (Below.refl wp.heap.size wp) ?_
            repeat ((with_reducible refine wpQuiet_step (fun K hK => ?_)); go_simp; first | (refine hK _ ?_; clear hK K) | (apply Exists.intro; refine ⟨fun _ => ?_, hK _ ?_⟩; ((go_at_call 79; exact bw_same (rapart_any S 0 _ (by omega) (by omega) (by omega) (by omega)))); clear hK K))
            refine wpQuiet_nil ?_
            intro wq hwq0
            have hwq := bw_out hwq0
            clear hwq0
            have HGS := Lib.hid ((hwq.cell (p := ⟨b, off + k, none⟩) hblq).trans HGQ.out)
            have HTS := Lib.hid (HTQ.out.below hwq)
            have HBS := Lib.hid (HBQ.out.trans (hwq.mono HBQ.out.size))
            have hbls := Nat.lt_of_lt_of_le hblq hwq.size
            clear y0 hwq hn1
            have y1 := bw_cell (B := wq.heap.size) HGS.out hbls
            generalize wq = wo at *
            go_wp2_with fail
            refine wp_region_below (by kernel_rfl) (by kernel_rfl) (Below.refl wo.heap.size wo) ?_
            repeat ((with_reducible refine wpQuiet_step (fun K hK => ?_)); go_simp; first | (refine hK _ ?_; clear hK K) | (apply Exists.intro; refine ⟨fun _ => ?_, hK _ ?_⟩; (fail); clear hK K))
            refine wpQuiet_nil ?_
            intro wq hwq0
            have hwq := bw_out hwq0
            clear hwq0
            have HT1 := Lib.hid (HTS.out.below hwq)
            have HB1 := Lib.hid (HBS.out.trans (hwq.mono HBS.out.size))
            have hsz := HB1.out.size
            clear y1 hwq
            go_wp2_with ((at_builtin; refine wpList_append_own_at _ rfl (.tmp 69) (.tmp 71) 22 rfl wB.heap.size 3 i0 (.int .i64 0) 1 8 Try.underlying22 hi0 hz0 hz1 hz2 rfl (by decide) _ (B).length ((B).map (Value.int .i64)) rfl ?c0 _ _ _ [.int .i64 k] rfl rfl ?c1 ?c2 ?c3 ?c4 ?c5 ?_))
            case c0 => exact World.ownsRow.alloc ((Lib.hid HT1.out.swap)).out.a _
            try (case c1 => exact one_cell _ _ _ rfl)
            case c2 => first | rfl | (intro u hu; simp only [List.mem_cons, List.not_mem_nil, or_false] at hu; subst hu; rfl)
            case c3 => unfold maxLen; omega
            case c4 => omega
            case c5 => first | exact Nat.le_trans hsz (al_le _ _) | (simp; omega) | omega
            intro v2 w2 hown2 hgrow2 _ hat2
            have HTR2 := Lib.hid (TwoRows.more (((Lib.hid HT1.out.swap)).out.alloc _) hown2 hgrow2 (hat2.imp id (fun h => by rw [size_alloc]; exact h)))
            have hbX2 := below_grown hgrow2 ((Lib.hid HT1.out.swap)).out.base_le (Nat.le_trans hsz (al_le _ _))
            have HBA2 := Lib.hid (((Below.refl _ _).alloc hsz _).trans hbX2)
            obtain ⟨r2, c2, rfl, _⟩ := ownsRow_shape hown2
            clear hown2 hgrow2 hat2 hbX2
            have hsz2 := (HB1.out.trans HBA2.out).size
            have HB2 := Lib.hid (HB1.out.trans HBA2.out)
            have HT2 := Lib.hid HTR2.out.swap
            clear HBA2 HTR2
            go_wp2_with ((at_builtin; refine wpList_append_own_at _ rfl (.tmp 73) (.tmp 75) 22 rfl wB.heap.size 3 i0 (.int .i64 0) 1 8 Try.underlying22 hi0 hz0 hz1 hz2 rfl (by decide) _ (A).length ((A).map (Value.int .i64)) rfl ?c0 _ _ _ [.int .i64 0] rfl rfl ?c1 ?c2 ?c3 ?c4 ?c5 ?_))
            case c0 => exact World.ownsRow.alloc (HT2).out.a _
            try (case c1 => exact one_cell _ _ _ rfl)
            case c2 => first | rfl | (intro u hu; simp only [List.mem_cons, List.not_mem_nil, or_false] at hu; subst hu; rfl)
            case c3 => unfold maxLen; omega
            case c4 => omega
            case c5 => first | exact Nat.le_trans hsz2 (al_le _ _) | (simp; omega) | omega
            intro v3 w3 hown3 hgrow3 _ hat3
            have HTR3 := Lib.hid (TwoRows.more ((HT2).out.alloc _) hown3 hgrow3 (hat3.imp id (fun h => by rw [size_alloc]; exact h)))
            have hbX3 := below_grown hgrow3 (HT2).out.base_le (Nat.le_trans hsz2 (al_le _ _))
            have HBA3 := Lib.hid (((Below.refl _ _).alloc hsz2 _).trans hbX3)
            obtain ⟨r3, c3, rfl, _⟩ := ownsRow_shape hown3
            clear hown3 hgrow3 hat3 hbX3
            have HB3 := Lib.hid (HB2.out.trans HBA3.out)
            go_wp2
            go_roundw
            case rel => exact ⟨k + 1, hlt, by go_num, by rw [HL2.out], by rw [HO2.out, HA3.out]; exact HTR3, HB3⟩
            case measure => simp [intOf]; omega
          · have HQ := Lib.hid hq
            have HN := Lib.hid (show decide (L.lev < apaM S 0) = false by rw [HAP.out, ← HNK.out, hq]; rfl)
            have hn1 := HN.out
            have HL2 := Lib.hid (HL1.out.trans (if_pos hq))
            have HO2 := Lib.hid (HO.out.trans (by rw [HOK.out, if_pos hq]))
            have HA3 := Lib.hid (HA1.out hq)
            clear hq
            go_wp2_with fail
            refine wp_region_below (by kernel_rfl) (by kernel_rfl) (Below.refl wp.heap.size wp) ?_
            repeat ((with_reducible refine wpQuiet_step (fun K hK => ?_)); go_simp; first | (refine hK _ ?_; clear hK K) | (apply Exists.intro; refine ⟨fun _ => ?_, hK _ ?_⟩; ((go_at_call 79; exact bw_same (rapart_any S 0 _ (by omega) (by omega) (by omega) (by omega)))); clear hK K))
            refine wpQuiet_nil ?_
            intro wq hwq0
            have hwq := bw_out hwq0
            clear hwq0
            have HT1 := Lib.hid (HTQ.out.below hwq)
            have HB1 := Lib.hid (HBQ.out.trans (hwq.mono HBQ.out.size))
            have hsz := HB1.out.size
            clear y0 hwq hn1
            go_wp2_with ((at_builtin; refine wpList_append_own_at _ rfl (.tmp 73) (.tmp 75) 22 rfl wB.heap.size 3 i0 (.int .i64 0) 1 8 Try.underlying22 hi0 hz0 hz1 hz2 rfl (by decide) _ (A).length ((A).map (Value.int .i64)) rfl ?c0 _ _ _ [.int .i64 S] rfl rfl ?c1 ?c2 ?c3 ?c4 ?c5 ?_))
            case c0 => exact World.ownsRow.alloc (HT1).out.a _
            try (case c1 => exact one_cell _ _ _ rfl)
            case c2 => first | rfl | (intro u hu; simp only [List.mem_cons, List.not_mem_nil, or_false] at hu; subst hu; rfl)
            case c3 => unfold maxLen; omega
            case c4 => omega
            case c5 => first | exact Nat.le_trans hsz (al_le _ _) | (simp; omega) | omega
            intro v3 w3 hown3 hgrow3 _ hat3
            have HTR3 := Lib.hid (TwoRows.more ((HT1).out.alloc _) hown3 hgrow3 (hat3.imp id (fun h => by rw [size_alloc]; exact h)))
            have hbX3 := below_grown hgrow3 (HT1).out.base_le (Nat.le_trans hsz (al_le _ _))
            have HBA3 := Lib.hid (((Below.refl _ _).alloc hsz _).trans hbX3)
            obtain ⟨r3, c3, rfl, _⟩ := ownsRow_shape hown3
            clear hown3 hgrow3 hat3 hbX3
            have HB3 := Lib.hid (HB1.out.trans HBA3.out)
            go_wp2
            go_roundw
            case rel => exact ⟨k + 1, hlt, by go_num, by rw [HL2.out], by rw [HO2.out, HA3.out]; exact HTR3, HB3⟩
            case measure => simp [intOf]; omega
        · obtain rfl : k = l.length := by omega
          have HT := hT
          obtain ⟨ra, ca, rfl, _⟩ := ownsRow_shape hT.out.a
          obtain ⟨rb, cb, rfl, _⟩ := ownsRow_shape hT.out.b
          have HBY := Lib.hid (HBZ.out.trans (hb2.out.mono HBZ.out.size))
          go_wp2_with fail
          go_ret3
          exact ⟨_, _, by rw [HR3.out]; rfl, by rw [HR1.out]; exact InAt.of_own HT.out.a, by rw [HR2.out]; exact InAt.of_own HT.out.b, HBY.out⟩

end Go.Proofs.Ytnefbiaopconkaa
