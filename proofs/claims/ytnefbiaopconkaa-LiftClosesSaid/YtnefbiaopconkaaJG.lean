/- Walks of layer 5 (lift): Trip of the specification. -/
import Derived.Test.YtnefbiaopconkaaJF
import Derived.Test.YtnefbiaopconkaaJq
namespace Go.Proofs.Ytnefbiaopconkaa
open Go.RowKit

theorem apa_way (L : Lif) (a b : Int) : apaM (L.fl.getD a.toNat 0) (L.fl.getD b.toNat 0) = wayM L a b := by unfold apaM wayM; omega

theorem few_is {spd acc w : Int} (ha : 1 ≤ acc) (hp : 1 ≤ spd) (hw2 : w ≤ 1000) {k : Nat} (h1 : ∀ j : Nat, j < k → reaM spd acc j < w) (h2 : w ≤ reaM spd acc k) : fewM spd acc w = k := by
  obtain ⟨_, q2, q3⟩ := few_spec ha hp hw2
  rcases Nat.lt_trichotomy (fewM spd acc w) k with h | h | h
  · have := h1 _ h; omega
  · exact h
  · have := q3 _ h; omega

/-- The first speed that the specification takes is the one that the program takes. -/
theorem nxt_take {spd acc s w : Int} {t : Nat} (ha : 1 ≤ acc) (hp : 1 ≤ spd) (hp2 : spd ≤ 100) (h : Feas spd acc s (t + 1) w) :
    ((nxtM spd acc s t w : Nat) : Int) ≤ acc * ((t : Int) + 1) ∧ s - acc ≤ (nxtM spd acc s t w : Nat) ∧ ((nxtM spd acc s t w : Nat) : Int) + lstM acc (nxtM spd acc s t w : Nat) t ≤ w ∧ w ≤ ((nxtM spd acc s t w : Nat) : Int) + mstM spd acc (nxtM spd acc s t w : Nat) t := by
  obtain ⟨h1, h2, h3, h4⟩ := h.step ha hp hp2
  have h5 := h4.s2
  have h6 := h4.lo
  have h7 := h4.hi
  exact ⟨h5, h2, by omega, by omega⟩

theorem nxt_skip {spd acc s w : Int} {t : Nat} (ha : 1 ≤ acc) (hp : 1 ≤ spd) (hp2 : spd ≤ 100) (_h : Feas spd acc s (t + 1) w) {m : Nat} (hm : nxtM spd acc s t w < m) (hm1 : (m : Int) ≤ spd) (hm2 : (m : Int) ≤ s + acc) (hm3 : (m : Int) ≤ acc * ((t : Int) + 1)) :
    w < (m : Int) + lstM acc m t := by
  have hc : (m : Int) ≤ capM spd acc s (t + 1) := by
    unfold capM
    rw [show ((t + 1 : Nat) : Int) = (t : Int) + 1 by omega]
    omega
  have h1 := pick_above (acc := acc) (w := w) (n := (capM spd acc s (t + 1)).toNat) (k := m) (by omega) hm
  rw [stp_eq ha (v := (m : Int)) (by omega) (by omega) (t := t) hm3] at h1
  exact h1

theorem min2 (a b : Int) : (if b < a then b else a) = min a b := by split <;> omega

set_option maxRecDepth 100000 in
set_option maxHeartbeats 8000000 in
theorem rTrip_any (L : Lif) (fv : Value) (a b : Int) (w : World) (hv : InAt w fv L.fl) :
    Calls Try.prog 35 #[lifV L fv, .int .i64 a, .int .i64 b] w (ListErr (triR L a b).1 (triR L a b).2 w) := by
  have HB := Lib.hid ((Below.refl w.heap.size w).alloc (Nat.le_refl _) (lifO L fv))
  have K0 := Lib.hid (block_new w (lifO L fv) w.heap.size rfl)
  have HSZ := Lib.hid (size_alloc w (lifO L fv))
  have HV := Lib.hid (hv.below HB.out (Nat.le_refl _))
  have HO := Lib.hid (@triR_ok L a b)
  have HN := Lib.hid (@triR_no L a b)
  cases hok : okB L
  · have HK := Lib.hid (chkE_no (x := 0) hok).symm
    have HE : triE L a b = 50 := (chkE_no hok).symm
    have HR := Lib.hid ((HN.out (by rw [HE]; decide)).trans (by rw [HE]))
    clear hok HE
    go_enter Try.func35, Try.ntmps35
    go_wp2_with fail
    generalize w.alloc (lifO L fv) = wA at *
    have c0 := block_cell K0.out
    go_wp2_with (go_at_call 22; refine (int_is HK.out (rCheck_any L fv _ HV.out)).mono ?_; rintro e w1 ⟨rfl, hb1⟩)
    go_ret2
    exact ⟨_, by rw [HR.out]; rfl, by rw [HR.out]; exact InAt.nil _, HB.out.trans (hb1.mono HB.out.size)⟩
  have HK := Lib.hid (chkE_ok (x := 0) hok).symm
  have hL := ok_of hok
  have HE := (show triE L a b = fitE (flrB L a b) from (chkE_ok hok).symm)
  cases hq : flrB L a b
  · rw [hq] at HE
    have HR := Lib.hid ((HN.out (by rw [HE]; decide)).trans (by rw [HE]))
    have HQ := Lib.hid hq
    clear hok HE hL hq
    go_enter Try.func35, Try.ntmps35
    go_wp2_with fail
    generalize w.alloc (lifO L fv) = wA at *
    have c0 := block_cell K0.out
    go_wp2_with (first | (go_at_call 22; refine (int_is HK.out (rCheck_any L fv _ HV.out)).mono ?_; rintro e w1 ⟨rfl, hb1⟩; clear c0; have c0 := block_cell (keepZ K0.out hb1)) | (go_at_call 44; refine (bool_is HQ.out (rFloors_any L fv a b _ (HV.out.below hb1 (Nat.le_refl _)))).mono ?_; rintro e w2 ⟨rfl, hb2⟩))
    go_ret2
    exact ⟨_, by rw [HR.out]; rfl, by rw [HR.out]; exact InAt.nil _, HB.out.trans ((hb1.trans (hb2.mono hb1.size)).mono HB.out.size)⟩
  have HR := Lib.hid (HO.out (by rw [HE, hq]; rfl))
  have HQ := Lib.hid hq
  obtain ⟨f1, f2, f3, f4⟩ := flr_of hq
  have a1 := hL.a1
  have a2 := hL.a2
  have s1 := hL.s1
  have s2 := hL.s2
  have hx1 := hL.floor (i := a.toNat) (by omega)
  have hx2 := hL.floor (i := b.toNat) (by omega)
  have htp := hL.top
  have hwb := way_bd hL f1 f2 f3 f4
  have HAW := Lib.hid (apa_way L a b)
  have HRE := Lib.hid (fun (n : Nat) (hn : n ≤ 1000) w1 => rreach_any L fv n w1 hL hn)
  have HRG := Lib.hid (fun n : Nat => rea_ge (spd := L.spd) a1 s1 n)
  have HFI := Lib.hid (fun (k : Nat) h1 h2 => few_is (spd := L.spd) (w := wayM L a b) a1 s1 hwb.2 (k := k) h1 h2)
  have HFF := Lib.hid (few_feas (spd := L.spd) (w := wayM L a b) a1 s1 hwb.1 hwb.2)
  have HRS := Lib.hid (fun (v : Int) (t : Nat) v0 v1 ht q hq w1 => rrest_any L fv v t w1 hL v0 v1 ht q hq)
  obtain ⟨T, hT⟩ : ∃ T, tripL L.spd L.acc (fewM L.spd L.acc (wayM L a b)) 0 (wayM L a b) = T := ⟨_, rfl⟩
  rw [hT] at HR
  have HT := Lib.hid hT
  have HTL := Lib.hid (show T.length ≤ 1000 by rw [← hT, tripL_len]; exact (few_spec a1 s1 hwb.2).1)
  generalize fewM L.spd L.acc (wayM L a b) = N at *
  generalize wayM L a b = W0 at *
  clear hok HE hL hq hT HO HN
  have HV0 := Lib.hid hv
  obtain ⟨sa, scap, rfl, sn, scp, sc⟩ := hv
  obtain ⟨sb, soff, rfl, sbl, sc⟩ := sc (by omega)
  have g1 := in_at HB.out sbl sc (k := a.toNat) (by omega)
  have g2 := in_at HB.out sbl sc (k := b.toNat) (by omega)
  have sbl2 := Nat.lt_of_lt_of_le sbl HB.out.size
  generalize L.fl.getD a.toNat 0 = x at *
  generalize L.fl.getD b.toNat 0 = y at *
  have G1 := Lib.hid g1
  have G2 := Lib.hid g2
  clear sc g1 g2
  go_enter Try.func35, Try.ntmps35
  go_wp2_with fail
  generalize w.alloc (lifO L (.slice (some ⟨sb, soff, none⟩) L.fl.length scap)) = wA at *
  have c0 := block_cell K0.out
  go_wp2_with (first | (go_at_call 22; refine (int_is HK.out (rCheck_any L _ _ HV.out)).mono ?_; rintro e w1 ⟨rfl, hb1⟩; clear c0; have c0 := block_cell (keepZ K0.out hb1)) | (go_at_call 44; refine (bool_is HQ.out (rFloors_any L _ a b _ (HV.out.below hb1 (Nat.le_refl _)))).mono ?_; rintro e w2 ⟨rfl, hb2⟩; have HB2 := Lib.hid (hb1.trans (hb2.mono hb1.size)); clear c0))
  have y0 := bw_cells (B := w2.heap.size) (keepZ K0.out HB2.out) (lt_of_block (keepZ K0.out HB2.out))
  have y1 := bw_cell (B := w2.heap.size) ((HB2.out.cell (p := ⟨sb, soff + a.toNat, none⟩) sbl2).trans G1.out) (Nat.lt_of_lt_of_le sbl2 HB2.out.size)
  have y2 := bw_cell (B := w2.heap.size) ((HB2.out.cell (p := ⟨sb, soff + b.toNat, none⟩) sbl2).trans G2.out) (Nat.lt_of_lt_of_le sbl2 HB2.out.size)
  have j0 : 0 ≤ a := f1
  have j1 : a < (L.fl.length : Int) := f2
  have j2 : 0 ≤ b := f3
  have j3 : b < (L.fl.length : Int) := f4
  refine wp_region_below (by kernel_rfl) (by kernel_rfl) (Below.refl w2.heap.size w2) ?_
  repeat ((with_reducible refine wpQuiet_step (fun K hK => ?_)); go_simp; first | (refine hK _ ?_; clear hK K) | (apply Exists.intro; refine ⟨fun _ => ?_, hK _ ?_⟩; ((go_at_call 79; exact bw_same (rapart_any x y _ (by omega) (by omega) (by omega) (by omega)))); clear hK K))
  refine wpQuiet_nil ?_
  intro wq hwq0
  have hwq := bw_out hwq0
  clear hwq0
  rw [HAW.out]
  have HB3 := Lib.hid (HB2.out.trans (hwq.mono HB2.out.size))
  clear y0 y1 y2 hwq
  generalize wq = wp at *
  go_wp2_with fail
  go_loopw [9] (fun i wr => ∃ k : Nat, k ≤ 1000 ∧ i = .int .i64 k ∧ Hid (∀ j : Nat, j < k → reaM L.spd L.acc j < W0) ∧ Hid (Below wA.heap.size wA wr)) (fun i _ => 1000 - (intOf i).toNat)
  case atStart => exact ⟨0, Nat.zero_le _, rfl, Lib.hid (fun j hj => by omega), HB3⟩
  case round =>
    obtain ⟨k, hk, rfl, hA, hb⟩ := hrel
    have c0 := block_cell (keepZ K0.out hb.out)
    have G := Lib.hid (HRE.out k hk)
    by_cases hlt : reaM L.spd L.acc k < W0
    · have hk1 : k < 1000 := by
        rcases Nat.lt_or_ge k 1000 with h | h
        · exact h
        · have : k = 1000 := by omega
          subst this
          have := HRG.out 1000
          omega
      have HAn : Hid (∀ j : Nat, j < k + 1 → reaM L.spd L.acc j < W0) := Lib.hid (fun j hj => by
        by_cases hjk : j = k
        · rw [hjk]; exact hlt
        · exact hA.out j (by omega))
      generalize reaM L.spd L.acc k = X at *
      go_wp2_with fail
      refine (G.out _).mono ?_
      rintro e w5 ⟨rfl, hb5⟩
      go_wp2
      go_roundw
      case rel => exact ⟨k + 1, by omega, by go_num, HAn, Lib.hid (hb.out.trans (hb5.mono hb.out.size))⟩
      case measure => simp [intOf]; omega
    · have hN : N = k := HFI.out k hA.out (by omega)
      rw [hN] at HT HFF
      generalize reaM L.spd L.acc k = X at *
      obtain ⟨i0, hi0, hz0, hz1, hz2⟩ := info_parts infoInt
      go_wp2_with fail
      refine (G.out _).mono ?_
      rintro e w5 ⟨rfl, hb5⟩
      have HB5 := Lib.hid (hb.out.trans (hb5.mono hb.out.size))
      clear c0 hb5
      go_wp2_with fail
      go_loopw [8, 10, 11, 12] (fun ww vv ss tt wr => ∃ (t : Nat) (s W : Int) (pre : List Int), tt = .int .i64 ((t : Int) - 1) ∧ ss = .int .i64 s ∧ ww = .int .i64 W ∧ Hid (pre ++ tripL L.spd L.acc t s W = T) ∧ Hid (Feas L.spd L.acc s t W) ∧ Hid (wr.ownsRow wA.heap.size 3 1 vv pre.length (pre.map (Value.int .i64))) ∧ Hid (Below wA.heap.size wA wr) ∧ t ≤ 1000 ∧ W ≤ 1000) (fun _ _ _ tt _ => ((intOf tt) + 1).toNat)
      case atStart => exact ⟨k, 0, W0, [], rfl, rfl, rfl, HT, HFF, Lib.hid ⟨by simp, Or.inl ⟨rfl, by simp⟩⟩, HB5, hk, hwb.2⟩
      case round =>
        obtain ⟨t, s, W, pre, rfl, rfl, rfl, hpre, hF, hO, hb2, ht, hW⟩ := hrel
        obtain ⟨ra, rc, rfl, _⟩ := ownsRow_shape hO.out
        cases t with
        | zero =>
          have HRX : Hid (pre = T) := Lib.hid (by have := hpre.out; simpa [tripL] using this)
          have HOX := hO
          have HBZ := Lib.hid (HB.out.trans (hb2.out.mono HB.out.size))
          go_wp2_with fail
          go_ret2
          exact ⟨_, by rw [HR.out]; rfl, by rw [HR.out]; show InAt _ _ T; rw [← HRX.out]; exact InAt.of_own HOX.out, HBZ.out⟩
        | succ t =>
          rw [show ((t + 1 : Nat) : Int) - 1 = (t : Int) by omega]
          have hs0 := hF.out.s0
          have hs1 := hF.out.s1
          have hw0 := hF.out.w0
          obtain ⟨st1, st2, st3, st4⟩ := hF.out.step a1 s1 s2
          obtain ⟨k1, k2, k3, k4⟩ := nxt_take a1 s1 s2 hF.out
          have HSK := Lib.hid (fun (m : Nat) h1 h2 h3 h4 => nxt_skip a1 s1 s2 hF.out (m := m) h1 h2 h3 h4)
          have hpl : pre.length ≤ 1000 := by
            have h2 := HTL.out
            rw [← hpre.out, List.length_append] at h2
            omega
          have HPN := Lib.hid (show (pre ++ [((nxtM L.spd L.acc s t W : Nat) : Int)]) ++ tripL L.spd L.acc t (nxtM L.spd L.acc s t W : Nat) (W - (nxtM L.spd L.acc s t W : Nat)) = T by
            rw [← hpre.out, List.append_assoc]; rfl)
          have HF4 := Lib.hid st4
          have hx4 := st4.s1
          generalize nxtM L.spd L.acc s t W = V at *
          have HM2 := Lib.hid (min2 L.spd (s + L.acc))
          clear st4 hpre hF
          have c0 := block_cell (keepZ K0.out hb2.out)
          obtain ⟨c, hc⟩ : ∃ c : Nat, min L.spd (s + L.acc) = c := ⟨(min L.spd (s + L.acc)).toNat, by omega⟩
          have hVc : V ≤ c := by omega
          have HC2 := Lib.hid (show (c : Int) ≤ L.spd ∧ (c : Int) ≤ s + L.acc by omega)
          go_upto_region 14 with fail
          go_cut [13] (fun s13 wx => s13 = .int .i64 c ∧ wr = wx)
          case first =>
            have hcc := HM2.out
            rw [hc] at hcc
            go_wp2
            all_goals
              go_meet
              exact ⟨by rw [← hcc]; try (first | (simp_all; done) | (simp_all; omega)), rfl⟩
          case rest =>
            obtain ⟨rfl, rfl⟩ := hcut
            clear c0 hc
            go_wp2_with fail
            go_loopw [8, 10, 11, 13] (fun ww vv ss x w9 => ∃ n : Nat, V ≤ n ∧ n ≤ c ∧ x = .int .i64 n ∧ ww = .int .i64 W ∧ vv = .slice ra pre.length rc ∧ ss = .int .i64 s ∧ Hid (Below wr.heap.size wr w9)) (fun _ _ _ x _ => (intOf x).toNat)
            case atStart => exact ⟨c, hVc, Nat.le_refl _, rfl, rfl, rfl, rfl, Lib.hid (Below.refl _ _)⟩
            case round =>
              obtain ⟨n, hn1, hn2, rfl, rfl, rfl, rfl, hb9⟩ := hrel
              have HB9 := Lib.hid (hb2.out.trans (hb9.out.mono hb2.out.size))
              have c0 := block_cell (keepZ K0.out HB9.out)
              obtain ⟨hc1, hc2⟩ := HC2.out
              have hlb := (ls_bd (v := (n : Int)) a1 (by omega) (by omega) t (by omega))
              have hmb := (ms_bd (v := (n : Int)) s1 s2 a1 (by omega) t (Nat.le_refl t) (by omega))
              rw [← lst_is] at hlb
              rw [← mst_is] at hmb
              by_cases hnV : n = V
              · subst hnV
                have G := Lib.hid (HRS.out (n : Int) t (by omega) (by omega) (by omega) true (decide_eq_true k1))
                simp only [if_true] at G
                generalize lstM L.acc (n : Int) t = LS at *
                generalize mstM L.spd L.acc (n : Int) t = MS at *
                have c1 : s - L.acc ≤ (n : Int) := k2
                have c2 : (n : Int) + LS ≤ W := k3
                have c3 : W ≤ (n : Int) + MS := k4
                have hsz0 := HB9.out.size
                go_wp2_with fail
                refine (G.out _).mono ?_
                rintro e w8 ⟨rfl, hb8⟩
                have HB8 := Lib.hid (HB9.out.trans (hb8.mono HB9.out.size))
                have HO8 := Lib.hid (ownsRow_below hO.out (hb9.out.trans (hb8.mono hb9.out.size)))
                clear c0 hb8
                have c0 := block_cell (keepZ K0.out HB8.out)
                have hsz := HB8.out.size
                go_wp2_with ((at_builtin; refine wpList_append_own _ rfl (.tmp 91) (.tmp 93) 22 rfl wA.heap.size 3 i0 (.int .i64 0) 1 8 Try.underlying22 hi0 hz0 hz1 hz2 rfl (by decide) _ (pre).length ((pre).map (Value.int .i64)) rfl ?c0 _ _ _ [.int .i64 n] rfl rfl ?c1 ?c2 ?c3 ?c4 ?c5 ?_))
                case c0 => exact World.ownsRow.alloc (HO8).out _
                try (case c1 => exact one_cell _ _ _ rfl)
                case c2 => first | rfl | (intro u hu; simp only [List.mem_cons, List.not_mem_nil, or_false] at hu; subst hu; rfl)
                case c3 => unfold maxLen; omega
                case c4 => omega
                case c5 => first | exact Nat.le_trans hsz (al_le _ _) | (simp; omega) | omega
                intro v3 w3 hown3 hgrow3 _
                obtain ⟨_, _, _, hob3⟩ := ownsRow_shape (HO8).out
                have hbX3 := below_grown hgrow3 hob3 (Nat.le_trans hsz (al_le _ _))
                have HBA3 := Lib.hid (((Below.refl _ _).alloc hsz _).trans hbX3)
                have HO3 := Lib.hid (own_snoc hown3)
                obtain ⟨r3, c3, rfl, _⟩ := ownsRow_shape hown3
                clear hown3 hgrow3 hbX3 hob3
                have HBZ := Lib.hid (HB8.out.trans HBA3.out)
                clear c0
                go_wp2
                go_roundw
                case rel => exact ⟨t, n, W - n, pre ++ [(n : Int)], by first | rfl | go_num, rfl, by first | rfl | go_num, HPN, HF4, by first | exact HO3 | (rw [List.length_append] at HO3; exact HO3), HBZ, by omega, by omega⟩
                case measure => simp [intOf] <;> omega
              · obtain ⟨m, rfl⟩ : ∃ m, n = m + 1 := ⟨n - 1, by omega⟩
                rw [show ((m + 1 : Nat) : Int) = (m : Int) + 1 by omega] at *
                by_cases hle : (m : Int) + 1 ≤ L.acc * ((t : Int) + 1)
                · have G := Lib.hid (HRS.out ((m : Int) + 1) t (by omega) (by omega) (by omega) true (decide_eq_true hle))
                  have hsk := HSK.out (m + 1) (by omega) (by omega) (by omega) (by omega)
                  rw [show ((m + 1 : Nat) : Int) = (m : Int) + 1 by omega] at hsk
                  simp only [if_true] at G
                  generalize lstM L.acc ((m : Int) + 1) t = LS at *
                  generalize mstM L.spd L.acc ((m : Int) + 1) t = MS at *
                  have c1 : s - L.acc ≤ (m : Int) + 1 := by omega
                  have c2 : ¬ (m : Int) + 1 + LS ≤ W := by omega
                  go_wp2_with fail
                  refine (G.out _).mono ?_
                  rintro e w8 ⟨rfl, hb8⟩
                  have HB8 := Lib.hid (HB9.out.trans (hb8.mono HB9.out.size))
                  have HBI := Lib.hid (hb9.out.trans (hb8.mono hb9.out.size))
                  clear c0 hb8
                  have c0 := block_cell (keepZ K0.out HB8.out)
                  go_wp2_with fail
                  go_roundw
                  case rel => exact ⟨m, by omega, by omega, by first | rfl | go_num, rfl, rfl, rfl, HBI⟩
                  case measure => simp [intOf] <;> omega
                · have G := Lib.hid (HRS.out ((m : Int) + 1) t (by omega) (by omega) (by omega) false (decide_eq_false hle))
                  simp only [Bool.false_eq_true, if_false] at G
                  go_wp2_with fail
                  refine (G.out _).mono ?_
                  rintro e w8 ⟨rfl, hb8⟩
                  have HB8 := Lib.hid (HB9.out.trans (hb8.mono HB9.out.size))
                  have HBI := Lib.hid (hb9.out.trans (hb8.mono hb9.out.size))
                  clear c0 hb8
                  have c0 := block_cell (keepZ K0.out HB8.out)
                  go_wp2_with fail
                  go_roundw
                  case rel => exact ⟨m, by omega, by omega, by first | rfl | go_num, rfl, rfl, rfl, HBI⟩
                  case measure => simp [intOf] <;> omega

end Go.Proofs.Ytnefbiaopconkaa
