/- ChainLives, the walk. -/
import Derived.Test.YtkahhclmmlkpjaaUc
namespace Go.Proofs.Ytkahhclmmlkpjaa
open Go.RowKit

theorem hist_wearE {P : Prt} {l : List Us} {ws : List Int} (hf : partM P l = 0) (h : Hist P l ws) : wearE P l = 0 := wearE_ok hf (by have := hist_reach h; omega)
theorem hist_ref {P : Prt} {l : List Us} {ws : List Int} (hf : partM P l = 0) (h : Hist P l ws) : refM P l = ⟨0, false, 0⟩ := by
  unfold refM; rw [if_pos hf, if_neg (by have := hist_reach h; omega)]
theorem hist_life {P : Prt} {l : List Us} {ws : List Int} (hf : partM P l = 0) (h : Hist P l ws) (g : Bool) : lifeM P l g = (firstM P l g, 0) := life_yes hf (by have := hist_reach h; omega)

/-- What Beyond and Surely say, as the statement asks it. -/
theorem hist_order {P : Prt} {l : List Us} {ws : List Int} (h : Hist P l ws) : firstM P l false < 0 ∨ (0 ≤ firstM P l true ∧ firstM P l true ≤ firstM P l false) := by
  have o := spent_order h
  unfold firstM
  split <;> split <;> omega

theorem hist_lives {P : Prt} {l : List Us} {ws : List Int} (hP : POk P) (hU : UOks P l) (h : Hist P l ws) {i : Nat} (hi : i < l.length) :
    (wornM P l i (ws.getD i 0) = true → 0 ≤ firstM P l true ∧ firstM P l true ≤ i) ∧ (wornM P l i (ws.getD i 0) = false → firstM P l false < 0 ∨ (0 ≤ firstM P l false ∧ (i : Int) < firstM P l false)) := by
  obtain ⟨a, b⟩ := lives hP hU h hi
  unfold firstM
  refine ⟨fun e => ?_, fun e => ?_⟩
  · have := a e
    rw [if_pos (by omega)]
    omega
  · have := b e
    split
    · right; omega
    · left; omega

set_option maxRecDepth 100000 in
set_option maxHeartbeats 8000000 in
theorem lives_any (P : Prt) (l : List Us) (ws : List Int) (bv v wv : Value) (w : World) (hv : SpAt w bv P.rs) (hl : UsAt w v l) (hw : InAt w wv ws) :
    Calls Try.prog 14 #[prtV P bv, v, wv] w fun e w' => e = .returned (.bool true) ∧ Below w.heap.size w w' := by
  have HV0 := Lib.hid hv
  have HU0 := Lib.hid hl
  have HW0 := Lib.hid hw
  have hb0 := (Below.refl w.heap.size w).alloc (Nat.le_refl _) (Obj.cells #[bv, .int .i64 P.wo, .int .i64 P.tu, .int .i64 P.ag] 54)
  have k0 := block_new w (Obj.cells #[bv, .int .i64 P.wo, .int .i64 P.tu, .int .i64 P.ag] 54) w.heap.size rfl
  have HV := Lib.hid (hv.below hb0 (Nat.le_refl _))
  have HU := Lib.hid (hl.below hb0 (Nat.le_refl _))
  have HW := Lib.hid (hw.below hb0 (Nat.le_refl _))
  obtain ⟨a, cap, rfl, h1, h2, hc⟩ := hv
  obtain ⟨ua, ucap, rfl, un, ucl, uc⟩ := hl
  obtain ⟨wa, wcap, rfl, wn, wcl, wc⟩ := hw
  have HWC := Lib.hid wc
  have HB := Lib.hid hb0
  have K0 := Lib.hid k0
  clear hc uc wc hb0 k0
  by_cases hf : partM P l = 0
  · have HF := Lib.hid hf
    obtain ⟨hP, h40, hU⟩ := partM_ok hf
    cases hh : histB P l ws
    · have HH := Lib.hid hh
      clear hh hf hP hU
      go_enter Try.func14, Try.ntmps14
      go_wp2_with fail
      generalize w.alloc (Obj.cells #[Value.slice a P.rs.length cap, .int .i64 P.wo, .int .i64 P.tu, .int .i64 P.ag] 54) = wA at *
      have hce := block_cell K0.out
      refine (rcheckPart_any P l _ _ _ HV.out HU.out).mono ?_
      rintro e w1 ⟨rfl, hb1⟩
      rw [HF.out]
      have HB1 := Lib.hid hb1
      clear hce
      have hce := block_cell ((hb1.block _ (lt_of_block K0.out)).trans K0.out)
      clear hb1
      go_wp2_with fail
      refine (history_any P l ws _ _ _ _ (HV.out.below HB1.out (Nat.le_refl _)) (HU.out.below HB1.out (Nat.le_refl _)) (HW.out.below HB1.out (Nat.le_refl _)) HF.out).mono ?_
      rintro e w2 ⟨rfl, hb2⟩
      rw [HH.out]
      have HB2 := Lib.hid (HB1.out.trans (hb2.mono HB1.out.size))
      clear hb2
      go_wp2_with fail
      refine (works_any _).mono ?_
      rintro e w3 ⟨rfl, hb3⟩
      go_wp2
      go_ret
      exact ⟨rfl, HB.out.trans ((HB2.out.trans (hb3.mono HB2.out.size)).mono HB.out.size)⟩
    · have HH := Lib.hid hh
      have hH := histB_iff.1 hh
      have HWE := Lib.hid (hist_wearE hf hH)
      have HRF := Lib.hid (hist_ref hf hH)
      have HL1 := Lib.hid (hist_life hf hH true)
      have HL2 := Lib.hid (hist_life hf hH false)
      have HOR := Lib.hid (hist_order hH)
      have HLV := Lib.hid (fun i (hi : i < l.length) => hist_lives hP hU hH hi)
      have HIN := Lib.hid (fun i (hi : i < l.length) => hist_wear hH hi)
      have HLE := Lib.hid hH.1
      have HP := Lib.hid hP
      have HUO := Lib.hid hU
      obtain ⟨f1, f2⟩ := firstM_bd P l true
      obtain ⟨f3, f4⟩ := firstM_bd P l false
      obtain ⟨may, hmay⟩ : ∃ x, firstM P l true = x := ⟨_, rfl⟩
      obtain ⟨must, hmust⟩ : ∃ x, firstM P l false = x := ⟨_, rfl⟩
      rw [hmay] at HL1 HOR HLV f1 f2
      rw [hmust] at HL2 HOR HLV f3 f4
      have wlen1 : ws.length ≤ l.length := by have := hH.1; omega
      have wlen2 : l.length ≤ ws.length := by have := hH.1; omega
      clear hh hf hP hU hH hmay hmust
      go_enter Try.func14, Try.ntmps14
      go_wp2_with fail
      generalize w.alloc (Obj.cells #[Value.slice a P.rs.length cap, .int .i64 P.wo, .int .i64 P.tu, .int .i64 P.ag] 54) = wA at *
      have hce := block_cell K0.out
      refine (rcheckPart_any P l _ _ _ HV.out HU.out).mono ?_
      rintro e w1 ⟨rfl, hb1⟩
      rw [HF.out]
      first | have HB1 := Lib.hid (HN0.out.trans (hb1.mono HN0.out.size)) | have HB1 := Lib.hid hb1
      clear hb1 hce
      have hce := block_cell ((HB1.out.block _ (lt_of_block K0.out)).trans K0.out)
      have zce := Nat.lt_of_lt_of_le (lt_of_block K0.out) HB1.out.size
      go_wp2_with fail
      refine (history_any P l ws _ _ _ _ (HV.out.below HB1.out (Nat.le_refl _)) (HU.out.below HB1.out (Nat.le_refl _)) (HW.out.below HB1.out (Nat.le_refl _)) HF.out).mono ?_
      rintro e w2 ⟨rfl, hb2⟩
      rw [HH.out]
      first | have HB2 := Lib.hid (HB1.out.trans (hb2.mono HB1.out.size)) | have HB2 := Lib.hid hb2
      clear hb2 hce
      have hce := block_cell ((HB2.out.block _ (lt_of_block K0.out)).trans K0.out)
      have zce := Nat.lt_of_lt_of_le (lt_of_block K0.out) HB2.out.size
      go_wp2_with fail
      refine (kwear_any P l _ _ _ (HV.out.below HB2.out (Nat.le_refl _)) (HU.out.below HB2.out (Nat.le_refl _))).mono ?_
      rintro e w3 ⟨v3, rfl, hb3, ho, _⟩
      rw [HWE.out]
      have ho3 := ho HWE.out
      have hel := ElAt.of_own (m := 2) (f := spnL) (xs := wearL P l) (fun _ => rfl) (by rw [wearL_len]; exact ho3)
      obtain ⟨sa, scap, rfl, sn, scl, sc⟩ := hel
      rw [wearL_len] at sn sc
      rw [wearL_len] at *
      have HSC := Lib.hid sc
      clear ho ho3 sc
      first | have HB3 := Lib.hid (HB2.out.trans (hb3.mono HB2.out.size)) | have HB3 := Lib.hid hb3
      clear hb3 hce
      have hce := block_cell ((HB3.out.block _ (lt_of_block K0.out)).trans K0.out)
      have zce := Nat.lt_of_lt_of_le (lt_of_block K0.out) HB3.out.size
      go_wp2_with fail
      refine (krefuted_any P l _ _ _ (HV.out.below HB3.out (Nat.le_refl _)) (HU.out.below HB3.out (Nat.le_refl _))).mono ?_
      rintro e w4 ⟨rfl, hb4⟩
      rw [HRF.out]
      have HC34 := Lib.hid hb4
      first | have HB4 := Lib.hid (HB3.out.trans (hb4.mono HB3.out.size)) | have HB4 := Lib.hid hb4
      clear hb4 hce
      have hce := block_cell ((HB4.out.block _ (lt_of_block K0.out)).trans K0.out)
      have zce := Nat.lt_of_lt_of_le (lt_of_block K0.out) HB4.out.size
      go_wp2_with fail
      refine (kbeyond_any P l _ _ _ (HV.out.below HB4.out (Nat.le_refl _)) (HU.out.below HB4.out (Nat.le_refl _))).mono ?_
      rintro e w5 ⟨rfl, hb5⟩
      rw [HL1.out]
      have HC35 := Lib.hid (HC34.out.trans (hb5.mono HC34.out.size))
      first | have HB5 := Lib.hid (HB4.out.trans (hb5.mono HB4.out.size)) | have HB5 := Lib.hid hb5
      clear hb5 hce
      have hce := block_cell ((HB5.out.block _ (lt_of_block K0.out)).trans K0.out)
      have zce := Nat.lt_of_lt_of_le (lt_of_block K0.out) HB5.out.size
      go_wp2_with fail
      refine (ksurely_any P l _ _ _ (HV.out.below HB5.out (Nat.le_refl _)) (HU.out.below HB5.out (Nat.le_refl _))).mono ?_
      rintro e w6 ⟨rfl, hb6⟩
      rw [HL2.out]
      have HC36 := Lib.hid (HC35.out.trans (hb6.mono HC35.out.size))
      first | have HB6 := Lib.hid (HB5.out.trans (hb6.mono HB5.out.size)) | have HB6 := Lib.hid hb6
      clear hb6 hce
      have hce := block_cell ((HB6.out.block _ (lt_of_block K0.out)).trans K0.out)
      have zce := Nat.lt_of_lt_of_le (lt_of_block K0.out) HB6.out.size
      have hll : ((l.length : Int) != (l.length : Int)) = false := by simp
      rcases HOR.out with hm | ⟨hm1, hm2⟩
      all_goals
        go_wp2_with fail
        go_loopw [16] (fun i wr => ∃ k : Nat, k ≤ l.length ∧ i = .int .i64 k ∧ Hid (Below wA.heap.size wA wr) ∧ Hid (Below w3.heap.size w3 wr)) (fun i _ => l.length - (intOf i).toNat)
        case atStart => exact ⟨0, Nat.zero_le _, rfl, HB6.out, HC36.out⟩
        case round =>
          obtain ⟨k, hk, rfl, hb, hb3⟩ := hrel
          clear hce zce
          by_cases hlt : k < l.length
          · obtain ⟨wb, wo, rfl, wbl, wcc⟩ := HWC.out (by omega)
            have HBR := Lib.hid (HB.out.trans (hb.out.mono HB.out.size))
            have y1 := (HBR.out.cell (p := ⟨wb, wo + k, none⟩) wbl).trans (wcc k (by omega))
            obtain ⟨sb, so, rfl, sbl, scc⟩ := HSC.out (by omega)
            obtain ⟨s1, s2⟩ := sp_at hb3.out sbl scc (k := k) (by rw [wearL_len]; exact hlt)
            rw [wearL_get hlt] at s1 s2
            have hce := block_cell ((hb.out.block _ (lt_of_block K0.out)).trans K0.out)
            have zce := Nat.lt_of_lt_of_le (lt_of_block K0.out) hb.out.size
            have zw : wb < wr.heap.size := by have := HBR.out.size; omega
            have zs : sb < wr.heap.size := by have := hb3.out.size; omega
            obtain ⟨n1, n2⟩ := HIN.out k hlt
            have hlv := HLV.out k hlt
            clear wcc scc
            generalize wearAt P l k = s at *
            generalize ws.getD k 0 = y at *
            have i1 : (0 : Int) ≤ (k : Int) := by omega
            have i2 : (k : Int) < l.length := by omega
            have i3 : (k : Int) < ws.length := by omega
            have hA : decide (y < s.1) = false := by rw [decide_eq_false_iff_not]; omega
            have hBB : decide (s.2 < y) = false := by rw [decide_eq_false_iff_not]; omega
            have HLK := Lib.hid hlv
            clear hlv
            go_wp2_with fail
            go_quiet (fail)
            have hbx := below_drewN hb.out nq
            have hb3x := below_drewN hb3.out nq
            have y1x : (wr.drewN nq).cell? ⟨wb, wo + k, none⟩ = some (.int .i64 y) := y1
            have kx : (wr.drewN nq).heap[w.heap.size]? = some (Obj.cells #[Value.slice a P.rs.length cap, .int .i64 P.wo, .int .i64 P.tu, .int .i64 P.ag] 54) := (hbx.block _ (lt_of_block K0.out)).trans K0.out
            generalize wr.drewN nq = wx at *
            have zwx := cell_lt y1x
            have zkx := lt_of_block kx
            have x0 := bw_cells (B := wx.heap.size) kx zkx
            have x1 := bw_cell (B := wx.heap.size) y1x zwx
            have HBX := Lib.hid hbx
            have HB3X := Lib.hid hb3x
            clear y1 s1 s2 hce hA hBB hbx hb3x y1x kx
            cases hq : wornM P l k y
            · have HQ := Lib.hid hq
              have hlk := HLK.out.2 hq
              clear hq
              go_wp2_with fail
              refine wp_region_below (by kernel_rfl) (by kernel_rfl) (Below.refl wx.heap.size wx) ?_
              repeat (refine wpQuiet_step (fun K hK => ?_); go_simp; first | (refine hK _ ?_; clear hK K) | (apply Exists.intro; refine ⟨fun _ => ?_, hK _ ?_⟩; (go_at_call 58; exact bw_call (Nat.le_refl _) (rworn_is false (HV.out.below (HBX.out.trans ((BW.b _).mono HBX.out.size)) (Nat.le_refl _)) (HU.out.below (HBX.out.trans ((BW.b _).mono HBX.out.size)) (Nat.le_refl _)) HP.out HUO.out h40 hlt HQ.out)); clear hK K))
              refine wpQuiet_nil ?_
              intro wq hwq0
              have hwq := bw_out hwq0
              clear hwq0
              have HBQ := Lib.hid (HBX.out.trans (hwq.mono HBX.out.size))
              have HB3Q := Lib.hid (HB3X.out.trans (hwq.mono HB3X.out.size))
              clear hwq x0 x1
              rcases hlk with hlk | ⟨hlk1, hlk2⟩
              all_goals
                try (exfalso; omega)
                all_goals
                  go_wp2
                  go_roundw
                  case rel => exact ⟨k + 1, hlt, by go_num, HBQ.out, HB3Q.out⟩
                  case measure => simp [intOf]; omega
            · have HQ := Lib.hid hq
              obtain ⟨hlk1, hlk2⟩ := HLK.out.1 hq
              clear hq
              go_wp2_with fail
              refine wp_region_below (by kernel_rfl) (by kernel_rfl) (Below.refl wx.heap.size wx) ?_
              repeat (refine wpQuiet_step (fun K hK => ?_); go_simp; first | (refine hK _ ?_; clear hK K) | (apply Exists.intro; refine ⟨fun _ => ?_, hK _ ?_⟩; (go_at_call 58; exact bw_call (Nat.le_refl _) (rworn_is true (HV.out.below (HBX.out.trans ((BW.b _).mono HBX.out.size)) (Nat.le_refl _)) (HU.out.below (HBX.out.trans ((BW.b _).mono HBX.out.size)) (Nat.le_refl _)) HP.out HUO.out h40 hlt HQ.out)); clear hK K))
              refine wpQuiet_nil ?_
              intro wq hwq0
              have hwq := bw_out hwq0
              clear hwq0
              have HBQ := Lib.hid (HBX.out.trans (hwq.mono HBX.out.size))
              have HB3Q := Lib.hid (HB3X.out.trans (hwq.mono HB3X.out.size))
              clear hwq x0 x1
              go_wp2
              go_roundw
              case rel => exact ⟨k + 1, hlt, by go_num, HBQ.out, HB3Q.out⟩
              case measure => simp [intOf]; omega
          · go_wp2_with fail
            refine (works_any _).mono ?_
            rintro e w7 ⟨rfl, hb7⟩
            go_wp2
            go_ret
            exact ⟨rfl, HB.out.trans ((hb.out.trans (hb7.mono hb.out.size)).mono HB.out.size)⟩
  · have HF := Lib.hid hf
    go_enter Try.func14, Try.ntmps14
    go_wp2_with fail
    generalize w.alloc (Obj.cells #[Value.slice a P.rs.length cap, .int .i64 P.wo, .int .i64 P.tu, .int .i64 P.ag] 54) = wA at *
    have hce := block_cell K0.out
    refine (rcheckPart_any P l _ _ _ HV.out HU.out).mono ?_
    rintro e w1 ⟨rfl, hb1⟩
    generalize partM P l = f at *
    go_wp2_with fail
    refine (works_any _).mono ?_
    rintro e w3 ⟨rfl, hb3⟩
    go_wp2
    go_ret
    exact ⟨rfl, HB.out.trans ((hb1.trans (hb3.mono hb1.size)).mono HB.out.size)⟩

end Go.Proofs.Ytkahhclmmlkpjaa
