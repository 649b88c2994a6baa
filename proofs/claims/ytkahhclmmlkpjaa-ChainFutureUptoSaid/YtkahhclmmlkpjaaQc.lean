/- Walks of layer 2 (chain), parts: Beyond, Surely. -/
import Derived.Test.YtkahhclmmlkpjaaQb
import Derived.Test.YtkahhclmmlkpjaaBq
namespace Go.Proofs.Ytkahhclmmlkpjaa
open Go.RowKit

abbrev lifeV (r : Int × Int) : Value := .tuple #[.int .i64 r.1, .int .i64 r.2]

theorem wearE_zero {P : Prt} {l : List Us} (h : wearE P l = 0) : partM P l = 0 ∧ reachN P l = l.length := by
  unfold wearE at h
  split at h
  · rename_i h1
    split at h
    · omega
    · have := reachN_le P l; exact ⟨h1, by omega⟩
  · rename_i h1; exact absurd h h1

theorem wear_bd {P : Prt} {l : List Us} (hP : POk P) (hn : l.length ≤ 40) (hl : UOks P l) {i : Nat} (hi : i < l.length) : -40000000000000 ≤ (wearAt P l i).1 ∧ (wearAt P l i).1 ≤ 40000000000000 ∧ -40000000000000 ≤ (wearAt P l i).2 ∧ (wearAt P l i).2 ≤ 40000000000000 := by
  have := bkd_bd hP hn hl (l.length - 1 - i) (by omega)
  unfold wearAt
  omega

theorem wearL_get {P : Prt} {l : List Us} {i : Nat} (hi : i < l.length) : (wearL P l).getD i Spn.zero = wearAt P l i := by
  unfold wearL
  rw [List.getD_eq_getElem?_getD, List.getElem?_map, List.getElem?_range hi]; rfl

theorem life_bad {P : Prt} {l : List Us} {g : Bool} (h : ¬ wearE P l = 0) : lifeM P l g = (0, wearE P l) := by
  unfold lifeM wearE at *
  split
  · rename_i h1
    rw [if_pos h1] at h
    split
    · rfl
    · rename_i h2; rw [if_neg h2] at h; omega
  · rfl

theorem life_at {P : Prt} {l : List Us} {g : Bool} {k : Nat} (h : wearE P l = 0) (hk : k < l.length) (h1 : ∀ i, i < k → wornM P l i (endOf g (wearAt P l i)) = false) (h2 : wornM P l k (endOf g (wearAt P l k)) = true) : lifeM P l g = ((k : Int), 0) := by
  obtain ⟨e1, e2⟩ := wearE_zero h
  have e : spentN P l g = k := firstB_eq (by omega) h1 (fun _ => h2)
  unfold lifeM firstM
  rw [if_pos e1, if_neg (by omega), e, if_pos hk]

theorem life_none {P : Prt} {l : List Us} {g : Bool} (h : wearE P l = 0) (h1 : ∀ i, i < l.length → wornM P l i (endOf g (wearAt P l i)) = false) : lifeM P l g = (-1, 0) := by
  obtain ⟨e1, e2⟩ := wearE_zero h
  have e : spentN P l g = l.length := firstB_eq (by omega) h1 (fun h => by omega)
  unfold lifeM firstM
  rw [if_pos e1, if_neg (by omega), e, if_neg (by omega)]

set_option maxHeartbeats 400000 in
theorem hiEnd_any (s : Spn) (w : World) : Calls Try.prog 86 #[spnV s] w fun e w' => e = .returned (.int .i64 (endOf true s)) ∧ Below w.heap.size w w' := by
  go_enter Try.func86, Try.ntmps86
  go_wp2
  go_ret
  exact ⟨rfl, (Below.refl _ _).alloc (Nat.le_refl _) _⟩

set_option maxHeartbeats 400000 in
theorem loEnd_any (s : Spn) (w : World) : Calls Try.prog 88 #[spnV s] w fun e w' => e = .returned (.int .i64 (endOf false s)) ∧ Below w.heap.size w w' := by
  go_enter Try.func88, Try.ntmps88
  go_wp2
  go_ret
  exact ⟨rfl, (Below.refl _ _).alloc (Nat.le_refl _) _⟩

set_option maxRecDepth 100000 in
set_option maxHeartbeats 4000000 in
theorem spentHi_any (P : Prt) (l : List Us) (bv v : Value) (w : World) (hv : SpAt w bv P.rs) (hl : UsAt w v l) :
    Calls Try.prog 85 #[prtV P bv, v, .func (.func 86) #[] #[]] w fun e w' => e = .returned (lifeV (lifeM P l true)) ∧ Below w.heap.size w w' := by
  have HU0 := Lib.hid hl
  have HV0 := Lib.hid hv
  have hb0 := (Below.refl w.heap.size w).alloc (Nat.le_refl _) (Obj.cells #[bv, .int .i64 P.wo, .int .i64 P.tu, .int .i64 P.ag] 54)
  have k0 := block_new w (Obj.cells #[bv, .int .i64 P.wo, .int .i64 P.tu, .int .i64 P.ag] 54) w.heap.size rfl
  have HV := Lib.hid (hv.below hb0 (Nat.le_refl _))
  obtain ⟨a, cap, rfl, hn, hcap, hc⟩ := hv
  clear hc
  have HB := Lib.hid hb0
  have K0 := Lib.hid k0
  clear hb0 k0
  have HU := Lib.hid (HU0.out.below HB.out (Nat.le_refl _))
  obtain ⟨ua, ucap, rfl, un, ucl, uc⟩ := hl
  have HUC := Lib.hid uc
  clear uc
  by_cases hq : wearE P l = 0
  · obtain ⟨hp0, hr0⟩ := wearE_zero hq
    obtain ⟨hP, h40, hU⟩ := partM_ok hp0
    have HQ := Lib.hid hq
    have HBD := Lib.hid (fun i (hi : i < l.length) => wear_bd hP h40 hU hi)
    have HT := Lib.hid (fun i (hi : i ≤ l.length) => turnsTo_bd hU i hi)
    have HDU := Lib.hid (fun i (hi : i < l.length) => (hU i hi))
    have HLM := Lib.hid (fun k => life_at (P := P) (l := l) (g := true) (k := k) hq)
    have HLN := Lib.hid (life_none (P := P) (l := l) (g := true) hq)
    have w0 := hP.w0
    have w1 := hP.w1
    clear hq hP hU hp0 hr0
    go_enter Try.func85, Try.ntmps85
    go_wp2_with fail
    generalize w.alloc (Obj.cells #[Value.slice a P.rs.length cap, .int .i64 P.wo, .int .i64 P.tu, .int .i64 P.ag] 54) = wA at *
    have hce := block_cell K0.out
    go_wp2_with fail
    refine (kwear_any P l _ _ _ HV.out HU.out).mono ?_
    rintro e w2 ⟨v2, rfl, hb2, ho, _⟩
    have ho2 := ho HQ.out
    rw [HQ.out]
    have hel := ElAt.of_own (m := 2) (f := spnL) (xs := wearL P l) (fun _ => rfl) (by rw [wearL_len]; exact ho2)
    obtain ⟨a2, c2, rfl, n2, m2, hcc⟩ := hel
    rw [wearL_len] at *
    have HCC := Lib.hid hcc
    clear ho ho2 hcc hce
    go_wp2_with fail
    go_loopw [10, 24] (fun t i wr => ∃ k : Nat, k ≤ l.length ∧ i = .int .i64 k ∧ t = .int .i64 (turnsTo l k) ∧ Below wA.heap.size wA wr ∧ Hid (Below w2.heap.size w2 wr) ∧ Hid (∀ i, i < k → wornM P l i (endOf true (wearAt P l i)) = false)) (fun _ i _ => l.length - (intOf i).toNat)
    case atStart => exact ⟨0, Nat.zero_le _, rfl, rfl, hb2, Below.refl _ _, fun i hi => by omega⟩
    case round =>
      obtain ⟨k, hk, rfl, rfl, hb, hb2', hf⟩ := hrel
      by_cases hlt : k < l.length
      · obtain ⟨b, off, rfl, hbl, hc⟩ := HUC.out (by omega)
        have hbw := HB.out.trans (hb.mono HB.out.size)
        have kp := (hb.block _ (lt_of_block K0.out)).trans K0.out
        obtain ⟨g1, g2, g3, g4, g5, g6⟩ := us_at hbw hbl hc hlt
        obtain ⟨sb, so, rfl, sbl, scc⟩ := HCC.out (by omega)
        obtain ⟨s1, s2⟩ := sp_at hb2'.out sbl scc (k := k) (by rw [wearL_len]; exact hlt)
        rw [wearL_get hlt] at s1 s2
        have Hs := Lib.hid (show turnsTo l (k + 1) = turnsTo l k + (l.getD k Us.zero).t from rfl)
        have Hw := Lib.hid (show wornM P l k (endOf true (wearAt P l k)) = spentM P (endOf true (wearAt P l k)) (turnsTo l (k + 1)) (l.getD k Us.zero).d from rfl)
        have hu := HDU.out k hlt
        have ht := HT.out k hk
        obtain ⟨t0, t1⟩ : 0 ≤ (l.getD k Us.zero).t ∧ (l.getD k Us.zero).t ≤ 1000000 := ⟨hu.t0, hu.t1⟩
        have hz := lt_of_block kp
        have hz2 : b < wr.heap.size := by have := hbw.size; omega
        have hz3 : sb < wr.heap.size := by have := hb2'.out.size; omega
        have k1 : (0 : Int) ≤ k := by omega
        have k2 : (k : Int) < l.length := by omega
        have hpc := block_cell kp
        clear hc scc hu hbw
        generalize turnsTo l k = t at *
        generalize hs0 : wearAt P l k = s at *
        generalize hq0 : l.getD k Us.zero = u at *
        have HS0 := Lib.hid hs0
        clear hs0
        have KP := Lib.hid kp
        have HU1 := Lib.hid hq0
        have HBR := Lib.hid hb
        have HB2 := Lib.hid hb2'.out
        clear kp hq0 hb
        go_wp2_with fail
        have hbU := (Below.refl wr.heap.size wr).alloc (Nat.le_refl _) (Obj.cells #[.int .i64 u.d, .int .i64 u.t, .int .i64 u.c, .bool u.m, .int .i64 u.lo, .int .i64 u.hi] 89)
        have kU := block_new wr (Obj.cells #[.int .i64 u.d, .int .i64 u.t, .int .i64 u.c, .bool u.m, .int .i64 u.lo, .int .i64 u.hi] 89) wr.heap.size rfl
        have kPU := (hbU.block _ hz).trans KP.out
        have q1 := (hbU.cell hz3).trans s1
        have q2 := (hbU.cell hz3).trans s2
        have hzz := hbU.size
        generalize wr.alloc (Obj.cells #[.int .i64 u.d, .int .i64 u.t, .int .i64 u.c, .bool u.m, .int .i64 u.lo, .int .i64 u.hi] 89) = wU at *
        have hz4 := lt_of_block kU
        have x1 := bw_cells (B := wU.heap.size) kPU (by omega)
        have x2 := bw_cells (B := wU.heap.size) kU hz4
        have x3 := bw_cell (B := wU.heap.size) q1 (by show sb < wU.heap.size; omega)
        have x4 := bw_cell (B := wU.heap.size) q2 (by show sb < wU.heap.size; omega)
        clear q1 q2 s1 s2 kU kPU g1 g2 g3 g4 g5 g6 hpc
        refine wp_region_below (by kernel_rfl) (by kernel_rfl) (Below.refl wU.heap.size wU) ?_
        repeat (refine wpQuiet_step (fun K hK => ?_); go_simp; first | (refine hK _ ?_; clear hK K) | (apply Exists.intro; refine ⟨fun _ => ?_, hK _ ?_⟩; (first | (go_at_call 86; exact bw_call (Nat.le_refl _) (hiEnd_any s _)) | (go_at_call 92; exact bw_call (Nat.le_refl _) (spent_any P _ _ _ _ _ (by omega) (by omega)))); clear hK K))
        refine wpQuiet_nil ?_
        intro wq hwq0
        have hwq := bw_out hwq0
        clear hwq0
        have hb5 := HBR.out.trans ((hbU.trans (hwq.mono hbU.size)).mono HBR.out.size)
        have hb6 := HB2.out.trans ((hbU.trans (hwq.mono hbU.size)).mono HB2.out.size)
        have HB5 := Lib.hid hb5
        have HB6 := Lib.hid hb6
        clear hb5 hb6 hwq hbU x1 x2 x3 x4
        rw [← Hs.out]
        rw [← Hw.out]
        cases hqw : wornM P l k (endOf true s)
        · have HK := Lib.hid hqw
          clear hqw
          go_wp2
          go_roundw
          case rel => exact ⟨k + 1, hlt, by go_num, rfl, HB5.out, HB6.out, fun i hi => by
            by_cases hik : i = k
            · rw [hik, HS0.out]; exact HK.out
            · exact hf.out i (by omega)⟩
          case measure => simp [intOf]; omega
        · have HK := Lib.hid hqw
          clear hqw
          go_wp2
          go_ret2
          exact ⟨congrArg (fun r => Ending.returned (lifeV r)) (HLM.out k hlt hf.out (by rw [HS0.out]; exact HK.out)).symm, HB.out.trans (HB5.out.mono HB.out.size)⟩
      · have HN := Lib.hid (HLN.out (fun i hi => hf.out i (by omega)))
        go_wp2
        go_ret2
        exact ⟨congrArg (fun r => Ending.returned (lifeV r)) HN.out.symm, HB.out.trans (hb.mono HB.out.size)⟩
  · have HN := Lib.hid (life_bad (g := true) hq)
    go_enter Try.func85, Try.ntmps85
    go_wp2_with fail
    generalize w.alloc (Obj.cells #[Value.slice a P.rs.length cap, .int .i64 P.wo, .int .i64 P.tu, .int .i64 P.ag] 54) = wA at *
    have hce := block_cell K0.out
    go_wp2_with fail
    refine (kwear_any P l _ _ _ HV.out HU.out).mono ?_
    rintro e w2 ⟨v2, rfl, hb2, _, hnil⟩
    have hv2 := hnil hq
    subst hv2
    clear hnil
    generalize wearE P l = f at *
    go_wp2
    go_ret2
    exact ⟨congrArg (fun r => Ending.returned (lifeV r)) HN.out.symm, HB.out.trans (hb2.mono HB.out.size)⟩

set_option maxRecDepth 100000 in
set_option maxHeartbeats 4000000 in
theorem spentLo_any (P : Prt) (l : List Us) (bv v : Value) (w : World) (hv : SpAt w bv P.rs) (hl : UsAt w v l) :
    Calls Try.prog 85 #[prtV P bv, v, .func (.func 88) #[] #[]] w fun e w' => e = .returned (lifeV (lifeM P l false)) ∧ Below w.heap.size w w' := by
  have HU0 := Lib.hid hl
  have HV0 := Lib.hid hv
  have hb0 := (Below.refl w.heap.size w).alloc (Nat.le_refl _) (Obj.cells #[bv, .int .i64 P.wo, .int .i64 P.tu, .int .i64 P.ag] 54)
  have k0 := block_new w (Obj.cells #[bv, .int .i64 P.wo, .int .i64 P.tu, .int .i64 P.ag] 54) w.heap.size rfl
  have HV := Lib.hid (hv.below hb0 (Nat.le_refl _))
  obtain ⟨a, cap, rfl, hn, hcap, hc⟩ := hv
  clear hc
  have HB := Lib.hid hb0
  have K0 := Lib.hid k0
  clear hb0 k0
  have HU := Lib.hid (HU0.out.below HB.out (Nat.le_refl _))
  obtain ⟨ua, ucap, rfl, un, ucl, uc⟩ := hl
  have HUC := Lib.hid uc
  clear uc
  by_cases hq : wearE P l = 0
  · obtain ⟨hp0, hr0⟩ := wearE_zero hq
    obtain ⟨hP, h40, hU⟩ := partM_ok hp0
    have HQ := Lib.hid hq
    have HBD := Lib.hid (fun i (hi : i < l.length) => wear_bd hP h40 hU hi)
    have HT := Lib.hid (fun i (hi : i ≤ l.length) => turnsTo_bd hU i hi)
    have HDU := Lib.hid (fun i (hi : i < l.length) => (hU i hi))
    have HLM := Lib.hid (fun k => life_at (P := P) (l := l) (g := false) (k := k) hq)
    have HLN := Lib.hid (life_none (P := P) (l := l) (g := false) hq)
    have w0 := hP.w0
    have w1 := hP.w1
    clear hq hP hU hp0 hr0
    go_enter Try.func85, Try.ntmps85
    go_wp2_with fail
    generalize w.alloc (Obj.cells #[Value.slice a P.rs.length cap, .int .i64 P.wo, .int .i64 P.tu, .int .i64 P.ag] 54) = wA at *
    have hce := block_cell K0.out
    go_wp2_with fail
    refine (kwear_any P l _ _ _ HV.out HU.out).mono ?_
    rintro e w2 ⟨v2, rfl, hb2, ho, _⟩
    have ho2 := ho HQ.out
    rw [HQ.out]
    have hel := ElAt.of_own (m := 2) (f := spnL) (xs := wearL P l) (fun _ => rfl) (by rw [wearL_len]; exact ho2)
    obtain ⟨a2, c2, rfl, n2, m2, hcc⟩ := hel
    rw [wearL_len] at *
    have HCC := Lib.hid hcc
    clear ho ho2 hcc hce
    go_wp2_with fail
    go_loopw [10, 24] (fun t i wr => ∃ k : Nat, k ≤ l.length ∧ i = .int .i64 k ∧ t = .int .i64 (turnsTo l k) ∧ Below wA.heap.size wA wr ∧ Hid (Below w2.heap.size w2 wr) ∧ Hid (∀ i, i < k → wornM P l i (endOf false (wearAt P l i)) = false)) (fun _ i _ => l.length - (intOf i).toNat)
    case atStart => exact ⟨0, Nat.zero_le _, rfl, rfl, hb2, Below.refl _ _, fun i hi => by omega⟩
    case round =>
      obtain ⟨k, hk, rfl, rfl, hb, hb2', hf⟩ := hrel
      by_cases hlt : k < l.length
      · obtain ⟨b, off, rfl, hbl, hc⟩ := HUC.out (by omega)
        have hbw := HB.out.trans (hb.mono HB.out.size)
        have kp := (hb.block _ (lt_of_block K0.out)).trans K0.out
        obtain ⟨g1, g2, g3, g4, g5, g6⟩ := us_at hbw hbl hc hlt
        obtain ⟨sb, so, rfl, sbl, scc⟩ := HCC.out (by omega)
        obtain ⟨s1, s2⟩ := sp_at hb2'.out sbl scc (k := k) (by rw [wearL_len]; exact hlt)
        rw [wearL_get hlt] at s1 s2
        have Hs := Lib.hid (show turnsTo l (k + 1) = turnsTo l k + (l.getD k Us.zero).t from rfl)
        have Hw := Lib.hid (show wornM P l k (endOf false (wearAt P l k)) = spentM P (endOf false (wearAt P l k)) (turnsTo l (k + 1)) (l.getD k Us.zero).d from rfl)
        have hu := HDU.out k hlt
        have ht := HT.out k hk
        obtain ⟨t0, t1⟩ : 0 ≤ (l.getD k Us.zero).t ∧ (l.getD k Us.zero).t ≤ 1000000 := ⟨hu.t0, hu.t1⟩
        have hz := lt_of_block kp
        have hz2 : b < wr.heap.size := by have := hbw.size; omega
        have hz3 : sb < wr.heap.size := by have := hb2'.out.size; omega
        have k1 : (0 : Int) ≤ k := by omega
        have k2 : (k : Int) < l.length := by omega
        have hpc := block_cell kp
        clear hc scc hu hbw
        generalize turnsTo l k = t at *
        generalize hs0 : wearAt P l k = s at *
        generalize hq0 : l.getD k Us.zero = u at *
        have HS0 := Lib.hid hs0
        clear hs0
        have KP := Lib.hid kp
        have HU1 := Lib.hid hq0
        have HBR := Lib.hid hb
        have HB2 := Lib.hid hb2'.out
        clear kp hq0 hb
        go_wp2_with fail
        have hbU := (Below.refl wr.heap.size wr).alloc (Nat.le_refl _) (Obj.cells #[.int .i64 u.d, .int .i64 u.t, .int .i64 u.c, .bool u.m, .int .i64 u.lo, .int .i64 u.hi] 89)
        have kU := block_new wr (Obj.cells #[.int .i64 u.d, .int .i64 u.t, .int .i64 u.c, .bool u.m, .int .i64 u.lo, .int .i64 u.hi] 89) wr.heap.size rfl
        have kPU := (hbU.block _ hz).trans KP.out
        have q1 := (hbU.cell hz3).trans s1
        have q2 := (hbU.cell hz3).trans s2
        have hzz := hbU.size
        generalize wr.alloc (Obj.cells #[.int .i64 u.d, .int .i64 u.t, .int .i64 u.c, .bool u.m, .int .i64 u.lo, .int .i64 u.hi] 89) = wU at *
        have hz4 := lt_of_block kU
        have x1 := bw_cells (B := wU.heap.size) kPU (by omega)
        have x2 := bw_cells (B := wU.heap.size) kU hz4
        have x3 := bw_cell (B := wU.heap.size) q1 (by show sb < wU.heap.size; omega)
        have x4 := bw_cell (B := wU.heap.size) q2 (by show sb < wU.heap.size; omega)
        clear q1 q2 s1 s2 kU kPU g1 g2 g3 g4 g5 g6 hpc
        refine wp_region_below (by kernel_rfl) (by kernel_rfl) (Below.refl wU.heap.size wU) ?_
        repeat (refine wpQuiet_step (fun K hK => ?_); go_simp; first | (refine hK _ ?_; clear hK K) | (apply Exists.intro; refine ⟨fun _ => ?_, hK _ ?_⟩; (first | (go_at_call 88; exact bw_call (Nat.le_refl _) (loEnd_any s _)) | (go_at_call 92; exact bw_call (Nat.le_refl _) (spent_any P _ _ _ _ _ (by omega) (by omega)))); clear hK K))
        refine wpQuiet_nil ?_
        intro wq hwq0
        have hwq := bw_out hwq0
        clear hwq0
        have hb5 := HBR.out.trans ((hbU.trans (hwq.mono hbU.size)).mono HBR.out.size)
        have hb6 := HB2.out.trans ((hbU.trans (hwq.mono hbU.size)).mono HB2.out.size)
        have HB5 := Lib.hid hb5
        have HB6 := Lib.hid hb6
        clear hb5 hb6 hwq hbU x1 x2 x3 x4
        rw [← Hs.out]
        rw [← Hw.out]
        cases hqw : wornM P l k (endOf false s)
        · have HK := Lib.hid hqw
          clear hqw
          go_wp2
          go_roundw
          case rel => exact ⟨k + 1, hlt, by go_num, rfl, HB5.out, HB6.out, fun i hi => by
            by_cases hik : i = k
            · rw [hik, HS0.out]; exact HK.out
            · exact hf.out i (by omega)⟩
          case measure => simp [intOf]; omega
        · have HK := Lib.hid hqw
          clear hqw
          go_wp2
          go_ret2
          exact ⟨congrArg (fun r => Ending.returned (lifeV r)) (HLM.out k hlt hf.out (by rw [HS0.out]; exact HK.out)).symm, HB.out.trans (HB5.out.mono HB.out.size)⟩
      · have HN := Lib.hid (HLN.out (fun i hi => hf.out i (by omega)))
        go_wp2
        go_ret2
        exact ⟨congrArg (fun r => Ending.returned (lifeV r)) HN.out.symm, HB.out.trans (hb.mono HB.out.size)⟩
  · have HN := Lib.hid (life_bad (g := false) hq)
    go_enter Try.func85, Try.ntmps85
    go_wp2_with fail
    generalize w.alloc (Obj.cells #[Value.slice a P.rs.length cap, .int .i64 P.wo, .int .i64 P.tu, .int .i64 P.ag] 54) = wA at *
    have hce := block_cell K0.out
    go_wp2_with fail
    refine (kwear_any P l _ _ _ HV.out HU.out).mono ?_
    rintro e w2 ⟨v2, rfl, hb2, _, hnil⟩
    have hv2 := hnil hq
    subst hv2
    clear hnil
    generalize wearE P l = f at *
    go_wp2
    go_ret2
    exact ⟨congrArg (fun r => Ending.returned (lifeV r)) HN.out.symm, HB.out.trans (hb2.mono HB.out.size)⟩

set_option maxHeartbeats 400000 in
theorem kbeyond_any (P : Prt) (l : List Us) (bv v : Value) (w : World) (hv : SpAt w bv P.rs) (hl : UsAt w v l) :
    Calls Try.prog 46 #[prtV P bv, v] w fun e w' => e = .returned (lifeV (lifeM P l true)) ∧ Below w.heap.size w w' := by
  have HU0 := Lib.hid hl
  have hb0 := (Below.refl w.heap.size w).alloc (Nat.le_refl _) (Obj.cells #[bv, .int .i64 P.wo, .int .i64 P.tu, .int .i64 P.ag] 54)
  have k0 := block_new w (Obj.cells #[bv, .int .i64 P.wo, .int .i64 P.tu, .int .i64 P.ag] 54) w.heap.size rfl
  have HV := Lib.hid (hv.below hb0 (Nat.le_refl _))
  obtain ⟨a, cap, rfl, hn, hcap, hc⟩ := hv
  clear hc
  have HB := Lib.hid hb0
  have K0 := Lib.hid k0
  clear hb0 k0
  have HU := Lib.hid (HU0.out.below HB.out (Nat.le_refl _))
  obtain ⟨ua, ucap, rfl, un, ucl, uc⟩ := hl
  clear uc
  go_enter Try.func46, Try.ntmps46
  go_wp2_with fail
  generalize w.alloc (Obj.cells #[Value.slice a P.rs.length cap, .int .i64 P.wo, .int .i64 P.tu, .int .i64 P.ag] 54) = wA at *
  have hce := block_cell K0.out
  go_wp2_with fail
  refine (spentHi_any P l _ _ _ HV.out HU.out).mono ?_
  rintro e w2 ⟨rfl, hb2⟩
  go_wp2
  go_ret2
  exact ⟨rfl, HB.out.trans (hb2.mono HB.out.size)⟩

set_option maxHeartbeats 400000 in
theorem ksurely_any (P : Prt) (l : List Us) (bv v : Value) (w : World) (hv : SpAt w bv P.rs) (hl : UsAt w v l) :
    Calls Try.prog 48 #[prtV P bv, v] w fun e w' => e = .returned (lifeV (lifeM P l false)) ∧ Below w.heap.size w w' := by
  have HU0 := Lib.hid hl
  have hb0 := (Below.refl w.heap.size w).alloc (Nat.le_refl _) (Obj.cells #[bv, .int .i64 P.wo, .int .i64 P.tu, .int .i64 P.ag] 54)
  have k0 := block_new w (Obj.cells #[bv, .int .i64 P.wo, .int .i64 P.tu, .int .i64 P.ag] 54) w.heap.size rfl
  have HV := Lib.hid (hv.below hb0 (Nat.le_refl _))
  obtain ⟨a, cap, rfl, hn, hcap, hc⟩ := hv
  clear hc
  have HB := Lib.hid hb0
  have K0 := Lib.hid k0
  clear hb0 k0
  have HU := Lib.hid (HU0.out.below HB.out (Nat.le_refl _))
  obtain ⟨ua, ucap, rfl, un, ucl, uc⟩ := hl
  clear uc
  go_enter Try.func48, Try.ntmps48
  go_wp2_with fail
  generalize w.alloc (Obj.cells #[Value.slice a P.rs.length cap, .int .i64 P.wo, .int .i64 P.tu, .int .i64 P.ag] 54) = wA at *
  have hce := block_cell K0.out
  go_wp2_with fail
  refine (spentLo_any P l _ _ _ HV.out HU.out).mono ?_
  rintro e w2 ⟨rfl, hb2⟩
  go_wp2
  go_ret2
  exact ⟨rfl, HB.out.trans (hb2.mono HB.out.size)⟩

end Go.Proofs.Ytkahhclmmlkpjaa
