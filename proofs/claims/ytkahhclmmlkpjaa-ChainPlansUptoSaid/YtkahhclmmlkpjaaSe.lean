/- Walks of layer 2 (chain), parts: the specification's Wear, Refuted, Beyond, Surely. -/
import Derived.Test.YtkahhclmmlkpjaaSd
namespace Go.Proofs.Ytkahhclmmlkpjaa
open Go.RowKit

set_option maxHeartbeats 2000000 in
theorem rWear_any (P : Prt) (l : List Us) (bv v : Value) (w : World) (hv : SpAt w bv P.rs) (hl : UsAt w v l) :
    Calls Try.prog 43 #[prtV P bv, v] w (WearRes P l w) := by
  have HU0 := Lib.hid hl
  have hb0 := (Below.refl w.heap.size w).alloc (Nat.le_refl _) (Obj.cells #[bv, .int .i64 P.wo, .int .i64 P.tu, .int .i64 P.ag] 54)
  have k0 := block_new w (Obj.cells #[bv, .int .i64 P.wo, .int .i64 P.tu, .int .i64 P.ag] 54) w.heap.size rfl
  have HV := Lib.hid (hv.below hb0 (Nat.le_refl _))
  obtain ⟨a, cap, rfl, hn, hcap, hc⟩ := hv
  clear hc
  have HB := Lib.hid hb0
  have K0 := Lib.hid k0
  clear hb0 k0
  have HU := Lib.hid (HU0.out.below HB.out (Nat.le_refl _))
  obtain ⟨ua, ucap, rfl, un, ucl, uc⟩ := hl
  clear uc
  by_cases hq : partM P l = 0
  · have HQ := Lib.hid hq
    have HN := Lib.hid (fun h => wearE_none (P := P) (l := l) hq h)
    have HO := Lib.hid (fun h => wearE_ok (P := P) (l := l) hq h)
    clear hq
    go_enter Try.func43, Try.ntmps43
    go_wp2_with fail
    generalize w.alloc (Obj.cells #[Value.slice a P.rs.length cap, .int .i64 P.wo, .int .i64 P.tu, .int .i64 P.ag] 54) = wA at *
    have hce := block_cell K0.out
    go_wp2_with fail
    refine (rcheckPart_any P l _ _ _ HV.out HU.out).mono ?_
    rintro e w1 ⟨rfl, hb1⟩
    clear hce
    have hce := block_cell ((hb1.block _ (lt_of_block K0.out)).trans K0.out)
    have HB1 := Lib.hid hb1
    have HBW1 := Lib.hid (HB.out.trans (hb1.mono HB.out.size))
    clear hb1
    rw [HQ.out]
    go_wp2_with fail
    refine (rwear0_any P l _ _ _ (HV.out.below HB1.out (Nat.le_refl _)) (HU.out.below HB1.out (Nat.le_refl _)) HQ.out).mono ?_
    rintro e w2 ⟨hb2, ⟨hr, rfl⟩ | ⟨hr, v1, rfl, ho⟩⟩
    · have HE := Lib.hid (HN.out hr)
      clear hr
      go_wp2
      go_ret2
      exact WearRes.bad (HBW1.out.trans (hb2.mono HBW1.out.size)) HE.out (by decide)
    · have HE := Lib.hid (HO.out (by omega))
      obtain ⟨a2, c2, rfl, _⟩ := ownsRow_shape ho
      have HOW := Lib.hid (ownsRow_mono ho HBW1.out.size)
      clear hr ho
      go_wp2
      go_ret2
      exact WearRes.ok (HBW1.out.trans (hb2.mono HBW1.out.size)) HE.out HOW.out
  · have HE := Lib.hid (wearE_bad hq)
    go_enter Try.func43, Try.ntmps43
    go_wp2_with fail
    generalize w.alloc (Obj.cells #[Value.slice a P.rs.length cap, .int .i64 P.wo, .int .i64 P.tu, .int .i64 P.ag] 54) = wA at *
    have hce := block_cell K0.out
    go_wp2_with fail
    refine (rcheckPart_any P l _ _ _ HV.out HU.out).mono ?_
    rintro e w1 ⟨rfl, hb1⟩
    clear hce
    have hce := block_cell ((hb1.block _ (lt_of_block K0.out)).trans K0.out)
    have HB1 := Lib.hid hb1
    have HBW1 := Lib.hid (HB.out.trans (hb1.mono HB.out.size))
    clear hb1
    generalize partM P l = f at *
    go_wp2
    go_ret2
    exact WearRes.bad HBW1.out HE.out hq

set_option maxHeartbeats 2000000 in
theorem rrefuted_any (P : Prt) (l : List Us) (bv v : Value) (w : World) (hv : SpAt w bv P.rs) (hl : UsAt w v l) :
    Calls Try.prog 45 #[prtV P bv, v] w fun e w' => e = .returned (refV (refM P l)) ∧ Below w.heap.size w w' := by
  have HU0 := Lib.hid hl
  have hb0 := (Below.refl w.heap.size w).alloc (Nat.le_refl _) (Obj.cells #[bv, .int .i64 P.wo, .int .i64 P.tu, .int .i64 P.ag] 54)
  have k0 := block_new w (Obj.cells #[bv, .int .i64 P.wo, .int .i64 P.tu, .int .i64 P.ag] 54) w.heap.size rfl
  have HV := Lib.hid (hv.below hb0 (Nat.le_refl _))
  obtain ⟨a, cap, rfl, hn, hcap, hc⟩ := hv
  clear hc
  have HB := Lib.hid hb0
  have K0 := Lib.hid k0
  clear hb0 k0
  have HU := Lib.hid (HU0.out.below HB.out (Nat.le_refl _))
  obtain ⟨ua, ucap, rfl, un, ucl, uc⟩ := hl
  clear uc
  by_cases hq : partM P l = 0
  · have HQ := Lib.hid hq
    have HN := Lib.hid (fun (h : reachN P l < l.length) => show (⟨reachN P l, true, 0⟩ : RefA) = refM P l by unfold refM; rw [if_pos hq, if_pos h])
    have HO := Lib.hid (fun (h : ¬ reachN P l < l.length) => show (⟨0, false, 0⟩ : RefA) = refM P l by unfold refM; rw [if_pos hq, if_neg h])
    clear hq
    go_enter Try.func45, Try.ntmps45
    go_wp2_with fail
    generalize w.alloc (Obj.cells #[Value.slice a P.rs.length cap, .int .i64 P.wo, .int .i64 P.tu, .int .i64 P.ag] 54) = wA at *
    have hce := block_cell K0.out
    go_wp2_with fail
    refine (rcheckPart_any P l _ _ _ HV.out HU.out).mono ?_
    rintro e w1 ⟨rfl, hb1⟩
    clear hce
    have hce := block_cell ((hb1.block _ (lt_of_block K0.out)).trans K0.out)
    have HB1 := Lib.hid hb1
    have HBW1 := Lib.hid (HB.out.trans (hb1.mono HB.out.size))
    clear hb1
    rw [HQ.out]
    go_wp2_with fail
    refine (rforward_any P l _ _ _ (HV.out.below HB1.out (Nat.le_refl _)) (HU.out.below HB1.out (Nat.le_refl _)) HQ.out).mono ?_
    rintro e w2 ⟨hb2, ⟨hr, rfl⟩ | ⟨hr, v1, rfl, ho⟩⟩
    · have HE := Lib.hid (HN.out hr)
      have r0 : (0 : Int) ≤ (reachN P l : Int) := by omega
      have HB2 := Lib.hid (HBW1.out.trans (hb2.mono HBW1.out.size))
      clear hr hb2
      generalize reachN P l = r at *
      go_wp2
      all_goals
        go_ret3
        refine ⟨(congrArg Ending.returned ?_).trans (congrArg (fun r => Ending.returned (refV r)) HE.out), HB2.out⟩
        simp
        try omega
    · have HE := Lib.hid (HO.out (by omega))
      obtain ⟨a2, c2, rfl, _⟩ := ownsRow_shape ho
      have HB2 := Lib.hid (HBW1.out.trans (hb2.mono HBW1.out.size))
      clear hr ho hb2
      go_wp2
      go_ret3
      exact ⟨congrArg (fun r => Ending.returned (refV r)) HE.out, HB2.out⟩
  · have HE := Lib.hid (show (⟨0, false, partM P l⟩ : RefA) = refM P l by unfold refM; rw [if_neg hq])
    go_enter Try.func45, Try.ntmps45
    go_wp2_with fail
    generalize w.alloc (Obj.cells #[Value.slice a P.rs.length cap, .int .i64 P.wo, .int .i64 P.tu, .int .i64 P.ag] 54) = wA at *
    have hce := block_cell K0.out
    go_wp2_with fail
    refine (rcheckPart_any P l _ _ _ HV.out HU.out).mono ?_
    rintro e w1 ⟨rfl, hb1⟩
    clear hce
    have hce := block_cell ((hb1.block _ (lt_of_block K0.out)).trans K0.out)
    have HB1 := Lib.hid hb1
    have HBW1 := Lib.hid (HB.out.trans (hb1.mono HB.out.size))
    clear hb1
    generalize partM P l = f at *
    go_wp2
    go_ret3
    exact ⟨congrArg (fun r => Ending.returned (refV r)) HE.out, HBW1.out⟩

set_option maxHeartbeats 2000000 in
theorem rBeyond_any (P : Prt) (l : List Us) (bv v : Value) (w : World) (hv : SpAt w bv P.rs) (hl : UsAt w v l) :
    Calls Try.prog 47 #[prtV P bv, v] w fun e w' => e = .returned (lifeV (lifeM P l true)) ∧ Below w.heap.size w w' := by
  have HU0 := Lib.hid hl
  have hb0 := (Below.refl w.heap.size w).alloc (Nat.le_refl _) (Obj.cells #[bv, .int .i64 P.wo, .int .i64 P.tu, .int .i64 P.ag] 54)
  have k0 := block_new w (Obj.cells #[bv, .int .i64 P.wo, .int .i64 P.tu, .int .i64 P.ag] 54) w.heap.size rfl
  have HV := Lib.hid (hv.below hb0 (Nat.le_refl _))
  obtain ⟨a, cap, rfl, hn, hcap, hc⟩ := hv
  clear hc
  have HB := Lib.hid hb0
  have K0 := Lib.hid k0
  clear hb0 k0
  have HU := Lib.hid (HU0.out.below HB.out (Nat.le_refl _))
  obtain ⟨ua, ucap, rfl, un, ucl, uc⟩ := hl
  clear uc
  have HLB := Lib.hid (fun h => life_bad (P := P) (l := l) (g := true) h)
  go_enter Try.func47, Try.ntmps47
  go_wp2_with fail
  generalize w.alloc (Obj.cells #[Value.slice a P.rs.length cap, .int .i64 P.wo, .int .i64 P.tu, .int .i64 P.ag] 54) = wA at *
  have hce := block_cell K0.out
  go_wp2_with fail
  refine (rWear_any P l _ _ _ HV.out HU.out).mono ?_
  rintro e w1 ⟨v1, rfl, hb1, ho, hn0⟩
  clear hce
  have hce := block_cell ((hb1.block _ (lt_of_block K0.out)).trans K0.out)
  by_cases hq : wearE P l = 0
  · have hso := ho hq
    have hel := ElAt.of_own (m := 2) (f := spnL) (xs := wearL P l) (fun _ => rfl) (by rw [wearL_len]; exact hso)
    obtain ⟨e1, e2⟩ := wearE_zero hq
    obtain ⟨hP, h40, hU⟩ := partM_ok e1
    have HEL := Lib.hid hel
    have HP := Lib.hid hP
    have HUO := Lib.hid hU
    have HR := Lib.hid (show lifeM P l true = (firstM P l true, 0) by unfold lifeM; rw [if_pos e1, if_neg (by omega)])
    obtain ⟨sa, scap, rfl, _⟩ := ownsRow_shape hso
    rw [hq]
    have HB1 := Lib.hid hb1
    clear hso hel ho hn0 e1 e2 hP hU hq hb1
    go_wp2_with fail
    refine (rbeyondHi_any P l _ _ _ _ (HV.out.below HB1.out (Nat.le_refl _)) (HU.out.below HB1.out (Nat.le_refl _)) HEL.out HP.out HUO.out h40).mono ?_
    rintro e w2 ⟨rfl, hb2⟩
    go_wp2
    go_ret2
    exact ⟨congrArg (fun r => Ending.returned (lifeV r)) HR.out.symm, HB.out.trans ((HB1.out.trans (hb2.mono HB1.out.size)).mono HB.out.size)⟩
  · obtain rfl := hn0 hq
    have HR := Lib.hid (HLB.out hq)
    clear ho hn0
    generalize wearE P l = f at *
    go_wp2
    go_ret2
    exact ⟨congrArg (fun r => Ending.returned (lifeV r)) HR.out.symm, HB.out.trans (hb1.mono HB.out.size)⟩

set_option maxHeartbeats 2000000 in
theorem rSurely_any (P : Prt) (l : List Us) (bv v : Value) (w : World) (hv : SpAt w bv P.rs) (hl : UsAt w v l) :
    Calls Try.prog 49 #[prtV P bv, v] w fun e w' => e = .returned (lifeV (lifeM P l false)) ∧ Below w.heap.size w w' := by
  have HU0 := Lib.hid hl
  have hb0 := (Below.refl w.heap.size w).alloc (Nat.le_refl _) (Obj.cells #[bv, .int .i64 P.wo, .int .i64 P.tu, .int .i64 P.ag] 54)
  have k0 := block_new w (Obj.cells #[bv, .int .i64 P.wo, .int .i64 P.tu, .int .i64 P.ag] 54) w.heap.size rfl
  have HV := Lib.hid (hv.below hb0 (Nat.le_refl _))
  obtain ⟨a, cap, rfl, hn, hcap, hc⟩ := hv
  clear hc
  have HB := Lib.hid hb0
  have K0 := Lib.hid k0
  clear hb0 k0
  have HU := Lib.hid (HU0.out.below HB.out (Nat.le_refl _))
  obtain ⟨ua, ucap, rfl, un, ucl, uc⟩ := hl
  clear uc
  have HLB := Lib.hid (fun h => life_bad (P := P) (l := l) (g := false) h)
  go_enter Try.func49, Try.ntmps49
  go_wp2_with fail
  generalize w.alloc (Obj.cells #[Value.slice a P.rs.length cap, .int .i64 P.wo, .int .i64 P.tu, .int .i64 P.ag] 54) = wA at *
  have hce := block_cell K0.out
  go_wp2_with fail
  refine (rWear_any P l _ _ _ HV.out HU.out).mono ?_
  rintro e w1 ⟨v1, rfl, hb1, ho, hn0⟩
  clear hce
  have hce := block_cell ((hb1.block _ (lt_of_block K0.out)).trans K0.out)
  by_cases hq : wearE P l = 0
  · have hso := ho hq
    have hel := ElAt.of_own (m := 2) (f := spnL) (xs := wearL P l) (fun _ => rfl) (by rw [wearL_len]; exact hso)
    obtain ⟨e1, e2⟩ := wearE_zero hq
    obtain ⟨hP, h40, hU⟩ := partM_ok e1
    have HEL := Lib.hid hel
    have HP := Lib.hid hP
    have HUO := Lib.hid hU
    have HR := Lib.hid (show lifeM P l false = (firstM P l false, 0) by unfold lifeM; rw [if_pos e1, if_neg (by omega)])
    obtain ⟨sa, scap, rfl, _⟩ := ownsRow_shape hso
    rw [hq]
    have HB1 := Lib.hid hb1
    clear hso hel ho hn0 e1 e2 hP hU hq hb1
    go_wp2_with fail
    refine (rbeyondLo_any P l _ _ _ _ (HV.out.below HB1.out (Nat.le_refl _)) (HU.out.below HB1.out (Nat.le_refl _)) HEL.out HP.out HUO.out h40).mono ?_
    rintro e w2 ⟨rfl, hb2⟩
    go_wp2
    go_ret2
    exact ⟨congrArg (fun r => Ending.returned (lifeV r)) HR.out.symm, HB.out.trans ((HB1.out.trans (hb2.mono HB1.out.size)).mono HB.out.size)⟩
  · obtain rfl := hn0 hq
    have HR := Lib.hid (HLB.out hq)
    clear ho hn0
    generalize wearE P l = f at *
    go_wp2
    go_ret2
    exact ⟨congrArg (fun r => Ending.returned (lifeV r)) HR.out.symm, HB.out.trans (hb1.mono HB.out.size)⟩

end Go.Proofs.Ytkahhclmmlkpjaa
