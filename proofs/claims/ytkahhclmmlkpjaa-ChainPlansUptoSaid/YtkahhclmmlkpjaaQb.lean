/- Walks of layer 2 (chain), parts: Wear, Refuted. -/
import Derived.Test.YtkahhclmmlkpjaaQa
namespace Go.Proofs.Ytkahhclmmlkpjaa
open Go.RowKit

set_option maxHeartbeats 1000000 in
theorem lookBack0_any (P : Prt) (bv : Value) (a c : Option Addr) (uc gc : Nat) (w : World) :
    Calls Try.prog 82 #[prtV P bv, .slice a 0 uc, .slice c 0 gc] w fun e w' => e = .returned (.tuple #[]) ∧ Below w.heap.size w w' := by
  go_enter Try.func82, Try.ntmps82
  go_wp2_with fail
  go_loopw [13] (fun i wr => i = .int .i64 0 ∧ Below w.heap.size w wr) (fun _ _ => 0)
  case atStart => exact ⟨rfl, (Below.refl _ _).alloc (Nat.le_refl _) _⟩
  case round =>
    obtain ⟨rfl, hb⟩ := hrel
    go_wp2
    go_end0
    exact ⟨rfl, hb⟩

def wearE (P : Prt) (l : List Us) : Int := if partM P l = 0 then (if reachN P l < l.length then 3 else 0) else partM P l
theorem wearE_bad {P : Prt} {l : List Us} (h : ¬ partM P l = 0) : wearE P l = partM P l := by unfold wearE; rw [if_neg h]
theorem wearE_none {P : Prt} {l : List Us} (h : partM P l = 0) (h2 : reachN P l < l.length) : wearE P l = 3 := by unfold wearE; rw [if_pos h, if_pos h2]
theorem wearE_ok {P : Prt} {l : List Us} (h : partM P l = 0) (h2 : ¬ reachN P l < l.length) : wearE P l = 0 := by unfold wearE; rw [if_pos h, if_neg h2]

/-- The answer of Wear. -/
def WearRes (P : Prt) (l : List Us) (w : World) (e : Ending) (w' : World) : Prop :=
  ∃ v, e = .returned (.tuple #[v, .int .i64 (wearE P l)]) ∧ Below w.heap.size w w' ∧ (wearE P l = 0 → w'.ownsRow w.heap.size 37 2 v l.length ((wearL P l).flatMap spnL)) ∧ (wearE P l ≠ 0 → v = .slice none 0 0)

theorem WearRes.bad {P : Prt} {l : List Us} {w w' : World} {f : Int} (hb : Below w.heap.size w w') (h : wearE P l = f) (hf : f ≠ 0) : WearRes P l w (.returned (.tuple #[.slice none 0 0, .int .i64 f])) w' := by
  subst h; exact ⟨_, rfl, hb, fun h => absurd h hf, fun _ => rfl⟩

theorem WearRes.ok {P : Prt} {l : List Us} {w w' : World} {v : Value} (hb : Below w.heap.size w w') (h : wearE P l = 0) (ho : w'.ownsRow w.heap.size 37 2 v l.length ((wearL P l).flatMap spnL)) : WearRes P l w (.returned (.tuple #[v, .int .i64 0])) w' :=
  ⟨v, by rw [h], hb, fun _ => ho, fun h' => absurd h h'⟩

set_option maxHeartbeats 2000000 in
theorem kwear_any (P : Prt) (l : List Us) (bv v : Value) (w : World) (hv : SpAt w bv P.rs) (hl : UsAt w v l) :
    Calls Try.prog 42 #[prtV P bv, v] w (WearRes P l w) := by
  have HU0 := Lib.hid hl
  have HV0 := Lib.hid hv
  have hb0 := (Below.refl w.heap.size w).alloc (Nat.le_refl _) (Obj.cells #[bv, .int .i64 P.wo, .int .i64 P.tu, .int .i64 P.ag] 54)
  have k0 := block_new w (Obj.cells #[bv, .int .i64 P.wo, .int .i64 P.tu, .int .i64 P.ag] 54) w.heap.size rfl
  have HV := Lib.hid (hv.below hb0 (Nat.le_refl _))
  obtain ⟨a, cap, rfl, hn, hcap, hc⟩ := hv
  clear hc
  have HB := Lib.hid hb0
  have K0 := Lib.hid k0
  clear hb0 k0
  have HU := Lib.hid (HU0.out.below HB.out (Nat.le_refl _))
  obtain ⟨ua, ucap, rfl, un, ucl, uc⟩ := hl
  clear uc
  by_cases hq : partM P l = 0
  · have HQ := Lib.hid hq
    clear hq
    by_cases hr : reachN P l < l.length
    · have HE := Lib.hid (wearE_none HQ.out hr)
      go_enter Try.func42, Try.ntmps42
      go_wp2_with fail
      generalize w.alloc (Obj.cells #[Value.slice a P.rs.length cap, .int .i64 P.wo, .int .i64 P.tu, .int .i64 P.ag] 54) = wA at *
      have hce := block_cell K0.out
      go_wp2_with fail
      refine (kcheckPart_any P l _ _ _ HV.out HU.out).mono ?_
      rintro e w1 ⟨rfl, hb1⟩
      rw [HQ.out]
      clear hce
      have hce := block_cell ((hb1.block _ (lt_of_block K0.out)).trans K0.out)
      go_wp2_with fail
      refine (reach_any P l _ _ _ (HV.out.below hb1 (Nat.le_refl _)) (HU.out.below hb1 (Nat.le_refl _)) HQ.out).mono ?_
      rintro e w2 ⟨v2, rfl, ho, hb2⟩
      obtain ⟨a2, c2, rfl, _⟩ := ownsRow_shape ho
      clear ho hce
      have hr' : (reachN P l : Int) < l.length := by omega
      go_wp2
      go_ret2
      exact WearRes.bad (HB.out.trans ((hb1.trans (hb2.mono hb1.size)).mono HB.out.size)) HE.out (by decide)
    · have HE := Lib.hid (wearE_ok HQ.out hr)
      have hrn : reachN P l = l.length := by have := reachN_le P l; omega
      have HRN := Lib.hid hrn
      clear hrn hr
      go_enter Try.func42, Try.ntmps42
      go_wp2_with fail
      generalize w.alloc (Obj.cells #[Value.slice a P.rs.length cap, .int .i64 P.wo, .int .i64 P.tu, .int .i64 P.ag] 54) = wA at *
      have hce := block_cell K0.out
      go_wp2_with fail
      refine (kcheckPart_any P l _ _ _ HV.out HU.out).mono ?_
      rintro e w1 ⟨rfl, hb1⟩
      rw [HQ.out]
      clear hce
      have hce := block_cell ((hb1.block _ (lt_of_block K0.out)).trans K0.out)
      go_wp2_with fail
      refine (reach_any P l _ _ _ (HV.out.below hb1 (Nat.le_refl _)) (HU.out.below hb1 (Nat.le_refl _)) HQ.out).mono ?_
      rintro e w2 ⟨v2, rfl, ho, hb2⟩
      rw [HRN.out] at ho
      have hbA2 := hb1.trans (hb2.mono hb1.size)
      clear hce
      have hce := block_cell ((hbA2.block _ (lt_of_block K0.out)).trans K0.out)
      have hbw2 := HB.out.trans (hbA2.mono HB.out.size)
      have hsz : w.heap.size ≤ w1.heap.size := Nat.le_trans HB.out.size hb1.size
      obtain ⟨a2, c2, rfl, hab⟩ := ownsRow_shape ho
      have HO := Lib.hid ho
      clear hab
      cases a2 with
      | none =>
        have hl0 : l.length = 0 := by
          rcases ho.2 with ⟨_, h⟩ | ⟨_, _, _, h, _⟩
          · exact h
          · cases h
        have hw0 : (wearL P l).flatMap spnL = [] := by
          have : wearL P l = [] := List.eq_nil_of_length_eq_zero (by rw [wearL_len]; exact hl0)
          rw [this]; rfl
        have HL0 := Lib.hid hl0
        have HW0 := Lib.hid hw0
        have HO0 := Lib.hid (show w2.ownsRow w.heap.size 37 2 (.slice none 0 c2) 0 [] from by
          rcases ho.2 with ⟨h, _⟩ | ⟨_, _, _, h, _⟩
          · injection h with _ _ h3
            rw [h3]
            exact ⟨rfl, .inl ⟨rfl, rfl⟩⟩
          · cases h)
        clear ho hw0
        rw [hl0]
        clear hl0
        go_wp2_with fail
        refine (lookBack0_any P _ _ _ _ _ _).mono ?_
        rintro e w3 ⟨rfl, hb3⟩
        go_wp2
        go_ret2
        refine WearRes.ok (hbw2.trans (hb3.mono hbw2.size)) HE.out ?_
        rw [HL0.out, HW0.out]
        exact ownsRow_below HO0.out hb3
      | some ad =>
        obtain ⟨g, rfl⟩ : ∃ g, ad = ⟨g, 0, none⟩ := by
          rcases ho.2 with ⟨h, _⟩ | ⟨g, _, _, h, _⟩
          · cases h
          · injection h with h1 _ _
            injection h1 with h1
            exact ⟨g, h1⟩
        obtain ⟨hg, hbase, hnc, hcm, _⟩ := SpRow.of_own ho
        have HG := Lib.hid hg
        have HBW2 := Lib.hid hbw2
        clear ho hg hb1 hb2 hbA2 hbw2
        go_wp2_with fail
        refine (lookBack_any P l _ _ g c2 w _ HV0.out HU0.out HBW2.out (by omega) HQ.out HG.out hnc hcm).mono ?_
        rintro e w3 ⟨rfl, hb3, hg3⟩
        have HO3 := Lib.hid (hg3.own (base := w.heap.size) (by omega) hnc hcm (wearL_len P l))
        clear hg3 hce
        go_wp2
        go_ret2
        exact WearRes.ok (HBW2.out.trans (hb3.mono (by omega))) HE.out HO3.out
  · have HE := Lib.hid (wearE_bad hq)
    go_enter Try.func42, Try.ntmps42
    go_wp2_with fail
    generalize w.alloc (Obj.cells #[Value.slice a P.rs.length cap, .int .i64 P.wo, .int .i64 P.tu, .int .i64 P.ag] 54) = wA at *
    have hce := block_cell K0.out
    go_wp2_with fail
    refine (kcheckPart_any P l _ _ _ HV.out HU.out).mono ?_
    rintro e w1 ⟨rfl, hb1⟩
    generalize partM P l = f at *
    go_wp2
    go_ret2
    exact WearRes.bad (HB.out.trans (hb1.mono HB.out.size)) HE.out hq

/-! ### Refuted -/
structure RefA where
  use : Int
  is : Bool
  e : Int
def refM (P : Prt) (l : List Us) : RefA := if partM P l = 0 then (if reachN P l < l.length then ⟨reachN P l, true, 0⟩ else ⟨0, false, 0⟩) else ⟨0, false, partM P l⟩
abbrev refV (r : RefA) : Value := .tuple #[.int .i64 r.use, .bool r.is, .int .i64 r.e]

set_option maxHeartbeats 2000000 in
theorem krefuted_any (P : Prt) (l : List Us) (bv v : Value) (w : World) (hv : SpAt w bv P.rs) (hl : UsAt w v l) :
    Calls Try.prog 44 #[prtV P bv, v] w fun e w' => e = .returned (refV (refM P l)) ∧ Below w.heap.size w w' := by
  have HU0 := Lib.hid hl
  have hb0 := (Below.refl w.heap.size w).alloc (Nat.le_refl _) (Obj.cells #[bv, .int .i64 P.wo, .int .i64 P.tu, .int .i64 P.ag] 54)
  have k0 := block_new w (Obj.cells #[bv, .int .i64 P.wo, .int .i64 P.tu, .int .i64 P.ag] 54) w.heap.size rfl
  have HV := Lib.hid (hv.below hb0 (Nat.le_refl _))
  obtain ⟨a, cap, rfl, hn, hcap, hc⟩ := hv
  clear hc
  have HB := Lib.hid hb0
  have K0 := Lib.hid k0
  clear hb0 k0
  have HU := Lib.hid (HU0.out.below HB.out (Nat.le_refl _))
  obtain ⟨ua, ucap, rfl, un, ucl, uc⟩ := hl
  clear uc
  by_cases hq : partM P l = 0
  · have HQ := Lib.hid hq
    clear hq
    by_cases hr : reachN P l < l.length
    all_goals
      first
        | (have HE := Lib.hid (show (⟨reachN P l, true, 0⟩ : RefA) = refM P l by unfold refM; rw [if_pos HQ.out, if_pos hr])
           have hr' : ((reachN P l : Int) == (l.length : Int)) = false := by simp; omega)
        | (have HE := Lib.hid (show (⟨0, false, 0⟩ : RefA) = refM P l by unfold refM; rw [if_pos HQ.out, if_neg hr])
           have hr' : ((reachN P l : Int) == (l.length : Int)) = true := by have := reachN_le P l; simp; omega)
      go_enter Try.func44, Try.ntmps44
      go_wp2_with fail
      generalize w.alloc (Obj.cells #[Value.slice a P.rs.length cap, .int .i64 P.wo, .int .i64 P.tu, .int .i64 P.ag] 54) = wA at *
      have hce := block_cell K0.out
      go_wp2_with fail
      refine (kcheckPart_any P l _ _ _ HV.out HU.out).mono ?_
      rintro e w1 ⟨rfl, hb1⟩
      rw [HQ.out]
      clear hce
      have hce := block_cell ((hb1.block _ (lt_of_block K0.out)).trans K0.out)
      go_wp2_with fail
      refine (reach_any P l _ _ _ (HV.out.below hb1 (Nat.le_refl _)) (HU.out.below hb1 (Nat.le_refl _)) HQ.out).mono ?_
      rintro e w2 ⟨v2, rfl, ho, hb2⟩
      obtain ⟨a2, c2, rfl, _⟩ := ownsRow_shape ho
      clear ho hce
      go_wp2
      go_ret3
      exact ⟨congrArg (fun r => Ending.returned (refV r)) HE.out, HB.out.trans ((hb1.trans (hb2.mono hb1.size)).mono HB.out.size)⟩
  · have HE := Lib.hid (show (⟨0, false, partM P l⟩ : RefA) = refM P l by unfold refM; rw [if_neg hq])
    go_enter Try.func44, Try.ntmps44
    go_wp2_with fail
    generalize w.alloc (Obj.cells #[Value.slice a P.rs.length cap, .int .i64 P.wo, .int .i64 P.tu, .int .i64 P.ag] 54) = wA at *
    have hce := block_cell K0.out
    go_wp2_with fail
    refine (kcheckPart_any P l _ _ _ HV.out HU.out).mono ?_
    rintro e w1 ⟨rfl, hb1⟩
    generalize partM P l = f at *
    go_wp2
    go_ret3
    exact ⟨congrArg (fun r => Ending.returned (refV r)) HE.out, HB.out.trans (hb1.mono HB.out.size)⟩

end Go.Proofs.Ytkahhclmmlkpjaa
