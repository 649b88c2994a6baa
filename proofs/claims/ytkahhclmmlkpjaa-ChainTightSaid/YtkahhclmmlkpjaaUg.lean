/- ChainTight, the walk. -/
import Derived.Test.YtkahhclmmlkpjaaUf
namespace Go.Proofs.Ytkahhclmmlkpjaa
open Go.RowKit

/-- One more measure, in memory. -/
theorem us_measure {w : World} {g : Nat} {n c : Nat} {l : List Us} (h : UsAt w (.slice (some ⟨g, 0, none⟩) n c) l) {i : Nat} (_hi : i < l.length) (lo hi' : Int) :
    UsAt (((w.setCell ⟨g, i * 6 + 3, none⟩ (.bool true)).setCell ⟨g, i * 6 + 4, none⟩ (.int .i64 lo)).setCell ⟨g, i * 6 + 5, none⟩ (.int .i64 hi')) (.slice (some ⟨g, 0, none⟩) n c) (l.set i (measure (l.getD i Us.zero) lo hi')) := by
  obtain ⟨a, cap, e, h1, h2, h3⟩ := h
  injection e with e1 e2 e3
  subst e2; subst e3
  refine ⟨_, _, by rw [List.length_set], by rw [List.length_set]; exact h1, h2, fun hp => ?_⟩
  rw [List.length_set] at hp
  obtain ⟨b, off, e4, hb, hc⟩ := h3 hp
  rw [e4] at e1
  injection e1 with e1
  injection e1 with e5 e6 _
  subst e5; subst e6
  refine ⟨g, 0, rfl, by simpa using hb, fun j x hx k u hu => ?_⟩
  have hk : k < 6 := by
    have := (List.getElem?_eq_some_iff.1 hu).1
    simpa using this
  have hj : j < l.length := by have := (List.getElem?_eq_some_iff.1 hx).1; simpa using this
  have hx' : x = (l.set i (measure (l.getD i Us.zero) lo hi')).getD j Us.zero := by
    rw [List.getD_eq_getElem?_getD, hx]; rfl
  rw [getD_set l i _ j hj] at hx'
  have old := hc j _ (getD_get? hj Us.zero)
  have oth : ∀ o, k ≠ o ∨ j ≠ i → o < 6 → (⟨g, i * 6 + o, none⟩ : Addr) ≠ ⟨g, 0 + j * 6 + k, none⟩ := fun o ho hlt hh => by
    injection hh with _ hh _
    omega
  by_cases e : i = j
  · subst e
    rw [if_pos rfl] at hx'
    subst hx'
    have c3 := old 3 _ rfl
    have c4 := old 4 _ rfl
    have c5 := old 5 _ rfl
    rw [show 0 + i * 6 + 3 = i * 6 + 3 by omega] at c3
    rw [show 0 + i * 6 + 4 = i * 6 + 4 by omega] at c4
    rw [show 0 + i * 6 + 5 = i * 6 + 5 by omega] at c5
    have n34 : (⟨g, i * 6 + 3, none⟩ : Addr) ≠ ⟨g, i * 6 + 4, none⟩ := fun hh => by injection hh with _ hh _; omega
    have n35 : (⟨g, i * 6 + 3, none⟩ : Addr) ≠ ⟨g, i * 6 + 5, none⟩ := fun hh => by injection hh with _ hh _; omega
    have n45 : (⟨g, i * 6 + 4, none⟩ : Addr) ≠ ⟨g, i * 6 + 5, none⟩ := fun hh => by injection hh with _ hh _; omega
    match k, hk with
    | 0, _ => rw [World.cell?_setCell_other _ _ _ _ (oth 5 (by omega) (by omega)), World.cell?_setCell_other _ _ _ _ (oth 4 (by omega) (by omega)), World.cell?_setCell_other _ _ _ _ (oth 3 (by omega) (by omega))]; exact old 0 u hu
    | 1, _ => rw [World.cell?_setCell_other _ _ _ _ (oth 5 (by omega) (by omega)), World.cell?_setCell_other _ _ _ _ (oth 4 (by omega) (by omega)), World.cell?_setCell_other _ _ _ _ (oth 3 (by omega) (by omega))]; exact old 1 u hu
    | 2, _ => rw [World.cell?_setCell_other _ _ _ _ (oth 5 (by omega) (by omega)), World.cell?_setCell_other _ _ _ _ (oth 4 (by omega) (by omega)), World.cell?_setCell_other _ _ _ _ (oth 3 (by omega) (by omega))]; exact old 2 u hu
    | 3, _ =>
      obtain rfl : Value.bool true = u := by simpa [measure] using hu
      rw [show 0 + i * 6 + 3 = i * 6 + 3 by omega, World.cell?_setCell_other _ _ _ _ n35.symm, World.cell?_setCell_other _ _ _ _ n34.symm]
      exact World.cell?_setCell_same _ _ _ c3
    | 4, _ =>
      obtain rfl : Value.int .i64 lo = u := by simpa [measure] using hu
      rw [show 0 + i * 6 + 4 = i * 6 + 4 by omega, World.cell?_setCell_other _ _ _ _ n45.symm]
      exact World.cell?_setCell_same _ _ _ ((World.cell?_setCell_other _ _ _ _ n34).trans c4)
    | 5, _ =>
      obtain rfl : Value.int .i64 hi' = u := by simpa [measure] using hu
      rw [show 0 + i * 6 + 5 = i * 6 + 5 by omega]
      exact World.cell?_setCell_same _ _ _ ((World.cell?_setCell_other _ _ _ _ n45).trans ((World.cell?_setCell_other _ _ _ _ n35).trans c5))
  · rw [if_neg e] at hx'
    subst hx'
    rw [World.cell?_setCell_other _ _ _ _ (oth 5 (by omega) (by omega)), World.cell?_setCell_other _ _ _ _ (oth 4 (by omega) (by omega)), World.cell?_setCell_other _ _ _ _ (oth 3 (by omega) (by omega))]
    exact old k u hu

theorem us_one {w : World} {b : Nat} {u : Us} (h : w.heap[b]? = some (.cells #[.int .i64 u.d, .int .i64 u.t, .int .i64 u.c, .bool u.m, .int .i64 u.lo, .int .i64 u.hi] 89 (0, 0))) : UsAt w (.slice (some ⟨b, 0, none⟩) 1 1) [u] :=
  ElAt.of_block (m := 6) (f := usL) (fun _ => rfl) h (by simp) rfl (by decide)

theorem due_f {P : Prt} {l : List Us} {c d n f : Int} (hf : partM P l = 0) (h : dueM P l c d = (n, f)) : f = 0 ∨ f = 1 ∨ f = 3 := by
  have e : f = (dueM P l c d).2 := by rw [h]
  rw [e]
  unfold dueM
  rw [if_pos hf]
  split
  · exact .inr (.inl rfl)
  · split
    · exact .inr (.inr rfl)
    · split
      · exact .inr (.inr rfl)
      · exact .inl rfl

set_option maxRecDepth 100000 in
set_option maxHeartbeats 16000000 in
theorem tight_any (P : Prt) (l : List Us) (at' lo hi c d : Int) (bv v : Value) (w : World) (hv : SpAt w bv P.rs) (hl : UsAt w v l) :
    Calls Try.prog 16 #[prtV P bv, v, .agg #[.int .i64 at', .int .i64 lo, .int .i64 hi, .int .i64 c, .int .i64 d]] w fun e w' => e = .returned (.bool true) ∧ Below w.heap.size w w' := by
  obtain ⟨i0, hi0, hz0, hz1, hz2⟩ := info_parts copyUses_any_info
  have hf : ∀ x, (usL x).length = 6 := fun _ => rfl
  have hf1 : ∀ x, ∀ u ∈ usL x, u.oneCell' = true := fun x u hu => by simp at hu; rcases hu with rfl | rfl | rfl | rfl | rfl | rfl <;> rfl
  have HV0 := Lib.hid hv
  have HU0 := Lib.hid hl
  obtain ⟨a, cap, rfl, h1, h2, hc⟩ := hv
  obtain ⟨ua, ucap, rfl, un, ucl, uc⟩ := hl
  have HUC := Lib.hid uc
  have HB := Lib.hid (blw2 w (Obj.cells #[Value.slice a P.rs.length cap, .int .i64 P.wo, .int .i64 P.tu, .int .i64 P.ag] 54) (Obj.cells #[.int .i64 at', .int .i64 lo, .int .i64 hi, .int .i64 c, .int .i64 d] 87))
  have K0 := Lib.hid (two_od w (Obj.cells #[Value.slice a P.rs.length cap, .int .i64 P.wo, .int .i64 P.tu, .int .i64 P.ag] 54) (Obj.cells #[.int .i64 at', .int .i64 lo, .int .i64 hi, .int .i64 c, .int .i64 d] 87))
  have X0 := Lib.hid (two_nw w (Obj.cells #[Value.slice a P.rs.length cap, .int .i64 P.wo, .int .i64 P.tu, .int .i64 P.ag] 54) (Obj.cells #[.int .i64 at', .int .i64 lo, .int .i64 hi, .int .i64 c, .int .i64 d] 87))
  clear hc uc
  by_cases hf0 : partM P l = 0
  · obtain ⟨hP, h40, hU⟩ := partM_ok hf0
    have HF0 := Lib.hid hf0
    have HPO := Lib.hid hP
    have HUO := Lib.hid hU
    clear hf0 hP hU
    go_enter Try.func16, Try.ntmps16
    go_wp2_with fail
    generalize (w.alloc (Obj.cells #[Value.slice a P.rs.length cap, .int .i64 P.wo, .int .i64 P.tu, .int .i64 P.ag] 54)).alloc (Obj.cells #[.int .i64 at', .int .i64 lo, .int .i64 hi, .int .i64 c, .int .i64 d] 87) = wA at *
    have HV := Lib.hid (HV0.out.below HB.out (Nat.le_refl _))
    have HU := Lib.hid (HU0.out.below HB.out (Nat.le_refl _))
    have HN0 := Lib.hid (Below.refl wA.heap.size wA)
    have hce := block_cell K0.out
    have hcx := block_cell X0.out
    refine (rcheckPart_any P l _ _ _ HV.out HU.out).mono ?_
    rintro e w1 ⟨rfl, hb1⟩
    rw [HF0.out]
    first | have HB1 := Lib.hid (HN0.out.trans (hb1.mono HN0.out.size)) | have HB1 := Lib.hid hb1
    clear hb1 hce hcx
    have hce := block_cell ((HB1.out.block _ (lt_of_block K0.out)).trans K0.out)
    have zce := Nat.lt_of_lt_of_le (lt_of_block K0.out) HB1.out.size
    have hcx := block_cell ((HB1.out.block _ (lt_of_block X0.out)).trans X0.out)
    have zcx := Nat.lt_of_lt_of_le (lt_of_block X0.out) HB1.out.size
    go_wp2_with fail
    refine (kwear_any P l _ _ _ (HV.out.below HB1.out (Nat.le_refl _)) (HU.out.below HB1.out (Nat.le_refl _))).mono ?_
    rintro e w2 hres
    obtain ⟨v2, rfl, h2', hb2⟩ := hres.at
    have HS2 := Lib.hid h2'
    obtain ⟨sa, sc, rfl, _, _, _⟩ := h2'
    clear hres
    obtain ⟨nS, hnS⟩ : ∃ n, (wearLE P l).length = n := ⟨_, rfl⟩
    obtain ⟨e0, he0⟩ : ∃ n, wearE P l = n := ⟨_, rfl⟩
    have HNS := Lib.hid hnS
    have HE0 := Lib.hid he0
    rw [hnS] at HS2
    rw [hnS]
    rw [he0]
    clear hnS he0
    first | have HB2 := Lib.hid (HB1.out.trans (hb2.mono HB1.out.size)) | have HB2 := Lib.hid hb2
    clear hb2 hce hcx
    have hce := block_cell ((HB2.out.block _ (lt_of_block K0.out)).trans K0.out)
    have zce := Nat.lt_of_lt_of_le (lt_of_block K0.out) HB2.out.size
    have hcx := block_cell ((HB2.out.block _ (lt_of_block X0.out)).trans X0.out)
    have zcx := Nat.lt_of_lt_of_le (lt_of_block X0.out) HB2.out.size
    go_wp2_with fail
    refine (copyUses_any _ l _ (HU.out.below HB2.out (Nat.le_refl _)) (by omega)).mono ?_
    rintro e w3 ⟨v3, rfl, ho3, hb3⟩
    have HC3 := Lib.hid hb3
    have HO3 := Lib.hid ho3
    have HM3 := Lib.hid (ElAt.of_own (m := 6) (f := usL) (xs := l) (fun _ => rfl) ho3)
    obtain ⟨ma, mc, rfl, _⟩ := ownsRow_shape ho3
    clear ho3
    first | have HB3 := Lib.hid (HB2.out.trans (hb3.mono HB2.out.size)) | have HB3 := Lib.hid hb3
    clear hb3 hce hcx
    have hce := block_cell ((HB3.out.block _ (lt_of_block K0.out)).trans K0.out)
    have zce := Nat.lt_of_lt_of_le (lt_of_block K0.out) HB3.out.size
    have hcx := block_cell ((HB3.out.block _ (lt_of_block X0.out)).trans X0.out)
    have zcx := Nat.lt_of_lt_of_le (lt_of_block X0.out) HB3.out.size
    obtain ⟨mB, hmB⟩ : ∃ b : Bool, b = (decide (0 ≤ at' ∧ at' < l.length) && !(l.getD at'.toNat Us.zero).m) := ⟨_, rfl⟩
    have HMB := Lib.hid hmB
    clear hmB
    go_upto_region 5 with fail
    go_cut [50] (fun s50 wx => s50 = .bool mB ∧ w3 = wx)
    case first =>
      by_cases g0 : 0 ≤ at'
      · by_cases g1 : at' < l.length
        · obtain ⟨i, rfl⟩ : ∃ i : Nat, at' = i := ⟨at'.toNat, by omega⟩
          obtain ⟨b, off, rfl, hbl, hcc⟩ := HUC.out (by omega)
          obtain ⟨_, _, _, g4, _, _⟩ := us_at (HB.out.trans (HB3.out.mono HB.out.size)) hbl hcc (k := i) (by omega)
          have zb : b < w3.heap.size := by have := HB.out.size; have := HB3.out.size; omega
          clear hcc
          have hmb := HMB.out
          rw [Int.toNat_natCast] at hmb
          rw [show decide ((0 : Int) ≤ (i : Int) ∧ (i : Int) < l.length) = true by rw [decide_eq_true_eq]; exact ⟨g0, g1⟩, Bool.true_and] at hmb
          have HMB2 := Lib.hid hmb
          clear hmb
          cases hm : (l.getD i Us.zero).m
          · rw [hm] at g4
            have HMV := Lib.hid (show mB = true by rw [HMB2.out, hm]; rfl)
            clear hm
            go_wp2_with fail
            go_meet
            exact ⟨by rw [HMV.out], rfl⟩
          · rw [hm] at g4
            have HMV := Lib.hid (show mB = false by rw [HMB2.out, hm]; rfl)
            clear hm
            go_wp2_with fail
            go_meet
            exact ⟨by rw [HMV.out], rfl⟩
        · have HMV := Lib.hid (show mB = false by rw [HMB.out, show decide (0 ≤ at' ∧ at' < l.length) = false by rw [decide_eq_false_iff_not]; omega]; rfl)
          go_wp2_with fail
          go_meet
          exact ⟨by rw [HMV.out], rfl⟩
      · have HMV := Lib.hid (show mB = false by rw [HMB.out, show decide (0 ≤ at' ∧ at' < l.length) = false by rw [decide_eq_false_iff_not]; omega]; rfl)
        go_wp2_with fail
        go_meet
        exact ⟨by rw [HMV.out], rfl⟩
    case rest =>
      obtain ⟨rfl, rfl⟩ := hcut
      go_upto_if 50 with fail
      go_cut [9] (fun s9 wx => ∃ l', s9 = .slice ma l.length mc ∧ Hid (Narrow l l') ∧ Hid (UsAt wx (.slice ma l.length mc) l') ∧ Hid (Below wA.heap.size wA wx) ∧ Hid (Below w2.heap.size w2 wx))
      case first =>
        cases mB
        · go_wp2_with fail
          go_meet
          exact ⟨l, rfl, narrow_self l, HM3.out, HB3.out, HC3.out⟩
        · have hmb := HMB.out.symm
          rw [Bool.and_eq_true, decide_eq_true_eq] at hmb
          obtain ⟨⟨g0, g1⟩, g2⟩ := hmb
          obtain ⟨i, rfl⟩ : ∃ i : Nat, at' = i := ⟨at'.toNat, by omega⟩
          rw [Int.toNat_natCast] at g2
          have HM0 := Lib.hid (show (l.getD i Us.zero).m = false by simpa using g2)
          obtain ⟨g, cur, rfl, hbase, hg⟩ : ∃ g cur, ma = some ⟨g, 0, none⟩ ∧ w2.heap.size ≤ g ∧ w3.heap[g]? = some (.cells cur 89 (0, 0)) := by
            rcases HO3.out.2 with ⟨_, h⟩ | ⟨g, cp, cur, h, hb, hg, _⟩
            · omega
            · injection h with h _ _
              exact ⟨g, cur, h, hb, hg⟩
          have hgz := lt_of_block hg
          have hil : i < l.length := by omega
          have m3 : w3.cell? ⟨g, i * 6 + 3, none⟩ = some (.bool (l.getD i Us.zero).m) ∧ w3.cell? ⟨g, i * 6 + 4, none⟩ = some (.int .i64 (l.getD i Us.zero).lo) ∧ w3.cell? ⟨g, i * 6 + 5, none⟩ = some (.int .i64 (l.getD i Us.zero).hi) := by
            obtain ⟨_, _, e, _, _, hx⟩ := HM3.out
            injection e with e1 _ _
            obtain ⟨b, off, e2, _, hx⟩ := hx (by omega)
            rw [e2] at e1
            injection e1 with e1
            injection e1 with e3 e4 _
            subst e3; subst e4
            have := hx i _ (getD_get? hil Us.zero)
            have q3 := this 3 _ rfl
            have q4 := this 4 _ rfl
            have q5 := this 5 _ rfl
            rw [show 0 + i * 6 + 3 = i * 6 + 3 by omega] at q3
            rw [show 0 + i * 6 + 4 = i * 6 + 4 by omega] at q4
            rw [show 0 + i * 6 + 5 = i * 6 + 5 by omega] at q5
            exact ⟨q3, q4, q5⟩
          obtain ⟨q3, q4, q5⟩ := m3
          have fg := block_free hg
          have k1 : (0 : Int) ≤ (i : Int) := by omega
          have k2 : (i : Int) < l.length := by omega
          have HG := Lib.hid hg
          have HX0 := Lib.hid (show w.heap.size + 1 ≠ g by have := lt_of_block X0.out; have := HB2.out.size; omega)
          have hx0 : ¬ w.heap.size + 1 = g := HX0.out
          have hx1 : ¬ g = w.heap.size + 1 := fun h => hx0 h.symm
          clear hg g2
          have hbA := HB3.out
          have hzA : wA.heap.size ≤ g := by have := HB2.out.size; omega
          have HBX := Lib.hid (((hbA.setCell (p := ⟨g, i * 6 + 3, none⟩) hzA (.bool true)).setCell (p := ⟨g, i * 6 + 4, none⟩) hzA (.int .i64 lo)).setCell (p := ⟨g, i * 6 + 5, none⟩) hzA (.int .i64 hi))
          have HCX := Lib.hid (((HC3.out.setCell (p := ⟨g, i * 6 + 3, none⟩) hbase (.bool true)).setCell (p := ⟨g, i * 6 + 4, none⟩) hbase (.int .i64 lo)).setCell (p := ⟨g, i * 6 + 5, none⟩) hbase (.int .i64 hi))
          have HUX := Lib.hid (us_measure HM3.out hil lo hi)
          have HNR := Lib.hid (narrow_set hil HM0.out lo hi)
          clear hbA
          go_wp2_with fail
          go_meet
          exact ⟨_, rfl, HNR.out, HUX.out, HBX.out, HCX.out⟩
      case rest =>
        obtain ⟨l', rfl, HNW, HM4, HB4, HC4⟩ := hcut
        have HLL := Lib.hid HNW.out.len
        clear hce hcx
        have hce := block_cell ((HB4.out.block _ (lt_of_block K0.out)).trans K0.out)
        have zce := Nat.lt_of_lt_of_le (lt_of_block K0.out) HB4.out.size
        have hcx := block_cell ((HB4.out.block _ (lt_of_block X0.out)).trans X0.out)
        have zcx := Nat.lt_of_lt_of_le (lt_of_block X0.out) HB4.out.size
        have HM4' := Lib.hid (show UsAt wc (.slice ma l.length mc) l' from HM4.out)
        go_wp2_with fail
        refine (rcheckPart_any P l' _ _ _ (HV.out.below HB4.out (Nat.le_refl _)) HM4.out).mono ?_
        rintro e w5 ⟨rfl, hb5⟩
        have HC5 := Lib.hid (HC4.out.trans (hb5.mono HC4.out.size))
        have HM5 := Lib.hid (HM4.out.below hb5 (Nat.le_refl _))
        first | have HB5 := Lib.hid (HB4.out.trans (hb5.mono HB4.out.size)) | have HB5 := Lib.hid hb5
        clear hb5 hce hcx
        have hce := block_cell ((HB5.out.block _ (lt_of_block K0.out)).trans K0.out)
        have zce := Nat.lt_of_lt_of_le (lt_of_block K0.out) HB5.out.size
        have hcx := block_cell ((HB5.out.block _ (lt_of_block X0.out)).trans X0.out)
        have zcx := Nat.lt_of_lt_of_le (lt_of_block X0.out) HB5.out.size
        obtain ⟨pm, hpm⟩ : ∃ x, partM P l' = x := ⟨_, rfl⟩
        rw [hpm]
        have HPM := Lib.hid hpm
        clear hpm
        go_upto_if 66 with fail
        go_cut [6] (fun s6 wx => s6 = .bool false ∧ Hid (Below wA.heap.size wA wx))
        case first =>
          by_cases hp0 : pm = 0
          · subst hp0
            go_wp2_with fail
            refine (kwear_any P l' _ _ _ (HV.out.below HB5.out (Nat.le_refl _)) HM5.out).mono ?_
            rintro e w6 hres
            obtain ⟨v6, rfl, h6, hb6⟩ := hres.at
            have HS6 := Lib.hid h6
            obtain ⟨ta, tc, rfl, _, _, _⟩ := h6
            clear hres
            have HC6 := Lib.hid (HC5.out.trans (hb6.mono HC5.out.size))
            first | have HB6 := Lib.hid (HB5.out.trans (hb6.mono HB5.out.size)) | have HB6 := Lib.hid hb6
            clear hb6 hce hcx
            have hce := block_cell ((HB6.out.block _ (lt_of_block K0.out)).trans K0.out)
            have zce := Nat.lt_of_lt_of_le (lt_of_block K0.out) HB6.out.size
            have hcx := block_cell ((HB6.out.block _ (lt_of_block X0.out)).trans X0.out)
            have zcx := Nat.lt_of_lt_of_le (lt_of_block X0.out) HB6.out.size
            by_cases hw0 : wearE P l' = 0
            · obtain ⟨_, hr'⟩ := wearE_zero hw0
              have hr := narrow_reach (P := P) HNW.out hr'
              have hwl : wearE P l = 0 := wearE_ok HF0.out (by omega)
              have hle : wearLE P l = wearL P l := by unfold wearLE; rw [if_pos hwl]
              have hle' : wearLE P l' = wearL P l' := by unfold wearLE; rw [if_pos hw0]
              have HWL := Lib.hid hwl
              have HA := Lib.hid (show SpAt w2 (.slice sa nS sc) (wearL P l) by have := HS2.out; rw [hle] at this; exact this)
              have hns : nS = l.length := by rw [← HNS.out, hle, wearL_len]
              have hne : ((nS : Int) != (l.length : Int)) = false := by simp; omega
              have hns1 : l.length ≤ nS := by omega
              have hee : (e0 != 0) = false := by rw [← HE0.out, hwl]; rfl
              have HA6 := Lib.hid (show SpAt w6 (.slice ta (wearLE P l').length tc) (wearL P l') by have := HS6.out; rw [hle'] at this ⊢; exact this)
              rw [hw0, hle', wearL_len, HLL.out]
              rw [hle', wearL_len, HLL.out] at HA6
              have hll : ((l.length : Int) != (l.length : Int)) = false := by simp
              clear hw0 hr hr' hwl hle hle' hns
              go_wp2_with fail
              go_loopw [6, 12] (fun r i wr => ∃ k : Nat, k ≤ l.length ∧ r = .bool false ∧ i = .int .i64 k ∧ Hid (Below wA.heap.size wA wr) ∧ Hid (Below w2.heap.size w2 wr) ∧ Hid (Below w6.heap.size w6 wr)) (fun _ i _ => l.length - (intOf i).toNat)
              case atStart => exact ⟨0, Nat.zero_le _, rfl, rfl, HB6.out, HC6.out, Below.refl _ _⟩
              case round =>
                obtain ⟨k, hk, rfl, rfl, hb, hc2, hc6⟩ := hrel
                by_cases hlt : k < l.length
                · obtain ⟨_, _, e7, _, _, hx7⟩ := HA.out
                  injection e7 with e7 _ _
                  obtain ⟨sb, so, rfl, sbl, scc⟩ := hx7 (by rw [wearL_len]; omega)
                  subst e7
                  obtain ⟨s1, s2⟩ := sp_at hc2.out sbl scc (k := k) (by rw [wearL_len]; exact hlt)
                  rw [wearL_get hlt] at s1 s2
                  obtain ⟨_, _, e8, _, _, hx8⟩ := HA6.out
                  injection e8 with e8 _ _
                  obtain ⟨tb, to', rfl, tbl, tcc⟩ := hx8 (by rw [wearL_len, HLL.out]; omega)
                  subst e8
                  obtain ⟨t1, t2⟩ := sp_at hc6.out tbl tcc (k := k) (by rw [wearL_len, HLL.out]; exact hlt)
                  rw [wearL_get (by rw [HLL.out]; exact hlt)] at t1 t2
                  obtain ⟨n1, n2⟩ := narrow_wear (P := P) HNW.out hlt
                  have zs : sb < wr.heap.size := by have := hc2.out.size; omega
                  have zt : tb < wr.heap.size := by have := hc6.out.size; omega
                  generalize wearAt P l k = s at *
                  generalize wearAt P l' k = t at *
                  have k1 : (0 : Int) ≤ (k : Int) := by omega
                  have k2 : (k : Int) < l.length := by omega
                  have k3 : (k : Int) < nS := by omega
                  have hA : decide (t.1 < s.1) = false := by rw [decide_eq_false_iff_not]; omega
                  have hBB : decide (s.2 < t.2) = false := by rw [decide_eq_false_iff_not]; omega
                  clear scc tcc hx7 hx8 hce hcx
                  go_wp2_with fail
                  go_quiet (fail)
                  go_wp2
                  go_roundw
                  case rel => exact ⟨k + 1, hlt, rfl, by go_num, below_drewN hb.out _, below_drewN hc2.out _, below_drewN hc6.out _⟩
                  case measure => simp [intOf]; omega
                · go_wp2_with fail
                  go_meet
                  exact ⟨rfl, hb.out⟩
            · generalize wearE P l' = we at *
              go_wp2_with fail
              go_meet
              exact ⟨rfl, HB6.out⟩
          · go_wp2_with fail
            go_meet
            exact ⟨rfl, HB5.out⟩
        case rest =>
          obtain ⟨rfl, HB7⟩ := hcut
          clear hce hcx zce zcx
          have hce := block_cell ((HB7.out.block _ (lt_of_block K0.out)).trans K0.out)
          have zce := Nat.lt_of_lt_of_le (lt_of_block K0.out) HB7.out.size
          have hcx := block_cell ((HB7.out.block _ (lt_of_block X0.out)).trans X0.out)
          have zcx := Nat.lt_of_lt_of_le (lt_of_block X0.out) HB7.out.size
          obtain ⟨⟨n, f⟩, hdu⟩ : ∃ x, dueM P l c d = x := ⟨_, rfl⟩
          have HDU := Lib.hid hdu
          have hff := due_f HF0.out hdu
          clear hdu HS2 HO3 HM3 HC3 HM4 HM4' HC4 HM5 HC5 HNW HLL HPM
          go_wp2_with fail
          refine (kdue_any P l _ _ c d _ (HV.out.below HB7.out (Nat.le_refl _)) (HU.out.below HB7.out (Nat.le_refl _))).mono ?_
          rintro e w8 ⟨rfl, hb8⟩
          rw [HDU.out]
          first | have HB8 := Lib.hid (HB7.out.trans (hb8.mono HB7.out.size)) | have HB8 := Lib.hid hb8
          clear hb8 hce hcx
          have hce := block_cell ((HB8.out.block _ (lt_of_block K0.out)).trans K0.out)
          have zce := Nat.lt_of_lt_of_le (lt_of_block K0.out) HB8.out.size
          have hcx := block_cell ((HB8.out.block _ (lt_of_block X0.out)).trans X0.out)
          have zcx := Nat.lt_of_lt_of_le (lt_of_block X0.out) HB8.out.size
          by_cases hf00 : f = 0
          · subst hf00
            obtain ⟨n0, n1, hnx⟩ := due_next HF0.out HDU.out
            have HNEX := Lib.hid hnx
            clear hnx hff
            by_cases hl40 : l.length = 40
            · have hlb : ((l.length : Int) == 40) = true := by simp; omega
              go_wp2_with fail
              refine (works_any _).mono ?_
              rintro e w9 ⟨rfl, hb9⟩
              go_wp2
              go_ret
              exact ⟨rfl, HB.out.trans ((HB8.out.trans (hb9.mono HB8.out.size)).mono HB.out.size)⟩
            · have hlb : ((l.length : Int) == 40) = false := by simp; omega
              have hl39 : l.length < 40 := by omega
              clear hl40
              go_wp2_with fail
              go_loopw [6, 15] (fun r i wr => ∃ k : Nat, k ≤ 2 ∧ r = .bool false ∧ i = .int .i64 k ∧ Hid (Below wA.heap.size wA wr)) (fun _ i _ => 2 - (intOf i).toNat)
              case atStart => exact ⟨0, by omega, rfl, rfl, HB8.out⟩
              case round =>
                obtain ⟨k, hk, rfl, rfl, hb⟩ := hrel
                clear hce hcx zce zcx
                have hce := block_cell ((hb.out.block _ (lt_of_block K0.out)).trans K0.out)
                have hcx := block_cell ((hb.out.block _ (lt_of_block X0.out)).trans X0.out)
                have zcx := Nat.lt_of_lt_of_le (lt_of_block X0.out) hb.out.size
                have zce := Nat.lt_of_lt_of_le (lt_of_block K0.out) hb.out.size
                by_cases hg : k < 2 ∧ n + k ≤ 1000000
                · obtain ⟨hg1, hg2⟩ := hg
                  rcases (show k = 0 ∨ k = 1 by omega) with rfl | rfl
                  · obtain ⟨e1, e2, _⟩ := HNEX.out 0 hl39 (.inl rfl) (by omega)
                    rw [Int.add_zero] at e1 e2
                    obtain ⟨F, hF⟩ : ∃ F, firstM P (l ++ [useOf d n c]) true = F := ⟨_, rfl⟩
                    rw [hF] at e1 e2
                    have HNX := Lib.hid e1
                    have HFI := Lib.hid (e2 rfl)
                    clear hF e1 e2
                    have bU : Below wA.heap.size wA (wr.alloc (Obj.cells #[.int .i64 d, .int .i64 (n), .int .i64 c, .bool false, .int .i64 0, .int .i64 0] 89)) := hb.out.alloc hb.out.size _
                    have kU : (wr.alloc (Obj.cells #[.int .i64 d, .int .i64 (n), .int .i64 c, .bool false, .int .i64 0, .int .i64 0] 89)).heap[wr.heap.size]? = some (Obj.cells #[.int .i64 d, .int .i64 (n), .int .i64 c, .bool false, .int .i64 0, .int .i64 0] 89) := block_new _ _ _ rfl
                    go_upto_region 27 with fail
                    generalize wr.alloc (Obj.cells #[.int .i64 d, .int .i64 (n), .int .i64 c, .bool false, .int .i64 0, .int .i64 0] 89) = wU at *
                    have HBU := Lib.hid bU
                    have kP := (bU.block _ (lt_of_block K0.out)).trans K0.out
                    have zP := lt_of_block kP
                    have zU := lt_of_block kU
                    have KU := Lib.hid kU
                    have D : ∀ w', Below wU.heap.size wU w' → ((w'.cell? ⟨w.heap.size, 0, none⟩ = some (Value.slice a P.rs.length cap) ∧ w'.cell? ⟨w.heap.size, 1, none⟩ = some (.int .i64 P.wo) ∧ w'.cell? ⟨w.heap.size, 2, none⟩ = some (.int .i64 P.tu) ∧ w'.cell? ⟨w.heap.size, 3, none⟩ = some (.int .i64 P.ag)) ∧
                        (w'.cell? ⟨wr.heap.size, 0, none⟩ = some (.int .i64 d) ∧ w'.cell? ⟨wr.heap.size, 1, none⟩ = some (.int .i64 (n)) ∧ w'.cell? ⟨wr.heap.size, 2, none⟩ = some (.int .i64 c) ∧ w'.cell? ⟨wr.heap.size, 3, none⟩ = some (.bool false) ∧ w'.cell? ⟨wr.heap.size, 4, none⟩ = some (.int .i64 0) ∧ w'.cell? ⟨wr.heap.size, 5, none⟩ = some (.int .i64 0))) ∧ Below wU.heap.size wU w' := by
                      intro w' h
                      have c1 := block_cell ((h.block _ zP).trans kP)
                      have c2 := block_cell ((h.block _ zU).trans kU)
                      exact ⟨⟨⟨c1 0, c1 1, c1 2, c1 3⟩, ⟨c2 0, c2 1, c2 2, c2 3, c2 4, c2 5⟩⟩, h⟩
                    clear hce hcx zce zcx bU kU kP
                    go_cut [17, 18] (fun s17 s18 wx => s17 = .int .i64 F ∧ s18 = .int .i64 0 ∧ Hid (Below wU.heap.size wU wx))
                    case first =>
                      go_region_held3 (fun w' => ((w'.cell? ⟨w.heap.size, 0, none⟩ = some (Value.slice a P.rs.length cap) ∧ w'.cell? ⟨w.heap.size, 1, none⟩ = some (.int .i64 P.wo) ∧ w'.cell? ⟨w.heap.size, 2, none⟩ = some (.int .i64 P.tu) ∧ w'.cell? ⟨w.heap.size, 3, none⟩ = some (.int .i64 P.ag)) ∧
                          (w'.cell? ⟨wr.heap.size, 0, none⟩ = some (.int .i64 d) ∧ w'.cell? ⟨wr.heap.size, 1, none⟩ = some (.int .i64 (n)) ∧ w'.cell? ⟨wr.heap.size, 2, none⟩ = some (.int .i64 c) ∧ w'.cell? ⟨wr.heap.size, 3, none⟩ = some (.bool false) ∧ w'.cell? ⟨wr.heap.size, 4, none⟩ = some (.int .i64 0) ∧ w'.cell? ⟨wr.heap.size, 5, none⟩ = some (.int .i64 0))) ∧ Below wU.heap.size wU w')
                        (first | (with_reducible exact D _ (Below.drew (Below.refl _ _))) | (with_reducible exact D _ hB2) | (with_reducible exact D _ hB1) | (refine D _ ?_; repeat' (first | (with_reducible exact hB2) | (with_reducible exact hB1) | (with_reducible exact Below.refl _ _) | (with_reducible refine Below.drew ?_) | (with_reducible refine Below.alloc ?_ ?_ _) | exact Nat.le_refl _ | exact hB1z | exact hB2z)) | fail)
                        (first | (go_at_call 39; have hB0 := And.right ‹_ ∧ Below wU.heap.size wU _›; refine (copyUses_any _ l _ (HU.out.below (HBU.out.trans (hB0.mono HBU.out.size)) (Nat.le_refl _)) (by omega)).mono ?_; rintro e w3 ⟨v3, rfl, ho3, hb3⟩; have hB1 := hB0.trans (hb3.mono hB0.size); have HO3 := Lib.hid (ownsRow_mono ho3 hB0.size); have hB1z := hB1.size; have HK3 := Lib.hid hb3) | (refine step_app_elAt rfl (.tmp 178) (.tmp 180) 55 rfl wU.heap.size 89 i0 (.agg #[.int .i64 0, .int .i64 0, .int .i64 0, .bool false, .int .i64 0, .int .i64 0]) 6 48 Try.underlying55 hi0 hz0 hz1 hz2 rfl (by decide) usL hf hf1 _ l [useOf d (n) c] rfl (by first | exact HO3.out | exact World.ownsRow.alloc HO3.out _) _ rfl (by first | exact us_one (block_new _ _ _ rfl) | exact us_one ((HK3.out.block _ (lt_of_block (block_new _ _ _ rfl))).trans (block_new _ _ _ rfl))) (by unfold maxLen; simp; omega) (by simp; omega) (by first | exact hB1z | exact Nat.le_trans hB1z (al_le _ _)) ?_; intro v4 w4 ho4 hb4; have hB2 : Below wU.heap.size wU w4 := (by first | exact hB1.trans hb4 | exact (hB1.alloc hB1z _).trans hb4); have hU4 := ElAt.of_own (m := 6) (f := usL) (xs := l ++ [useOf d (n) c]) (fun _ => rfl) ho4; have hB2z := hB2.size) | (go_at_call 46; refine (kbeyond_any P (l ++ [useOf d (n) c]) _ _ _ (HV.out.below (HBU.out.trans (hB2.mono HBU.out.size)) (Nat.le_refl _)) hU4).mono ?_; rintro e w5 ⟨rfl, hb5⟩; rw [HNX.out]; have hB2 := hB2.trans (hb5.mono hB2.size); have hB2z := hB2.size))
                      all_goals
                        go_wp2_with fail
                        go_meet
                        exact ⟨rfl, rfl, And.right ‹_ ∧ Below wU.heap.size wU _›⟩
                    case rest =>
                      obtain ⟨rfl, rfl, hbx⟩ := hcut
                      have HBX := Lib.hid (HBU.out.trans (hbx.out.mono HBU.out.size))
                      have hfin := HFI.out
                      go_wp2
                      go_roundw
                      case rel => exact ⟨1, by omega, rfl, by go_num, HBX.out⟩
                      case measure => simp [intOf]
                  · obtain ⟨e1, _, e2⟩ := HNEX.out 1 hl39 (.inr rfl) (by omega)
                    obtain ⟨F, hF⟩ : ∃ F, firstM P (l ++ [useOf d (n + 1) c]) true = F := ⟨_, rfl⟩
                    rw [hF] at e1 e2
                    have HNX := Lib.hid e1
                    have HFI := Lib.hid (e2 rfl)
                    clear hF e1 e2
                    have bU : Below wA.heap.size wA (wr.alloc (Obj.cells #[.int .i64 d, .int .i64 (n + 1), .int .i64 c, .bool false, .int .i64 0, .int .i64 0] 89)) := hb.out.alloc hb.out.size _
                    have kU : (wr.alloc (Obj.cells #[.int .i64 d, .int .i64 (n + 1), .int .i64 c, .bool false, .int .i64 0, .int .i64 0] 89)).heap[wr.heap.size]? = some (Obj.cells #[.int .i64 d, .int .i64 (n + 1), .int .i64 c, .bool false, .int .i64 0, .int .i64 0] 89) := block_new _ _ _ rfl
                    go_upto_region 27 with fail
                    generalize wr.alloc (Obj.cells #[.int .i64 d, .int .i64 (n + 1), .int .i64 c, .bool false, .int .i64 0, .int .i64 0] 89) = wU at *
                    have HBU := Lib.hid bU
                    have kP := (bU.block _ (lt_of_block K0.out)).trans K0.out
                    have zP := lt_of_block kP
                    have zU := lt_of_block kU
                    have KU := Lib.hid kU
                    have D : ∀ w', Below wU.heap.size wU w' → ((w'.cell? ⟨w.heap.size, 0, none⟩ = some (Value.slice a P.rs.length cap) ∧ w'.cell? ⟨w.heap.size, 1, none⟩ = some (.int .i64 P.wo) ∧ w'.cell? ⟨w.heap.size, 2, none⟩ = some (.int .i64 P.tu) ∧ w'.cell? ⟨w.heap.size, 3, none⟩ = some (.int .i64 P.ag)) ∧
                        (w'.cell? ⟨wr.heap.size, 0, none⟩ = some (.int .i64 d) ∧ w'.cell? ⟨wr.heap.size, 1, none⟩ = some (.int .i64 (n + 1)) ∧ w'.cell? ⟨wr.heap.size, 2, none⟩ = some (.int .i64 c) ∧ w'.cell? ⟨wr.heap.size, 3, none⟩ = some (.bool false) ∧ w'.cell? ⟨wr.heap.size, 4, none⟩ = some (.int .i64 0) ∧ w'.cell? ⟨wr.heap.size, 5, none⟩ = some (.int .i64 0))) ∧ Below wU.heap.size wU w' := by
                      intro w' h
                      have c1 := block_cell ((h.block _ zP).trans kP)
                      have c2 := block_cell ((h.block _ zU).trans kU)
                      exact ⟨⟨⟨c1 0, c1 1, c1 2, c1 3⟩, ⟨c2 0, c2 1, c2 2, c2 3, c2 4, c2 5⟩⟩, h⟩
                    clear hce hcx zce zcx bU kU kP
                    go_cut [17, 18] (fun s17 s18 wx => s17 = .int .i64 F ∧ s18 = .int .i64 0 ∧ Hid (Below wU.heap.size wU wx))
                    case first =>
                      go_region_held3 (fun w' => ((w'.cell? ⟨w.heap.size, 0, none⟩ = some (Value.slice a P.rs.length cap) ∧ w'.cell? ⟨w.heap.size, 1, none⟩ = some (.int .i64 P.wo) ∧ w'.cell? ⟨w.heap.size, 2, none⟩ = some (.int .i64 P.tu) ∧ w'.cell? ⟨w.heap.size, 3, none⟩ = some (.int .i64 P.ag)) ∧
                          (w'.cell? ⟨wr.heap.size, 0, none⟩ = some (.int .i64 d) ∧ w'.cell? ⟨wr.heap.size, 1, none⟩ = some (.int .i64 (n + 1)) ∧ w'.cell? ⟨wr.heap.size, 2, none⟩ = some (.int .i64 c) ∧ w'.cell? ⟨wr.heap.size, 3, none⟩ = some (.bool false) ∧ w'.cell? ⟨wr.heap.size, 4, none⟩ = some (.int .i64 0) ∧ w'.cell? ⟨wr.heap.size, 5, none⟩ = some (.int .i64 0))) ∧ Below wU.heap.size wU w')
                        (first | (with_reducible exact D _ (Below.drew (Below.refl _ _))) | (with_reducible exact D _ hB2) | (with_reducible exact D _ hB1) | (refine D _ ?_; repeat' (first | (with_reducible exact hB2) | (with_reducible exact hB1) | (with_reducible exact Below.refl _ _) | (with_reducible refine Below.drew ?_) | (with_reducible refine Below.alloc ?_ ?_ _) | exact Nat.le_refl _ | exact hB1z | exact hB2z)) | fail)
                        (first | (go_at_call 39; have hB0 := And.right ‹_ ∧ Below wU.heap.size wU _›; refine (copyUses_any _ l _ (HU.out.below (HBU.out.trans (hB0.mono HBU.out.size)) (Nat.le_refl _)) (by omega)).mono ?_; rintro e w3 ⟨v3, rfl, ho3, hb3⟩; have hB1 := hB0.trans (hb3.mono hB0.size); have HO3 := Lib.hid (ownsRow_mono ho3 hB0.size); have hB1z := hB1.size; have HK3 := Lib.hid hb3) | (refine step_app_elAt rfl (.tmp 178) (.tmp 180) 55 rfl wU.heap.size 89 i0 (.agg #[.int .i64 0, .int .i64 0, .int .i64 0, .bool false, .int .i64 0, .int .i64 0]) 6 48 Try.underlying55 hi0 hz0 hz1 hz2 rfl (by decide) usL hf hf1 _ l [useOf d (n + 1) c] rfl (by first | exact HO3.out | exact World.ownsRow.alloc HO3.out _) _ rfl (by first | exact us_one (block_new _ _ _ rfl) | exact us_one ((HK3.out.block _ (lt_of_block (block_new _ _ _ rfl))).trans (block_new _ _ _ rfl))) (by unfold maxLen; simp; omega) (by simp; omega) (by first | exact hB1z | exact Nat.le_trans hB1z (al_le _ _)) ?_; intro v4 w4 ho4 hb4; have hB2 : Below wU.heap.size wU w4 := (by first | exact hB1.trans hb4 | exact (hB1.alloc hB1z _).trans hb4); have hU4 := ElAt.of_own (m := 6) (f := usL) (xs := l ++ [useOf d (n + 1) c]) (fun _ => rfl) ho4; have hB2z := hB2.size) | (go_at_call 46; refine (kbeyond_any P (l ++ [useOf d (n + 1) c]) _ _ _ (HV.out.below (HBU.out.trans (hB2.mono HBU.out.size)) (Nat.le_refl _)) hU4).mono ?_; rintro e w5 ⟨rfl, hb5⟩; rw [HNX.out]; have hB2 := hB2.trans (hb5.mono hB2.size); have hB2z := hB2.size))
                      all_goals
                        go_wp2_with fail
                        go_meet
                        exact ⟨rfl, rfl, And.right ‹_ ∧ Below wU.heap.size wU _›⟩
                    case rest =>
                      obtain ⟨rfl, rfl, hbx⟩ := hcut
                      have HBX := Lib.hid (HBU.out.trans (hbx.out.mono HBU.out.size))
                      have hfin := HFI.out
                      go_wp2
                      go_roundw
                      case rel => exact ⟨2, by omega, rfl, by go_num, HBX.out⟩
                      case measure => simp [intOf]
                · by_cases hk2 : k < 2
                  · have hgn : ¬ n + k ≤ 1000000 := fun h => hg ⟨hk2, h⟩
                    clear hg
                    go_wp2_with fail
                    refine (works_any _).mono ?_
                    rintro e w9 ⟨rfl, hb9⟩
                    go_wp2
                    go_ret
                    exact ⟨rfl, HB.out.trans ((hb.out.trans (hb9.mono hb.out.size)).mono HB.out.size)⟩
                  · clear hg
                    go_wp2_with fail
                    refine (works_any _).mono ?_
                    rintro e w9 ⟨rfl, hb9⟩
                    go_wp2
                    go_ret
                    exact ⟨rfl, HB.out.trans ((hb.out.trans (hb9.mono hb.out.size)).mono HB.out.size)⟩
          · rcases hff with hff | rfl | rfl
            · exact absurd hff hf00
            all_goals
              clear hf00
              go_wp2_with fail
              refine (works_any _).mono ?_
              rintro e w9 ⟨rfl, hb9⟩
              go_wp2
              go_ret
              exact ⟨rfl, HB.out.trans ((HB8.out.trans (hb9.mono HB8.out.size)).mono HB.out.size)⟩
  · have hb := HB.out
    go_enter Try.func16, Try.ntmps16
    go_wp2_with fail
    generalize (w.alloc (Obj.cells #[Value.slice a P.rs.length cap, .int .i64 P.wo, .int .i64 P.tu, .int .i64 P.ag] 54)).alloc (Obj.cells #[.int .i64 at', .int .i64 lo, .int .i64 hi, .int .i64 c, .int .i64 d] 87) = wA at *
    refine (rcheckPart_any P l _ _ _ (HV0.out.below HB.out (Nat.le_refl _)) (HU0.out.below HB.out (Nat.le_refl _))).mono ?_
    rintro e w1 ⟨rfl, hb1⟩
    generalize partM P l = f at *
    go_wp2_with fail
    refine (works_any _).mono ?_
    rintro e w3 ⟨rfl, hb3⟩
    go_wp2
    go_ret
    exact ⟨rfl, HB.out.trans ((hb1.trans (hb3.mono hb1.size)).mono HB.out.size)⟩

end Go.Proofs.Ytkahhclmmlkpjaa
