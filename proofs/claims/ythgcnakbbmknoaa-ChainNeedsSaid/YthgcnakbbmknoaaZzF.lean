import Derived.Test.YthgcnakbbmknoaaZzE
import Derived.Test.YthgcnakbbmknoaaRows
import Derived.ProofKit
import Derived.Deep.Slices
import Derived.ChangeOld
import Derived.Below
import Derived.SizedLaws
/- Texts of one seat, merged: Wv Go Uo Vk Ww Wx -/
/- ChainWitness and ChainWhy, the walks. -/
namespace Go.Proofs.Ythgcnakbbmknoaa
open Go.RowKit

theorem InAt.sh {w : World} {v : Value} {xs : List Int} (h : InAt w v xs) : ∃ a c, v = .slice a xs.length c := by
  obtain ⟨a, c, rfl, _⟩ := h
  exact ⟨a, c, rfl⟩

set_option maxRecDepth 100000 in
set_option maxHeartbeats 8000000 in
theorem witness_any (c : Chn) (l : List Gau) (v : Value) (a b m : Int) (w : World) (hv : GaAt w v l) (hn : l.length * 32 ≤ 140737488351232) :
    Calls Try.prog 3 #[chnV c, v, .agg #[.int .i64 a, .int .i64 b, .int .i64 m]] w fun e w' => e = .returned (.bool true) ∧ Below w.heap.size w w' := by
  have hb0 := ((Below.refl w.heap.size w).alloc (Nat.le_refl _) (Obj.cells #[.int .i64 c.n, .int .i64 c.pi, .int .i64 c.li] 23)).alloc (by simp only [size_alloc]; omega) (Obj.cells #[.int .i64 a, .int .i64 b, .int .i64 m] 26)
  have k0 := block_alloc (block_new w (Obj.cells #[.int .i64 c.n, .int .i64 c.pi, .int .i64 c.li] 23) w.heap.size rfl) (Obj.cells #[.int .i64 a, .int .i64 b, .int .i64 m] 26)
  have k1 := block_new (w.alloc (Obj.cells #[.int .i64 c.n, .int .i64 c.pi, .int .i64 c.li] 23)) (Obj.cells #[.int .i64 a, .int .i64 b, .int .i64 m] 26) (w.heap.size + 1) (by simp only [size_alloc])
  have HV := Lib.hid (hv.below hb0 (Nat.le_refl _))
  obtain ⟨va, cap, rfl, hn1, hcap, hc⟩ := hv
  have HB := Lib.hid hb0
  have K0 := Lib.hid k0
  have K1 := Lib.hid k1
  clear hc hb0 k0 k1
  cases hfar : decide (42 < l.length)
  · by_cases hs : 10 < c.n ∧ c.n ≤ 24
    · obtain ⟨s1, s2⟩ := hs
      go_enter Try.func3, Try.ntmps3
      go_wp2_with fail
      generalize (w.alloc (Obj.cells #[.int .i64 c.n, .int .i64 c.pi, .int .i64 c.li] 23)).alloc (Obj.cells #[.int .i64 a, .int .i64 b, .int .i64 m] 26) = wA at *
      have c0 := block_cell K0.out
      go_wp2_with (go_at_call 11; refine (far_any l _ _ HV.out).mono ?_; rintro e w' ⟨rfl, rfl⟩; rw [hfar])
      refine (works_any _).mono ?_
      rintro e w6 ⟨rfl, hb6⟩
      go_wp2
      go_ret
      exact ⟨rfl, HB.out.trans (hb6.mono HB.out.size)⟩
    · have hs2 : ¬ 10 < c.n ∨ (10 < c.n ∧ ¬ c.n ≤ 24) := by omega
      go_enter Try.func3, Try.ntmps3
      go_upto_region 1 with fail
      generalize (w.alloc (Obj.cells #[.int .i64 c.n, .int .i64 c.pi, .int .i64 c.li] 23)).alloc (Obj.cells #[.int .i64 a, .int .i64 b, .int .i64 m] 26) = wA at *
      go_cut [22] (fun s wx => s = .bool false ∧ wA = wx)
      case first =>
        have c0 := block_cell K0.out
        rcases hs2 with h1 | ⟨h1, h2⟩
        all_goals
          go_wp2_with (go_at_call 11; refine (far_any l _ _ HV.out).mono ?_; rintro e w' ⟨rfl, rfl⟩; rw [hfar])
          go_meet
          exact ⟨by first | rfl | (simp; omega), rfl⟩
      case rest =>
        obtain ⟨rfl, rfl⟩ := hcut
        have D : ∀ w', Below wA.heap.size wA w' → (((w'.cell? ⟨w.heap.size, 0, none⟩ = some (.int .i64 c.n) ∧ w'.cell? ⟨w.heap.size, 1, none⟩ = some (.int .i64 c.pi) ∧ w'.cell? ⟨w.heap.size, 2, none⟩ = some (.int .i64 c.li)) ∧
            (w'.cell? ⟨w.heap.size + 1, 0, none⟩ = some (.int .i64 a) ∧ w'.cell? ⟨w.heap.size + 1, 1, none⟩ = some (.int .i64 b) ∧ w'.cell? ⟨w.heap.size + 1, 2, none⟩ = some (.int .i64 m))) ∧ Below wA.heap.size wA w') := by
          intro w' h
          have c1 := block_cell ((h.block _ (lt_of_block K0.out)).trans K0.out)
          have c2 := block_cell ((h.block _ (lt_of_block K1.out)).trans K1.out)
          exact ⟨⟨⟨c1 0, c1 1, c1 2⟩, ⟨c2 0, c2 1, c2 2⟩⟩, h⟩
        go_upto_region 3 with fail
        go_cut [7, 8] (fun s7 s8 wx => ∃ v7, s7 = v7 ∧ s8 = .int .i64 (witE c l a b m) ∧ Hid (InAt wx v7 (witG c l a b m)) ∧ Hid (Below wA.heap.size wA wx))
        case first =>
          go_region_held3 (fun w' => ((w'.cell? ⟨w.heap.size, 0, none⟩ = some (.int .i64 c.n) ∧ w'.cell? ⟨w.heap.size, 1, none⟩ = some (.int .i64 c.pi) ∧ w'.cell? ⟨w.heap.size, 2, none⟩ = some (.int .i64 c.li)) ∧
            (w'.cell? ⟨w.heap.size + 1, 0, none⟩ = some (.int .i64 a) ∧ w'.cell? ⟨w.heap.size + 1, 1, none⟩ = some (.int .i64 b) ∧ w'.cell? ⟨w.heap.size + 1, 2, none⟩ = some (.int .i64 m))) ∧ Below wA.heap.size wA w')
            (first | (with_reducible exact D _ (Below.drew (Below.refl _ _))) | (with_reducible exact D _ hB1) | (with_reducible exact D _ hB2) | fail)
            (first | (go_at_call 14; have hB0 := And.right ‹_ ∧ Below wA.heap.size wA _›; refine (copyGauges_any _ l _ (HV.out.below hB0 (Nat.le_refl _)) hn).mono ?_; rintro e w3 ⟨v3, rfl, ho3, hb3⟩; have hB1 := hB0.trans (hb3.mono hB0.size); have hU3 := ElAt.of_own (m := 4) (f := gauL) (xs := l) (fun _ => rfl) ho3) | (go_at_call 13; refine (kwit_any c l _ _ _ _ _ hU3).mono ?_; rintro e w4 ⟨v4, rfl, hi4, hb4⟩; have hB2 := hB1.trans (hb4.mono hB1.size)))
          all_goals
            go_wp2_with fail
            go_meet
            exact ⟨_, rfl, rfl, hi4, And.right ‹_ ∧ Below wA.heap.size wA _›⟩
        case rest =>
          obtain ⟨v7, e7, rfl, H7, HN1⟩ := hcut
          obtain ⟨a7, c7, rfl⟩ := H7.out.sh
          subst e7
          have c0 := block_cell ((HN1.out.block _ (lt_of_block K0.out)).trans K0.out)
          have c1 := block_cell ((HN1.out.block _ (lt_of_block K1.out)).trans K1.out)
          have z0 := Nat.lt_of_lt_of_le (lt_of_block K0.out) HN1.out.size
          have z1 := Nat.lt_of_lt_of_le (lt_of_block K1.out) HN1.out.size
          have HR := Lib.hid (rwit_any c l (.slice va l.length cap) a b m _ (HV.out.below HN1.out (Nat.le_refl _)))
          clear D
          generalize witG c l a b m = L at *
          generalize witE c l a b m = E at *
          go_wp2_with fail
          refine HR.out.mono ?_
          rintro e w5 ⟨v5, rfl, hi5, hb5⟩
          have H5 := Lib.hid hi5
          have H7 := Lib.hid (H7.out.below hb5 (Nat.le_refl _))
          obtain ⟨a5, c5, rfl⟩ := hi5.sh
          have HN2 := Lib.hid (HN1.out.trans (hb5.mono HN1.out.size))
          clear hb5 c0 c1 z0 z1
          have c0 := block_cell ((HN2.out.block _ (lt_of_block K0.out)).trans K0.out)
          have c1 := block_cell ((HN2.out.block _ (lt_of_block K1.out)).trans K1.out)
          have z0 := Nat.lt_of_lt_of_le (lt_of_block K0.out) HN2.out.size
          have z1 := Nat.lt_of_lt_of_le (lt_of_block K1.out) HN2.out.size
          have e1 : (E == E) = true := by simp
          clear hi5
          go_wp2_with fail
          refine (sameInts_any _ _ L L _ H7.out H5.out).mono ?_
          rintro e w6 ⟨rfl, hb6⟩
          rw [show decide (L = L) = true by simp]
          have HN3 := Lib.hid (HN2.out.trans (hb6.mono HN2.out.size))
          clear hb6 c0 c1 z0 z1
          have c0 := block_cell ((HN3.out.block _ (lt_of_block K0.out)).trans K0.out)
          have c1 := block_cell ((HN3.out.block _ (lt_of_block K1.out)).trans K1.out)
          have z0 := Nat.lt_of_lt_of_le (lt_of_block K0.out) HN3.out.size
          have z1 := Nat.lt_of_lt_of_le (lt_of_block K1.out) HN3.out.size
          go_wp2_with fail
          refine (works_any _).mono ?_
          rintro e w7 ⟨rfl, hb7⟩
          go_wp2
          go_ret
          exact ⟨rfl, HB.out.trans ((HN3.out.trans (hb7.mono HN3.out.size)).mono HB.out.size)⟩
  · go_enter Try.func3, Try.ntmps3
    go_wp2_with fail
    generalize (w.alloc (Obj.cells #[.int .i64 c.n, .int .i64 c.pi, .int .i64 c.li] 23)).alloc (Obj.cells #[.int .i64 a, .int .i64 b, .int .i64 m] 26) = wA at *
    have c0 := block_cell K0.out
    go_wp2_with (go_at_call 11; refine (far_any l _ _ HV.out).mono ?_; rintro e w' ⟨rfl, rfl⟩; rw [hfar])
    refine (works_any _).mono ?_
    rintro e w6 ⟨rfl, hb6⟩
    go_wp2
    go_ret
    exact ⟨rfl, HB.out.trans (hb6.mono HB.out.size)⟩

set_option maxRecDepth 100000 in
set_option maxHeartbeats 8000000 in
theorem why_any (c : Chn) (l : List Gau) (v : Value) (a b m : Int) (w : World) (hv : GaAt w v l) (hn : l.length * 32 ≤ 140737488351232) :
    Calls Try.prog 4 #[chnV c, v, .agg #[.int .i64 a, .int .i64 b, .int .i64 m]] w fun e w' => e = .returned (.bool true) ∧ Below w.heap.size w w' := by
  have hb0 := ((Below.refl w.heap.size w).alloc (Nat.le_refl _) (Obj.cells #[.int .i64 c.n, .int .i64 c.pi, .int .i64 c.li] 23)).alloc (by simp only [size_alloc]; omega) (Obj.cells #[.int .i64 a, .int .i64 b, .int .i64 m] 26)
  have k0 := block_alloc (block_new w (Obj.cells #[.int .i64 c.n, .int .i64 c.pi, .int .i64 c.li] 23) w.heap.size rfl) (Obj.cells #[.int .i64 a, .int .i64 b, .int .i64 m] 26)
  have k1 := block_new (w.alloc (Obj.cells #[.int .i64 c.n, .int .i64 c.pi, .int .i64 c.li] 23)) (Obj.cells #[.int .i64 a, .int .i64 b, .int .i64 m] 26) (w.heap.size + 1) (by simp only [size_alloc])
  have HV := Lib.hid (hv.below hb0 (Nat.le_refl _))
  obtain ⟨va, cap, rfl, hn1, hcap, hc⟩ := hv
  have HB := Lib.hid hb0
  have K0 := Lib.hid k0
  have K1 := Lib.hid k1
  clear hc hb0 k0 k1
  cases hfar : decide (42 < l.length)
  · by_cases hs : 10 < c.n ∧ c.n ≤ 24
    · obtain ⟨s1, s2⟩ := hs
      go_enter Try.func4, Try.ntmps4
      go_wp2_with fail
      generalize (w.alloc (Obj.cells #[.int .i64 c.n, .int .i64 c.pi, .int .i64 c.li] 23)).alloc (Obj.cells #[.int .i64 a, .int .i64 b, .int .i64 m] 26) = wA at *
      have c0 := block_cell K0.out
      go_wp2_with (go_at_call 11; refine (far_any l _ _ HV.out).mono ?_; rintro e w' ⟨rfl, rfl⟩; rw [hfar])
      refine (works_any _).mono ?_
      rintro e w6 ⟨rfl, hb6⟩
      go_wp2
      go_ret
      exact ⟨rfl, HB.out.trans (hb6.mono HB.out.size)⟩
    · have hs2 : ¬ 10 < c.n ∨ (10 < c.n ∧ ¬ c.n ≤ 24) := by omega
      go_enter Try.func4, Try.ntmps4
      go_upto_region 1 with fail
      generalize (w.alloc (Obj.cells #[.int .i64 c.n, .int .i64 c.pi, .int .i64 c.li] 23)).alloc (Obj.cells #[.int .i64 a, .int .i64 b, .int .i64 m] 26) = wA at *
      go_cut [23] (fun s wx => s = .bool false ∧ wA = wx)
      case first =>
        have c0 := block_cell K0.out
        rcases hs2 with h1 | ⟨h1, h2⟩
        all_goals
          go_wp2_with (go_at_call 11; refine (far_any l _ _ HV.out).mono ?_; rintro e w' ⟨rfl, rfl⟩; rw [hfar])
          go_meet
          exact ⟨by first | rfl | (simp; omega), rfl⟩
      case rest =>
        obtain ⟨rfl, rfl⟩ := hcut
        go_wp2_with fail
        refine (copyGauges_any _ l _ HV.out hn).mono ?_
        rintro e w1 ⟨v1, rfl, ho1, hb1⟩
        have HU := Lib.hid (ElAt.of_own (m := 4) (f := gauL) (xs := l) (fun _ => rfl) ho1)
        obtain ⟨a1, cap1, rfl, _⟩ := ownsRow_shape ho1
        have HV := Lib.hid (HV.out.below hb1 (Nat.le_refl _))
        have K0 := Lib.hid ((hb1.block _ (lt_of_block K0.out)).trans K0.out)
        have K1 := Lib.hid ((hb1.block _ (lt_of_block K1.out)).trans K1.out)
        have HB := Lib.hid (HB.out.trans (hb1.mono HB.out.size))
        clear hb1 ho1
        have c0 := block_cell K0.out
        have c1 := block_cell K1.out
        have z0 := lt_of_block K0.out
        have z1 := lt_of_block K1.out
        have HN0 := Lib.hid (Below.refl w1.heap.size w1)
        have HK1 := Lib.hid (fun w2 (h : Below w1.heap.size w1 w2) => kConflict_any c l _ w2 (HU.out.below h (Nat.le_refl _)))
        have HK2 := Lib.hid (fun w2 (h : Below w1.heap.size w1 w2) => rConflict_any c l _ w2 (HV.out.below h (Nat.le_refl _)))
        have HK3 := Lib.hid (fun w2 (h : Below w1.heap.size w1 w2) => kWhy_any c l _ a b m w2 (HU.out.below h (Nat.le_refl _)))
        have HK4 := Lib.hid (fun w2 (h : Below w1.heap.size w1 w2) => rWhy_any c l _ a b m w2 (HV.out.below h (Nat.le_refl _)))
        generalize conL c l = L at *
        generalize conE c l = E at *
        generalize whyL c l a b m = L2 at *
        generalize whyE c l a b m = E2 at *
        have e1 : (E == E) = true := by simp
        have e2 : (E != E) = false := by simp
        have e3 : (E2 == E2) = true := by simp
        go_wp2_with fail
        refine (HK1.out _ HN0.out).mono ?_
        rintro e w3 ⟨v3, rfl, hi3, hb3⟩
        have H3 := Lib.hid hi3
        obtain ⟨a3, c3, rfl⟩ := hi3.sh
        have HN1 := Lib.hid (HN0.out.trans (hb3.mono HN0.out.size))
        clear hb3 c0 c1 z0 z1
        have c0 := block_cell ((HN1.out.block _ (lt_of_block K0.out)).trans K0.out)
        have c1 := block_cell ((HN1.out.block _ (lt_of_block K1.out)).trans K1.out)
        have z0 := Nat.lt_of_lt_of_le (lt_of_block K0.out) HN1.out.size
        have z1 := Nat.lt_of_lt_of_le (lt_of_block K1.out) HN1.out.size
        clear hi3
        go_wp2_with fail
        refine (HK2.out _ HN1.out).mono ?_
        rintro e w4 ⟨v4, rfl, hi4, hb4⟩
        have H4 := Lib.hid hi4
        have H3 := Lib.hid (H3.out.below hb4 (Nat.le_refl _))
        obtain ⟨a4, c4, rfl⟩ := hi4.sh
        have HN2 := Lib.hid (HN1.out.trans (hb4.mono HN1.out.size))
        clear hb4 c0 c1 z0 z1
        have c0 := block_cell ((HN2.out.block _ (lt_of_block K0.out)).trans K0.out)
        have c1 := block_cell ((HN2.out.block _ (lt_of_block K1.out)).trans K1.out)
        have z0 := Nat.lt_of_lt_of_le (lt_of_block K0.out) HN2.out.size
        have z1 := Nat.lt_of_lt_of_le (lt_of_block K1.out) HN2.out.size
        clear hi4
        go_wp2_with fail
        refine (sameInts_any _ _ L L _ H3.out H4.out).mono ?_
        rintro e w5 ⟨rfl, hb5⟩
        rw [show decide (L = L) = true by simp]
        have HN3 := Lib.hid (HN2.out.trans (hb5.mono HN2.out.size))
        clear hb5 c0 c1 z0 z1
        have c0 := block_cell ((HN3.out.block _ (lt_of_block K0.out)).trans K0.out)
        have c1 := block_cell ((HN3.out.block _ (lt_of_block K1.out)).trans K1.out)
        have z0 := Nat.lt_of_lt_of_le (lt_of_block K0.out) HN3.out.size
        have z1 := Nat.lt_of_lt_of_le (lt_of_block K1.out) HN3.out.size
        go_wp2_with fail
        refine (HK3.out _ HN3.out).mono ?_
        rintro e w6 ⟨v6, rfl, hi6, hb6⟩
        have H6 := Lib.hid hi6
        obtain ⟨a6, c6, rfl⟩ := hi6.sh
        have HN4 := Lib.hid (HN3.out.trans (hb6.mono HN3.out.size))
        clear hb6 c0 c1 z0 z1
        have c0 := block_cell ((HN4.out.block _ (lt_of_block K0.out)).trans K0.out)
        have c1 := block_cell ((HN4.out.block _ (lt_of_block K1.out)).trans K1.out)
        have z0 := Nat.lt_of_lt_of_le (lt_of_block K0.out) HN4.out.size
        have z1 := Nat.lt_of_lt_of_le (lt_of_block K1.out) HN4.out.size
        clear hi6
        go_wp2_with fail
        refine (HK4.out _ HN4.out).mono ?_
        rintro e w7 ⟨v7, rfl, hi7, hb7⟩
        have H7 := Lib.hid hi7
        have H6 := Lib.hid (H6.out.below hb7 (Nat.le_refl _))
        obtain ⟨a7, c7, rfl⟩ := hi7.sh
        have HN5 := Lib.hid (HN4.out.trans (hb7.mono HN4.out.size))
        clear hb7 c0 c1 z0 z1
        have c0 := block_cell ((HN5.out.block _ (lt_of_block K0.out)).trans K0.out)
        have c1 := block_cell ((HN5.out.block _ (lt_of_block K1.out)).trans K1.out)
        have z0 := Nat.lt_of_lt_of_le (lt_of_block K0.out) HN5.out.size
        have z1 := Nat.lt_of_lt_of_le (lt_of_block K1.out) HN5.out.size
        clear hi7
        go_wp2_with fail
        refine (sameInts_any _ _ L2 L2 _ H6.out H7.out).mono ?_
        rintro e w8 ⟨rfl, hb8⟩
        rw [show decide (L2 = L2) = true by simp]
        have HN6 := Lib.hid (HN5.out.trans (hb8.mono HN5.out.size))
        clear hb8 c0 c1 z0 z1
        have c0 := block_cell ((HN6.out.block _ (lt_of_block K0.out)).trans K0.out)
        have c1 := block_cell ((HN6.out.block _ (lt_of_block K1.out)).trans K1.out)
        have z0 := Nat.lt_of_lt_of_le (lt_of_block K0.out) HN6.out.size
        have z1 := Nat.lt_of_lt_of_le (lt_of_block K1.out) HN6.out.size
        go_wp2_with fail
        refine (works_any _).mono ?_
        rintro e w9 ⟨rfl, hb9⟩
        go_wp2
        go_ret
        exact ⟨rfl, HB.out.trans ((HN6.out.trans (hb9.mono HN6.out.size)).mono HB.out.size)⟩
  · go_enter Try.func4, Try.ntmps4
    go_wp2_with fail
    generalize (w.alloc (Obj.cells #[.int .i64 c.n, .int .i64 c.pi, .int .i64 c.li] 23)).alloc (Obj.cells #[.int .i64 a, .int .i64 b, .int .i64 m] 26) = wA at *
    have c0 := block_cell K0.out
    go_wp2_with (go_at_call 11; refine (far_any l _ _ HV.out).mono ?_; rintro e w' ⟨rfl, rfl⟩; rw [hfar])
    refine (works_any _).mono ?_
    rintro e w6 ⟨rfl, hb6⟩
    go_wp2
    go_ret
    exact ⟨rfl, HB.out.trans (hb6.mono HB.out.size)⟩

end Go.Proofs.Ythgcnakbbmknoaa

/- How arguments read: slices of elements of m cells, of ints, structs; and what their readings weigh. What the rows of every layer use. -/
namespace Go.Proofs.Ythgcnakbbmknoaa
open Go.ChangeShapes Go.WideShapes Go.ChangeAt Go.RowKit Go.Deep

section
variable {H : Type} {enc : TypeId × Value → H} {P : Program} {w : World} {base : Nat} {spare : Nat → Bool} {held : Bool}

theorem fieldOf {t : TypeId} {fs : Array Field} {fuel : Nat} {cs : List Value} {x : DataW H × List MemPlace} (ht : P.underlying t = some (.struct fs)) (h : DataW.trod enc P w base spare held fuel t cs = some x) :
    ∃ n, cs.length = P.cellsOf t ∧ ∃ parts : List (DataW H), x.1 = .agg parts ∧ ∀ (i : Nat) (f : Field), fs[i]? = some f → ∃ y, DataW.trod enc P w base spare held n f.type ((cs.drop f.offset).take (P.cellsOf f.type)) = some y ∧ parts[i]? = some y.1 := by
  obtain ⟨xs, n, _, hxe, hl, hx, hf⟩ := DataW.trod_struct ht h
  refine ⟨n, hl, xs.map (·.1), by rw [hxe], fun i f hi => ?_⟩
  have hlt : i < fs.size := (Array.getElem?_eq_some_iff.1 hi).1
  exact ⟨xs[i]'(by omega), by rw [hf i f hi]; exact List.getElem?_eq_getElem (by omega), by rw [List.getElem?_map, List.getElem?_eq_getElem (by omega)]; rfl⟩

theorem intAt {t : TypeId} {k : IntKind} {fuel : Nat} {cs : List Value} {x : DataW H × List MemPlace} (ht : P.underlying t = some (.int k)) (h : DataW.trod enc P w base spare held fuel t cs = some x) : ∃ n, cs = [.int k n] := by
  obtain ⟨n, h1, _, _⟩ := DataW.trod_int ht h
  exact ⟨n, h1⟩

theorem boolAt {t : TypeId} {fuel : Nat} {cs : List Value} {x : DataW H × List MemPlace} (ht : P.underlying t = some .bool) (h : DataW.trod enc P w base spare held fuel t cs = some x) : ∃ n, cs = [.bool n] := by
  obtain ⟨n, h1, _⟩ := DataW.trod_bool ht h
  exact ⟨n, h1⟩

/-- The datum of a slice of n elements. -/
def SlShape (d : DataW H) (n : Nat) : Prop := (d = .nil ∧ n = 0) ∨ ∃ elems sp, d = .slice elems sp ∧ elems.length = n

theorem SlShape.weight {d : DataW H} {n : Nat} (h : SlShape d n) {t e : TypeId} (hu : P.underlying t = some (.slice e)) (hw : ∀ k ∈ d.weights P t, k ≤ reachBytes) : n * P.bytesOf e ≤ reachBytes := by
  rcases h with ⟨rfl, rfl⟩ | ⟨elems, sp, rfl, rfl⟩
  · simp
  · have := hw ((elems.length + sp.length) * P.bytesOf e) (by simp [DataW.weights, hu])
    exact Nat.le_trans (Nat.mul_le_mul_right _ (Nat.le_add_right _ _)) this

theorem weights_part {t : TypeId} {fs : Array Field} {parts : List (DataW H)} {i : Nat} {f : Field} {d : DataW H} (hu : P.underlying t = some (.struct fs)) (hf : fs[i]? = some f) (hd : parts[i]? = some d) (hw : ∀ k ∈ (DataW.agg parts).weights P t, k ≤ reachBytes) :
    ∀ k ∈ d.weights P f.type, k ≤ reachBytes := fun k hk => by
  refine hw k ?_
  simp only [DataW.weights, hu]
  exact DataW.weights_mem_each (j := i) (by rw [List.getElem?_map, Array.getElem?_toList, hf]; rfl) hd k hk

theorem weights_arg {ts : List TypeId} {ds : List (DataW H)} (h : (DataW.weightsEach P ts ds).all (· ≤ reachBytes) = true) {j : Nat} {t : TypeId} {d : DataW H} (ht : ts[j]? = some t) (hd : ds[j]? = some d) : ∀ k ∈ d.weights P t, k ≤ reachBytes := fun k hk => by
  have := List.all_eq_true.1 h k (DataW.weights_mem_each ht hd k hk)
  simpa using this

theorem addPlain (b off i : Nat) : (⟨b, off, none⟩ : Addr).add i = ⟨b, off + i, none⟩ := by unfold Addr.add; split <;> simp_all

end

section
variable {H : Type} {enc : TypeId × Value → H} {P : Program} {W : World}

theorem elemsOf {α : Type} [Inhabited α] {f : α → List Value} {m : Nat} {ts te : TypeId} (ht : P.underlying ts = some (.slice te)) (hm : P.cellsOf te = m) (hm0 : 0 < m) (hf : ∀ x, (f x).length = m)
    (dec : ∀ (n : Nat) (cs : List Value) (x : DataW H × List MemPlace), DataW.trod enc P W 0 (fun _ => true) true n te cs = some x → ∃ a, cs = f a)
    {fuel : Nat} {v : Value} {x : DataW H × List MemPlace} (h : DataW.trod enc P W 0 (fun _ => true) true fuel ts [v] = some x) : ∃ xs : List α, ElAt m f W v xs ∧ SlShape x.1 xs.length := by
  subst hm
  rcases open_slice ht h with ⟨h0, hx⟩ | ⟨a, len, cap, m, n, D, Pl, hcs, _, hl, hcap, hm, hx, hel⟩
  · simp only [List.cons.injEq, and_true] at h0
    subst h0
    exact ⟨[], ElAt.nil W, .inl ⟨by rw [hx], rfl⟩⟩
  · simp only [List.cons.injEq, and_true] at hcs
    subst hcs
    simp only [if_true] at hm
    subst hm
    have key : ∀ i, i < len → ∃ q : α, ∀ j u, (f q)[j]? = some u → W.cell? ((a.add (i * P.cellsOf te)).add j) = some u := by
      intro i hi
      obtain ⟨cs, hc, htr⟩ := hel i (by omega)
      obtain ⟨_, hlen, hat⟩ := World.cells?_some hc
      obtain ⟨q, rfl⟩ := dec _ _ _ htr
      refine ⟨q, fun j u hu => ?_⟩
      have hj : j < P.cellsOf te := by rw [← hf q]; exact (List.getElem?_eq_some_iff.1 hu).1
      rw [hat j hj, hu]
    obtain ⟨g, hg⟩ := choose_lt key
    refine ⟨(List.range len).map g, ⟨some a, m, by simp, by simpa using hl, by unfold maxLen at hcap; omega, fun hpos => ?_⟩, .inr ⟨_, _, by rw [hx], by simp⟩⟩
    have hpos' : 0 < len := by simpa using hpos
    have hl0 : 0 < (f (g 0)).length := by rw [hf]; exact hm0
    have hu0 : (f (g 0))[0]? = some (f (g 0))[0] := List.getElem?_eq_getElem hl0
    have h00 := hg 0 hpos' 0 _ hu0
    have hspot : a.spot = none := by simpa [Addr.add] using World.cell?_spot h00
    obtain ⟨b, off, spot⟩ := a
    subst hspot
    have hb : b < W.heap.size := by
      have := cell_lt h00
      rw [addPlain, addPlain] at this
      exact this
    refine ⟨b, off, rfl, hb, fun i x hxi j u hu => ?_⟩
    have hi' : i < len := by simpa using (List.getElem?_eq_some_iff.1 hxi).1
    rw [List.getElem?_map, List.getElem?_range hi'] at hxi
    obtain rfl : g i = x := by simpa using hxi
    have := hg i hi' j u hu
    rw [addPlain, addPlain] at this
    exact this

theorem intsOf {ts te : TypeId} (ht : P.underlying ts = some (.slice te)) (hte : P.underlying te = some (.int .i64)) (hm : P.cellsOf te = 1)
    {fuel : Nat} {v : Value} {x : DataW H × List MemPlace} (h : DataW.trod enc P W 0 (fun _ => true) true fuel ts [v] = some x) : ∃ xs : List Int, InAt W v xs ∧ SlShape x.1 xs.length := by
  obtain ⟨xs, h1, h2⟩ := elemsOf (f := fun n : Int => [Value.int .i64 n]) ht hm (by decide) (fun _ => rfl) (fun n cs x h => intAt hte h) h
  refine ⟨xs, ?_, h2⟩
  obtain ⟨a, cap, rfl, h3, h4, h5⟩ := h1
  refine ⟨a, cap, rfl, h3, h4, fun hp => ?_⟩
  obtain ⟨b, off, rfl, hb, hc⟩ := h5 hp
  refine ⟨b, off, rfl, hb, fun i hi => ?_⟩
  have := hc i _ (getD_get? hi 0) 0 _ rfl
  simpa using this
end

end Go.Proofs.Ythgcnakbbmknoaa

/- How the arguments of layer 2's statements read. -/
namespace Go.Proofs.Ythgcnakbbmknoaa
open Go.ChangeShapes Go.WideShapes Go.ChangeAt Go.RowKit Go.Deep
set_option maxRecDepth 100000

theorem cells_int : Try.prog.cellsOf 3 = 1 := by kernel_rfl
theorem cells_bool : Try.prog.cellsOf 4 = 1 := by kernel_rfl
theorem cells_ints : Try.prog.cellsOf 29 = 1 := by kernel_rfl
theorem cells_gaus : Try.prog.cellsOf 24 = 1 := by kernel_rfl
theorem cells_uses : Try.prog.cellsOf 99 = 1 := by kernel_rfl
theorem cells_spans : Try.prog.cellsOf 40 = 1 := by kernel_rfl
instance : Inhabited Gau := ⟨Gau.zero⟩
instance : Inhabited Us := ⟨Us.zero⟩
abbrev chnL (c : Chn) : List Value := [.int .i64 c.n, .int .i64 c.pi, .int .i64 c.li]

abbrev cloL (s : Int × Int × Int × Int × Int) : List Value := [.int .i64 s.1, .int .i64 s.2.1, .int .i64 s.2.2.1, .int .i64 s.2.2.2.1, .int .i64 s.2.2.2.2]
abbrev strL (s : Int × Int × Int) : List Value := [.int .i64 s.1, .int .i64 s.2.1, .int .i64 s.2.2]

section
variable {H : Type} {enc : TypeId × Value → H} {W : World} {d : DataW H} {ps : List MemPlace}

theorem cells_span : Try.prog.cellsOf 45 = 2 := by kernel_rfl
theorem span_cells {fuel : Nat} {cs : List Value} {x : DataW H × List MemPlace} (h : DataW.trod enc Try.prog W 0 (fun _ => true) true fuel 45 cs = some x) : ∃ a : Spn, cs = spnL a := by
  obtain ⟨n, hl, parts, _, hx⟩ := fieldOf Try.underlying45 h
  rw [cells_span] at hl
  obtain ⟨y0, h0, _⟩ : ∃ y, DataW.trod enc Try.prog W 0 (fun _ => true) true n 3 ((cs.drop 0).take (Try.prog.cellsOf 3)) = some y ∧ parts[0]? = some y.1 := hx 0 _ rfl
  rw [cells_int] at h0
  obtain ⟨x0, e0⟩ := intAt Try.underlying3 h0
  obtain ⟨y1, h1, _⟩ : ∃ y, DataW.trod enc Try.prog W 0 (fun _ => true) true n 3 ((cs.drop 1).take (Try.prog.cellsOf 3)) = some y ∧ parts[1]? = some y.1 := hx 1 _ rfl
  rw [cells_int] at h1
  obtain ⟨x1, e1⟩ := intAt Try.underlying3 h1
  match cs, hl with
  | [c0, c1], _ =>
    simp at e0 e1
    subst e0 e1
    exact ⟨(x0, x1), rfl⟩

theorem cells_gau : Try.prog.cellsOf 53 = 4 := by kernel_rfl
theorem gau_cells {fuel : Nat} {cs : List Value} {x : DataW H × List MemPlace} (h : DataW.trod enc Try.prog W 0 (fun _ => true) true fuel 53 cs = some x) : ∃ a : Gau, cs = gauL a := by
  obtain ⟨n, hl, parts, _, hx⟩ := fieldOf Try.underlying53 h
  rw [cells_gau] at hl
  obtain ⟨y0, h0, _⟩ : ∃ y, DataW.trod enc Try.prog W 0 (fun _ => true) true n 3 ((cs.drop 0).take (Try.prog.cellsOf 3)) = some y ∧ parts[0]? = some y.1 := hx 0 _ rfl
  rw [cells_int] at h0
  obtain ⟨x0, e0⟩ := intAt Try.underlying3 h0
  obtain ⟨y1, h1, _⟩ : ∃ y, DataW.trod enc Try.prog W 0 (fun _ => true) true n 3 ((cs.drop 1).take (Try.prog.cellsOf 3)) = some y ∧ parts[1]? = some y.1 := hx 1 _ rfl
  rw [cells_int] at h1
  obtain ⟨x1, e1⟩ := intAt Try.underlying3 h1
  obtain ⟨y2, h2, _⟩ : ∃ y, DataW.trod enc Try.prog W 0 (fun _ => true) true n 45 ((cs.drop 2).take (Try.prog.cellsOf 45)) = some y ∧ parts[2]? = some y.1 := hx 2 _ rfl
  rw [cells_span] at h2
  obtain ⟨⟨x2a, x2b⟩, e2⟩ := span_cells h2
  match cs, hl with
  | [c0, c1, c2, c3], _ =>
    simp at e0 e1 e2
    obtain ⟨e2, e2'⟩ := e2
    subst e0 e1 e2 e2'
    exact ⟨⟨x0, x1, x2a, x2b⟩, rfl⟩

theorem cells_use : Try.prog.cellsOf 152 = 6 := by kernel_rfl
theorem use_cells {fuel : Nat} {cs : List Value} {x : DataW H × List MemPlace} (h : DataW.trod enc Try.prog W 0 (fun _ => true) true fuel 152 cs = some x) : ∃ a : Us, cs = usL a := by
  obtain ⟨n, hl, parts, _, hx⟩ := fieldOf Try.underlying152 h
  rw [cells_use] at hl
  obtain ⟨y0, h0, _⟩ : ∃ y, DataW.trod enc Try.prog W 0 (fun _ => true) true n 3 ((cs.drop 0).take (Try.prog.cellsOf 3)) = some y ∧ parts[0]? = some y.1 := hx 0 _ rfl
  rw [cells_int] at h0
  obtain ⟨x0, e0⟩ := intAt Try.underlying3 h0
  obtain ⟨y1, h1, _⟩ : ∃ y, DataW.trod enc Try.prog W 0 (fun _ => true) true n 3 ((cs.drop 1).take (Try.prog.cellsOf 3)) = some y ∧ parts[1]? = some y.1 := hx 1 _ rfl
  rw [cells_int] at h1
  obtain ⟨x1, e1⟩ := intAt Try.underlying3 h1
  obtain ⟨y2, h2, _⟩ : ∃ y, DataW.trod enc Try.prog W 0 (fun _ => true) true n 3 ((cs.drop 2).take (Try.prog.cellsOf 3)) = some y ∧ parts[2]? = some y.1 := hx 2 _ rfl
  rw [cells_int] at h2
  obtain ⟨x2, e2⟩ := intAt Try.underlying3 h2
  obtain ⟨y3, h3, _⟩ : ∃ y, DataW.trod enc Try.prog W 0 (fun _ => true) true n 4 ((cs.drop 3).take (Try.prog.cellsOf 4)) = some y ∧ parts[3]? = some y.1 := hx 3 _ rfl
  rw [cells_bool] at h3
  obtain ⟨x3, e3⟩ := boolAt Try.underlying4 h3
  obtain ⟨y4, h4, _⟩ : ∃ y, DataW.trod enc Try.prog W 0 (fun _ => true) true n 45 ((cs.drop 4).take (Try.prog.cellsOf 45)) = some y ∧ parts[4]? = some y.1 := hx 4 _ rfl
  rw [cells_span] at h4
  obtain ⟨⟨x4a, x4b⟩, e4⟩ := span_cells h4
  match cs, hl with
  | [c0, c1, c2, c3, c4, c5], _ =>
    simp at e0 e1 e2 e3 e4
    obtain ⟨e4, e4'⟩ := e4
    subst e0 e1 e2 e3 e4 e4'
    exact ⟨⟨x0, x1, x2, x3, x4a, x4b⟩, rfl⟩

theorem cells_chn : Try.prog.cellsOf 23 = 3 := by kernel_rfl
theorem chn_cells {fuel : Nat} {cs : List Value} {x : DataW H × List MemPlace} (h : DataW.trod enc Try.prog W 0 (fun _ => true) true fuel 23 cs = some x) : ∃ a : Chn, cs = chnL a := by
  obtain ⟨n, hl, parts, _, hx⟩ := fieldOf Try.underlying23 h
  rw [cells_chn] at hl
  obtain ⟨y0, h0, _⟩ : ∃ y, DataW.trod enc Try.prog W 0 (fun _ => true) true n 3 ((cs.drop 0).take (Try.prog.cellsOf 3)) = some y ∧ parts[0]? = some y.1 := hx 0 _ rfl
  rw [cells_int] at h0
  obtain ⟨x0, e0⟩ := intAt Try.underlying3 h0
  obtain ⟨y1, h1, _⟩ : ∃ y, DataW.trod enc Try.prog W 0 (fun _ => true) true n 3 ((cs.drop 1).take (Try.prog.cellsOf 3)) = some y ∧ parts[1]? = some y.1 := hx 1 _ rfl
  rw [cells_int] at h1
  obtain ⟨x1, e1⟩ := intAt Try.underlying3 h1
  obtain ⟨y2, h2, _⟩ : ∃ y, DataW.trod enc Try.prog W 0 (fun _ => true) true n 3 ((cs.drop 2).take (Try.prog.cellsOf 3)) = some y ∧ parts[2]? = some y.1 := hx 2 _ rfl
  rw [cells_int] at h2
  obtain ⟨x2, e2⟩ := intAt Try.underlying3 h2
  match cs, hl with
  | [c0, c1, c2], _ =>
    simp at e0 e1 e2
    subst e0 e1 e2
    exact ⟨⟨x0, x1, x2⟩, rfl⟩

theorem cells_str : Try.prog.cellsOf 26 = 3 := by kernel_rfl
theorem str_cells {fuel : Nat} {cs : List Value} {x : DataW H × List MemPlace} (h : DataW.trod enc Try.prog W 0 (fun _ => true) true fuel 26 cs = some x) : ∃ a : (Int × Int × Int), cs = strL a := by
  obtain ⟨n, hl, parts, _, hx⟩ := fieldOf Try.underlying26 h
  rw [cells_str] at hl
  obtain ⟨y0, h0, _⟩ : ∃ y, DataW.trod enc Try.prog W 0 (fun _ => true) true n 3 ((cs.drop 0).take (Try.prog.cellsOf 3)) = some y ∧ parts[0]? = some y.1 := hx 0 _ rfl
  rw [cells_int] at h0
  obtain ⟨x0, e0⟩ := intAt Try.underlying3 h0
  obtain ⟨y1, h1, _⟩ : ∃ y, DataW.trod enc Try.prog W 0 (fun _ => true) true n 3 ((cs.drop 1).take (Try.prog.cellsOf 3)) = some y ∧ parts[1]? = some y.1 := hx 1 _ rfl
  rw [cells_int] at h1
  obtain ⟨x1, e1⟩ := intAt Try.underlying3 h1
  obtain ⟨y2, h2, _⟩ : ∃ y, DataW.trod enc Try.prog W 0 (fun _ => true) true n 3 ((cs.drop 2).take (Try.prog.cellsOf 3)) = some y ∧ parts[2]? = some y.1 := hx 2 _ rfl
  rw [cells_int] at h2
  obtain ⟨x2, e2⟩ := intAt Try.underlying3 h2
  match cs, hl with
  | [c0, c1, c2], _ =>
    simp at e0 e1 e2
    subst e0 e1 e2
    exact ⟨(x0, x1, x2), rfl⟩

theorem uses_cells {fuel : Nat} {v : Value} {x : DataW H × List MemPlace} (h : DataW.trod enc Try.prog W 0 (fun _ => true) true fuel 99 [v] = some x) : ∃ xs, UsAt W v xs ∧ SlShape x.1 xs.length :=
  elemsOf Try.underlying99 cells_use (by decide) (fun _ => rfl) (fun _ _ _ h => use_cells h) h
theorem gaus_cells {fuel : Nat} {v : Value} {x : DataW H × List MemPlace} (h : DataW.trod enc Try.prog W 0 (fun _ => true) true fuel 24 [v] = some x) : ∃ xs, GaAt W v xs ∧ SlShape x.1 xs.length :=
  elemsOf Try.underlying24 cells_gau (by decide) (fun _ => rfl) (fun _ _ _ h => gau_cells h) h
theorem spans_cells {fuel : Nat} {v : Value} {x : DataW H × List MemPlace} (h : DataW.trod enc Try.prog W 0 (fun _ => true) true fuel 40 [v] = some x) : ∃ xs, SpAt W v xs ∧ SlShape x.1 xs.length :=
  elemsOf Try.underlying40 cells_span (by decide) (fun _ => rfl) (fun _ _ _ h => span_cells h) h
theorem intsl_cells {fuel : Nat} {v : Value} {x : DataW H × List MemPlace} (h : DataW.trod enc Try.prog W 0 (fun _ => true) true fuel 29 [v] = some x) : ∃ xs, InAt W v xs ∧ SlShape x.1 xs.length :=
  intsOf Try.underlying29 Try.underlying3 cells_int h

theorem uses_of {v : Value} (hv : Value.okWide Try.prog W .any 0 99 v) (h : DataW.Trod enc Try.prog W 0 (fun _ => true) true 99 v d ps) : ∃ xs, UsAt W v xs ∧ SlShape d xs.length := by
  obtain ⟨a, n, c, rfl⟩ := okWide_slice Try.underlying99 hv
  obtain ⟨fuel, hf⟩ := h
  exact uses_cells hf
theorem gaus_of {v : Value} (hv : Value.okWide Try.prog W .any 0 24 v) (h : DataW.Trod enc Try.prog W 0 (fun _ => true) true 24 v d ps) : ∃ xs, GaAt W v xs ∧ SlShape d xs.length := by
  obtain ⟨a, n, c, rfl⟩ := okWide_slice Try.underlying24 hv
  obtain ⟨fuel, hf⟩ := h
  exact gaus_cells hf
theorem ints_of {v : Value} (hv : Value.okWide Try.prog W .any 0 29 v) (h : DataW.Trod enc Try.prog W 0 (fun _ => true) true 29 v d ps) : ∃ xs, InAt W v xs ∧ SlShape d xs.length := by
  obtain ⟨a, n, c, rfl⟩ := okWide_slice Try.underlying29 hv
  obtain ⟨fuel, hf⟩ := h
  exact intsl_cells hf
theorem chn_of {v : Value} (hv : Value.okWide Try.prog W .any 0 23 v) (h : DataW.Trod enc Try.prog W 0 (fun _ => true) true 23 v d ps) : ∃ c : Chn, v = chnV c := by
  obtain ⟨cs, rfl, _⟩ := okWide_struct Try.underlying23 hv
  obtain ⟨fuel, hf⟩ := h
  obtain ⟨l⟩ := cs
  obtain ⟨c, e⟩ := chn_cells hf
  simp only [Value.cells] at e
  subst e
  exact ⟨c, rfl⟩
theorem str_of {v : Value} (hv : Value.okWide Try.prog W .any 0 26 v) (h : DataW.Trod enc Try.prog W 0 (fun _ => true) true 26 v d ps) : ∃ a b m : Int, v = .agg #[.int .i64 a, .int .i64 b, .int .i64 m] := by
  obtain ⟨cs, rfl, _⟩ := okWide_struct Try.underlying26 hv
  obtain ⟨fuel, hf⟩ := h
  obtain ⟨l⟩ := cs
  obtain ⟨⟨a, b, m⟩, e⟩ := str_cells hf
  simp only [Value.cells] at e
  subst e
  exact ⟨a, b, m, rfl⟩
theorem gau_of {v : Value} (hv : Value.okWide Try.prog W .any 0 53 v) (h : DataW.Trod enc Try.prog W 0 (fun _ => true) true 53 v d ps) : ∃ g : Gau, v = gauV g := by
  obtain ⟨cs, rfl, _⟩ := okWide_struct Try.underlying53 hv
  obtain ⟨fuel, hf⟩ := h
  obtain ⟨l⟩ := cs
  obtain ⟨c, e⟩ := gau_cells hf
  simp only [Value.cells] at e
  subst e
  exact ⟨c, rfl⟩

theorem cells_prt : Try.prog.cellsOf 98 = 4 := by kernel_rfl
theorem prt_of {v : Value} (hv : Value.okWide Try.prog W .any 0 98 v) (h : DataW.Trod enc Try.prog W 0 (fun _ => true) true 98 v d ps) :
    ∃ (P : Prt) (bv : Value), v = prtV P bv ∧ SpAt W bv P.rs ∧ ∃ parts d', d = .agg parts ∧ parts[0]? = some d' ∧ SlShape d' P.rs.length := by
  obtain ⟨cs, rfl, _⟩ := okWide_struct Try.underlying98 hv
  obtain ⟨fuel, hf⟩ := h
  obtain ⟨n, hl, parts, hd, hx⟩ := fieldOf Try.underlying98 hf
  obtain ⟨l⟩ := cs
  simp only [Value.cells] at hl hx
  rw [cells_prt] at hl
  obtain ⟨y0, h0, p0⟩ : ∃ y, DataW.trod enc Try.prog W 0 (fun _ => true) true n 40 ((l.drop 0).take (Try.prog.cellsOf 40)) = some y ∧ parts[0]? = some y.1 := hx 0 _ rfl
  obtain ⟨y1, h1, _⟩ : ∃ y, DataW.trod enc Try.prog W 0 (fun _ => true) true n 3 ((l.drop 1).take (Try.prog.cellsOf 3)) = some y ∧ parts[1]? = some y.1 := hx 1 _ rfl
  obtain ⟨y2, h2, _⟩ : ∃ y, DataW.trod enc Try.prog W 0 (fun _ => true) true n 3 ((l.drop 2).take (Try.prog.cellsOf 3)) = some y ∧ parts[2]? = some y.1 := hx 2 _ rfl
  obtain ⟨y3, h3, _⟩ : ∃ y, DataW.trod enc Try.prog W 0 (fun _ => true) true n 3 ((l.drop 3).take (Try.prog.cellsOf 3)) = some y ∧ parts[3]? = some y.1 := hx 3 _ rfl
  rw [cells_spans] at h0
  rw [cells_int] at h1 h2 h3
  obtain ⟨wo, e1⟩ := intAt Try.underlying3 h1
  obtain ⟨tu, e2⟩ := intAt Try.underlying3 h2
  obtain ⟨ag, e3⟩ := intAt Try.underlying3 h3
  match l, hl with
  | [c0, c1, c2, c3], _ =>
    simp at e1 e2 e3
    subst e1 e2 e3
    obtain ⟨rs, hr, hs⟩ := spans_cells (by simpa using h0)
    exact ⟨⟨rs, wo, tu, ag⟩, c0, rfl, hr, parts, _, hd, p0, hs⟩

theorem cells_side : Try.prog.cellsOf 38 = 4 := by kernel_rfl
theorem side_of {v : Value} (hv : Value.okWide Try.prog W .any 0 38 v) (h : DataW.Trod enc Try.prog W 0 (fun _ => true) true 38 v d ps) :
    ∃ (c : Chn) (gv : Value) (xs : List Gau), v = .agg #[.int .i64 c.n, .int .i64 c.pi, .int .i64 c.li, gv] ∧ GaAt W gv xs ∧ ∃ parts d', d = .agg parts ∧ parts[1]? = some d' ∧ SlShape d' xs.length := by
  obtain ⟨cs, rfl, _⟩ := okWide_struct Try.underlying38 hv
  obtain ⟨fuel, hf⟩ := h
  obtain ⟨n, hl, parts, hd, hx⟩ := fieldOf Try.underlying38 hf
  obtain ⟨l⟩ := cs
  simp only [Value.cells] at hl hx
  rw [cells_side] at hl
  obtain ⟨y0, h0, _⟩ : ∃ y, DataW.trod enc Try.prog W 0 (fun _ => true) true n 23 ((l.drop 0).take (Try.prog.cellsOf 23)) = some y ∧ parts[0]? = some y.1 := hx 0 _ rfl
  obtain ⟨y1, h1, p1⟩ : ∃ y, DataW.trod enc Try.prog W 0 (fun _ => true) true n 24 ((l.drop 3).take (Try.prog.cellsOf 24)) = some y ∧ parts[1]? = some y.1 := hx 1 _ rfl
  rw [cells_chn] at h0
  rw [cells_gaus] at h1
  obtain ⟨c, e0⟩ := chn_cells h0
  match l, hl with
  | [c0, c1, c2, c3], _ =>
    simp at e0
    obtain ⟨rfl, rfl, rfl⟩ := e0
    obtain ⟨xs, hr, hs⟩ := gaus_cells (by simpa using h1)
    exact ⟨c, c3, xs, rfl, hr, parts, _, hd, p1, hs⟩

theorem cells_lens : Try.prog.cellsOf 58 = 3 := by kernel_rfl
theorem lens_of {v : Value} (hv : Value.okWide Try.prog W .any 0 58 v) (h : DataW.Trod enc Try.prog W 0 (fun _ => true) true 58 v d ps) :
    ∃ (av bv : Value) (xs ys : List Int) (e : Int), v = .agg #[av, bv, .int .i64 e] ∧ InAt W av xs ∧ InAt W bv ys := by
  obtain ⟨cs, rfl, _⟩ := okWide_struct Try.underlying58 hv
  obtain ⟨fuel, hf⟩ := h
  obtain ⟨n, hl, parts, hd, hx⟩ := fieldOf Try.underlying58 hf
  obtain ⟨l⟩ := cs
  simp only [Value.cells] at hl hx
  rw [cells_lens] at hl
  obtain ⟨y0, h0, _⟩ : ∃ y, DataW.trod enc Try.prog W 0 (fun _ => true) true n 29 ((l.drop 0).take (Try.prog.cellsOf 29)) = some y ∧ parts[0]? = some y.1 := hx 0 _ rfl
  obtain ⟨y1, h1, _⟩ : ∃ y, DataW.trod enc Try.prog W 0 (fun _ => true) true n 29 ((l.drop 1).take (Try.prog.cellsOf 29)) = some y ∧ parts[1]? = some y.1 := hx 1 _ rfl
  obtain ⟨y2, h2, _⟩ : ∃ y, DataW.trod enc Try.prog W 0 (fun _ => true) true n 3 ((l.drop 2).take (Try.prog.cellsOf 3)) = some y ∧ parts[2]? = some y.1 := hx 2 _ rfl
  rw [cells_ints] at h0 h1
  rw [cells_int] at h2
  obtain ⟨e, e2⟩ := intAt Try.underlying3 h2
  match l, hl with
  | [c0, c1, c2], _ =>
    simp at e2
    subst e2
    obtain ⟨xs, hr, _⟩ := intsl_cells (by simpa using h0)
    obtain ⟨ys, hs, _⟩ := intsl_cells (by simpa using h1)
    exact ⟨c0, c1, xs, ys, e, rfl, hr, hs⟩

theorem num_of {v : Value} (hv : Value.okWide Try.prog W .any 0 3 v) (h : DataW.Trod enc Try.prog W 0 (fun _ => true) true 3 v d ps) : ∃ n : Int, v = .int .i64 n := by
  obtain ⟨n, rfl, _⟩ := open_int Try.underlying3 hv h
  exact ⟨n, rfl⟩
end

end Go.Proofs.Ythgcnakbbmknoaa

/- Walks of layer 2 (chain): Skew of the program. -/
namespace Go.Proofs.Ythgcnakbbmknoaa
open Go.RowKit

theorem skwD_pos {c d : Chn} {k l : List Gau} {e : Nat} (hc : COk c) (hk : GOks c k) (hd : COk d) (hl : GOks d l) (ha : Agree c k) (hb : Agree d l) (h1 : e ≤ c.n.toNat) (h2 : e ≤ d.n.toNat) : 0 ≤ skwD c k d l e 0 := by
  have a := (run_span hc hk ha (i := 0) (k := e) (Nat.zero_le _) h1)
  have b := (run_span hd hl hb (i := 0) (k := e) (Nat.zero_le _) h2)
  unfold skwD
  unfold lowM highM at a b
  rw [Nat.zero_add, Nat.mul_one]
  omega

set_option maxRecDepth 100000 in
set_option maxHeartbeats 8000000 in
theorem kSkew_any (c : Chn) (k : List Gau) (d : Chn) (l : List Gau) (v u : Value) (e : Int) (w : World) (hv : GaAt w v k) (hu : GaAt w u l) :
    Calls Try.prog 28 #[chnV c, v, chnV d, u, .int .i64 e] w fun e' w' => e' = .returned (lonV (skwM c k d l e)) ∧ Below w.heap.size w w' := by
  have hb0 := ((Below.refl w.heap.size w).alloc (Nat.le_refl _) (Obj.cells #[.int .i64 c.n, .int .i64 c.pi, .int .i64 c.li] 23)).alloc (by simp only [size_alloc]; omega) (Obj.cells #[.int .i64 d.n, .int .i64 d.pi, .int .i64 d.li] 23)
  have k0 := block_alloc (block_new w (Obj.cells #[.int .i64 c.n, .int .i64 c.pi, .int .i64 c.li] 23) w.heap.size rfl) (Obj.cells #[.int .i64 d.n, .int .i64 d.pi, .int .i64 d.li] 23)
  have k1 := block_new (w.alloc (Obj.cells #[.int .i64 c.n, .int .i64 c.pi, .int .i64 c.li] 23)) (Obj.cells #[.int .i64 d.n, .int .i64 d.pi, .int .i64 d.li] 23) (w.heap.size + 1) (by simp only [size_alloc])
  have HV := Lib.hid (hv.below hb0 (Nat.le_refl _))
  have HU := Lib.hid (hu.below hb0 (Nat.le_refl _))
  obtain ⟨va, cap, rfl, hn1, hcap, hc⟩ := hv
  obtain ⟨ua, ucap, rfl, hn2, hucap, huc⟩ := hu
  have HB := Lib.hid hb0
  have K0 := Lib.hid k0
  have K1 := Lib.hid k1
  clear hc huc hb0 k0 k1
  go_enter Try.func28, Try.ntmps28
  go_wp2_with fail
  generalize (w.alloc (Obj.cells #[.int .i64 c.n, .int .i64 c.pi, .int .i64 c.li] 23)).alloc (Obj.cells #[.int .i64 d.n, .int .i64 d.pi, .int .i64 d.li] 23) = wA at *
  have c0 := block_cell K0.out
  have c1 := block_cell K1.out
  have z0 := lt_of_block K0.out
  have z1 := lt_of_block K1.out
  go_wp2_with fail
  refine (kcheck_any c k _ _ HV.out).mono ?_
  rintro e' w1 ⟨rfl, hb1⟩
  have HN0 := Lib.hid (Below.refl wA.heap.size wA)
  have HN1 := Lib.hid (HN0.out.trans (hb1.mono HN0.out.size))
  clear hb1 c0 c1 z0 z1
  have c0 := block_cell ((HN1.out.block _ (lt_of_block K0.out)).trans K0.out)
  have c1 := block_cell ((HN1.out.block _ (lt_of_block K1.out)).trans K1.out)
  have z0 := Nat.lt_of_lt_of_le (lt_of_block K0.out) HN1.out.size
  have z1 := Nat.lt_of_lt_of_le (lt_of_block K1.out) HN1.out.size
  by_cases hq : chkM c k = 0
  · have HQ := Lib.hid hq
    obtain ⟨hck1, hck2, hck3⟩ := chk_goks hq
    have n24 := hck1.n2
    have n1 := hck1.n1
    have HC1 := Lib.hid hck1
    have HC2 := Lib.hid hck2
    have hk100 : k.length ≤ 100 := by omega
    clear hck1 hck2 hck3 hq
    rw [HQ.out]
    go_wp2_with fail
    refine (kcheck_any d l _ _ (HU.out.below HN1.out (Nat.le_refl _))).mono ?_
    rintro e' w2 ⟨rfl, hb2⟩
    have HN2 := Lib.hid (HN1.out.trans (hb2.mono HN1.out.size))
    clear hb2 c0 c1 z0 z1
    have c0 := block_cell ((HN2.out.block _ (lt_of_block K0.out)).trans K0.out)
    have c1 := block_cell ((HN2.out.block _ (lt_of_block K1.out)).trans K1.out)
    have z0 := Nat.lt_of_lt_of_le (lt_of_block K0.out) HN2.out.size
    have z1 := Nat.lt_of_lt_of_le (lt_of_block K1.out) HN2.out.size
    by_cases hq : chkM d l = 0
    · have HQ2 := Lib.hid hq
      obtain ⟨hck1, hck2, hck3⟩ := chk_goks hq
      have HD1 := Lib.hid hck1
      have HD2 := Lib.hid hck2
      have hl100 : l.length ≤ 100 := by omega
      clear hck1 hck2 hck3 hq
      rw [HQ2.out]
      by_cases hnn : c.n = d.n
      · have hnd : (c.n != d.n) = false := by simp; omega
        have hle1 : c.n ≤ d.n := by omega
        have hle2 : d.n ≤ c.n := by omega
        have HNN0 := Lib.hid hnn
        clear hnn
        cases hm : decide (1 ≤ e ∧ e ≤ c.n)
        · have HR := Lib.hid (skw_arg (e := e) HQ.out HQ2.out (fun h => of_decide_eq_false hm h.2))
          go_wp2_with (go_at_call 49; refine (kwithin_is false e 1 c.n _ hm).mono ?_; rintro e' w' ⟨rfl, rfl⟩)
          refine bodyPost_ret (v := lonV ⟨0, 0, 1⟩) (by simp [results, Try.results28, go_sem]) rfl ⟨by rw [HR.out], HB.out.trans (HN2.out.mono HB.out.size)⟩
        · have hm2 := of_decide_eq_true hm
          obtain ⟨e, rfl⟩ : ∃ m : Nat, e = m := ⟨e.toNat, by omega⟩
          have HM2 := Lib.hid (show c.n = d.n ∧ 1 ≤ (e : Int) ∧ (e : Int) ≤ c.n from ⟨HNN0.out, hm2.1, hm2.2⟩)
          have hm0 := hm2.1
          have hm1 := hm2.2
          clear hm2
          go_wp2_with (go_at_call 49; refine (kwithin_is true e 1 c.n _ hm).mono ?_; rintro e' w' ⟨rfl, rfl⟩)
          refine (followC_any c k _ _ (HV.out.below HN2.out (Nat.le_refl _)) HQ.out).mono ?_
          rintro e' w3 ⟨M, rfl, hb3, hM⟩
          have HM := Lib.hid hM
          clear hM
          have HN3 := Lib.hid (HN2.out.trans (hb3.mono HN2.out.size))
          clear hb3 c0 c1 z0 z1
          have c0 := block_cell ((HN3.out.block _ (lt_of_block K0.out)).trans K0.out)
          have c1 := block_cell ((HN3.out.block _ (lt_of_block K1.out)).trans K1.out)
          have z0 := Nat.lt_of_lt_of_le (lt_of_block K0.out) HN3.out.size
          have z1 := Nat.lt_of_lt_of_le (lt_of_block K1.out) HN3.out.size
          have hzb := zeroBounds
          have hst := storeBounds M
          have hs1 := netC_size M
          have c1b := block_cell (block_alloc ((HN3.out.block _ (lt_of_block K1.out)).trans K1.out) (.cells (netC M) 106))
          have z1b := lt_of_block (block_alloc ((HN3.out.block _ (lt_of_block K1.out)).trans K1.out) (.cells (netC M) 106))
          have HN4 := Lib.hid (HN3.out.alloc HN3.out.size (.cells (netC M) 106))
          have KM := Lib.hid (show (w3.alloc (.cells (netC M) 106)).heap[w3.heap.size]? = some (.cells (netC M) 106) from block_new _ _ _ rfl)
          go_wp2_with fail
          clear hst hs1 c0 c1 z0 z1 c1b z1b
          generalize w3.alloc (.cells (netC M) 106) = w4 at *
          generalize w3.heap.size = p at *
          refine (followC_any d l _ _ (HU.out.below HN4.out (Nat.le_refl _)) HQ2.out).mono ?_
          rintro e' w5 ⟨N, rfl, hb5, hM⟩
          have HNM := Lib.hid hM
          have HN5 := Lib.hid (HN4.out.trans (hb5.mono HN4.out.size))
          have hst := storeBounds N
          have hs1 := netC_size N
          have HN6 := Lib.hid (HN5.out.alloc HN5.out.size (.cells (netC N) 106))
          have KM6 := Lib.hid (block_alloc ((hb5.block _ (lt_of_block KM.out)).trans KM.out) (.cells (netC N) 106))
          have KN6 := Lib.hid (show (w5.alloc (.cells (netC N) 106)).heap[w5.heap.size]? = some (.cells (netC N) 106) from block_new _ _ _ rfl)
          clear hM hb5
          cases hag : agreeB c k
          · have HR := Lib.hid (skw_none (e := (e : Int)) HQ.out HQ2.out HM2.out (by rw [hag]; rintro ⟨h, _⟩; cases h))
            go_wp2
            refine bodyPost_ret (v := lonV ⟨0, 0, 3⟩) (by simp [results, Try.results28, go_sem]) rfl ⟨by rw [HR.out], HB.out.trans (HN6.out.mono HB.out.size)⟩
          · cases hag2 : agreeB d l
            · have HR := Lib.hid (skw_none (e := (e : Int)) HQ.out HQ2.out HM2.out (by rw [hag2]; rintro ⟨_, h⟩; cases h))
              go_wp2
              refine bodyPost_ret (v := lonV ⟨0, 0, 3⟩) (by simp [results, Try.results28, go_sem]) rfl ⟨by rw [HR.out], HB.out.trans (HN6.out.mono HB.out.size)⟩
            · have hdn : d.n.toNat = c.n.toNat := by omega
              have HR := Lib.hid (fun (j : Nat) => skw_ok (c := c) (k := k) (d := d) (l := l) (e := e) (j := j) HQ.out HQ2.out HM2.out ⟨hag, hag2⟩)
              have HH := Lib.hid (fun j (hj : e * (j + 1) ≤ c.n.toNat) => show skwD c k d l e j = max (M 0 (e * (j + 1)) + N (e * (j + 1)) 0) (N 0 (e * (j + 1)) + M (e * (j + 1)) 0) by
                unfold skwD
                rw [HM.out hag 0 _ (by omega) hj, HM.out hag _ 0 hj (by omega), HNM.out hag2 0 _ (by omega) (by omega), HNM.out hag2 _ 0 (by omega) (by omega)])
              have HS := Lib.hid (fun i q (hi : i ≤ c.n.toNat) (hq : q ≤ c.n.toNat) => show -335544320000000 ≤ M i q ∧ M i q ≤ 1099511627776 by rw [HM.out hag i q hi hq]; exact RM_small HC1.out HC2.out hi hq)
              have HT := Lib.hid (fun i q (hi : i ≤ c.n.toNat) (hq : q ≤ c.n.toNat) => show -335544320000000 ≤ N i q ∧ N i q ≤ 1099511627776 by rw [HNM.out hag2 i q (by omega) (by omega)]; exact RM_small HD1.out HD2.out (by omega) (by omega))
              have HP0 := Lib.hid (show 0 ≤ skwD c k d l e 0 from skwD_pos HC1.out HC2.out HD1.out HD2.out ((agreeB_iff HC1.out HC2.out).1 hag) ((agreeB_iff HD1.out HD2.out).1 hag2) (by omega) (by omega))
              clear hag hag2 hdn
              generalize skwD c k d l e = D at *
              have c0 := block_cell ((HN6.out.block _ (lt_of_block K0.out)).trans K0.out)
              have z0 := Nat.lt_of_lt_of_le (lt_of_block K0.out) HN6.out.size
              have c0b := block_cell ((HN5.out.block _ (lt_of_block K0.out)).trans K0.out)
              have z0b := Nat.lt_of_lt_of_le (lt_of_block K0.out) HN5.out.size
              have he0 : (e : Int) ≠ 0 := by omega
              have HQT := Lib.hid (show c.n / (e : Int) = ((c.n.toNat / e : Nat) : Int) by
                obtain ⟨n, hn⟩ : ∃ n : Nat, c.n = n := ⟨c.n.toNat, by omega⟩
                rw [hn, Int.toNat_natCast]
                rfl)
              go_wp2_with fail
              rw [show c.n / (e : Int) = ((c.n.toNat / e : Nat) : Int) from HQT.out]
              have hQ0 : 0 < c.n.toNat / e := Nat.div_pos (by omega) (by omega)
              have hQ3 : c.n.toNat / e ≤ c.n.toNat := Nat.div_le_self _ _
              have hQ1 : e * (c.n.toNat / e) ≤ c.n.toNat := Nat.mul_div_le _ _
              have hQ2 : c.n.toNat < e * (c.n.toNat / e + 1) := Nat.lt_mul_div_succ _ (by omega)
              have HQ1 := Lib.hid hQ1
              have HE := Lib.hid (HR.out (c.n.toNat / e) hQ1 hQ2)
              clear hQ1 hQ2 c0 z0 c0b z0b hst hs1 hzb he0 HQT
              generalize c.n.toNat / e = Q at *
              generalize w5.alloc (.cells (netC N) 106) = w6 at *
              generalize w5.heap.size = p2 at *
              go_loopw [10, 11, 71] (fun a x i wr => ∃ j : Nat, j ≤ Q ∧ i = .int .i64 j ∧ a = .int .i64 (kskTo D e j).1 ∧ x = .int .i64 (kskTo D e j).2 ∧ Hid (Below w6.heap.size w6 wr)) (fun _ _ i _ => Q - (intOf i).toNat)
              case atStart => exact ⟨0, by omega, rfl, rfl, rfl, Below.refl _ _⟩
              case round =>
                obtain ⟨j, hj, rfl, rfl, rfl, hb⟩ := hrel
                by_cases hlt : j < Q
                · have hle : e * (j + 1) ≤ c.n.toNat := Nat.le_trans (Nat.mul_le_mul_left e hlt) HQ1.out
                  have HX := Lib.hid (HH.out j hle)
                  have HJ := Lib.hid (fun h => ksk_more (D := D) (e := e) (j := j) h)
                  have HI := Lib.hid (fun h => ksk_same (D := D) (e := e) (j := j) h)
                  have hmul : ((j : Int) + 1) * (e : Int) = ((e * (j + 1) : Nat) : Int) := by push_cast; rw [Int.mul_comm]
                  generalize hqq : e * (j + 1) = q at *
                  have HMul := Lib.hid (show wrap64 (((j : Int) + 1) * (e : Int)) = (q : Int) by
                    rw [hmul]
                    unfold wrap64
                    omega)
                  clear hmul hqq
                  have s1 := HS.out 0 q (by omega) hle
                  have s2 := HS.out q 0 hle (by omega)
                  have s3 := HT.out 0 q (by omega) hle
                  have s4 := HT.out q 0 hle (by omega)
                  go_wp2_with fail
                  rw [HMul.out]
                  refine (brun1 M p 0 q _ _ ((hb.out.block _ (lt_of_block KM6.out)).trans KM6.out) rfl (by omega) (by omega) (by omega) (by omega)).mono ?_
                  rintro e' w7 ⟨rfl, hb5⟩
                  have hb6 := hb.out.trans (hb5.mono hb.out.size)
                  clear hb5
                  go_wp2_with fail
                  refine (brun1 N p2 0 q _ _ ((hb6.block _ (lt_of_block KN6.out)).trans KN6.out) rfl (by omega) (by omega) (by omega) (by omega)).mono ?_
                  rintro e' w8 ⟨rfl, hb7⟩
                  have hb8 := hb6.trans (hb7.mono hb6.size)
                  have HB8 := Lib.hid hb8
                  clear hb6 hb7 hb8
                  obtain ⟨X1, hX1⟩ : ∃ x, M 0 q = x := ⟨_, rfl⟩
                  obtain ⟨X2, hX2⟩ : ∃ x, M q 0 = x := ⟨_, rfl⟩
                  obtain ⟨Y1, hY1⟩ : ∃ x, N 0 q = x := ⟨_, rfl⟩
                  obtain ⟨Y2, hY2⟩ : ∃ x, N q 0 = x := ⟨_, rfl⟩
                  have hd0 := HX.out
                  rw [hX1, hX2, hY1, hY2] at hd0
                  rw [hX1] at s1
                  rw [hX2] at s2
                  rw [hY1] at s3
                  rw [hY2] at s4
                  rw [hX1, hX2, hY1, hY2]
                  obtain ⟨X3, hX3⟩ : ∃ x, -X2 = x := ⟨_, rfl⟩
                  obtain ⟨Y3, hY3⟩ : ∃ x, -Y2 = x := ⟨_, rfl⟩
                  rw [hX3, hY3]
                  have t2 : -1099511627776 ≤ X3 ∧ X3 ≤ 335544320000000 := by omega
                  have t4 : -1099511627776 ≤ Y3 ∧ Y3 ≤ 335544320000000 := by omega
                  have HDV := Lib.hid (show D j = max (X1 - Y3) (Y1 - X3) by omega)
                  clear hX1 hX2 hY1 hY2 hd0 HX hX3 hY3 s2 s4
                  by_cases hge : X1 - Y3 < Y1 - X3
                  · have HDD := Lib.hid (show D j = Y1 - X3 by rw [HDV.out]; omega)
                    by_cases hgt : (kskTo D e j).2 < Y1 - X3
                    · have HL := Lib.hid (HJ.out (by rw [HDD.out]; exact hgt))
                      generalize kskTo D e j = r at *
                      go_wp2_with fail
                      go_roundw
                      case rel => exact ⟨j + 1, hlt, by go_num, by rw [HL.out], by rw [HL.out, HDD.out], (by refine Lib.hid ?_; repeat' (first | (with_reducible exact HB8.out) | (with_reducible refine Below.drew ?_) | (with_reducible refine Below.setCell ?_ ?_ _) | (with_reducible refine Below.alloc ?_ ?_ _) | exact HB8.out.size | exact Nat.le_trans HB8.out.size (le_alloc _ _) | exact Nat.le_succ_of_le HB8.out.size | (simp only [size_alloc]; have := HB8.out.size; omega)))⟩
                      case measure => simp [intOf]; omega
                    · have HL := Lib.hid (HI.out (by have e := HDD.out; omega))
                      generalize kskTo D e j = r at *
                      go_wp2_with fail
                      go_roundw
                      case rel => exact ⟨j + 1, hlt, by go_num, by rw [HL.out], by rw [HL.out], (by refine Lib.hid ?_; repeat' (first | (with_reducible exact HB8.out) | (with_reducible refine Below.drew ?_) | (with_reducible refine Below.setCell ?_ ?_ _) | (with_reducible refine Below.alloc ?_ ?_ _) | exact HB8.out.size | exact Nat.le_trans HB8.out.size (le_alloc _ _) | exact Nat.le_succ_of_le HB8.out.size | (simp only [size_alloc]; have := HB8.out.size; omega)))⟩
                      case measure => simp [intOf]; omega
                  · have HDD := Lib.hid (show D j = X1 - Y3 by rw [HDV.out]; omega)
                    by_cases hgt : (kskTo D e j).2 < X1 - Y3
                    · have HL := Lib.hid (HJ.out (by rw [HDD.out]; exact hgt))
                      generalize kskTo D e j = r at *
                      go_wp2_with fail
                      go_roundw
                      case rel => exact ⟨j + 1, hlt, by go_num, by rw [HL.out], by rw [HL.out, HDD.out], (by refine Lib.hid ?_; repeat' (first | (with_reducible exact HB8.out) | (with_reducible refine Below.drew ?_) | (with_reducible refine Below.setCell ?_ ?_ _) | (with_reducible refine Below.alloc ?_ ?_ _) | exact HB8.out.size | exact Nat.le_trans HB8.out.size (le_alloc _ _) | exact Nat.le_succ_of_le HB8.out.size | (simp only [size_alloc]; have := HB8.out.size; omega)))⟩
                      case measure => simp [intOf]; omega
                    · have HL := Lib.hid (HI.out (by have e := HDD.out; omega))
                      generalize kskTo D e j = r at *
                      go_wp2_with fail
                      go_roundw
                      case rel => exact ⟨j + 1, hlt, by go_num, by rw [HL.out], by rw [HL.out], (by refine Lib.hid ?_; repeat' (first | (with_reducible exact HB8.out) | (with_reducible refine Below.drew ?_) | (with_reducible refine Below.setCell ?_ ?_ _) | (with_reducible refine Below.alloc ?_ ?_ _) | exact HB8.out.size | exact Nat.le_trans HB8.out.size (le_alloc _ _) | exact Nat.le_succ_of_le HB8.out.size | (simp only [size_alloc]; have := HB8.out.size; omega)))⟩
                      case measure => simp [intOf]; omega
                · obtain rfl : j = Q := by omega
                  obtain ⟨Q', rfl⟩ : ∃ q, j = q + 1 := ⟨j - 1, by omega⟩
                  have hr := HE.out
                  rw [skw_eq HP0.out] at hr
                  have HR := Lib.hid hr
                  clear hr
                  generalize kskTo D e (Q' + 1) = r at *
                  go_wp2
                  refine bodyPost_ret (v := lonV ⟨r.1, r.2, 0⟩) (by simp [results, Try.results28, go_sem]) rfl ⟨by rw [HR.out], HB.out.trans ((HN6.out.trans (hb.out.mono HN6.out.size)).mono HB.out.size)⟩
      · have hnd : (c.n != d.n) = true := by simp; omega
        have HR := Lib.hid (skw_arg (e := e) HQ.out HQ2.out (fun h => hnn h.1))
        clear hnn
        go_wp2
        refine bodyPost_ret (v := lonV ⟨0, 0, 1⟩) (by simp [results, Try.results28, go_sem]) rfl ⟨by rw [HR.out], HB.out.trans (HN2.out.mono HB.out.size)⟩
    · have HR := Lib.hid (skw_bad2 (e := e) HQ.out hq)
      generalize chkM d l = q at *
      go_wp2
      refine bodyPost_ret (v := lonV ⟨0, 0, q⟩) (by simp [results, Try.results28, go_sem]) rfl ⟨by rw [HR.out], HB.out.trans (HN2.out.mono HB.out.size)⟩
  · have HR := Lib.hid (skw_bad1 (d := d) (l := l) (e := e) hq)
    generalize chkM c k = q at *
    go_wp2
    refine bodyPost_ret (v := lonV ⟨0, 0, q⟩) (by simp [results, Try.results28, go_sem]) rfl ⟨by rw [HR.out], HB.out.trans (HN1.out.mono HB.out.size)⟩

end Go.Proofs.Ythgcnakbbmknoaa

/- The statements' own helpers (layer 2): sum, Possible. -/
namespace Go.Proofs.Ythgcnakbbmknoaa
open Go.RowKit

theorem pre_bd {xs : List Int} (hx : ∀ i, i < xs.length → 0 ≤ xs.getD i 0 ∧ xs.getD i 0 ≤ 100000) {a : Nat} : ∀ {k : Nat}, a ≤ k → k ≤ xs.length → 0 ≤ preM xs k - preM xs a ∧ preM xs k - preM xs a ≤ 100000 * ((k : Int) - a) := by
  intro k
  induction k with
  | zero => intro h _; obtain rfl : a = 0 := by omega
            simp
  | succ k ih =>
    intro h h2
    by_cases e : a = k + 1
    · subst e; simp
    · obtain ⟨h3, h4⟩ := ih (by omega) (by omega)
      obtain ⟨h5, h6⟩ := hx k (by omega)
      simp only [preM]
      omega

set_option maxRecDepth 100000 in
set_option maxHeartbeats 1000000 in
theorem sum_any (v : Value) (xs : List Int) (a b : Nat) (w : World) (hv : InAt w v xs) (hab : a ≤ b) (hb : b ≤ xs.length) (hx : ∀ i, i < xs.length → 0 ≤ xs.getD i 0 ∧ xs.getD i 0 ≤ 100000) (hl : xs.length ≤ 24) :
    Calls Try.prog 26 #[v, .int .i64 a, .int .i64 b] w fun e w' => e = .returned (.int .i64 (preM xs b - preM xs a)) ∧ w = w' := by
  obtain ⟨va, cap, rfl, hn, hcap, hc⟩ := hv
  have HC := Lib.hid hc
  have HX := Lib.hid hx
  have HP := Lib.hid (fun k h1 h2 => @pre_bd xs hx a k h1 h2)
  clear hc hx
  go_enter Try.func26, Try.ntmps26
  go_wp2_with fail
  go_loopw [7, 8] (fun s i wr => ∃ k : Nat, a ≤ k ∧ k ≤ b ∧ i = .int .i64 k ∧ s = .int .i64 (preM xs k - preM xs a) ∧ w = wr) (fun _ i _ => b - (intOf i).toNat)
  case atStart => exact ⟨a, Nat.le_refl _, hab, rfl, by simp, rfl⟩
  case round =>
    obtain ⟨k, ha, hk, rfl, rfl, rfl⟩ := hrel
    by_cases hlt : k < b
    · obtain ⟨b2, o2, rfl, l2, hc2⟩ := HC.out (by omega)
      have g2 := hc2 k (by omega)
      obtain ⟨x0, x1⟩ := HX.out k (by omega)
      obtain ⟨p0, p1⟩ := HP.out k ha (by omega)
      have HS := Lib.hid (show preM xs (k + 1) = preM xs k + xs.getD k 0 from rfl)
      have HE := Lib.hid (show preM xs (k + 1) - preM xs a = preM xs k - preM xs a + xs.getD k 0 by rw [HS.out]; omega)
      have j0 : (0 : Int) ≤ k := by omega
      have j1 : (k : Int) < xs.length := by omega
      have j2 : (k : Int) < b := by omega
      clear hc2 hab
      generalize xs.getD k 0 = x at *
      generalize preM xs k - preM xs a = s at *
      go_wp2
      go_roundw
      case rel => exact ⟨k + 1, by omega, hlt, by go_num, by rw [HE.out], by trivial⟩
      case measure => simp [intOf]; omega
    · obtain rfl : k = b := by omega
      go_wp2
      go_ret
      exact ⟨rfl, rfl⟩

theorem ga_pos {w : World} {a : Option Addr} {n c : Nat} {l : List Gau} (h : GaAt w (.slice a n c) l) (hp : 0 < l.length) : ∃ b off, a = some ⟨b, off, none⟩ ∧ b < w.heap.size ∧ ∀ i x, l[i]? = some x → ∀ j u, (gauL x)[j]? = some u → w.cell? ⟨b, off + i * 4 + j, none⟩ = some u := by
  obtain ⟨a', cap, e, h1, h2, h3⟩ := h
  injection e with e1 e2 e3
  subst e1
  exact h3 hp

set_option maxRecDepth 100000 in
set_option maxHeartbeats 4000000 in
theorem possible_len (n : Nat) (pi li : Int) (l : List Gau) (v : Value) (xs : List Int) (u : Value) (w : World) (hv : GaAt w v l) (hu : InAt w u xs) (hx0 : xs.length = n) (hchk : chkM (CN n pi li) l = 0) :
    Calls Try.prog 23 #[chnV (CN n pi li), v, u] w fun e w' => e = .returned (.bool (possB (CN n pi li) l xs)) ∧ Below w.heap.size w w' := by
  have HB := Lib.hid ((Below.refl w.heap.size w).alloc (Nat.le_refl _) (Obj.cells #[.int .i64 n, .int .i64 pi, .int .i64 li] 23))
  have K0 := Lib.hid (block_new w (Obj.cells #[.int .i64 n, .int .i64 pi, .int .i64 li] 23) w.heap.size rfl)
  have HV := Lib.hid (hv.below HB.out (Nat.le_refl _))
  have HU := Lib.hid (hu.below HB.out (Nat.le_refl _))
  obtain ⟨va, cap, rfl, hn, hcap, hc⟩ := hv
  obtain ⟨ua, ucap, rfl, hn2, hcap2, hc2⟩ := hu
  rw [hx0] at HU hn2 ⊢
  have HX0 := Lib.hid hx0
  obtain ⟨hC1, hC2, hl40⟩ := chk_goks hchk
  have n24 := hC1.n2
  have n1 := hC1.n1
  have p1 := hC1.p1
  have l2 := hC1.l2
  simp only [] at n24 n1 p1 l2
  have HG := Lib.hid hC2
  have HNO := Lib.hid (@possB_no (CN n pi li) l xs)
  have HYES := Lib.hid (@possB_iff (CN n pi li) l xs)
  clear hc hc2 hC1 hC2 hchk hx0
  go_enter Try.func23, Try.ntmps23
  go_wp2_with fail
  generalize hwA : w.alloc (Obj.cells #[.int .i64 n, .int .i64 pi, .int .i64 li] 23) = wA at *
  clear hwA
  have hce := block_cell K0.out
  have hz := lt_of_block K0.out
  go_wp2_with fail
  go_loopw [7] (fun i wr => ∃ k : Nat, k ≤ n ∧ i = .int .i64 k ∧ Hid (Below wA.heap.size wA wr) ∧ Hid (∀ i, i < k → pi ≤ xs.getD i 0 ∧ xs.getD i 0 ≤ li)) (fun i _ => n - (intOf i).toNat)
  case atStart => exact ⟨0, Nat.zero_le _, rfl, Lib.hid (Below.refl _ _), Lib.hid (fun i hi => by omega)⟩
  case round =>
    obtain ⟨k, hk, rfl, hbl, hf⟩ := hrel
    clear hce hz
    have kc := (hbl.out.block _ (lt_of_block K0.out)).trans K0.out
    have hce := block_cell kc
    have hz := lt_of_block kc
    clear kc
    by_cases hlt : k < n
    · obtain ⟨b2, o2, e2, lb2, hc2⟩ := in_pos HU.out (by have := HX0.out; omega)
      subst e2
      have g2 := (hbl.out.cell (p := ⟨b2, o2 + k, none⟩) lb2).trans (hc2 k (by have := HX0.out; omega))
      have j0 : (0 : Int) ≤ k := by omega
      have j1 : (k : Int) < n := by omega
      have HX := Lib.hid (fun (h : PossM (CN n pi li) l xs) => h.2.1 k (by have := HX0.out; omega))
      clear hc2
      generalize hx : xs.getD k 0 = x at *
      have HXE := Lib.hid hx
      clear hx
      by_cases h1 : x < pi
      · have HN := Lib.hid (HNO.out (fun h => by have := (HX.out h).1; simp only [] at this; omega))
        go_wp2_with fail
        go_quiet (fail)
        go_wp2
        go_ret
        exact ⟨ret_bool HN.out.symm, below_drewN (HB.out.trans (hbl.out.mono HB.out.size)) _⟩
      · by_cases h2 : li < x
        · have HN := Lib.hid (HNO.out (fun h => by have := (HX.out h).2; simp only [] at this; omega))
          go_wp2_with fail
          go_quiet (fail)
          go_wp2
          go_ret
          exact ⟨ret_bool HN.out.symm, below_drewN (HB.out.trans (hbl.out.mono HB.out.size)) _⟩
        · have HF := Lib.hid (show ∀ i, i < k + 1 → pi ≤ xs.getD i 0 ∧ xs.getD i 0 ≤ li from fun i hi => by
            by_cases e : i = k
            · rw [e, HXE.out]; omega
            · exact hf.out i (by omega))
          go_wp2_with fail
          go_quiet (fail)
          go_wp2
          go_roundw
          case rel => exact ⟨k + 1, hlt, by go_num, Lib.hid (below_drewN hbl.out _), HF⟩
          case measure => simp [intOf]; omega
    · obtain rfl : n = k := by omega
      have HFA := hf
      have HB0 := hbl
      clear hf hbl hce hz
      go_wp2_with fail
      go_loopw [8] (fun i wr => ∃ k : Nat, k ≤ l.length ∧ i = .int .i64 k ∧ Hid (Below wA.heap.size wA wr) ∧ Hid (∀ i, i < k → (l.getD i Gau.zero).lo ≤ preM xs (l.getD i Gau.zero).b.toNat - preM xs (l.getD i Gau.zero).a.toNat ∧ preM xs (l.getD i Gau.zero).b.toNat - preM xs (l.getD i Gau.zero).a.toNat ≤ (l.getD i Gau.zero).hi)) (fun i _ => l.length - (intOf i).toNat)
      case atStart => exact ⟨0, Nat.zero_le _, rfl, HB0, Lib.hid (fun i hi => by omega)⟩
      case round =>
        obtain ⟨k, hk, rfl, hbl, hf⟩ := hrel
        by_cases hlt : k < l.length
        · obtain ⟨bg, og, e3, lg, hg⟩ := ga_pos HV.out (by omega)
          subst e3
          obtain ⟨q1, q2, q3, q4⟩ := ga_at hbl.out lg hg hlt
          have hgk := HG.out _ (gau_getD_mem hlt)
          have HPG := Lib.hid (fun (h : PossM (CN n pi li) l xs) => h.2.2 _ (gau_getD_mem hlt))
          have HKF := Lib.hid (show ∀ (h : (l.getD k Gau.zero).lo ≤ preM xs (l.getD k Gau.zero).b.toNat - preM xs (l.getD k Gau.zero).a.toNat ∧ preM xs (l.getD k Gau.zero).b.toNat - preM xs (l.getD k Gau.zero).a.toNat ≤ (l.getD k Gau.zero).hi), ∀ i, i < k + 1 → (l.getD i Gau.zero).lo ≤ preM xs (l.getD i Gau.zero).b.toNat - preM xs (l.getD i Gau.zero).a.toNat ∧ preM xs (l.getD i Gau.zero).b.toNat - preM xs (l.getD i Gau.zero).a.toNat ≤ (l.getD i Gau.zero).hi from fun h i hi => by
            by_cases e : i = k
            · rw [e]; exact h
            · exact hf.out i (by omega))
          clear hg
          generalize l.getD k Gau.zero = g at *
          obtain ⟨a0, ab, bn, lo0, lh, h0, _⟩ := hgk
          obtain ⟨ga, hga⟩ : ∃ m : Nat, g.a = m := ⟨g.a.toNat, by omega⟩
          obtain ⟨gb, hgb⟩ : ∃ m : Nat, g.b = m := ⟨g.b.toNat, by omega⟩
          rw [hga, hgb, Int.toNat_natCast, Int.toNat_natCast] at HPG HKF
          rw [hga] at q1 ab
          rw [hgb] at q2 ab bn
          clear hga hgb a0
          have HS := Lib.hid (fun w1 (h : Below wr.heap.size wr w1) => sum_any (.slice ua n ucap) xs ga gb w1 ((HU.out.below hbl.out (Nat.le_refl _)).below h (Nat.le_refl _)) (by omega) (by have := HX0.out; simp at bn; omega) (fun i hi => by have := HFA.out i (by have := HX0.out; omega); omega) (by have := HX0.out; omega))
          generalize preM xs gb - preM xs ga = s at *
          have j0 : (0 : Int) ≤ k := by omega
          have j1 : (k : Int) < l.length := by omega
          have hlgw : bg < wr.heap.size := Nat.lt_of_lt_of_le lg hbl.out.size
          have y1 := bw_cell (B := wr.heap.size) q1 hlgw
          have y2 := bw_cell (B := wr.heap.size) q2 hlgw
          go_upto_region 11 with fail
          refine wp_region_below (by kernel_rfl) (by kernel_rfl) (Below.refl wr.heap.size wr) ?_
          repeat ((with_reducible refine wpQuiet_step (fun K hK => ?_)); go_simp; first | (refine hK _ ?_; clear hK K) | (apply Exists.intro; refine ⟨fun _ => ?_, hK _ ?_⟩; ((go_at_call 26; exact bw_same (HS.out _ (BW.b _)))); clear hK K))
          refine wpQuiet_nil ?_
          intro wq hwq0
          have hwq := bw_out hwq0
          clear hwq0
          have HBq := Lib.hid (hbl.out.trans (hwq.mono hbl.out.size))
          have q3 := (hwq.cell hlgw).trans q3
          have q4 := (hwq.cell hlgw).trans q4
          clear q1 q2 y1 y2 hwq
          have HBZ := Lib.hid (HB.out.trans (HBq.out.mono HB.out.size))
          by_cases h1 : s < g.lo
          · have HN := Lib.hid (HNO.out (fun h => by have := (HPG.out h).1; omega))
            go_wp2
            go_ret
            exact ⟨ret_bool HN.out.symm, HBZ.out⟩
          · by_cases h2 : g.hi < s
            · have HN := Lib.hid (HNO.out (fun h => by have := (HPG.out h).2; omega))
              go_wp2
              go_ret
              exact ⟨ret_bool HN.out.symm, HBZ.out⟩
            · have HF := Lib.hid (HKF.out ⟨by omega, by omega⟩)
              go_wp2
              go_roundw
              case rel => exact ⟨k + 1, hlt, by go_num, HBq, HF⟩
              case measure => simp [intOf]; omega
        · obtain rfl : k = l.length := by omega
          have HP := Lib.hid (HYES.out.2 ⟨HX0.out, (by rw [HX0.out]; exact HFA.out), fun g hg => by
            obtain ⟨i, hi, rfl⟩ := List.getElem_of_mem hg
            have := hf.out i hi
            rw [List.getD_eq_getElem?_getD, List.getElem?_eq_getElem hi] at this
            exact this⟩)
          go_wp2
          go_ret
          exact ⟨ret_bool HP.out.symm, HB.out.trans (hbl.out.mono HB.out.size)⟩

set_option maxRecDepth 100000 in
set_option maxHeartbeats 4000000 in
theorem possible_any (c : Chn) (l : List Gau) (v : Value) (xs : List Int) (u : Value) (w : World) (hv : GaAt w v l) (hu : InAt w u xs) (hchk : chkM c l = 0) :
    Calls Try.prog 23 #[chnV c, v, u] w fun e w' => e = .returned (.bool (possB c l xs)) ∧ Below w.heap.size w w' := by
  by_cases hlen : (xs.length : Int) = c.n
  · obtain ⟨n, pi, li⟩ := c
    obtain rfl : (xs.length : Int) = n := hlen
    exact possible_len xs.length pi li l v xs u w hv hu rfl hchk
  · have HN := Lib.hid (possB_no (c := c) (l := l) (xs := xs) (fun h => hlen (by have := h.1; have := (chk_goks hchk).1.n1; omega)))
    have hb0 := (Below.refl w.heap.size w).alloc (Nat.le_refl _) (Obj.cells #[.int .i64 c.n, .int .i64 c.pi, .int .i64 c.li] 23)
    have k0 := block_new w (Obj.cells #[.int .i64 c.n, .int .i64 c.pi, .int .i64 c.li] 23) w.heap.size rfl
    have hsz : (w.alloc (Obj.cells #[.int .i64 c.n, .int .i64 c.pi, .int .i64 c.li] 23)).heap.size = w.heap.size + 1 := size_alloc _ _
    have K0 := Lib.hid k0
    have HB := Lib.hid hb0
    have HSZ := Lib.hid hsz
    clear k0 hb0 hsz
    obtain ⟨va, cap, rfl, hn, hcap, hc⟩ := hv
    obtain ⟨ua, ucap, rfl, hn2, hcap2, hc2⟩ := hu
    have hb : ((xs.length : Int) != c.n) = true := by simpa using hlen
    clear hc hc2 hchk
    go_enter Try.func23, Try.ntmps23
    go_wp2_with fail
    generalize hwA : w.alloc (Obj.cells #[.int .i64 c.n, .int .i64 c.pi, .int .i64 c.li] 23) = wA at *
    clear hwA
    have hce := block_cell K0.out
    have hz := lt_of_block K0.out
    go_wp2
    go_ret
    exact ⟨ret_bool HN.out.symm, HB.out⟩

end Go.Proofs.Ythgcnakbbmknoaa

/- ChainTilts, the walk. -/
namespace Go.Proofs.Ythgcnakbbmknoaa
open Go.RowKit

theorem skw_cases {c d : Chn} {k l : List Gau} {e : Int} (h1 : chkM c k = 0) (h2 : chkM d l = 0) :
    ((skwM c k d l e).e = 0 ∧ c.n = d.n ∧ 1 ≤ e ∧ e ≤ c.n ∧ (skwM c k d l e).m = (skwTo (skwD c k d l e.toNat) e.toNat (c.n.toNat / e.toNat)).2) ∨ (skwM c k d l e).e = 1 ∨ (skwM c k d l e).e = 3 := by
  unfold skwM
  rw [if_pos h1, if_pos h2]
  by_cases h : c.n = d.n ∧ 1 ≤ e ∧ e ≤ c.n
  · rw [if_pos h]
    by_cases ha : agreeB c k = true ∧ agreeB d l = true
    · rw [if_pos ha]; exact .inl ⟨rfl, h.1, h.2.1, h.2.2, rfl⟩
    · rw [if_neg ha]; exact .inr (.inr rfl)
  · rw [if_neg h]; exact .inr (.inl rfl)

theorem tilt_le {c d : Chn} {k l : List Gau} {e : Nat} (h1 : chkM c k = 0) (h2 : chkM d l = 0) (hn : c.n = d.n) (he : 1 ≤ e) {xs ys : List Int} (hx : PossM c k xs) (hy : PossM d l ys) {j : Nat} (hj : e * (j + 1) ≤ c.n.toNat) {m : Int}
    (hm : m = (skwTo (skwD c k d l e) e (c.n.toNat / e)).2) : preM xs (e * (j + 1)) - preM ys (e * (j + 1)) ≤ m ∧ -(preM xs (e * (j + 1)) - preM ys (e * (j + 1))) ≤ m := by
  have hjd : j < c.n.toNat / e := (Nat.le_div_iff_mul_le (by omega)).2 (by rw [Nat.mul_comm]; exact hj)
  have hD : skwD c k d l e j ≤ m := by rw [hm]; exact skw_ge hjd
  obtain ⟨a1, a2⟩ := poss_run h1 hx (i := 0) (k := e * (j + 1)) (Nat.zero_le _) hj
  obtain ⟨b1, b2⟩ := poss_run h2 hy (i := 0) (k := e * (j + 1)) (Nat.zero_le _) (by rw [← hn]; exact hj)
  unfold lowM at a1 b1
  unfold highM at a2 b2
  unfold skwD at hD
  simp only [preM] at a1 a2 b1 b2
  omega

theorem in_shp {w : World} {v : Value} {xs : List Int} (h : InAt w v xs) : ∃ a c, v = .slice a xs.length c := by
  obtain ⟨a, c, rfl, _⟩ := h
  exact ⟨a, c, rfl⟩

abbrev lenO (va vb : Value) (e : Int) : Obj := .cells #[va, vb, .int .i64 e] 58

def tiltB (c : Chn) (k : List Gau) (d : Chn) (l : List Gau) : Bool := decide (42 < k.length) || decide (42 < l.length) || (chkM c k != 0) || (chkM d l != 0) || decide (10 < c.n)
theorem tilt_no {c : Chn} {k : List Gau} {d : Chn} {l : List Gau} (h : tiltB c k d l = false) : chkM c k = 0 ∧ chkM d l = 0 ∧ c.n ≤ 10 := by
  unfold tiltB at h
  simp only [Bool.or_eq_false_iff, decide_eq_false_iff_not, bne_eq_false_iff_eq] at h
  omega

set_option maxRecDepth 100000 in
set_option maxHeartbeats 8000000 in
theorem tilts_any (c : Chn) (v : Value) (k : List Gau) (d : Chn) (u : Value) (l : List Gau) (va vb : Value) (xs ys : List Int) (m : Int) (w : World) (hv : GaAt w v k) (hu : GaAt w u l) (hx : InAt w va xs) (hy : InAt w vb ys) :
    Calls Try.prog 8 #[.agg #[.int .i64 c.n, .int .i64 c.pi, .int .i64 c.li, v], .agg #[.int .i64 d.n, .int .i64 d.pi, .int .i64 d.li, u], .agg #[va, vb, .int .i64 m]] w fun e w' => e = .returned (.bool true) ∧ Below w.heap.size w w' := by
  have hb0 := blw3 w (Obj.cells #[.int .i64 c.n, .int .i64 c.pi, .int .i64 c.li, v] 38) (Obj.cells #[.int .i64 d.n, .int .i64 d.pi, .int .i64 d.li, u] 38) (lenO va vb m)
  have k0 := three_0 w (Obj.cells #[.int .i64 c.n, .int .i64 c.pi, .int .i64 c.li, v] 38) (Obj.cells #[.int .i64 d.n, .int .i64 d.pi, .int .i64 d.li, u] 38) (lenO va vb m)
  have k1 := three_1 w (Obj.cells #[.int .i64 c.n, .int .i64 c.pi, .int .i64 c.li, v] 38) (Obj.cells #[.int .i64 d.n, .int .i64 d.pi, .int .i64 d.li, u] 38) (lenO va vb m)
  have k2 := three_2 w (Obj.cells #[.int .i64 c.n, .int .i64 c.pi, .int .i64 c.li, v] 38) (Obj.cells #[.int .i64 d.n, .int .i64 d.pi, .int .i64 d.li, u] 38) (lenO va vb m)
  have HV := Lib.hid (hv.below hb0 (Nat.le_refl _))
  have HU := Lib.hid (hu.below hb0 (Nat.le_refl _))
  have HX := Lib.hid (hx.below hb0 (Nat.le_refl _))
  have HY := Lib.hid (hy.below hb0 (Nat.le_refl _))
  obtain ⟨ka, cap, rfl, hn1, hcap, hc⟩ := hv
  obtain ⟨la, ucap, rfl, hn2, hucap, huc⟩ := hu
  obtain ⟨xa, xc, rfl⟩ := in_shp hx
  obtain ⟨ya, yc, rfl⟩ := in_shp hy
  have HB := Lib.hid hb0
  have K0 := Lib.hid k0
  have K1 := Lib.hid k1
  have K2 := Lib.hid k2
  clear hc huc hb0 k0 k1 k2 hx hy
  go_enter Try.func8, Try.ntmps8
  go_upto_region 1 with fail
  generalize ((w.alloc (Obj.cells #[.int .i64 c.n, .int .i64 c.pi, .int .i64 c.li, .slice ka k.length cap] 38)).alloc (Obj.cells #[.int .i64 d.n, .int .i64 d.pi, .int .i64 d.li, .slice la l.length ucap] 38)).alloc (lenO (.slice xa xs.length xc) (.slice ya ys.length yc) m) = wA at *
  have HT := Lib.hid (show tiltB c k d l = (decide (42 < k.length) || decide (42 < l.length) || (chkM c k != 0) || (chkM d l != 0) || decide (10 < c.n)) from rfl)
  have HTN := Lib.hid (@tilt_no c k d l)
  go_cut [44] (fun s wx => s = .bool (tiltB c k d l) ∧ Hid (Below wA.heap.size wA wx))
  case first =>
    have c0 := block_cell K0.out
    have c1 := block_cell K1.out
    cases hf1 : decide (42 < k.length)
    · cases hf2 : decide (42 < l.length)
      · have HF1 := Lib.hid hf1
        have HF2 := Lib.hid hf2
        have HT2 := Lib.hid (show tiltB c k d l = ((chkM c k != 0) || (chkM d l != 0) || decide (10 < c.n)) by rw [HT.out, hf1, hf2]; rfl)
        have HRA := Lib.hid (fun w1 (h : Below wA.heap.size wA w1) => rcheck_any c k (.slice ka k.length cap) w1 (HV.out.below h (Nat.le_refl _)))
        have HRB := Lib.hid (fun w1 (h : Below wA.heap.size wA w1) => rcheck_any d l (.slice la l.length ucap) w1 (HU.out.below h (Nat.le_refl _)))
        generalize chkM c k = p at *
        generalize chkM d l = q at *
        clear hf1 hf2
        by_cases hp : p = 0
        · subst hp
          by_cases hq : q = 0
          · subst hq
            have z0 := lt_of_block K0.out
            have z1 := lt_of_block K1.out
            go_wp2_with (first | (go_at_call 11; (first | (refine (far_any k _ _ HV.out).mono ?_; rintro e w' ⟨rfl, rfl⟩; rw [HF1.out]) | (refine (far_any l _ _ HU.out).mono ?_; rintro e w' ⟨rfl, rfl⟩; rw [HF2.out]))) | (go_at_call 21; with_reducible refine (HRA.out wA (Below.refl _ _)).mono ?_; rintro e w1 ⟨rfl, hb1⟩; clear c0 c1; have c0 := block_cell (keepZ K0.out hb1); have c1 := block_cell (keepZ K1.out hb1)) | (go_at_call 21; with_reducible refine (HRB.out _ hb1).mono ?_; rintro e w2 ⟨rfl, hb2⟩; clear c0 c1; have c0 := block_cell (keepZ (keepZ K0.out hb1) hb2)))
            go_meet
            exact ⟨by rw [HT2.out]; rfl, Lib.hid (hb1.trans (hb2.mono hb1.size))⟩
          · have hqb : (q != 0) = true := by simpa using hq
            have HT3 := Lib.hid (show tiltB c k d l = true by rw [HT2.out, hqb]; rfl)
            clear hq
            go_wp2_with (first | (go_at_call 11; (first | (refine (far_any k _ _ HV.out).mono ?_; rintro e w' ⟨rfl, rfl⟩; rw [HF1.out]) | (refine (far_any l _ _ HU.out).mono ?_; rintro e w' ⟨rfl, rfl⟩; rw [HF2.out]))) | (go_at_call 21; with_reducible refine (HRA.out wA (Below.refl _ _)).mono ?_; rintro e w1 ⟨rfl, hb1⟩; clear c0 c1; have c0 := block_cell (keepZ K0.out hb1); have c1 := block_cell (keepZ K1.out hb1)) | (go_at_call 21; with_reducible refine (HRB.out _ hb1).mono ?_; rintro e w2 ⟨rfl, hb2⟩; clear c0 c1; have c0 := block_cell (keepZ (keepZ K0.out hb1) hb2)))
            go_meet
            exact ⟨by rw [HT3.out], Lib.hid (hb1.trans (hb2.mono hb1.size))⟩
        · have hpb : (p != 0) = true := by simpa using hp
          have HT3 := Lib.hid (show tiltB c k d l = true by rw [HT2.out, hpb]; rfl)
          clear hp
          go_wp2_with (first | (go_at_call 11; (first | (refine (far_any k _ _ HV.out).mono ?_; rintro e w' ⟨rfl, rfl⟩; rw [HF1.out]) | (refine (far_any l _ _ HU.out).mono ?_; rintro e w' ⟨rfl, rfl⟩; rw [HF2.out]))) | (go_at_call 21; with_reducible refine (HRA.out wA (Below.refl _ _)).mono ?_; rintro e w1 ⟨rfl, hb1⟩))
          go_meet
          exact ⟨by rw [HT3.out], Lib.hid hb1⟩
      · have HF1 := Lib.hid hf1
        have HF2 := Lib.hid hf2
        have HT3 := Lib.hid (show tiltB c k d l = true by rw [HT.out, hf1, hf2]; rfl)
        clear hf1 hf2
        go_wp2_with (go_at_call 11; (first | (refine (far_any k _ _ HV.out).mono ?_; rintro e w' ⟨rfl, rfl⟩; rw [HF1.out]) | (refine (far_any l _ _ HU.out).mono ?_; rintro e w' ⟨rfl, rfl⟩; rw [HF2.out])))
        go_meet
        exact ⟨by rw [HT3.out], Lib.hid (Below.refl _ _)⟩
    · have HF1 := Lib.hid hf1
      have HT3 := Lib.hid (show tiltB c k d l = true by rw [HT.out, hf1]; rfl)
      clear hf1
      go_wp2_with (go_at_call 11; refine (far_any k _ _ HV.out).mono ?_; rintro e w' ⟨rfl, rfl⟩; rw [HF1.out])
      go_meet
      exact ⟨by rw [HT3.out], Lib.hid (Below.refl _ _)⟩
  case rest =>
    obtain ⟨rfl, HN0⟩ := hcut
    cases htb : tiltB c k d l
    · obtain ⟨p1, p2, n10⟩ := HTN.out htb
      clear htb HTN HT
      obtain ⟨⟨r1, r2, r3⟩, hr⟩ : ∃ x, skwM c k d l m = x := ⟨_, rfl⟩
      have HR := Lib.hid hr
      have HR2 := Lib.hid ((skw_comm (e := m) p1 p2).symm.trans hr)
      have hfc := skw_cases (e := m) p1 p2
      rw [hr] at hfc
      simp only at hfc
      have HQ1 := Lib.hid p1
      have HQ2 := Lib.hid p2
      clear hr p1 p2
      have c0 := block_cell ((HN0.out.block _ (lt_of_block K0.out)).trans K0.out)
      have c1 := block_cell ((HN0.out.block _ (lt_of_block K1.out)).trans K1.out)
      have c2 := block_cell ((HN0.out.block _ (lt_of_block K2.out)).trans K2.out)
      have z0 := Nat.lt_of_lt_of_le (lt_of_block K0.out) HN0.out.size
      have z1 := Nat.lt_of_lt_of_le (lt_of_block K1.out) HN0.out.size
      have z2 := Nat.lt_of_lt_of_le (lt_of_block K2.out) HN0.out.size
      have e1 : (r1 != r1) = false := by simp
      have e2 : (r2 != r2) = false := by simp
      have e3 : (r3 != r3) = false := by simp
      go_wp2_with fail
      refine (kSkew_any c k d l _ _ _ _ (HV.out.below HN0.out (Nat.le_refl _)) (HU.out.below HN0.out (Nat.le_refl _))).mono ?_
      rintro e w5 ⟨rfl, hb5⟩
      rw [HR.out]
      have HN1 := Lib.hid (HN0.out.trans (hb5.mono HN0.out.size))
      clear hb5 c0 c1 c2 z0 z1 z2
      have c0 := block_cell ((HN1.out.block _ (lt_of_block K0.out)).trans K0.out)
      have c1 := block_cell ((HN1.out.block _ (lt_of_block K1.out)).trans K1.out)
      have c2 := block_cell ((HN1.out.block _ (lt_of_block K2.out)).trans K2.out)
      have z0 := Nat.lt_of_lt_of_le (lt_of_block K0.out) HN1.out.size
      have z1 := Nat.lt_of_lt_of_le (lt_of_block K1.out) HN1.out.size
      have z2 := Nat.lt_of_lt_of_le (lt_of_block K2.out) HN1.out.size
      go_wp2_with fail
      refine (kSkew_any d l c k _ _ _ _ (HU.out.below HN1.out (Nat.le_refl _)) (HV.out.below HN1.out (Nat.le_refl _))).mono ?_
      rintro e w6 ⟨rfl, hb6⟩
      rw [HR2.out]
      have HN2 := Lib.hid (HN1.out.trans (hb6.mono HN1.out.size))
      clear hb6 c0 c1 c2 z0 z1 z2
      have c0 := block_cell ((HN2.out.block _ (lt_of_block K0.out)).trans K0.out)
      have c1 := block_cell ((HN2.out.block _ (lt_of_block K1.out)).trans K1.out)
      have c2 := block_cell ((HN2.out.block _ (lt_of_block K2.out)).trans K2.out)
      have z0 := Nat.lt_of_lt_of_le (lt_of_block K0.out) HN2.out.size
      have z1 := Nat.lt_of_lt_of_le (lt_of_block K1.out) HN2.out.size
      have z2 := Nat.lt_of_lt_of_le (lt_of_block K2.out) HN2.out.size
      rcases hfc with ⟨rfl, hnd, m1, m2, hm2⟩ | rfl | rfl
      · obtain ⟨me, rfl⟩ : ∃ j : Nat, m = j := ⟨m.toNat, by omega⟩
        have HM2 := Lib.hid hm2
        have HND := Lib.hid hnd
        have K1 := Lib.hid (show wA.heap[w.heap.size + 1]? = some (.cells #[.int .i64 c.n, .int .i64 d.pi, .int .i64 d.li, .slice la l.length ucap] 38) by rw [hnd]; exact K1.out)
        rw [← hnd] at c1
        have HPA := Lib.hid (fun w1 (h : Below wA.heap.size wA w1) => possible_any c k _ xs _ w1 (HV.out.below h (Nat.le_refl _)) (HX.out.below h (Nat.le_refl _)) HQ1.out)
        have HPB := Lib.hid (fun w1 (h : Below wA.heap.size wA w1) => show Calls Try.prog 23 #[.agg #[.int .i64 c.n, .int .i64 d.pi, .int .i64 d.li], .slice la l.length ucap, .slice ya ys.length yc] w1 _ by rw [hnd]; exact possible_any d l _ ys _ w1 (HU.out.below h (Nat.le_refl _)) (HY.out.below h (Nat.le_refl _)) HQ2.out)
        have hmn : ¬ (me : Int) < 1 := by omega
        clear hm2 hnd
        cases hpa : possB c k xs
        · have HA := Lib.hid hpa
          rw [hpa] at HPA
          clear hpa
          go_wp2_with (go_at_call 23; with_reducible refine (HPA.out _ HN2.out).mono ?_; rintro e w7 ⟨rfl, hb7⟩)
          have HN3 := Lib.hid (HN2.out.trans (hb7.mono HN2.out.size))
          refine (works_any _).mono ?_
          rintro e wz ⟨rfl, hbz⟩
          go_wp2_with fail
          go_ret
          exact ⟨rfl, HB.out.trans ((HN3.out.trans (hbz.mono HN3.out.size)).mono HB.out.size)⟩
        · cases hpb : possB d l ys
          · have HA := Lib.hid hpa
            rw [hpa] at HPA
            rw [hpb] at HPB
            clear hpa hpb
            go_wp2_with (first | (go_at_call 23; with_reducible refine (HPA.out _ HN2.out).mono ?_; rintro e w7 ⟨rfl, hb7⟩; have HN3 := Lib.hid (HN2.out.trans (hb7.mono HN2.out.size)); clear c0 c1 c2 z0 z1 z2; have c1 := block_cell (keepZ K1.out HN3.out); have c2 := block_cell (keepZ K2.out HN3.out)) | (go_at_call 23; with_reducible refine (HPB.out _ HN3.out).mono ?_; rintro e w8 ⟨rfl, hb8⟩))
            have HN4 := Lib.hid (HN3.out.trans (hb8.mono HN3.out.size))
            refine (works_any _).mono ?_
            rintro e wz ⟨rfl, hbz⟩
            go_wp2_with fail
            go_ret
            exact ⟨rfl, HB.out.trans ((HN4.out.trans (hbz.mono HN4.out.size)).mono HB.out.size)⟩
          · have HA := Lib.hid (possB_iff.1 hpa)
            have HBB := Lib.hid (possB_iff.1 hpb)
            rw [hpa] at HPA
            rw [hpb] at HPB
            clear hpa hpb
            go_wp2_with (first | (go_at_call 23; with_reducible refine (HPA.out _ HN2.out).mono ?_; rintro e w7 ⟨rfl, hb7⟩; have HN3 := Lib.hid (HN2.out.trans (hb7.mono HN2.out.size)); clear c0 c1 c2 z0 z1 z2; have c1 := block_cell (keepZ K1.out HN3.out); have c2 := block_cell (keepZ K2.out HN3.out)) | (go_at_call 23; with_reducible refine (HPB.out _ HN3.out).mono ?_; rintro e w8 ⟨rfl, hb8⟩; clear c1 c2; have c0 := block_cell (keepZ (keepZ K0.out HN3.out) hb8); have c2 := block_cell (keepZ (keepZ K2.out HN3.out) hb8)))
            have HN4 := Lib.hid (HN3.out.trans (hb8.mono HN3.out.size))
            have n1 : c.n ≤ 24 := by omega
            have hlx := HA.out.1
            have hly := HBB.out.1
            have HBX := Lib.hid (show ∀ i, i < xs.length → 0 ≤ xs.getD i 0 ∧ xs.getD i 0 ≤ 100000 from fun i hi => by
              have h1 := HA.out.2.1 i hi
              obtain ⟨q1, _, _⟩ := chk_goks HQ1.out
              have h2 := q1.p1
              have h3 := q1.l2
              omega)
            have HBY := Lib.hid (show ∀ i, i < ys.length → 0 ≤ ys.getD i 0 ∧ ys.getD i 0 ≤ 100000 from fun i hi => by
              have h1 := HBB.out.2.1 i hi
              obtain ⟨q1, _, _⟩ := chk_goks HQ2.out
              have h2 := q1.p1
              have h3 := q1.l2
              omega)
            have HLX := Lib.hid (show xs.length = c.n.toNat from hlx)
            have HLY := Lib.hid (show ys.length = c.n.toNat by rw [hly, HND.out])
            have HS1 := Lib.hid (fun (i : Nat) (hi : i ≤ c.n.toNat) (w1 : World) (h : Below wA.heap.size wA w1) => show Calls Try.prog 26 #[.slice xa xs.length xc, .int .i64 0, .int .i64 i] w1 fun e w' => e = .returned (.int .i64 (preM xs i)) ∧ w1 = w' from
              (sum_any (.slice xa xs.length xc) xs 0 i w1 (HX.out.below h (Nat.le_refl _)) (Nat.zero_le _) (by have := HLX.out; omega) HBX.out (by have := HLX.out; omega)).mono fun e w' h => ⟨by rw [h.1]; simp [preM], h.2⟩)
            have HS2 := Lib.hid (fun (i : Nat) (hi : i ≤ c.n.toNat) (w1 : World) (h : Below wA.heap.size wA w1) => show Calls Try.prog 26 #[.slice ya ys.length yc, .int .i64 0, .int .i64 i] w1 fun e w' => e = .returned (.int .i64 (preM ys i)) ∧ w1 = w' from
              (sum_any (.slice ya ys.length yc) ys 0 i w1 (HY.out.below h (Nat.le_refl _)) (Nat.zero_le _) (by have := HLY.out; omega) HBY.out (by have := HLY.out; omega)).mono fun e w' h => ⟨by rw [h.1]; simp [preM], h.2⟩)
            have HP1 := Lib.hid (fun (i : Nat) (hi : i ≤ c.n.toNat) => @pre_bd xs HBX.out 0 i (Nat.zero_le _) (by have := HLX.out; omega))
            have HP2 := Lib.hid (fun (i : Nat) (hi : i ≤ c.n.toNat) => @pre_bd ys HBY.out 0 i (Nat.zero_le _) (by have := HLY.out; omega))
            have HTL := Lib.hid (fun (j : Nat) (hj : me * (j + 1) ≤ c.n.toNat) => tilt_le HQ1.out HQ2.out HND.out (by omega) HA.out HBB.out hj HM2.out)
            have HME := Lib.hid (show me * (0 + 1) = me by omega)
            have HMS := Lib.hid (fun j : Nat => show me * (j + 1 + 1) = me * (j + 1) + me from Nat.mul_succ _ _)
            have hc0 : (0 : Int) ≤ c.n := by omega
            clear hlx hly HPA HPB hb7 hb8
            have m3 : (me : Int) ≤ 24 := by omega
            go_loopw [13] (fun i wr => ∃ j : Nat, i = .int .i64 ((me * (j + 1) : Nat) : Int) ∧ me * (j + 1) ≤ 48 ∧ Hid (Below wA.heap.size wA wr)) (fun i _ => 60 - (intOf i).toNat)
            case atStart => exact ⟨0, by rw [HME.out], by rw [HME.out]; omega, HN4⟩
            case round =>
              obtain ⟨j, rfl, h48, hb⟩ := hrel
              have HS := HMS.out j
              have HTJ := HTL.out j
              have HHS := Lib.hid HS
              clear HS
              generalize me * (j + 1) = I at *
              have c0 := block_cell ((hb.out.block _ (lt_of_block K0.out)).trans K0.out)
              have c2 := block_cell ((hb.out.block _ (lt_of_block K2.out)).trans K2.out)
              have z0 := Nat.lt_of_lt_of_le (lt_of_block K0.out) hb.out.size
              have z2 := Nat.lt_of_lt_of_le (lt_of_block K2.out) hb.out.size
              by_cases hlt : I ≤ c.n.toNat
              · have hle : (I : Int) ≤ c.n := by omega
                obtain ⟨t1, t2⟩ := HTJ hlt
                obtain ⟨a1, a2⟩ := HP1.out I hlt
                obtain ⟨b1, b2⟩ := HP2.out I hlt
                have HC1 := Lib.hid (HS1.out I hlt)
                have HC2 := Lib.hid (HS2.out I hlt)
                have px0 : preM xs 0 = 0 := rfl
                have py0 : preM ys 0 = 0 := rfl
                rw [px0] at a1 a2
                rw [py0] at b1 b2
                generalize preM xs I = PX at *
                generalize preM ys I = PY at *
                have y2 := bw_cells (B := wr.heap.size) ((hb.out.block _ (lt_of_block K2.out)).trans K2.out) z2
                clear px0 py0 HTJ
                go_upto_region 14 with fail
                have hwr : IntKind.i64.wrap (PX - PY) = PX - PY := by rw [IntKind.wrap_i64]; omega
                refine wp_region_below (by kernel_rfl) (by kernel_rfl) (Below.refl wr.heap.size wr) ?_
                repeat ((with_reducible refine wpQuiet_step (fun K hK => ?_)); go_simp; first | (refine hK _ ?_; clear hK K) | (apply Exists.intro; refine ⟨fun _ => ?_, hK _ ?_⟩; (first | (go_at_call 26; with_reducible refine bw_same (HC1.out _ ?_); exact (hb.out.trans ((BW.b _).mono hb.out.size))) | (go_at_call 26; with_reducible refine bw_same (HC2.out _ ?_); exact (hb.out.trans ((BW.b _).mono hb.out.size)))); clear hK K))
                refine wpQuiet_nil ?_
                intro wq hwq0
                have hwq := bw_out hwq0
                clear hwq0
                clear hwr
                have hbq := Lib.hid (hb.out.trans (hwq.mono hb.out.size))
                clear hwq y2 c0 c2 z0 z2
                have c0 := block_cell ((hbq.out.block _ (lt_of_block K0.out)).trans K0.out)
                have c2 := block_cell ((hbq.out.block _ (lt_of_block K2.out)).trans K2.out)
                have hd1 : -100000000 ≤ PX - PY := by omega
                have hd2 : PX - PY ≤ 100000000 := by omega
                generalize PX - PY = dd at *
                clear a1 a2 b1 b2
                by_cases hdd : dd < -dd
                · go_wp2
                  go_roundw
                  case rel => exact ⟨j + 1, by rw [HHS.out]; go_num, by rw [HHS.out]; omega, hbq⟩
                  case measure => simp [intOf]; omega
                · go_wp2
                  go_roundw
                  case rel => exact ⟨j + 1, by rw [HHS.out]; go_num, by rw [HHS.out]; omega, hbq⟩
                  case measure => simp [intOf]; omega
              · have hle : ¬ (I : Int) ≤ c.n := by omega
                go_wp2_with fail
                refine (works_any _).mono ?_
                rintro e wz ⟨rfl, hbz⟩
                go_wp2_with fail
                go_ret
                exact ⟨rfl, HB.out.trans ((hb.out.trans (hbz.mono hb.out.size)).mono HB.out.size)⟩
      · go_wp2_with fail
        refine (works_any _).mono ?_
        rintro e wz ⟨rfl, hbz⟩
        go_wp2_with fail
        go_ret
        exact ⟨rfl, HB.out.trans ((HN2.out.trans (hbz.mono HN2.out.size)).mono HB.out.size)⟩
      · go_wp2_with fail
        refine (works_any _).mono ?_
        rintro e wz ⟨rfl, hbz⟩
        go_wp2_with fail
        go_ret
        exact ⟨rfl, HB.out.trans ((HN2.out.trans (hbz.mono HN2.out.size)).mono HB.out.size)⟩
    · clear htb HTN HT
      go_wp2_with fail
      refine (works_any _).mono ?_
      rintro e wz ⟨rfl, hbz⟩
      go_wp2_with fail
      go_ret
      exact ⟨rfl, HB.out.trans ((HN0.out.trans (hbz.mono HN0.out.size)).mono HB.out.size)⟩

end Go.Proofs.Ythgcnakbbmknoaa
