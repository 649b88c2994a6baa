/- ChainSkews, the walk. -/
import Derived.Test.YtkahhclmmlkpjaaUh
import Derived.Test.YtkahhclmmlkpjaaVj
import Derived.Test.YtkahhclmmlkpjaaVk
namespace Go.Proofs.Ytkahhclmmlkpjaa
open Go.RowKit

set_option maxRecDepth 100000 in
set_option maxHeartbeats 8000000 in
theorem skews_any (c : Chn) (v : Value) (k : List Gau) (d : Chn) (u : Value) (l : List Gau) (m : Int) (w : World) (hv : GaAt w v k) (hn : k.length * 32 ≤ 140737488351232) (hu : GaAt w u l) (hm : l.length * 32 ≤ 140737488351232) :
    Calls Try.prog 7 #[.agg #[.int .i64 c.n, .int .i64 c.pi, .int .i64 c.li, v], .agg #[.int .i64 d.n, .int .i64 d.pi, .int .i64 d.li, u], .int .i64 m] w fun e w' => e = .returned (.bool true) ∧ Below w.heap.size w w' := by
  have hb0 := ((Below.refl w.heap.size w).alloc (Nat.le_refl _) (Obj.cells #[.int .i64 c.n, .int .i64 c.pi, .int .i64 c.li, v] 50)).alloc (by simp only [size_alloc]; omega) (Obj.cells #[.int .i64 d.n, .int .i64 d.pi, .int .i64 d.li, u] 50)
  have k0 := block_alloc (block_new w (Obj.cells #[.int .i64 c.n, .int .i64 c.pi, .int .i64 c.li, v] 50) w.heap.size rfl) (Obj.cells #[.int .i64 d.n, .int .i64 d.pi, .int .i64 d.li, u] 50)
  have k1 := block_new (w.alloc (Obj.cells #[.int .i64 c.n, .int .i64 c.pi, .int .i64 c.li, v] 50)) (Obj.cells #[.int .i64 d.n, .int .i64 d.pi, .int .i64 d.li, u] 50) (w.heap.size + 1) (by simp only [size_alloc])
  have HV := Lib.hid (hv.below hb0 (Nat.le_refl _))
  have HU := Lib.hid (hu.below hb0 (Nat.le_refl _))
  obtain ⟨va, cap, rfl, hn1, hcap, hc⟩ := hv
  obtain ⟨ua, ucap, rfl, hn2, hucap, huc⟩ := hu
  have HB := Lib.hid hb0
  have K0 := Lib.hid k0
  have K1 := Lib.hid k1
  obtain ⟨⟨r1, r2, r3⟩, hr⟩ : ∃ x, skwM c k d l m = x := ⟨_, rfl⟩
  have HR := Lib.hid hr
  clear hc huc hb0 k0 k1 hr
  go_enter Try.func7, Try.ntmps7
  go_wp2_with fail
  generalize (w.alloc (Obj.cells #[.int .i64 c.n, .int .i64 c.pi, .int .i64 c.li, .slice va k.length cap] 50)).alloc (Obj.cells #[.int .i64 d.n, .int .i64 d.pi, .int .i64 d.li, .slice ua l.length ucap] 50) = wA at *
  have c0 := block_cell K0.out
  have c1 := block_cell K1.out
  have z0 := lt_of_block K0.out
  have z1 := lt_of_block K1.out
  cases hf1 : decide (42 < k.length)
  · cases hf2 : decide (42 < l.length)
    · go_wp2_with (go_at_call 17; (first | (refine (far_any k _ _ HV.out).mono ?_; rintro e w' ⟨rfl, rfl⟩; rw [hf1]) | (refine (far_any l _ _ HU.out).mono ?_; rintro e w' ⟨rfl, rfl⟩; rw [hf2])))
      have D : ∀ w', Below wA.heap.size wA w' → (((w'.cell? ⟨w.heap.size, 0, none⟩ = some (.int .i64 c.n) ∧ w'.cell? ⟨w.heap.size, 1, none⟩ = some (.int .i64 c.pi) ∧ w'.cell? ⟨w.heap.size, 2, none⟩ = some (.int .i64 c.li) ∧ w'.cell? ⟨w.heap.size, 3, none⟩ = some (.slice va k.length cap)) ∧
          (w'.cell? ⟨w.heap.size + 1, 0, none⟩ = some (.int .i64 d.n) ∧ w'.cell? ⟨w.heap.size + 1, 1, none⟩ = some (.int .i64 d.pi) ∧ w'.cell? ⟨w.heap.size + 1, 2, none⟩ = some (.int .i64 d.li) ∧ w'.cell? ⟨w.heap.size + 1, 3, none⟩ = some (.slice ua l.length ucap))) ∧ Below wA.heap.size wA w') := by
        intro w' h
        have c1 := block_cell ((h.block _ (lt_of_block K0.out)).trans K0.out)
        have c2 := block_cell ((h.block _ (lt_of_block K1.out)).trans K1.out)
        exact ⟨⟨⟨c1 0, c1 1, c1 2, c1 3⟩, ⟨c2 0, c2 1, c2 2, c2 3⟩⟩, h⟩
      clear c0 c1
      go_cut [7, 8, 9] (fun s7 s8 s9 wx => s7 = .int .i64 r1 ∧ s8 = .int .i64 r2 ∧ s9 = .int .i64 r3 ∧ Hid (Below wA.heap.size wA wx))
      case first =>
        go_region_held3 (fun w' => (((w'.cell? ⟨w.heap.size, 0, none⟩ = some (.int .i64 c.n) ∧ w'.cell? ⟨w.heap.size, 1, none⟩ = some (.int .i64 c.pi) ∧ w'.cell? ⟨w.heap.size, 2, none⟩ = some (.int .i64 c.li) ∧ w'.cell? ⟨w.heap.size, 3, none⟩ = some (.slice va k.length cap)) ∧
          (w'.cell? ⟨w.heap.size + 1, 0, none⟩ = some (.int .i64 d.n) ∧ w'.cell? ⟨w.heap.size + 1, 1, none⟩ = some (.int .i64 d.pi) ∧ w'.cell? ⟨w.heap.size + 1, 2, none⟩ = some (.int .i64 d.li) ∧ w'.cell? ⟨w.heap.size + 1, 3, none⟩ = some (.slice ua l.length ucap))) ∧ Below wA.heap.size wA w'))
          (first | (with_reducible exact D _ (Below.drew (Below.refl _ _))) | (with_reducible exact D _ hB1) | (with_reducible exact D _ hB2) | (with_reducible exact D _ hB3) | fail)
          (first
            | (go_at_call 19; have hB0 := And.right ‹_ ∧ Below wA.heap.size wA _›; with_reducible refine (copyGauges_any (.slice va k.length cap) k _ (HV.out.below hB0 (Nat.le_refl _)) hn).mono ?_; rintro e w3 ⟨v3, rfl, ho3, hb3⟩; have hB1 := hB0.trans (hb3.mono hB0.size); have hU3 := ElAt.of_own (m := 4) (f := gauL) (xs := k) (fun _ => rfl) ho3)
            | (go_at_call 19; with_reducible refine (copyGauges_any (.slice ua l.length ucap) l _ (HU.out.below hB1 (Nat.le_refl _)) hm).mono ?_; rintro e w4 ⟨v4, rfl, ho4, hb4⟩; have hB2 := hB1.trans (hb4.mono hB1.size); have hU4 := ElAt.of_own (m := 4) (f := gauL) (xs := l) (fun _ => rfl) ho4; have hU5 := hU3.below hb4 (Nat.le_refl _))
            | (go_at_call 36; refine (kSkew_any c k d l _ _ _ _ hU5 hU4).mono ?_; rintro e w5 ⟨rfl, hb5⟩; rw [HR.out]; have hB3 := hB2.trans (hb5.mono hB2.size)))
        all_goals
          go_wp2_with fail
          go_meet
          exact ⟨rfl, rfl, rfl, And.right ‹_ ∧ Below wA.heap.size wA _›⟩
      case rest =>
        obtain ⟨rfl, rfl, rfl, HN1⟩ := hcut
        have c0 := block_cell ((HN1.out.block _ (lt_of_block K0.out)).trans K0.out)
        have c1 := block_cell ((HN1.out.block _ (lt_of_block K1.out)).trans K1.out)
        have z0 := Nat.lt_of_lt_of_le (lt_of_block K0.out) HN1.out.size
        have z1 := Nat.lt_of_lt_of_le (lt_of_block K1.out) HN1.out.size
        clear D
        go_wp2_with fail
        refine (rSkew_any c k d l _ _ _ _ (HV.out.below HN1.out (Nat.le_refl _)) (HU.out.below HN1.out (Nat.le_refl _))).mono ?_
        rintro e w5 ⟨rfl, hb5⟩
        rw [HR.out]
        have HN2 := Lib.hid (HN1.out.trans (hb5.mono HN1.out.size))
        have e1 : (r1 == r1) = true := by simp
        have e2 : (r2 == r2) = true := by simp
        have e3 : (r3 == r3) = true := by simp
        clear hb5 c0 c1
        go_wp2_with fail
        refine (works_any _).mono ?_
        rintro e w6 ⟨rfl, hb6⟩
        go_wp2
        go_ret
        exact ⟨rfl, HB.out.trans ((HN2.out.trans (hb6.mono HN2.out.size)).mono HB.out.size)⟩
    · go_wp2_with (go_at_call 17; (first | (refine (far_any k _ _ HV.out).mono ?_; rintro e w' ⟨rfl, rfl⟩; rw [hf1]) | (refine (far_any l _ _ HU.out).mono ?_; rintro e w' ⟨rfl, rfl⟩; rw [hf2])))
      refine (works_any _).mono ?_
      rintro e w6 ⟨rfl, hb6⟩
      go_wp2
      go_ret
      exact ⟨rfl, HB.out.trans (hb6.mono HB.out.size)⟩
  · go_wp2_with (go_at_call 17; refine (far_any k _ _ HV.out).mono ?_; rintro e w' ⟨rfl, rfl⟩; rw [hf1])
    refine (works_any _).mono ?_
    rintro e w6 ⟨rfl, hb6⟩
    go_wp2
    go_ret
    exact ⟨rfl, HB.out.trans (hb6.mono HB.out.size)⟩

end Go.Proofs.Ytkahhclmmlkpjaa
