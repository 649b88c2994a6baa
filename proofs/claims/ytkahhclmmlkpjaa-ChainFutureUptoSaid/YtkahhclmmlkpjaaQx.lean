/- Walks of layer 2 (chain), parts: isUse, CheckPart. -/
import Derived.Test.YtkahhclmmlkpjaaQw
namespace Go.Proofs.Ytkahhclmmlkpjaa
open Go.RowKit

set_option maxHeartbeats 2000000 in
theorem isUse_any (P : Prt) (bv : Value) (u : Us) (s : Int) (w : World) (hv : SpAt w bv P.rs) :
    Calls Try.prog 80 #[prtV P bv, usV u, .int .i64 s] w fun e w' => e = .returned (.bool (useOk P.rs.length u s)) ∧ Below w.heap.size w w' := by
  obtain ⟨d, t, c, m, lo, hi⟩ := u
  have hb0 := ((Below.refl w.heap.size w).alloc (Nat.le_refl _) (Obj.cells #[bv, .int .i64 P.wo, .int .i64 P.tu, .int .i64 P.ag] 54)).alloc (by simp only [size_alloc]; omega) (Obj.cells #[.int .i64 d, .int .i64 t, .int .i64 c, .bool m, .int .i64 lo, .int .i64 hi] 89)
  have k0 := block_alloc (block_new w (Obj.cells #[bv, .int .i64 P.wo, .int .i64 P.tu, .int .i64 P.ag] 54) w.heap.size rfl) (Obj.cells #[.int .i64 d, .int .i64 t, .int .i64 c, .bool m, .int .i64 lo, .int .i64 hi] 89)
  have k1 := block_new (w.alloc (Obj.cells #[bv, .int .i64 P.wo, .int .i64 P.tu, .int .i64 P.ag] 54)) (Obj.cells #[.int .i64 d, .int .i64 t, .int .i64 c, .bool m, .int .i64 lo, .int .i64 hi] 89) (w.heap.size + 1) (by simp only [size_alloc])
  obtain ⟨a, cap, rfl, hn, hcap, hc⟩ := hv
  clear hc
  have HB := Lib.hid hb0
  have K0 := Lib.hid k0
  have K1 := Lib.hid k1
  clear hb0 k0 k1
  obtain ⟨b1, h1⟩ : ∃ b, decide (s ≤ d ∧ d ≤ 100000) = b := ⟨_, rfl⟩
  obtain ⟨b2, h2⟩ : ∃ b, decide (0 ≤ t ∧ t ≤ 1000000) = b := ⟨_, rfl⟩
  obtain ⟨b3, h3⟩ : ∃ b, decide (0 ≤ c ∧ c ≤ (P.rs.length : Int) - 1) = b := ⟨_, rfl⟩
  obtain ⟨b4, h4⟩ : ∃ b, spanBad 2000000000 lo hi = !b := ⟨!spanBad 2000000000 lo hi, by simp⟩
  have HR := Lib.hid (show useOk P.rs.length ⟨d, t, c, m, lo, hi⟩ s = (b1 && b2 && b3 && b4 && (m || (decide (lo = 0) && decide (hi = 0)))) by unfold useOk; dsimp only; rw [h1, h2, h3, h4, Bool.not_not])
  have H1 := Lib.hid h1
  have H2 := Lib.hid h2
  have H3 := Lib.hid h3
  have H4 := Lib.hid h4
  clear h1 h2 h3 h4
  by_cases hlo : lo = 0
  · subst hlo
    by_cases hhi : hi = 0
    · subst hhi
      cases b1
      · go_enter Try.func80, Try.ntmps80
        go_wp2_with fail
        generalize (w.alloc (Obj.cells #[Value.slice a P.rs.length cap, .int .i64 P.wo, .int .i64 P.tu, .int .i64 P.ag] 54)).alloc (Obj.cells #[.int .i64 d, .int .i64 t, .int .i64 c, (.bool m), .int .i64 0, .int .i64 0] 89) = wA at *
        have hc0 := block_cell K0.out
        have hc1 := block_cell K1.out
        go_wp2_with (first | (go_at_call 60; (first | with_reducible refine (kwithin_is _ d s 100000 _ H1.out).mono ?_ | with_reducible refine (kwithin_is _ t 0 1000000 _ H2.out).mono ?_ | with_reducible refine (kwithin_is _ c 0 ((P.rs.length : Int) - 1) _ H3.out).mono ?_); rintro e w' ⟨rfl, rfl⟩) |
          (go_at_call 62; refine (isSpan_is _ _ _ _ _ H4.out).mono ?_; rintro e w1 ⟨rfl, hb1⟩; clear hc0 hc1; have hc0 := block_cell ((hb1.block _ (lt_of_block K0.out)).trans K0.out); have hc1 := block_cell ((hb1.block _ (lt_of_block K1.out)).trans K1.out)))
        all_goals
          go_ret
          first
            | exact ⟨ret_bool (by rw [HR.out]; rfl), HB.out⟩
            | exact ⟨ret_bool (by rw [HR.out]; rfl), HB.out.trans (hb1.mono HB.out.size)⟩
            | exact ⟨ret_bool (by rw [HR.out]; simp_all), HB.out⟩
            | exact ⟨ret_bool (by rw [HR.out]; simp_all), HB.out.trans (hb1.mono HB.out.size)⟩
      cases b2
      · go_enter Try.func80, Try.ntmps80
        go_wp2_with fail
        generalize (w.alloc (Obj.cells #[Value.slice a P.rs.length cap, .int .i64 P.wo, .int .i64 P.tu, .int .i64 P.ag] 54)).alloc (Obj.cells #[.int .i64 d, .int .i64 t, .int .i64 c, (.bool m), .int .i64 0, .int .i64 0] 89) = wA at *
        have hc0 := block_cell K0.out
        have hc1 := block_cell K1.out
        go_wp2_with (first | (go_at_call 60; (first | with_reducible refine (kwithin_is _ d s 100000 _ H1.out).mono ?_ | with_reducible refine (kwithin_is _ t 0 1000000 _ H2.out).mono ?_ | with_reducible refine (kwithin_is _ c 0 ((P.rs.length : Int) - 1) _ H3.out).mono ?_); rintro e w' ⟨rfl, rfl⟩) |
          (go_at_call 62; refine (isSpan_is _ _ _ _ _ H4.out).mono ?_; rintro e w1 ⟨rfl, hb1⟩; clear hc0 hc1; have hc0 := block_cell ((hb1.block _ (lt_of_block K0.out)).trans K0.out); have hc1 := block_cell ((hb1.block _ (lt_of_block K1.out)).trans K1.out)))
        all_goals
          go_ret
          first
            | exact ⟨ret_bool (by rw [HR.out]; rfl), HB.out⟩
            | exact ⟨ret_bool (by rw [HR.out]; rfl), HB.out.trans (hb1.mono HB.out.size)⟩
            | exact ⟨ret_bool (by rw [HR.out]; simp_all), HB.out⟩
            | exact ⟨ret_bool (by rw [HR.out]; simp_all), HB.out.trans (hb1.mono HB.out.size)⟩
      cases b3
      · go_enter Try.func80, Try.ntmps80
        go_wp2_with fail
        generalize (w.alloc (Obj.cells #[Value.slice a P.rs.length cap, .int .i64 P.wo, .int .i64 P.tu, .int .i64 P.ag] 54)).alloc (Obj.cells #[.int .i64 d, .int .i64 t, .int .i64 c, (.bool m), .int .i64 0, .int .i64 0] 89) = wA at *
        have hc0 := block_cell K0.out
        have hc1 := block_cell K1.out
        go_wp2_with (first | (go_at_call 60; (first | with_reducible refine (kwithin_is _ d s 100000 _ H1.out).mono ?_ | with_reducible refine (kwithin_is _ t 0 1000000 _ H2.out).mono ?_ | with_reducible refine (kwithin_is _ c 0 ((P.rs.length : Int) - 1) _ H3.out).mono ?_); rintro e w' ⟨rfl, rfl⟩) |
          (go_at_call 62; refine (isSpan_is _ _ _ _ _ H4.out).mono ?_; rintro e w1 ⟨rfl, hb1⟩; clear hc0 hc1; have hc0 := block_cell ((hb1.block _ (lt_of_block K0.out)).trans K0.out); have hc1 := block_cell ((hb1.block _ (lt_of_block K1.out)).trans K1.out)))
        all_goals
          go_ret
          first
            | exact ⟨ret_bool (by rw [HR.out]; rfl), HB.out⟩
            | exact ⟨ret_bool (by rw [HR.out]; rfl), HB.out.trans (hb1.mono HB.out.size)⟩
            | exact ⟨ret_bool (by rw [HR.out]; simp_all), HB.out⟩
            | exact ⟨ret_bool (by rw [HR.out]; simp_all), HB.out.trans (hb1.mono HB.out.size)⟩
      cases b4
      · go_enter Try.func80, Try.ntmps80
        go_wp2_with fail
        generalize (w.alloc (Obj.cells #[Value.slice a P.rs.length cap, .int .i64 P.wo, .int .i64 P.tu, .int .i64 P.ag] 54)).alloc (Obj.cells #[.int .i64 d, .int .i64 t, .int .i64 c, (.bool m), .int .i64 0, .int .i64 0] 89) = wA at *
        have hc0 := block_cell K0.out
        have hc1 := block_cell K1.out
        go_wp2_with (first | (go_at_call 60; (first | with_reducible refine (kwithin_is _ d s 100000 _ H1.out).mono ?_ | with_reducible refine (kwithin_is _ t 0 1000000 _ H2.out).mono ?_ | with_reducible refine (kwithin_is _ c 0 ((P.rs.length : Int) - 1) _ H3.out).mono ?_); rintro e w' ⟨rfl, rfl⟩) |
          (go_at_call 62; refine (isSpan_is _ _ _ _ _ H4.out).mono ?_; rintro e w1 ⟨rfl, hb1⟩; clear hc0 hc1; have hc0 := block_cell ((hb1.block _ (lt_of_block K0.out)).trans K0.out); have hc1 := block_cell ((hb1.block _ (lt_of_block K1.out)).trans K1.out)))
        all_goals
          go_ret
          first
            | exact ⟨ret_bool (by rw [HR.out]; rfl), HB.out⟩
            | exact ⟨ret_bool (by rw [HR.out]; rfl), HB.out.trans (hb1.mono HB.out.size)⟩
            | exact ⟨ret_bool (by rw [HR.out]; simp_all), HB.out⟩
            | exact ⟨ret_bool (by rw [HR.out]; simp_all), HB.out.trans (hb1.mono HB.out.size)⟩
      cases m
      · go_enter Try.func80, Try.ntmps80
        go_wp2_with fail
        generalize (w.alloc (Obj.cells #[Value.slice a P.rs.length cap, .int .i64 P.wo, .int .i64 P.tu, .int .i64 P.ag] 54)).alloc (Obj.cells #[.int .i64 d, .int .i64 t, .int .i64 c, (.bool false), .int .i64 0, .int .i64 0] 89) = wA at *
        have hc0 := block_cell K0.out
        have hc1 := block_cell K1.out
        go_wp2_with (first | (go_at_call 60; (first | with_reducible refine (kwithin_is _ d s 100000 _ H1.out).mono ?_ | with_reducible refine (kwithin_is _ t 0 1000000 _ H2.out).mono ?_ | with_reducible refine (kwithin_is _ c 0 ((P.rs.length : Int) - 1) _ H3.out).mono ?_); rintro e w' ⟨rfl, rfl⟩) |
          (go_at_call 62; refine (isSpan_is _ _ _ _ _ H4.out).mono ?_; rintro e w1 ⟨rfl, hb1⟩; clear hc0 hc1; have hc0 := block_cell ((hb1.block _ (lt_of_block K0.out)).trans K0.out); have hc1 := block_cell ((hb1.block _ (lt_of_block K1.out)).trans K1.out)))
        all_goals
          go_ret
          first
            | exact ⟨ret_bool (by rw [HR.out]; rfl), HB.out⟩
            | exact ⟨ret_bool (by rw [HR.out]; rfl), HB.out.trans (hb1.mono HB.out.size)⟩
            | exact ⟨ret_bool (by rw [HR.out]; simp_all), HB.out⟩
            | exact ⟨ret_bool (by rw [HR.out]; simp_all), HB.out.trans (hb1.mono HB.out.size)⟩
      · go_enter Try.func80, Try.ntmps80
        go_wp2_with fail
        generalize (w.alloc (Obj.cells #[Value.slice a P.rs.length cap, .int .i64 P.wo, .int .i64 P.tu, .int .i64 P.ag] 54)).alloc (Obj.cells #[.int .i64 d, .int .i64 t, .int .i64 c, (.bool true), .int .i64 0, .int .i64 0] 89) = wA at *
        have hc0 := block_cell K0.out
        have hc1 := block_cell K1.out
        go_wp2_with (first | (go_at_call 60; (first | with_reducible refine (kwithin_is _ d s 100000 _ H1.out).mono ?_ | with_reducible refine (kwithin_is _ t 0 1000000 _ H2.out).mono ?_ | with_reducible refine (kwithin_is _ c 0 ((P.rs.length : Int) - 1) _ H3.out).mono ?_); rintro e w' ⟨rfl, rfl⟩) |
          (go_at_call 62; refine (isSpan_is _ _ _ _ _ H4.out).mono ?_; rintro e w1 ⟨rfl, hb1⟩; clear hc0 hc1; have hc0 := block_cell ((hb1.block _ (lt_of_block K0.out)).trans K0.out); have hc1 := block_cell ((hb1.block _ (lt_of_block K1.out)).trans K1.out)))
        all_goals
          go_ret
          first
            | exact ⟨ret_bool (by rw [HR.out]; rfl), HB.out⟩
            | exact ⟨ret_bool (by rw [HR.out]; rfl), HB.out.trans (hb1.mono HB.out.size)⟩
            | exact ⟨ret_bool (by rw [HR.out]; simp_all), HB.out⟩
            | exact ⟨ret_bool (by rw [HR.out]; simp_all), HB.out.trans (hb1.mono HB.out.size)⟩
    · cases b1
      · go_enter Try.func80, Try.ntmps80
        go_wp2_with fail
        generalize (w.alloc (Obj.cells #[Value.slice a P.rs.length cap, .int .i64 P.wo, .int .i64 P.tu, .int .i64 P.ag] 54)).alloc (Obj.cells #[.int .i64 d, .int .i64 t, .int .i64 c, (.bool m), .int .i64 0, .int .i64 hi] 89) = wA at *
        have hc0 := block_cell K0.out
        have hc1 := block_cell K1.out
        go_wp2_with (first | (go_at_call 60; (first | with_reducible refine (kwithin_is _ d s 100000 _ H1.out).mono ?_ | with_reducible refine (kwithin_is _ t 0 1000000 _ H2.out).mono ?_ | with_reducible refine (kwithin_is _ c 0 ((P.rs.length : Int) - 1) _ H3.out).mono ?_); rintro e w' ⟨rfl, rfl⟩) |
          (go_at_call 62; refine (isSpan_is _ _ _ _ _ H4.out).mono ?_; rintro e w1 ⟨rfl, hb1⟩; clear hc0 hc1; have hc0 := block_cell ((hb1.block _ (lt_of_block K0.out)).trans K0.out); have hc1 := block_cell ((hb1.block _ (lt_of_block K1.out)).trans K1.out)))
        all_goals
          go_ret
          first
            | exact ⟨ret_bool (by rw [HR.out]; rfl), HB.out⟩
            | exact ⟨ret_bool (by rw [HR.out]; rfl), HB.out.trans (hb1.mono HB.out.size)⟩
            | exact ⟨ret_bool (by rw [HR.out]; simp_all), HB.out⟩
            | exact ⟨ret_bool (by rw [HR.out]; simp_all), HB.out.trans (hb1.mono HB.out.size)⟩
      cases b2
      · go_enter Try.func80, Try.ntmps80
        go_wp2_with fail
        generalize (w.alloc (Obj.cells #[Value.slice a P.rs.length cap, .int .i64 P.wo, .int .i64 P.tu, .int .i64 P.ag] 54)).alloc (Obj.cells #[.int .i64 d, .int .i64 t, .int .i64 c, (.bool m), .int .i64 0, .int .i64 hi] 89) = wA at *
        have hc0 := block_cell K0.out
        have hc1 := block_cell K1.out
        go_wp2_with (first | (go_at_call 60; (first | with_reducible refine (kwithin_is _ d s 100000 _ H1.out).mono ?_ | with_reducible refine (kwithin_is _ t 0 1000000 _ H2.out).mono ?_ | with_reducible refine (kwithin_is _ c 0 ((P.rs.length : Int) - 1) _ H3.out).mono ?_); rintro e w' ⟨rfl, rfl⟩) |
          (go_at_call 62; refine (isSpan_is _ _ _ _ _ H4.out).mono ?_; rintro e w1 ⟨rfl, hb1⟩; clear hc0 hc1; have hc0 := block_cell ((hb1.block _ (lt_of_block K0.out)).trans K0.out); have hc1 := block_cell ((hb1.block _ (lt_of_block K1.out)).trans K1.out)))
        all_goals
          go_ret
          first
            | exact ⟨ret_bool (by rw [HR.out]; rfl), HB.out⟩
            | exact ⟨ret_bool (by rw [HR.out]; rfl), HB.out.trans (hb1.mono HB.out.size)⟩
            | exact ⟨ret_bool (by rw [HR.out]; simp_all), HB.out⟩
            | exact ⟨ret_bool (by rw [HR.out]; simp_all), HB.out.trans (hb1.mono HB.out.size)⟩
      cases b3
      · go_enter Try.func80, Try.ntmps80
        go_wp2_with fail
        generalize (w.alloc (Obj.cells #[Value.slice a P.rs.length cap, .int .i64 P.wo, .int .i64 P.tu, .int .i64 P.ag] 54)).alloc (Obj.cells #[.int .i64 d, .int .i64 t, .int .i64 c, (.bool m), .int .i64 0, .int .i64 hi] 89) = wA at *
        have hc0 := block_cell K0.out
        have hc1 := block_cell K1.out
        go_wp2_with (first | (go_at_call 60; (first | with_reducible refine (kwithin_is _ d s 100000 _ H1.out).mono ?_ | with_reducible refine (kwithin_is _ t 0 1000000 _ H2.out).mono ?_ | with_reducible refine (kwithin_is _ c 0 ((P.rs.length : Int) - 1) _ H3.out).mono ?_); rintro e w' ⟨rfl, rfl⟩) |
          (go_at_call 62; refine (isSpan_is _ _ _ _ _ H4.out).mono ?_; rintro e w1 ⟨rfl, hb1⟩; clear hc0 hc1; have hc0 := block_cell ((hb1.block _ (lt_of_block K0.out)).trans K0.out); have hc1 := block_cell ((hb1.block _ (lt_of_block K1.out)).trans K1.out)))
        all_goals
          go_ret
          first
            | exact ⟨ret_bool (by rw [HR.out]; rfl), HB.out⟩
            | exact ⟨ret_bool (by rw [HR.out]; rfl), HB.out.trans (hb1.mono HB.out.size)⟩
            | exact ⟨ret_bool (by rw [HR.out]; simp_all), HB.out⟩
            | exact ⟨ret_bool (by rw [HR.out]; simp_all), HB.out.trans (hb1.mono HB.out.size)⟩
      cases b4
      · go_enter Try.func80, Try.ntmps80
        go_wp2_with fail
        generalize (w.alloc (Obj.cells #[Value.slice a P.rs.length cap, .int .i64 P.wo, .int .i64 P.tu, .int .i64 P.ag] 54)).alloc (Obj.cells #[.int .i64 d, .int .i64 t, .int .i64 c, (.bool m), .int .i64 0, .int .i64 hi] 89) = wA at *
        have hc0 := block_cell K0.out
        have hc1 := block_cell K1.out
        go_wp2_with (first | (go_at_call 60; (first | with_reducible refine (kwithin_is _ d s 100000 _ H1.out).mono ?_ | with_reducible refine (kwithin_is _ t 0 1000000 _ H2.out).mono ?_ | with_reducible refine (kwithin_is _ c 0 ((P.rs.length : Int) - 1) _ H3.out).mono ?_); rintro e w' ⟨rfl, rfl⟩) |
          (go_at_call 62; refine (isSpan_is _ _ _ _ _ H4.out).mono ?_; rintro e w1 ⟨rfl, hb1⟩; clear hc0 hc1; have hc0 := block_cell ((hb1.block _ (lt_of_block K0.out)).trans K0.out); have hc1 := block_cell ((hb1.block _ (lt_of_block K1.out)).trans K1.out)))
        all_goals
          go_ret
          first
            | exact ⟨ret_bool (by rw [HR.out]; rfl), HB.out⟩
            | exact ⟨ret_bool (by rw [HR.out]; rfl), HB.out.trans (hb1.mono HB.out.size)⟩
            | exact ⟨ret_bool (by rw [HR.out]; simp_all), HB.out⟩
            | exact ⟨ret_bool (by rw [HR.out]; simp_all), HB.out.trans (hb1.mono HB.out.size)⟩
      cases m
      · go_enter Try.func80, Try.ntmps80
        go_wp2_with fail
        generalize (w.alloc (Obj.cells #[Value.slice a P.rs.length cap, .int .i64 P.wo, .int .i64 P.tu, .int .i64 P.ag] 54)).alloc (Obj.cells #[.int .i64 d, .int .i64 t, .int .i64 c, (.bool false), .int .i64 0, .int .i64 hi] 89) = wA at *
        have hc0 := block_cell K0.out
        have hc1 := block_cell K1.out
        go_wp2_with (first | (go_at_call 60; (first | with_reducible refine (kwithin_is _ d s 100000 _ H1.out).mono ?_ | with_reducible refine (kwithin_is _ t 0 1000000 _ H2.out).mono ?_ | with_reducible refine (kwithin_is _ c 0 ((P.rs.length : Int) - 1) _ H3.out).mono ?_); rintro e w' ⟨rfl, rfl⟩) |
          (go_at_call 62; refine (isSpan_is _ _ _ _ _ H4.out).mono ?_; rintro e w1 ⟨rfl, hb1⟩; clear hc0 hc1; have hc0 := block_cell ((hb1.block _ (lt_of_block K0.out)).trans K0.out); have hc1 := block_cell ((hb1.block _ (lt_of_block K1.out)).trans K1.out)))
        all_goals
          go_ret
          first
            | exact ⟨ret_bool (by rw [HR.out]; rfl), HB.out⟩
            | exact ⟨ret_bool (by rw [HR.out]; rfl), HB.out.trans (hb1.mono HB.out.size)⟩
            | exact ⟨ret_bool (by rw [HR.out]; simp_all), HB.out⟩
            | exact ⟨ret_bool (by rw [HR.out]; simp_all), HB.out.trans (hb1.mono HB.out.size)⟩
      · go_enter Try.func80, Try.ntmps80
        go_wp2_with fail
        generalize (w.alloc (Obj.cells #[Value.slice a P.rs.length cap, .int .i64 P.wo, .int .i64 P.tu, .int .i64 P.ag] 54)).alloc (Obj.cells #[.int .i64 d, .int .i64 t, .int .i64 c, (.bool true), .int .i64 0, .int .i64 hi] 89) = wA at *
        have hc0 := block_cell K0.out
        have hc1 := block_cell K1.out
        go_wp2_with (first | (go_at_call 60; (first | with_reducible refine (kwithin_is _ d s 100000 _ H1.out).mono ?_ | with_reducible refine (kwithin_is _ t 0 1000000 _ H2.out).mono ?_ | with_reducible refine (kwithin_is _ c 0 ((P.rs.length : Int) - 1) _ H3.out).mono ?_); rintro e w' ⟨rfl, rfl⟩) |
          (go_at_call 62; refine (isSpan_is _ _ _ _ _ H4.out).mono ?_; rintro e w1 ⟨rfl, hb1⟩; clear hc0 hc1; have hc0 := block_cell ((hb1.block _ (lt_of_block K0.out)).trans K0.out); have hc1 := block_cell ((hb1.block _ (lt_of_block K1.out)).trans K1.out)))
        all_goals
          go_ret
          first
            | exact ⟨ret_bool (by rw [HR.out]; rfl), HB.out⟩
            | exact ⟨ret_bool (by rw [HR.out]; rfl), HB.out.trans (hb1.mono HB.out.size)⟩
            | exact ⟨ret_bool (by rw [HR.out]; simp_all), HB.out⟩
            | exact ⟨ret_bool (by rw [HR.out]; simp_all), HB.out.trans (hb1.mono HB.out.size)⟩
  · cases b1
    · go_enter Try.func80, Try.ntmps80
      go_wp2_with fail
      generalize (w.alloc (Obj.cells #[Value.slice a P.rs.length cap, .int .i64 P.wo, .int .i64 P.tu, .int .i64 P.ag] 54)).alloc (Obj.cells #[.int .i64 d, .int .i64 t, .int .i64 c, (.bool m), .int .i64 lo, .int .i64 hi] 89) = wA at *
      have hc0 := block_cell K0.out
      have hc1 := block_cell K1.out
      go_wp2_with (first | (go_at_call 60; (first | with_reducible refine (kwithin_is _ d s 100000 _ H1.out).mono ?_ | with_reducible refine (kwithin_is _ t 0 1000000 _ H2.out).mono ?_ | with_reducible refine (kwithin_is _ c 0 ((P.rs.length : Int) - 1) _ H3.out).mono ?_); rintro e w' ⟨rfl, rfl⟩) |
        (go_at_call 62; refine (isSpan_is _ _ _ _ _ H4.out).mono ?_; rintro e w1 ⟨rfl, hb1⟩; clear hc0 hc1; have hc0 := block_cell ((hb1.block _ (lt_of_block K0.out)).trans K0.out); have hc1 := block_cell ((hb1.block _ (lt_of_block K1.out)).trans K1.out)))
      all_goals
        go_ret
        first
          | exact ⟨ret_bool (by rw [HR.out]; rfl), HB.out⟩
          | exact ⟨ret_bool (by rw [HR.out]; rfl), HB.out.trans (hb1.mono HB.out.size)⟩
          | exact ⟨ret_bool (by rw [HR.out]; simp_all), HB.out⟩
          | exact ⟨ret_bool (by rw [HR.out]; simp_all), HB.out.trans (hb1.mono HB.out.size)⟩
    cases b2
    · go_enter Try.func80, Try.ntmps80
      go_wp2_with fail
      generalize (w.alloc (Obj.cells #[Value.slice a P.rs.length cap, .int .i64 P.wo, .int .i64 P.tu, .int .i64 P.ag] 54)).alloc (Obj.cells #[.int .i64 d, .int .i64 t, .int .i64 c, (.bool m), .int .i64 lo, .int .i64 hi] 89) = wA at *
      have hc0 := block_cell K0.out
      have hc1 := block_cell K1.out
      go_wp2_with (first | (go_at_call 60; (first | with_reducible refine (kwithin_is _ d s 100000 _ H1.out).mono ?_ | with_reducible refine (kwithin_is _ t 0 1000000 _ H2.out).mono ?_ | with_reducible refine (kwithin_is _ c 0 ((P.rs.length : Int) - 1) _ H3.out).mono ?_); rintro e w' ⟨rfl, rfl⟩) |
        (go_at_call 62; refine (isSpan_is _ _ _ _ _ H4.out).mono ?_; rintro e w1 ⟨rfl, hb1⟩; clear hc0 hc1; have hc0 := block_cell ((hb1.block _ (lt_of_block K0.out)).trans K0.out); have hc1 := block_cell ((hb1.block _ (lt_of_block K1.out)).trans K1.out)))
      all_goals
        go_ret
        first
          | exact ⟨ret_bool (by rw [HR.out]; rfl), HB.out⟩
          | exact ⟨ret_bool (by rw [HR.out]; rfl), HB.out.trans (hb1.mono HB.out.size)⟩
          | exact ⟨ret_bool (by rw [HR.out]; simp_all), HB.out⟩
          | exact ⟨ret_bool (by rw [HR.out]; simp_all), HB.out.trans (hb1.mono HB.out.size)⟩
    cases b3
    · go_enter Try.func80, Try.ntmps80
      go_wp2_with fail
      generalize (w.alloc (Obj.cells #[Value.slice a P.rs.length cap, .int .i64 P.wo, .int .i64 P.tu, .int .i64 P.ag] 54)).alloc (Obj.cells #[.int .i64 d, .int .i64 t, .int .i64 c, (.bool m), .int .i64 lo, .int .i64 hi] 89) = wA at *
      have hc0 := block_cell K0.out
      have hc1 := block_cell K1.out
      go_wp2_with (first | (go_at_call 60; (first | with_reducible refine (kwithin_is _ d s 100000 _ H1.out).mono ?_ | with_reducible refine (kwithin_is _ t 0 1000000 _ H2.out).mono ?_ | with_reducible refine (kwithin_is _ c 0 ((P.rs.length : Int) - 1) _ H3.out).mono ?_); rintro e w' ⟨rfl, rfl⟩) |
        (go_at_call 62; refine (isSpan_is _ _ _ _ _ H4.out).mono ?_; rintro e w1 ⟨rfl, hb1⟩; clear hc0 hc1; have hc0 := block_cell ((hb1.block _ (lt_of_block K0.out)).trans K0.out); have hc1 := block_cell ((hb1.block _ (lt_of_block K1.out)).trans K1.out)))
      all_goals
        go_ret
        first
          | exact ⟨ret_bool (by rw [HR.out]; rfl), HB.out⟩
          | exact ⟨ret_bool (by rw [HR.out]; rfl), HB.out.trans (hb1.mono HB.out.size)⟩
          | exact ⟨ret_bool (by rw [HR.out]; simp_all), HB.out⟩
          | exact ⟨ret_bool (by rw [HR.out]; simp_all), HB.out.trans (hb1.mono HB.out.size)⟩
    cases b4
    · go_enter Try.func80, Try.ntmps80
      go_wp2_with fail
      generalize (w.alloc (Obj.cells #[Value.slice a P.rs.length cap, .int .i64 P.wo, .int .i64 P.tu, .int .i64 P.ag] 54)).alloc (Obj.cells #[.int .i64 d, .int .i64 t, .int .i64 c, (.bool m), .int .i64 lo, .int .i64 hi] 89) = wA at *
      have hc0 := block_cell K0.out
      have hc1 := block_cell K1.out
      go_wp2_with (first | (go_at_call 60; (first | with_reducible refine (kwithin_is _ d s 100000 _ H1.out).mono ?_ | with_reducible refine (kwithin_is _ t 0 1000000 _ H2.out).mono ?_ | with_reducible refine (kwithin_is _ c 0 ((P.rs.length : Int) - 1) _ H3.out).mono ?_); rintro e w' ⟨rfl, rfl⟩) |
        (go_at_call 62; refine (isSpan_is _ _ _ _ _ H4.out).mono ?_; rintro e w1 ⟨rfl, hb1⟩; clear hc0 hc1; have hc0 := block_cell ((hb1.block _ (lt_of_block K0.out)).trans K0.out); have hc1 := block_cell ((hb1.block _ (lt_of_block K1.out)).trans K1.out)))
      all_goals
        go_ret
        first
          | exact ⟨ret_bool (by rw [HR.out]; rfl), HB.out⟩
          | exact ⟨ret_bool (by rw [HR.out]; rfl), HB.out.trans (hb1.mono HB.out.size)⟩
          | exact ⟨ret_bool (by rw [HR.out]; simp_all), HB.out⟩
          | exact ⟨ret_bool (by rw [HR.out]; simp_all), HB.out.trans (hb1.mono HB.out.size)⟩
    cases m
    · go_enter Try.func80, Try.ntmps80
      go_wp2_with fail
      generalize (w.alloc (Obj.cells #[Value.slice a P.rs.length cap, .int .i64 P.wo, .int .i64 P.tu, .int .i64 P.ag] 54)).alloc (Obj.cells #[.int .i64 d, .int .i64 t, .int .i64 c, (.bool false), .int .i64 lo, .int .i64 hi] 89) = wA at *
      have hc0 := block_cell K0.out
      have hc1 := block_cell K1.out
      go_wp2_with (first | (go_at_call 60; (first | with_reducible refine (kwithin_is _ d s 100000 _ H1.out).mono ?_ | with_reducible refine (kwithin_is _ t 0 1000000 _ H2.out).mono ?_ | with_reducible refine (kwithin_is _ c 0 ((P.rs.length : Int) - 1) _ H3.out).mono ?_); rintro e w' ⟨rfl, rfl⟩) |
        (go_at_call 62; refine (isSpan_is _ _ _ _ _ H4.out).mono ?_; rintro e w1 ⟨rfl, hb1⟩; clear hc0 hc1; have hc0 := block_cell ((hb1.block _ (lt_of_block K0.out)).trans K0.out); have hc1 := block_cell ((hb1.block _ (lt_of_block K1.out)).trans K1.out)))
      all_goals
        go_ret
        first
          | exact ⟨ret_bool (by rw [HR.out]; rfl), HB.out⟩
          | exact ⟨ret_bool (by rw [HR.out]; rfl), HB.out.trans (hb1.mono HB.out.size)⟩
          | exact ⟨ret_bool (by rw [HR.out]; simp_all), HB.out⟩
          | exact ⟨ret_bool (by rw [HR.out]; simp_all), HB.out.trans (hb1.mono HB.out.size)⟩
    · go_enter Try.func80, Try.ntmps80
      go_wp2_with fail
      generalize (w.alloc (Obj.cells #[Value.slice a P.rs.length cap, .int .i64 P.wo, .int .i64 P.tu, .int .i64 P.ag] 54)).alloc (Obj.cells #[.int .i64 d, .int .i64 t, .int .i64 c, (.bool true), .int .i64 lo, .int .i64 hi] 89) = wA at *
      have hc0 := block_cell K0.out
      have hc1 := block_cell K1.out
      go_wp2_with (first | (go_at_call 60; (first | with_reducible refine (kwithin_is _ d s 100000 _ H1.out).mono ?_ | with_reducible refine (kwithin_is _ t 0 1000000 _ H2.out).mono ?_ | with_reducible refine (kwithin_is _ c 0 ((P.rs.length : Int) - 1) _ H3.out).mono ?_); rintro e w' ⟨rfl, rfl⟩) |
        (go_at_call 62; refine (isSpan_is _ _ _ _ _ H4.out).mono ?_; rintro e w1 ⟨rfl, hb1⟩; clear hc0 hc1; have hc0 := block_cell ((hb1.block _ (lt_of_block K0.out)).trans K0.out); have hc1 := block_cell ((hb1.block _ (lt_of_block K1.out)).trans K1.out)))
      all_goals
        go_ret
        first
          | exact ⟨ret_bool (by rw [HR.out]; rfl), HB.out⟩
          | exact ⟨ret_bool (by rw [HR.out]; rfl), HB.out.trans (hb1.mono HB.out.size)⟩
          | exact ⟨ret_bool (by rw [HR.out]; simp_all), HB.out⟩
          | exact ⟨ret_bool (by rw [HR.out]; simp_all), HB.out.trans (hb1.mono HB.out.size)⟩

end Go.Proofs.Ytkahhclmmlkpjaa
