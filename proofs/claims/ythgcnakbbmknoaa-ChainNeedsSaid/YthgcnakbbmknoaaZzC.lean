import Derived.Test.YthgcnakbbmknoaaZzB
import Derived.Laws.OwnMore
import Derived.Laws.EntriesVeiled
import Derived.Deep.QuietTactic
import Derived.BigQuiet
import Derived.Below
import Derived.StillTailTactics
import Derived.Deep.RegionHeld3
import Derived.Deep.DeepCutAuto
import Derived.RegionTactic
import Derived.ChangeAlike
/- Texts of one seat, merged: Qx Qy Qz Bq Bt Qa Qb Qc Qd Tb Ra Sa Sb Sc Sd Se Sf -/
/- Walks of layer 2 (chain), parts: isUse, CheckPart. -/
namespace Go.Proofs.Ythgcnakbbmknoaa
open Go.RowKit

set_option maxHeartbeats 2000000 in
theorem isUse_any (P : Prt) (bv : Value) (u : Us) (s : Int) (w : World) (hv : SpAt w bv P.rs) :
    Calls Try.prog 119 #[prtV P bv, usV u, .int .i64 s] w fun e w' => e = .returned (.bool (useOk P.rs.length u s)) ∧ Below w.heap.size w w' := by
  obtain ⟨d, t, c, m, lo, hi⟩ := u
  have hb0 := ((Below.refl w.heap.size w).alloc (Nat.le_refl _) (Obj.cells #[bv, .int .i64 P.wo, .int .i64 P.tu, .int .i64 P.ag] 98)).alloc (by simp only [size_alloc]; omega) (Obj.cells #[.int .i64 d, .int .i64 t, .int .i64 c, .bool m, .int .i64 lo, .int .i64 hi] 152)
  have k0 := block_alloc (block_new w (Obj.cells #[bv, .int .i64 P.wo, .int .i64 P.tu, .int .i64 P.ag] 98) w.heap.size rfl) (Obj.cells #[.int .i64 d, .int .i64 t, .int .i64 c, .bool m, .int .i64 lo, .int .i64 hi] 152)
  have k1 := block_new (w.alloc (Obj.cells #[bv, .int .i64 P.wo, .int .i64 P.tu, .int .i64 P.ag] 98)) (Obj.cells #[.int .i64 d, .int .i64 t, .int .i64 c, .bool m, .int .i64 lo, .int .i64 hi] 152) (w.heap.size + 1) (by simp only [size_alloc])
  obtain ⟨a, cap, rfl, hn, hcap, hc⟩ := hv
  clear hc
  have HB := Lib.hid hb0
  have K0 := Lib.hid k0
  have K1 := Lib.hid k1
  clear hb0 k0 k1
  obtain ⟨b1, h1⟩ : ∃ b, decide (s ≤ d ∧ d ≤ 100000) = b := ⟨_, rfl⟩
  obtain ⟨b2, h2⟩ : ∃ b, decide (0 ≤ t ∧ t ≤ 1000000) = b := ⟨_, rfl⟩
  obtain ⟨b3, h3⟩ : ∃ b, decide (0 ≤ c ∧ c ≤ (P.rs.length : Int) - 1) = b := ⟨_, rfl⟩
  obtain ⟨b4, h4⟩ : ∃ b, spanBad 2000000000 lo hi = !b := ⟨!spanBad 2000000000 lo hi, by simp⟩
  have HR := Lib.hid (show useOk P.rs.length ⟨d, t, c, m, lo, hi⟩ s = (b1 && b2 && b3 && b4 && (m || (decide (lo = 0) && decide (hi = 0)))) by unfold useOk; dsimp only; rw [h1, h2, h3, h4, Bool.not_not])
  have H1 := Lib.hid h1
  have H2 := Lib.hid h2
  have H3 := Lib.hid h3
  have H4 := Lib.hid h4
  clear h1 h2 h3 h4
  by_cases hlo : lo = 0
  · subst hlo
    by_cases hhi : hi = 0
    · subst hhi
      cases b1
      · go_enter Try.func119, Try.ntmps119
        go_wp2_with fail
        generalize (w.alloc (Obj.cells #[Value.slice a P.rs.length cap, .int .i64 P.wo, .int .i64 P.tu, .int .i64 P.ag] 98)).alloc (Obj.cells #[.int .i64 d, .int .i64 t, .int .i64 c, (.bool m), .int .i64 0, .int .i64 0] 152) = wA at *
        have hc0 := block_cell K0.out
        have hc1 := block_cell K1.out
        go_wp2_with (first | (go_at_call 49; (first | with_reducible refine (kwithin_is _ d s 100000 _ H1.out).mono ?_ | with_reducible refine (kwithin_is _ t 0 1000000 _ H2.out).mono ?_ | with_reducible refine (kwithin_is _ c 0 ((P.rs.length : Int) - 1) _ H3.out).mono ?_); rintro e w' ⟨rfl, rfl⟩) |
          (go_at_call 98; refine (isSpan_is _ _ _ _ _ H4.out).mono ?_; rintro e w1 ⟨rfl, hb1⟩; clear hc0 hc1; have hc0 := block_cell ((hb1.block _ (lt_of_block K0.out)).trans K0.out); have hc1 := block_cell ((hb1.block _ (lt_of_block K1.out)).trans K1.out)))
        all_goals
          go_ret
          first
            | exact ⟨ret_bool (by rw [HR.out]; rfl), HB.out⟩
            | exact ⟨ret_bool (by rw [HR.out]; rfl), HB.out.trans (hb1.mono HB.out.size)⟩
            | exact ⟨ret_bool (by rw [HR.out]; simp_all), HB.out⟩
            | exact ⟨ret_bool (by rw [HR.out]; simp_all), HB.out.trans (hb1.mono HB.out.size)⟩
      cases b2
      · go_enter Try.func119, Try.ntmps119
        go_wp2_with fail
        generalize (w.alloc (Obj.cells #[Value.slice a P.rs.length cap, .int .i64 P.wo, .int .i64 P.tu, .int .i64 P.ag] 98)).alloc (Obj.cells #[.int .i64 d, .int .i64 t, .int .i64 c, (.bool m), .int .i64 0, .int .i64 0] 152) = wA at *
        have hc0 := block_cell K0.out
        have hc1 := block_cell K1.out
        go_wp2_with (first | (go_at_call 49; (first | with_reducible refine (kwithin_is _ d s 100000 _ H1.out).mono ?_ | with_reducible refine (kwithin_is _ t 0 1000000 _ H2.out).mono ?_ | with_reducible refine (kwithin_is _ c 0 ((P.rs.length : Int) - 1) _ H3.out).mono ?_); rintro e w' ⟨rfl, rfl⟩) |
          (go_at_call 98; refine (isSpan_is _ _ _ _ _ H4.out).mono ?_; rintro e w1 ⟨rfl, hb1⟩; clear hc0 hc1; have hc0 := block_cell ((hb1.block _ (lt_of_block K0.out)).trans K0.out); have hc1 := block_cell ((hb1.block _ (lt_of_block K1.out)).trans K1.out)))
        all_goals
          go_ret
          first
            | exact ⟨ret_bool (by rw [HR.out]; rfl), HB.out⟩
            | exact ⟨ret_bool (by rw [HR.out]; rfl), HB.out.trans (hb1.mono HB.out.size)⟩
            | exact ⟨ret_bool (by rw [HR.out]; simp_all), HB.out⟩
            | exact ⟨ret_bool (by rw [HR.out]; simp_all), HB.out.trans (hb1.mono HB.out.size)⟩
      cases b3
      · go_enter Try.func119, Try.ntmps119
        go_wp2_with fail
        generalize (w.alloc (Obj.cells #[Value.slice a P.rs.length cap, .int .i64 P.wo, .int .i64 P.tu, .int .i64 P.ag] 98)).alloc (Obj.cells #[.int .i64 d, .int .i64 t, .int .i64 c, (.bool m), .int .i64 0, .int .i64 0] 152) = wA at *
        have hc0 := block_cell K0.out
        have hc1 := block_cell K1.out
        go_wp2_with (first | (go_at_call 49; (first | with_reducible refine (kwithin_is _ d s 100000 _ H1.out).mono ?_ | with_reducible refine (kwithin_is _ t 0 1000000 _ H2.out).mono ?_ | with_reducible refine (kwithin_is _ c 0 ((P.rs.length : Int) - 1) _ H3.out).mono ?_); rintro e w' ⟨rfl, rfl⟩) |
          (go_at_call 98; refine (isSpan_is _ _ _ _ _ H4.out).mono ?_; rintro e w1 ⟨rfl, hb1⟩; clear hc0 hc1; have hc0 := block_cell ((hb1.block _ (lt_of_block K0.out)).trans K0.out); have hc1 := block_cell ((hb1.block _ (lt_of_block K1.out)).trans K1.out)))
        all_goals
          go_ret
          first
            | exact ⟨ret_bool (by rw [HR.out]; rfl), HB.out⟩
            | exact ⟨ret_bool (by rw [HR.out]; rfl), HB.out.trans (hb1.mono HB.out.size)⟩
            | exact ⟨ret_bool (by rw [HR.out]; simp_all), HB.out⟩
            | exact ⟨ret_bool (by rw [HR.out]; simp_all), HB.out.trans (hb1.mono HB.out.size)⟩
      cases b4
      · go_enter Try.func119, Try.ntmps119
        go_wp2_with fail
        generalize (w.alloc (Obj.cells #[Value.slice a P.rs.length cap, .int .i64 P.wo, .int .i64 P.tu, .int .i64 P.ag] 98)).alloc (Obj.cells #[.int .i64 d, .int .i64 t, .int .i64 c, (.bool m), .int .i64 0, .int .i64 0] 152) = wA at *
        have hc0 := block_cell K0.out
        have hc1 := block_cell K1.out
        go_wp2_with (first | (go_at_call 49; (first | with_reducible refine (kwithin_is _ d s 100000 _ H1.out).mono ?_ | with_reducible refine (kwithin_is _ t 0 1000000 _ H2.out).mono ?_ | with_reducible refine (kwithin_is _ c 0 ((P.rs.length : Int) - 1) _ H3.out).mono ?_); rintro e w' ⟨rfl, rfl⟩) |
          (go_at_call 98; refine (isSpan_is _ _ _ _ _ H4.out).mono ?_; rintro e w1 ⟨rfl, hb1⟩; clear hc0 hc1; have hc0 := block_cell ((hb1.block _ (lt_of_block K0.out)).trans K0.out); have hc1 := block_cell ((hb1.block _ (lt_of_block K1.out)).trans K1.out)))
        all_goals
          go_ret
          first
            | exact ⟨ret_bool (by rw [HR.out]; rfl), HB.out⟩
            | exact ⟨ret_bool (by rw [HR.out]; rfl), HB.out.trans (hb1.mono HB.out.size)⟩
            | exact ⟨ret_bool (by rw [HR.out]; simp_all), HB.out⟩
            | exact ⟨ret_bool (by rw [HR.out]; simp_all), HB.out.trans (hb1.mono HB.out.size)⟩
      cases m
      · go_enter Try.func119, Try.ntmps119
        go_wp2_with fail
        generalize (w.alloc (Obj.cells #[Value.slice a P.rs.length cap, .int .i64 P.wo, .int .i64 P.tu, .int .i64 P.ag] 98)).alloc (Obj.cells #[.int .i64 d, .int .i64 t, .int .i64 c, (.bool false), .int .i64 0, .int .i64 0] 152) = wA at *
        have hc0 := block_cell K0.out
        have hc1 := block_cell K1.out
        go_wp2_with (first | (go_at_call 49; (first | with_reducible refine (kwithin_is _ d s 100000 _ H1.out).mono ?_ | with_reducible refine (kwithin_is _ t 0 1000000 _ H2.out).mono ?_ | with_reducible refine (kwithin_is _ c 0 ((P.rs.length : Int) - 1) _ H3.out).mono ?_); rintro e w' ⟨rfl, rfl⟩) |
          (go_at_call 98; refine (isSpan_is _ _ _ _ _ H4.out).mono ?_; rintro e w1 ⟨rfl, hb1⟩; clear hc0 hc1; have hc0 := block_cell ((hb1.block _ (lt_of_block K0.out)).trans K0.out); have hc1 := block_cell ((hb1.block _ (lt_of_block K1.out)).trans K1.out)))
        all_goals
          go_ret
          first
            | exact ⟨ret_bool (by rw [HR.out]; rfl), HB.out⟩
            | exact ⟨ret_bool (by rw [HR.out]; rfl), HB.out.trans (hb1.mono HB.out.size)⟩
            | exact ⟨ret_bool (by rw [HR.out]; simp_all), HB.out⟩
            | exact ⟨ret_bool (by rw [HR.out]; simp_all), HB.out.trans (hb1.mono HB.out.size)⟩
      · go_enter Try.func119, Try.ntmps119
        go_wp2_with fail
        generalize (w.alloc (Obj.cells #[Value.slice a P.rs.length cap, .int .i64 P.wo, .int .i64 P.tu, .int .i64 P.ag] 98)).alloc (Obj.cells #[.int .i64 d, .int .i64 t, .int .i64 c, (.bool true), .int .i64 0, .int .i64 0] 152) = wA at *
        have hc0 := block_cell K0.out
        have hc1 := block_cell K1.out
        go_wp2_with (first | (go_at_call 49; (first | with_reducible refine (kwithin_is _ d s 100000 _ H1.out).mono ?_ | with_reducible refine (kwithin_is _ t 0 1000000 _ H2.out).mono ?_ | with_reducible refine (kwithin_is _ c 0 ((P.rs.length : Int) - 1) _ H3.out).mono ?_); rintro e w' ⟨rfl, rfl⟩) |
          (go_at_call 98; refine (isSpan_is _ _ _ _ _ H4.out).mono ?_; rintro e w1 ⟨rfl, hb1⟩; clear hc0 hc1; have hc0 := block_cell ((hb1.block _ (lt_of_block K0.out)).trans K0.out); have hc1 := block_cell ((hb1.block _ (lt_of_block K1.out)).trans K1.out)))
        all_goals
          go_ret
          first
            | exact ⟨ret_bool (by rw [HR.out]; rfl), HB.out⟩
            | exact ⟨ret_bool (by rw [HR.out]; rfl), HB.out.trans (hb1.mono HB.out.size)⟩
            | exact ⟨ret_bool (by rw [HR.out]; simp_all), HB.out⟩
            | exact ⟨ret_bool (by rw [HR.out]; simp_all), HB.out.trans (hb1.mono HB.out.size)⟩
    · cases b1
      · go_enter Try.func119, Try.ntmps119
        go_wp2_with fail
        generalize (w.alloc (Obj.cells #[Value.slice a P.rs.length cap, .int .i64 P.wo, .int .i64 P.tu, .int .i64 P.ag] 98)).alloc (Obj.cells #[.int .i64 d, .int .i64 t, .int .i64 c, (.bool m), .int .i64 0, .int .i64 hi] 152) = wA at *
        have hc0 := block_cell K0.out
        have hc1 := block_cell K1.out
        go_wp2_with (first | (go_at_call 49; (first | with_reducible refine (kwithin_is _ d s 100000 _ H1.out).mono ?_ | with_reducible refine (kwithin_is _ t 0 1000000 _ H2.out).mono ?_ | with_reducible refine (kwithin_is _ c 0 ((P.rs.length : Int) - 1) _ H3.out).mono ?_); rintro e w' ⟨rfl, rfl⟩) |
          (go_at_call 98; refine (isSpan_is _ _ _ _ _ H4.out).mono ?_; rintro e w1 ⟨rfl, hb1⟩; clear hc0 hc1; have hc0 := block_cell ((hb1.block _ (lt_of_block K0.out)).trans K0.out); have hc1 := block_cell ((hb1.block _ (lt_of_block K1.out)).trans K1.out)))
        all_goals
          go_ret
          first
            | exact ⟨ret_bool (by rw [HR.out]; rfl), HB.out⟩
            | exact ⟨ret_bool (by rw [HR.out]; rfl), HB.out.trans (hb1.mono HB.out.size)⟩
            | exact ⟨ret_bool (by rw [HR.out]; simp_all), HB.out⟩
            | exact ⟨ret_bool (by rw [HR.out]; simp_all), HB.out.trans (hb1.mono HB.out.size)⟩
      cases b2
      · go_enter Try.func119, Try.ntmps119
        go_wp2_with fail
        generalize (w.alloc (Obj.cells #[Value.slice a P.rs.length cap, .int .i64 P.wo, .int .i64 P.tu, .int .i64 P.ag] 98)).alloc (Obj.cells #[.int .i64 d, .int .i64 t, .int .i64 c, (.bool m), .int .i64 0, .int .i64 hi] 152) = wA at *
        have hc0 := block_cell K0.out
        have hc1 := block_cell K1.out
        go_wp2_with (first | (go_at_call 49; (first | with_reducible refine (kwithin_is _ d s 100000 _ H1.out).mono ?_ | with_reducible refine (kwithin_is _ t 0 1000000 _ H2.out).mono ?_ | with_reducible refine (kwithin_is _ c 0 ((P.rs.length : Int) - 1) _ H3.out).mono ?_); rintro e w' ⟨rfl, rfl⟩) |
          (go_at_call 98; refine (isSpan_is _ _ _ _ _ H4.out).mono ?_; rintro e w1 ⟨rfl, hb1⟩; clear hc0 hc1; have hc0 := block_cell ((hb1.block _ (lt_of_block K0.out)).trans K0.out); have hc1 := block_cell ((hb1.block _ (lt_of_block K1.out)).trans K1.out)))
        all_goals
          go_ret
          first
            | exact ⟨ret_bool (by rw [HR.out]; rfl), HB.out⟩
            | exact ⟨ret_bool (by rw [HR.out]; rfl), HB.out.trans (hb1.mono HB.out.size)⟩
            | exact ⟨ret_bool (by rw [HR.out]; simp_all), HB.out⟩
            | exact ⟨ret_bool (by rw [HR.out]; simp_all), HB.out.trans (hb1.mono HB.out.size)⟩
      cases b3
      · go_enter Try.func119, Try.ntmps119
        go_wp2_with fail
        generalize (w.alloc (Obj.cells #[Value.slice a P.rs.length cap, .int .i64 P.wo, .int .i64 P.tu, .int .i64 P.ag] 98)).alloc (Obj.cells #[.int .i64 d, .int .i64 t, .int .i64 c, (.bool m), .int .i64 0, .int .i64 hi] 152) = wA at *
        have hc0 := block_cell K0.out
        have hc1 := block_cell K1.out
        go_wp2_with (first | (go_at_call 49; (first | with_reducible refine (kwithin_is _ d s 100000 _ H1.out).mono ?_ | with_reducible refine (kwithin_is _ t 0 1000000 _ H2.out).mono ?_ | with_reducible refine (kwithin_is _ c 0 ((P.rs.length : Int) - 1) _ H3.out).mono ?_); rintro e w' ⟨rfl, rfl⟩) |
          (go_at_call 98; refine (isSpan_is _ _ _ _ _ H4.out).mono ?_; rintro e w1 ⟨rfl, hb1⟩; clear hc0 hc1; have hc0 := block_cell ((hb1.block _ (lt_of_block K0.out)).trans K0.out); have hc1 := block_cell ((hb1.block _ (lt_of_block K1.out)).trans K1.out)))
        all_goals
          go_ret
          first
            | exact ⟨ret_bool (by rw [HR.out]; rfl), HB.out⟩
            | exact ⟨ret_bool (by rw [HR.out]; rfl), HB.out.trans (hb1.mono HB.out.size)⟩
            | exact ⟨ret_bool (by rw [HR.out]; simp_all), HB.out⟩
            | exact ⟨ret_bool (by rw [HR.out]; simp_all), HB.out.trans (hb1.mono HB.out.size)⟩
      cases b4
      · go_enter Try.func119, Try.ntmps119
        go_wp2_with fail
        generalize (w.alloc (Obj.cells #[Value.slice a P.rs.length cap, .int .i64 P.wo, .int .i64 P.tu, .int .i64 P.ag] 98)).alloc (Obj.cells #[.int .i64 d, .int .i64 t, .int .i64 c, (.bool m), .int .i64 0, .int .i64 hi] 152) = wA at *
        have hc0 := block_cell K0.out
        have hc1 := block_cell K1.out
        go_wp2_with (first | (go_at_call 49; (first | with_reducible refine (kwithin_is _ d s 100000 _ H1.out).mono ?_ | with_reducible refine (kwithin_is _ t 0 1000000 _ H2.out).mono ?_ | with_reducible refine (kwithin_is _ c 0 ((P.rs.length : Int) - 1) _ H3.out).mono ?_); rintro e w' ⟨rfl, rfl⟩) |
          (go_at_call 98; refine (isSpan_is _ _ _ _ _ H4.out).mono ?_; rintro e w1 ⟨rfl, hb1⟩; clear hc0 hc1; have hc0 := block_cell ((hb1.block _ (lt_of_block K0.out)).trans K0.out); have hc1 := block_cell ((hb1.block _ (lt_of_block K1.out)).trans K1.out)))
        all_goals
          go_ret
          first
            | exact ⟨ret_bool (by rw [HR.out]; rfl), HB.out⟩
            | exact ⟨ret_bool (by rw [HR.out]; rfl), HB.out.trans (hb1.mono HB.out.size)⟩
            | exact ⟨ret_bool (by rw [HR.out]; simp_all), HB.out⟩
            | exact ⟨ret_bool (by rw [HR.out]; simp_all), HB.out.trans (hb1.mono HB.out.size)⟩
      cases m
      · go_enter Try.func119, Try.ntmps119
        go_wp2_with fail
        generalize (w.alloc (Obj.cells #[Value.slice a P.rs.length cap, .int .i64 P.wo, .int .i64 P.tu, .int .i64 P.ag] 98)).alloc (Obj.cells #[.int .i64 d, .int .i64 t, .int .i64 c, (.bool false), .int .i64 0, .int .i64 hi] 152) = wA at *
        have hc0 := block_cell K0.out
        have hc1 := block_cell K1.out
        go_wp2_with (first | (go_at_call 49; (first | with_reducible refine (kwithin_is _ d s 100000 _ H1.out).mono ?_ | with_reducible refine (kwithin_is _ t 0 1000000 _ H2.out).mono ?_ | with_reducible refine (kwithin_is _ c 0 ((P.rs.length : Int) - 1) _ H3.out).mono ?_); rintro e w' ⟨rfl, rfl⟩) |
          (go_at_call 98; refine (isSpan_is _ _ _ _ _ H4.out).mono ?_; rintro e w1 ⟨rfl, hb1⟩; clear hc0 hc1; have hc0 := block_cell ((hb1.block _ (lt_of_block K0.out)).trans K0.out); have hc1 := block_cell ((hb1.block _ (lt_of_block K1.out)).trans K1.out)))
        all_goals
          go_ret
          first
            | exact ⟨ret_bool (by rw [HR.out]; rfl), HB.out⟩
            | exact ⟨ret_bool (by rw [HR.out]; rfl), HB.out.trans (hb1.mono HB.out.size)⟩
            | exact ⟨ret_bool (by rw [HR.out]; simp_all), HB.out⟩
            | exact ⟨ret_bool (by rw [HR.out]; simp_all), HB.out.trans (hb1.mono HB.out.size)⟩
      · go_enter Try.func119, Try.ntmps119
        go_wp2_with fail
        generalize (w.alloc (Obj.cells #[Value.slice a P.rs.length cap, .int .i64 P.wo, .int .i64 P.tu, .int .i64 P.ag] 98)).alloc (Obj.cells #[.int .i64 d, .int .i64 t, .int .i64 c, (.bool true), .int .i64 0, .int .i64 hi] 152) = wA at *
        have hc0 := block_cell K0.out
        have hc1 := block_cell K1.out
        go_wp2_with (first | (go_at_call 49; (first | with_reducible refine (kwithin_is _ d s 100000 _ H1.out).mono ?_ | with_reducible refine (kwithin_is _ t 0 1000000 _ H2.out).mono ?_ | with_reducible refine (kwithin_is _ c 0 ((P.rs.length : Int) - 1) _ H3.out).mono ?_); rintro e w' ⟨rfl, rfl⟩) |
          (go_at_call 98; refine (isSpan_is _ _ _ _ _ H4.out).mono ?_; rintro e w1 ⟨rfl, hb1⟩; clear hc0 hc1; have hc0 := block_cell ((hb1.block _ (lt_of_block K0.out)).trans K0.out); have hc1 := block_cell ((hb1.block _ (lt_of_block K1.out)).trans K1.out)))
        all_goals
          go_ret
          first
            | exact ⟨ret_bool (by rw [HR.out]; rfl), HB.out⟩
            | exact ⟨ret_bool (by rw [HR.out]; rfl), HB.out.trans (hb1.mono HB.out.size)⟩
            | exact ⟨ret_bool (by rw [HR.out]; simp_all), HB.out⟩
            | exact ⟨ret_bool (by rw [HR.out]; simp_all), HB.out.trans (hb1.mono HB.out.size)⟩
  · cases b1
    · go_enter Try.func119, Try.ntmps119
      go_wp2_with fail
      generalize (w.alloc (Obj.cells #[Value.slice a P.rs.length cap, .int .i64 P.wo, .int .i64 P.tu, .int .i64 P.ag] 98)).alloc (Obj.cells #[.int .i64 d, .int .i64 t, .int .i64 c, (.bool m), .int .i64 lo, .int .i64 hi] 152) = wA at *
      have hc0 := block_cell K0.out
      have hc1 := block_cell K1.out
      go_wp2_with (first | (go_at_call 49; (first | with_reducible refine (kwithin_is _ d s 100000 _ H1.out).mono ?_ | with_reducible refine (kwithin_is _ t 0 1000000 _ H2.out).mono ?_ | with_reducible refine (kwithin_is _ c 0 ((P.rs.length : Int) - 1) _ H3.out).mono ?_); rintro e w' ⟨rfl, rfl⟩) |
        (go_at_call 98; refine (isSpan_is _ _ _ _ _ H4.out).mono ?_; rintro e w1 ⟨rfl, hb1⟩; clear hc0 hc1; have hc0 := block_cell ((hb1.block _ (lt_of_block K0.out)).trans K0.out); have hc1 := block_cell ((hb1.block _ (lt_of_block K1.out)).trans K1.out)))
      all_goals
        go_ret
        first
          | exact ⟨ret_bool (by rw [HR.out]; rfl), HB.out⟩
          | exact ⟨ret_bool (by rw [HR.out]; rfl), HB.out.trans (hb1.mono HB.out.size)⟩
          | exact ⟨ret_bool (by rw [HR.out]; simp_all), HB.out⟩
          | exact ⟨ret_bool (by rw [HR.out]; simp_all), HB.out.trans (hb1.mono HB.out.size)⟩
    cases b2
    · go_enter Try.func119, Try.ntmps119
      go_wp2_with fail
      generalize (w.alloc (Obj.cells #[Value.slice a P.rs.length cap, .int .i64 P.wo, .int .i64 P.tu, .int .i64 P.ag] 98)).alloc (Obj.cells #[.int .i64 d, .int .i64 t, .int .i64 c, (.bool m), .int .i64 lo, .int .i64 hi] 152) = wA at *
      have hc0 := block_cell K0.out
      have hc1 := block_cell K1.out
      go_wp2_with (first | (go_at_call 49; (first | with_reducible refine (kwithin_is _ d s 100000 _ H1.out).mono ?_ | with_reducible refine (kwithin_is _ t 0 1000000 _ H2.out).mono ?_ | with_reducible refine (kwithin_is _ c 0 ((P.rs.length : Int) - 1) _ H3.out).mono ?_); rintro e w' ⟨rfl, rfl⟩) |
        (go_at_call 98; refine (isSpan_is _ _ _ _ _ H4.out).mono ?_; rintro e w1 ⟨rfl, hb1⟩; clear hc0 hc1; have hc0 := block_cell ((hb1.block _ (lt_of_block K0.out)).trans K0.out); have hc1 := block_cell ((hb1.block _ (lt_of_block K1.out)).trans K1.out)))
      all_goals
        go_ret
        first
          | exact ⟨ret_bool (by rw [HR.out]; rfl), HB.out⟩
          | exact ⟨ret_bool (by rw [HR.out]; rfl), HB.out.trans (hb1.mono HB.out.size)⟩
          | exact ⟨ret_bool (by rw [HR.out]; simp_all), HB.out⟩
          | exact ⟨ret_bool (by rw [HR.out]; simp_all), HB.out.trans (hb1.mono HB.out.size)⟩
    cases b3
    · go_enter Try.func119, Try.ntmps119
      go_wp2_with fail
      generalize (w.alloc (Obj.cells #[Value.slice a P.rs.length cap, .int .i64 P.wo, .int .i64 P.tu, .int .i64 P.ag] 98)).alloc (Obj.cells #[.int .i64 d, .int .i64 t, .int .i64 c, (.bool m), .int .i64 lo, .int .i64 hi] 152) = wA at *
      have hc0 := block_cell K0.out
      have hc1 := block_cell K1.out
      go_wp2_with (first | (go_at_call 49; (first | with_reducible refine (kwithin_is _ d s 100000 _ H1.out).mono ?_ | with_reducible refine (kwithin_is _ t 0 1000000 _ H2.out).mono ?_ | with_reducible refine (kwithin_is _ c 0 ((P.rs.length : Int) - 1) _ H3.out).mono ?_); rintro e w' ⟨rfl, rfl⟩) |
        (go_at_call 98; refine (isSpan_is _ _ _ _ _ H4.out).mono ?_; rintro e w1 ⟨rfl, hb1⟩; clear hc0 hc1; have hc0 := block_cell ((hb1.block _ (lt_of_block K0.out)).trans K0.out); have hc1 := block_cell ((hb1.block _ (lt_of_block K1.out)).trans K1.out)))
      all_goals
        go_ret
        first
          | exact ⟨ret_bool (by rw [HR.out]; rfl), HB.out⟩
          | exact ⟨ret_bool (by rw [HR.out]; rfl), HB.out.trans (hb1.mono HB.out.size)⟩
          | exact ⟨ret_bool (by rw [HR.out]; simp_all), HB.out⟩
          | exact ⟨ret_bool (by rw [HR.out]; simp_all), HB.out.trans (hb1.mono HB.out.size)⟩
    cases b4
    · go_enter Try.func119, Try.ntmps119
      go_wp2_with fail
      generalize (w.alloc (Obj.cells #[Value.slice a P.rs.length cap, .int .i64 P.wo, .int .i64 P.tu, .int .i64 P.ag] 98)).alloc (Obj.cells #[.int .i64 d, .int .i64 t, .int .i64 c, (.bool m), .int .i64 lo, .int .i64 hi] 152) = wA at *
      have hc0 := block_cell K0.out
      have hc1 := block_cell K1.out
      go_wp2_with (first | (go_at_call 49; (first | with_reducible refine (kwithin_is _ d s 100000 _ H1.out).mono ?_ | with_reducible refine (kwithin_is _ t 0 1000000 _ H2.out).mono ?_ | with_reducible refine (kwithin_is _ c 0 ((P.rs.length : Int) - 1) _ H3.out).mono ?_); rintro e w' ⟨rfl, rfl⟩) |
        (go_at_call 98; refine (isSpan_is _ _ _ _ _ H4.out).mono ?_; rintro e w1 ⟨rfl, hb1⟩; clear hc0 hc1; have hc0 := block_cell ((hb1.block _ (lt_of_block K0.out)).trans K0.out); have hc1 := block_cell ((hb1.block _ (lt_of_block K1.out)).trans K1.out)))
      all_goals
        go_ret
        first
          | exact ⟨ret_bool (by rw [HR.out]; rfl), HB.out⟩
          | exact ⟨ret_bool (by rw [HR.out]; rfl), HB.out.trans (hb1.mono HB.out.size)⟩
          | exact ⟨ret_bool (by rw [HR.out]; simp_all), HB.out⟩
          | exact ⟨ret_bool (by rw [HR.out]; simp_all), HB.out.trans (hb1.mono HB.out.size)⟩
    cases m
    · go_enter Try.func119, Try.ntmps119
      go_wp2_with fail
      generalize (w.alloc (Obj.cells #[Value.slice a P.rs.length cap, .int .i64 P.wo, .int .i64 P.tu, .int .i64 P.ag] 98)).alloc (Obj.cells #[.int .i64 d, .int .i64 t, .int .i64 c, (.bool false), .int .i64 lo, .int .i64 hi] 152) = wA at *
      have hc0 := block_cell K0.out
      have hc1 := block_cell K1.out
      go_wp2_with (first | (go_at_call 49; (first | with_reducible refine (kwithin_is _ d s 100000 _ H1.out).mono ?_ | with_reducible refine (kwithin_is _ t 0 1000000 _ H2.out).mono ?_ | with_reducible refine (kwithin_is _ c 0 ((P.rs.length : Int) - 1) _ H3.out).mono ?_); rintro e w' ⟨rfl, rfl⟩) |
        (go_at_call 98; refine (isSpan_is _ _ _ _ _ H4.out).mono ?_; rintro e w1 ⟨rfl, hb1⟩; clear hc0 hc1; have hc0 := block_cell ((hb1.block _ (lt_of_block K0.out)).trans K0.out); have hc1 := block_cell ((hb1.block _ (lt_of_block K1.out)).trans K1.out)))
      all_goals
        go_ret
        first
          | exact ⟨ret_bool (by rw [HR.out]; rfl), HB.out⟩
          | exact ⟨ret_bool (by rw [HR.out]; rfl), HB.out.trans (hb1.mono HB.out.size)⟩
          | exact ⟨ret_bool (by rw [HR.out]; simp_all), HB.out⟩
          | exact ⟨ret_bool (by rw [HR.out]; simp_all), HB.out.trans (hb1.mono HB.out.size)⟩
    · go_enter Try.func119, Try.ntmps119
      go_wp2_with fail
      generalize (w.alloc (Obj.cells #[Value.slice a P.rs.length cap, .int .i64 P.wo, .int .i64 P.tu, .int .i64 P.ag] 98)).alloc (Obj.cells #[.int .i64 d, .int .i64 t, .int .i64 c, (.bool true), .int .i64 lo, .int .i64 hi] 152) = wA at *
      have hc0 := block_cell K0.out
      have hc1 := block_cell K1.out
      go_wp2_with (first | (go_at_call 49; (first | with_reducible refine (kwithin_is _ d s 100000 _ H1.out).mono ?_ | with_reducible refine (kwithin_is _ t 0 1000000 _ H2.out).mono ?_ | with_reducible refine (kwithin_is _ c 0 ((P.rs.length : Int) - 1) _ H3.out).mono ?_); rintro e w' ⟨rfl, rfl⟩) |
        (go_at_call 98; refine (isSpan_is _ _ _ _ _ H4.out).mono ?_; rintro e w1 ⟨rfl, hb1⟩; clear hc0 hc1; have hc0 := block_cell ((hb1.block _ (lt_of_block K0.out)).trans K0.out); have hc1 := block_cell ((hb1.block _ (lt_of_block K1.out)).trans K1.out)))
      all_goals
        go_ret
        first
          | exact ⟨ret_bool (by rw [HR.out]; rfl), HB.out⟩
          | exact ⟨ret_bool (by rw [HR.out]; rfl), HB.out.trans (hb1.mono HB.out.size)⟩
          | exact ⟨ret_bool (by rw [HR.out]; simp_all), HB.out⟩
          | exact ⟨ret_bool (by rw [HR.out]; simp_all), HB.out.trans (hb1.mono HB.out.size)⟩

end Go.Proofs.Ythgcnakbbmknoaa

/- Walks of layer 2 (chain), parts: CheckPart, added, common, spent. -/
namespace Go.Proofs.Ythgcnakbbmknoaa
open Go.RowKit

theorem partM_part {P : Prt} {l : List Us} (h : partOk P = false) : 22 = partM P l := by unfold partM; rw [if_pos h]
theorem partM_many {P : Prt} {l : List Us} (h : partOk P = true) (h2 : 40 < l.length) : 23 = partM P l := by unfold partM; rw [if_neg (by simp [h]), if_pos h2]
theorem partM_use {P : Prt} {l : List Us} (h : partOk P = true) (h2 : ¬ 40 < l.length) {k : Nat} (hk : k < l.length) (h3 : useOk P.rs.length (l.getD k Us.zero) (sinceAt l k) = false) : 23 = partM P l := by
  unfold partM; rw [if_neg (by simp [h]), if_neg h2, if_neg (fun hu => by have := hu k hk; rw [h3] at this; cases this)]
theorem partM_fine {P : Prt} {l : List Us} (h : partOk P = true) (h2 : ¬ 40 < l.length) (h3 : ∀ i, i < l.length → useOk P.rs.length (l.getD i Us.zero) (sinceAt l i) = true) : 0 = partM P l := by
  unfold partM; rw [if_neg (by simp [h]), if_neg h2, if_pos (show usesOk P l from h3)]

theorem isPart_is (q : Bool) (P : Prt) (bv : Value) (w : World) (hv : SpAt w bv P.rs) (h : partOk P = q) :
    Calls Try.prog 118 #[prtV P bv] w fun e w' => e = .returned (.bool q) ∧ Below w.heap.size w w' := by
  subst h
  exact isPart_any P bv w hv

set_option maxHeartbeats 2000000 in
theorem kcheckPart_any (P : Prt) (l : List Us) (bv v : Value) (w : World) (hv : SpAt w bv P.rs) (hl : UsAt w v l) :
    Calls Try.prog 90 #[prtV P bv, v] w fun e w' => e = .returned (.int .i64 (partM P l)) ∧ Below w.heap.size w w' := by
  have hb0 := (Below.refl w.heap.size w).alloc (Nat.le_refl _) (Obj.cells #[bv, .int .i64 P.wo, .int .i64 P.tu, .int .i64 P.ag] 98)
  have k0 := block_new w (Obj.cells #[bv, .int .i64 P.wo, .int .i64 P.tu, .int .i64 P.ag] 98) w.heap.size rfl
  have HV := Lib.hid (hv.below hb0 (Nat.le_refl _))
  obtain ⟨a, cap, rfl, hn, hcap, hc⟩ := hv
  clear hc
  have HB := Lib.hid hb0
  have K0 := Lib.hid k0
  clear hb0 k0
  obtain ⟨ua, ucap, rfl, un, ucl, uc⟩ := hl
  have HU := Lib.hid uc
  clear uc
  cases hq : partOk P
  · have HQ := Lib.hid hq
    have HR := Lib.hid (partM_part (l := l) hq)
    clear hq
    go_enter Try.func90, Try.ntmps90
    go_wp2_with fail
    generalize w.alloc (Obj.cells #[Value.slice a P.rs.length cap, .int .i64 P.wo, .int .i64 P.tu, .int .i64 P.ag] 98) = wA at *
    have hce := block_cell K0.out
    go_wp2_with fail
    refine (isPart_is _ P _ _ HV.out HQ.out).mono ?_
    rintro e w1 ⟨rfl, hb1⟩
    go_wp2
    go_ret
    exact ⟨ret_int HR.out, HB.out.trans (hb1.mono HB.out.size)⟩
  · have HQ := Lib.hid hq
    clear hq
    by_cases h40 : (40 : Int) < l.length
    · have HR := Lib.hid (partM_many (l := l) HQ.out (by omega))
      go_enter Try.func90, Try.ntmps90
      go_wp2_with fail
      generalize w.alloc (Obj.cells #[Value.slice a P.rs.length cap, .int .i64 P.wo, .int .i64 P.tu, .int .i64 P.ag] 98) = wA at *
      have hce := block_cell K0.out
      go_wp2_with fail
      refine (isPart_is _ P _ _ HV.out HQ.out).mono ?_
      rintro e w1 ⟨rfl, hb1⟩
      go_wp2
      go_ret
      exact ⟨ret_int HR.out, HB.out.trans (hb1.mono HB.out.size)⟩
    · go_enter Try.func90, Try.ntmps90
      go_wp2_with fail
      generalize w.alloc (Obj.cells #[Value.slice a P.rs.length cap, .int .i64 P.wo, .int .i64 P.tu, .int .i64 P.ag] 98) = wA at *
      have hce := block_cell K0.out
      go_wp2_with fail
      refine (isPart_is _ P _ _ HV.out HQ.out).mono ?_
      rintro e w1 ⟨rfl, hb1⟩
      go_wp2_with fail
      clear hce
      go_loopw [5, 16] (fun s i wr => ∃ k : Nat, k ≤ l.length ∧ i = .int .i64 k ∧ s = .int .i64 (sinceAt l k) ∧ Below wA.heap.size wA wr ∧ Hid (∀ i, i < k → useOk P.rs.length (l.getD i Us.zero) (sinceAt l i) = true)) (fun _ i _ => l.length - (intOf i).toNat)
      case atStart => exact ⟨0, Nat.zero_le _, rfl, rfl, hb1, fun i hi => by omega⟩
      case round =>
        obtain ⟨k, hk, rfl, rfl, hb, hf⟩ := hrel
        by_cases hlt : k < l.length
        · obtain ⟨b, off, rfl, hbl, hc⟩ := HU.out (by omega)
          have hbw := HB.out.trans (hb.mono HB.out.size)
          have kp := (hb.block _ (lt_of_block K0.out)).trans K0.out
          have hce := block_cell kp
          have hz := lt_of_block kp
          obtain ⟨g1, g2, g3, g4, g5, g6⟩ := us_at hbw hbl hc hlt
          have Hs := Lib.hid (show sinceAt l (k + 1) = (l.getD k Us.zero).d from rfl)
          clear hc kp
          generalize hs0 : sinceAt l k = s at *
          generalize hq0 : l.getD k Us.zero = u at *
          have HS0 := Lib.hid hs0
          have HU0 := Lib.hid hq0
          clear hs0 hq0
          have hz2 : b < wr.heap.size := by have := hbw.size; omega
          go_wp2_with fail
          have hb2 := (Below.refl wr.heap.size wr).alloc (Nat.le_refl _) (Obj.cells #[.int .i64 u.d, .int .i64 u.t, .int .i64 u.c, .bool u.m, .int .i64 u.lo, .int .i64 u.hi] 152)
          refine (isUse_any P _ u s _ ((HV.out.below hb (Nat.le_refl _)).below hb2 (Nat.le_refl _))).mono ?_
          rintro e w2 ⟨rfl, hb3⟩
          have hb4 := hb.trans ((hb2.trans (hb3.mono hb2.size)).mono hb.size)
          have kU := block_cell ((hb3.block _ (by simp only [size_alloc]; omega)).trans (block_new wr (Obj.cells #[.int .i64 u.d, .int .i64 u.t, .int .i64 u.c, .bool u.m, .int .i64 u.lo, .int .i64 u.hi] 152) wr.heap.size rfl))
          clear hb hbw hb2 hb3 hce g1 g2 g3 g4 g5 g6 hz hz2
          cases hq : useOk P.rs.length u s
          · have HR := Lib.hid (partM_use (l := l) HQ.out (by omega) hlt (by rw [HU0.out, HS0.out]; exact hq))
            clear hq
            go_wp2
            go_ret
            exact ⟨ret_int HR.out, HB.out.trans (hb4.mono HB.out.size)⟩
          · have HK := Lib.hid hq
            clear hq
            go_wp2
            go_roundw
            case rel => exact ⟨k + 1, hlt, by go_num, by rw [Hs.out], hb4, fun i hi => by
              by_cases hik : i = k
              · rw [hik, HU0.out, HS0.out]; exact HK.out
              · exact hf.out i (by omega)⟩
            case measure => simp [intOf]; omega
        · have HR := Lib.hid (partM_fine HQ.out (by omega) (fun i hi => hf.out i (by omega)))
          go_wp2
          go_ret
          exact ⟨ret_int HR.out, HB.out.trans (hb.mono HB.out.size)⟩

set_option maxHeartbeats 1000000 in
theorem added_any (P : Prt) (bv : Value) (u : Us) (s : Int) (w : World) (hv : SpAt w bv P.rs) (hP : POk P) (hu : UOk P.rs.length u s) :
    Calls Try.prog 120 #[prtV P bv, usV u] w fun e w' => e = .returned (spnV (addL P u, addH P u)) ∧ Below w.heap.size w w' := by
  have hb0 := (((Below.refl w.heap.size w).alloc (Nat.le_refl _) (Obj.cells #[bv, .int .i64 P.wo, .int .i64 P.tu, .int .i64 P.ag] 98)).alloc (by simp only [size_alloc]; omega) (Obj.cells #[.int .i64 u.d, .int .i64 u.t, .int .i64 u.c, .bool u.m, .int .i64 u.lo, .int .i64 u.hi] 152)).alloc (by simp only [size_alloc]; omega) (Obj.cells #[.int .i64 0, .int .i64 0] 45)
  have k0 := block_alloc (block_alloc (block_new w (Obj.cells #[bv, .int .i64 P.wo, .int .i64 P.tu, .int .i64 P.ag] 98) w.heap.size rfl) (Obj.cells #[.int .i64 u.d, .int .i64 u.t, .int .i64 u.c, .bool u.m, .int .i64 u.lo, .int .i64 u.hi] 152)) (Obj.cells #[.int .i64 0, .int .i64 0] 45)
  have k1 := block_alloc (block_new (w.alloc (Obj.cells #[bv, .int .i64 P.wo, .int .i64 P.tu, .int .i64 P.ag] 98)) (Obj.cells #[.int .i64 u.d, .int .i64 u.t, .int .i64 u.c, .bool u.m, .int .i64 u.lo, .int .i64 u.hi] 152) (w.heap.size + 1) (by simp only [size_alloc])) (Obj.cells #[.int .i64 0, .int .i64 0] 45)
  have k2 := block_new ((w.alloc (Obj.cells #[bv, .int .i64 P.wo, .int .i64 P.tu, .int .i64 P.ag] 98)).alloc (Obj.cells #[.int .i64 u.d, .int .i64 u.t, .int .i64 u.c, .bool u.m, .int .i64 u.lo, .int .i64 u.hi] 152)) (Obj.cells #[.int .i64 0, .int .i64 0] 45) (w.heap.size + 1 + 1) (by simp only [size_alloc])
  have hbw := hb0
  obtain ⟨a, cap, rfl, hn, hcap, hc⟩ := hv
  obtain ⟨r1, r2, r3⟩ := rateOf_ok hP hu
  have m1 := mulc hu.t0 hu.t1 r1 (by omega)
  have m2 := mulc hu.t0 hu.t1 (by omega : 0 ≤ (rateOf P u).2) r3
  have c0 := hu.c0
  have c1 := hu.c1
  obtain ⟨b, off, rfl, hbl, hcc⟩ := hc (by omega)
  obtain ⟨n, hcn⟩ : ∃ n : Nat, u.c = n := ⟨u.c.toNat, by omega⟩
  obtain ⟨g1, g2⟩ := sp_at hbw hbl hcc (k := n) (by omega)
  have er : P.rs.getD n Spn.zero = rateOf P u := by unfold rateOf; rw [hcn]; rfl
  rw [er] at g1 g2
  have HL := Lib.hid (show u.t * (rateOf P u).1 = addL P u from rfl)
  have HH := Lib.hid (show u.t * (rateOf P u).2 = addH P u from rfl)
  have HB := Lib.hid hb0
  have K0 := Lib.hid k0
  have K1 := Lib.hid k1
  have K2 := Lib.hid k2
  have n1 : (0 : Int) ≤ n := by omega
  have n2 : (n : Int) < P.rs.length := by omega
  have hz : b < w.heap.size := hbl
  obtain ⟨d, t, c, m, lo, hi⟩ := u
  dsimp only at hcn
  subst hcn
  generalize rateOf P ⟨d, t, n, m, lo, hi⟩ = r at *
  clear hc hcc hb0 hbw k0 k1 k2 er hu hP c0 c1
  obtain ⟨m11, m12⟩ := m1
  obtain ⟨m21, m22⟩ := m2
  dsimp only at *
  go_enter Try.func120, Try.ntmps120
  go_wp2
  refine bodyPost_ret (v := spnV (t * r.1, t * r.2)) ?_ rfl ⟨?_, ?_⟩
  · simp (maxDischargeDepth := 8) [results, Try.results120, go_sem]
  · rw [HL.out, HH.out]
  · repeat' (first | exact Below.refl w.heap.size w | (with_reducible refine Below.drew ?_) | (with_reducible refine Below.alloc ?_ ?_ _) | (with_reducible refine Below.setCell ?_ ?_ _))
    all_goals (first | omega | (simp; done) | (simp; omega))

set_option maxHeartbeats 1000000 in
theorem common_any (x y : Spn) (w : World) :
    Calls Try.prog 121 #[spnV x, spnV y] w fun e w' => e = .returned (spnV (common x y)) ∧ Below w.heap.size w w' := by
  go_enter Try.func121, Try.ntmps121
  go_wp2
  all_goals
    refine bodyPost_ret (v := spnV (common x y)) ?_ rfl ⟨rfl, ?_⟩
    focus
      simp [results, Try.results121, go_sem, common]
      omega
    repeat' (first | exact Below.refl w.heap.size w | (with_reducible refine Below.drew ?_) | (with_reducible refine Below.alloc ?_ ?_ _) | (with_reducible refine Below.setCell ?_ ?_ _))
    all_goals (first | omega | (simp; done) | (simp; omega))

set_option maxHeartbeats 1000000 in
theorem spent_any (P : Prt) (bv : Value) (we tu da : Int) (w : World) (h1 : 0 ≤ P.wo) (h2 : P.wo ≤ 1000) :
    Calls Try.prog 92 #[prtV P bv, .int .i64 we, .int .i64 tu, .int .i64 da] w fun e w' => e = .returned (.bool (spentM P we tu da)) ∧ Below w.heap.size w w' := by
  go_enter Try.func92, Try.ntmps92
  go_wp2
  all_goals
    go_ret
    refine ⟨ret_bool ?_, (Below.refl _ _).alloc (Nat.le_refl _) _⟩
    simp [spentM]
    try omega

end Go.Proofs.Ythgcnakbbmknoaa

/- Walks of layer 2 (chain), parts: reach. -/
namespace Go.Proofs.Ythgcnakbbmknoaa
open Go.RowKit

theorem infoSpan : (Try.prog.info? 45).map (fun i => (i.zero, i.size, i.bytes)) = some (some (.agg #[.int .i64 0, .int .i64 0]), 2, 16) := by kernel_rfl

/-- The wear behind the first k uses, by what was measured up to each. -/
def sprL (P : Prt) (l : List Us) (k : Nat) : List Spn := (List.range k).map fun i => rch P l (i + 1)
theorem sprL_succ (P : Prt) (l : List Us) (k : Nat) : sprL P l (k + 1) = sprL P l k ++ [rch P l (k + 1)] := by simp [sprL, List.range_succ]
theorem sprL_len (P : Prt) (l : List Us) (k : Nat) : (sprL P l k).length = k := by simp [sprL]
theorem flat_snoc (xs : List Spn) (x : Spn) : (xs ++ [x]).flatMap spnL = xs.flatMap spnL ++ [.int .i64 x.1, .int .i64 x.2] := by simp [List.flatMap_append]

/-- The answer of reach. -/
def ReachRes (P : Prt) (l : List Us) (w : World) (e : Ending) (w' : World) : Prop :=
  ∃ v, e = .returned v ∧ w'.ownsRow w.heap.size 45 2 v (reachN P l) ((sprL P l (reachN P l)).flatMap spnL) ∧ Below w.heap.size w w'

theorem reachN_at {P : Prt} {l : List Us} {k : Nat} (hk : k ≤ l.length) (h1 : ∀ i, i < k → noneAt P l i = false) (h2 : k < l.length → noneAt P l k = true) : reachN P l = k := firstB_eq hk h1 h2

theorem rch_free {P : Prt} {l : List Us} {k : Nat} {u : Us} (hu : l.getD k Us.zero = u) (hm : u.m = false) : rch P l (k + 1) = ((rch P l k).1 + addL P u, (rch P l k).2 + addH P u) := by
  simp only [rch, grown]; rw [hu, if_neg (by rw [hm]; decide)]
theorem rch_said {P : Prt} {l : List Us} {k : Nat} {u : Us} (hu : l.getD k Us.zero = u) (hm : u.m = true) : rch P l (k + 1) = common ((rch P l k).1 + addL P u, (rch P l k).2 + addH P u) (u.lo, u.hi) := by
  simp only [rch, grown]; rw [hu, if_pos hm]

theorem reach_out {P : Prt} {l : List Us} {w w' : World} {v : Value} {k : Nat} (hk : reachN P l = k) (h : w'.ownsRow w.heap.size 45 2 v k ((sprL P l k).flatMap spnL)) (hb : Below w.heap.size w w') : ReachRes P l w (.returned v) w' := by
  subst hk; exact ⟨v, rfl, h, hb⟩

theorem le_alloc (w : World) (o : Obj) : w.heap.size ≤ (w.alloc o).heap.size := by rw [size_alloc]; omega

theorem cells_new (w : World) (x y : Value) (t : TypeId) {g : Nat} (hg : g = w.heap.size) : ∀ j u, [x, y][j]? = some u → (w.alloc (.cells #[x, y] t)).cell? ((⟨g, 0, none⟩ : Addr).add j) = some u := by
  subst hg
  intro j u hj
  have h := cell_alloc_new w #[x, y] t (0, 0) w.heap.size j rfl
  have e : (⟨w.heap.size, 0, none⟩ : Addr).add j = ⟨w.heap.size, j, none⟩ := by unfold Addr.add; split <;> simp_all
  rw [e, h, ← hj]
  simp

theorem own2 {w : World} {base : Nat} {e : TypeId} {size : Nat} {v : Value} {n : Nat} {xs : List Value} (h : w.ownsRow base e size v n xs) {b : Nat} (hb : b < base) (u1 u2 : Value) : ((w.setCell ⟨b, 0, none⟩ u1).setCell ⟨b, 1, none⟩ u2).ownsRow base e size v n xs :=
  ownsRow_setCell (ownsRow_setCell h (p := ⟨b, 0, none⟩) hb u1) (p := ⟨b, 1, none⟩) hb u2

theorem set2 {w : World} {b : Nat} {x y : Value} {t : TypeId} (h : w.heap[b]? = some (.cells #[x, y] t (0, 0))) (u1 u2 : Value) : ((w.setCell ⟨b, 0, none⟩ u1).setCell ⟨b, 1, none⟩ u2).heap[b]? = some (.cells #[u1, u2] t (0, 0)) :=
  block_set (block_set h 0 u1) 1 u2

theorem bel2 {wA wr w2 : World} {m b : Nat} (h : Below m wA wr) (h2 : Below wr.heap.size wr w2) (hs : m + 1 ≤ wr.heap.size) (hb : m ≤ b) (_hb2 : b < wr.heap.size) (u1 u2 : Value) (o : Obj) :
    Below m wA (((w2.setCell ⟨b, 0, none⟩ u1).setCell ⟨b, 1, none⟩ u2).alloc o) ∧ m + 1 ≤ (((w2.setCell ⟨b, 0, none⟩ u1).setCell ⟨b, 1, none⟩ u2).alloc o).heap.size := by
  have h3 := h2.size
  have h4 := (h.trans (h2.mono (by omega))).setCell (p := ⟨b, 0, none⟩) hb u1 |>.setCell (p := ⟨b, 1, none⟩) hb u2
  refine ⟨h4.alloc (by simp; omega) o, by simp; omega⟩

theorem bel2' {wA wr w2 : World} {m b : Nat} (h : Below m wA wr) (h2 : Below wr.heap.size wr w2) (hs : m + 1 ≤ wr.heap.size) (hb : m ≤ b) (u1 u2 : Value) :
    Below m wA ((w2.setCell ⟨b, 0, none⟩ u1).setCell ⟨b, 1, none⟩ u2) ∧ m + 1 ≤ ((w2.setCell ⟨b, 0, none⟩ u1).setCell ⟨b, 1, none⟩ u2).heap.size := by
  have h3 := h2.size
  refine ⟨(h.trans (h2.mono (by omega))).setCell (p := ⟨b, 0, none⟩) hb u1 |>.setCell (p := ⟨b, 1, none⟩) hb u2, by simp; omega⟩

set_option maxRecDepth 100000 in
set_option maxHeartbeats 4000000 in
theorem reach_any (P : Prt) (l : List Us) (bv v : Value) (w : World) (hv : SpAt w bv P.rs) (hl : UsAt w v l) (hf : partM P l = 0) :
    Calls Try.prog 91 #[prtV P bv, v] w (ReachRes P l w) := by
  obtain ⟨hP, h40, hU⟩ := partM_ok hf
  have hb0 := ((Below.refl w.heap.size w).alloc (Nat.le_refl _) (Obj.cells #[bv, .int .i64 P.wo, .int .i64 P.tu, .int .i64 P.ag] 98)).alloc (by simp only [size_alloc]; omega) (Obj.cells #[.int .i64 0, .int .i64 0] 45)
  have k0 := block_alloc (block_new w (Obj.cells #[bv, .int .i64 P.wo, .int .i64 P.tu, .int .i64 P.ag] 98) w.heap.size rfl) (Obj.cells #[.int .i64 0, .int .i64 0] 45)
  have k1 := block_new (w.alloc (Obj.cells #[bv, .int .i64 P.wo, .int .i64 P.tu, .int .i64 P.ag] 98)) (Obj.cells #[.int .i64 0, .int .i64 0] 45) (w.heap.size + 1) (by simp only [size_alloc])
  have hsz : ((w.alloc (Obj.cells #[bv, .int .i64 P.wo, .int .i64 P.tu, .int .i64 P.ag] 98)).alloc (Obj.cells #[.int .i64 0, .int .i64 0] 45)).heap.size = w.heap.size + 2 := by simp only [size_alloc]
  have HV := Lib.hid hv
  obtain ⟨a, cap, rfl, hn, hcap, hc⟩ := hv
  clear hc
  obtain ⟨ua, ucap, rfl, un, ucl, uc⟩ := hl
  have HUC := Lib.hid uc
  have HP := Lib.hid hP
  have HU := Lib.hid hU
  have HBD := Lib.hid (fun i (hi : i ≤ l.length) => rch_bd40 hP h40 hU hi)
  have HB := Lib.hid hb0
  have K0 := Lib.hid k0
  have K1 := Lib.hid k1
  have HSZ := Lib.hid hsz
  obtain ⟨i0, hi, hz0, hz1, hz2⟩ := info_parts infoSpan
  clear uc hf hP hU hb0 k0 k1 hsz
  go_enter Try.func91, Try.ntmps91
  go_wp2_with fail
  generalize (w.alloc (Obj.cells #[Value.slice a P.rs.length cap, .int .i64 P.wo, .int .i64 P.tu, .int .i64 P.ag] 98)).alloc (Obj.cells #[.int .i64 0, .int .i64 0] 45) = wA at *
  go_loopw [5, 12] (fun s i wr => ∃ k : Nat, k ≤ l.length ∧ i = .int .i64 k ∧ Below (w.heap.size + 1) wA wr ∧ Hid (wr.heap[w.heap.size + 1]? = some (Obj.cells #[.int .i64 (rch P l k).1, .int .i64 (rch P l k).2] 45)) ∧
      wr.ownsRow (w.heap.size + 2) 45 2 s k ((sprL P l k).flatMap spnL) ∧ Hid (∀ i, i < k → noneAt P l i = false)) (fun _ i _ => l.length - (intOf i).toNat)
  case atStart => exact ⟨0, Nat.zero_le _, rfl, Below.refl _ _, K1.out, ⟨by simp [sprL], .inl ⟨rfl, rfl⟩⟩, fun i hi => by omega⟩
  case round =>
    obtain ⟨k, hk, rfl, hb, hW, hown, hne⟩ := hrel
    have hszr : w.heap.size + 2 ≤ wr.heap.size := by have := hb.size; have := HSZ.out; omega
    have hbw : Below w.heap.size w wr := HB.out.trans (hb.mono (by omega))
    have HK0 := Lib.hid ((hb.block w.heap.size (by omega)).trans K0.out)
    obtain ⟨sa, sc, rfl, hownb⟩ := ownsRow_shape hown
    have Hown := Lib.hid hown
    have HownB := Lib.hid hownb
    clear hown hownb
    by_cases hlt : k < l.length
    · obtain ⟨b, off, rfl, hbl, hc⟩ := HUC.out (by omega)
      obtain ⟨g1, g2, g3, g4, g5, g6⟩ := us_at hbw hbl hc hlt
      have hu := HU.out k hlt
      have ha := add_ok HP.out hu
      have hbd := HBD.out k (by omega)
      have hbd2 := HBD.out (k + 1) (by omega)
      clear hc
      have HUU := Lib.hid hu
      generalize hq0 : l.getD k Us.zero = u at *
      have HU0 := Lib.hid hq0
      clear hq0 hu
      have hz2' : b < wr.heap.size := by have := hbw.size; omega
      have hce := block_cell HK0.out
      have hzr : w.heap.size < wr.heap.size := by omega
      go_wp2_with fail
      have hb2 := (Below.refl wr.heap.size wr).alloc (Nat.le_refl _) (Obj.cells #[.int .i64 u.d, .int .i64 u.t, .int .i64 u.c, .bool u.m, .int .i64 u.lo, .int .i64 u.hi] 152)
      refine (added_any P _ u _ _ ((HV.out.below hbw (Nat.le_refl _)).below hb2 (Nat.le_refl _)) HP.out HUU.out).mono ?_
      rintro e w2 ⟨rfl, hb3⟩
      have hb4 := hb2.trans (hb3.mono hb2.size)
      have kU := (hb3.block wr.heap.size (by simp only [size_alloc]; omega)).trans (block_new wr (Obj.cells #[.int .i64 u.d, .int .i64 u.t, .int .i64 u.c, .bool u.m, .int .i64 u.lo, .int .i64 u.hi] 152) wr.heap.size rfl)
      have kW := (hb4.block (w.heap.size + 1) (by omega)).trans hW.out
      have zU := lt_of_block kU
      have zW := lt_of_block kW
      have cU := block_cell kU
      have cW := block_cell kW
      have fW := block_free kW
      have KU := Lib.hid kU
      have KW := Lib.hid kW
      have HB4 := Lib.hid hb4
      have HBR := Lib.hid hb
      have HBW := Lib.hid hbw
      clear kU kW hb2 hb3 hb4 hb hbw hce g1 g2 g3 g4 g5 g6 hz2'
      cases hm : u.m
      · have HN := Lib.hid (rch_free (P := P) HU0.out hm)
        have HM := Lib.hid hm
        rw [HN.out] at hbd2
        rw [hm] at cU
        clear hm
        have OX := Lib.hid ((own2 (ownsRow_below Hown.out HB4.out) (b := w.heap.size + 1) (by omega) (.int .i64 ((rch P l k).1 + addL P u)) (.int .i64 ((rch P l k).2 + addH P u))).alloc (Obj.cells #[.int .i64 (addL P u), .int .i64 (addH P u)] 45))
        have KX := Lib.hid (block_alloc (set2 KW.out (.int .i64 ((rch P l k).1 + addL P u)) (.int .i64 ((rch P l k).2 + addH P u))) (Obj.cells #[.int .i64 (addL P u), .int .i64 (addH P u)] 45))
        have BX := Lib.hid (bel2 HBR.out HB4.out hszr (b := w.heap.size + 1) (Nat.le_refl _) (by omega) (.int .i64 ((rch P l k).1 + addL P u)) (.int .i64 ((rch P l k).2 + addH P u)) (Obj.cells #[.int .i64 (addL P u), .int .i64 (addH P u)] 45))
        by_cases hno : (rch P l k).2 + addH P u < (rch P l k).1 + addL P u
        · have HE := Lib.hid (show noneAt P l k = true by unfold noneAt; rw [HN.out]; exact decide_eq_true hno)
          have HR := Lib.hid (reachN_at hk hne.out (fun _ => HE.out))
          go_wp2
          go_ret
          exact reach_out HR.out (ownsRow_mono OX.out (by omega)) (HB.out.trans (BX.out.1.mono (by omega)))
        · have HE := Lib.hid (show noneAt P l k = false by unfold noneAt; rw [HN.out]; exact decide_eq_false hno)
          go_wp2_with (at_builtin; refine wpList_append_own _ rfl _ _ 40 rfl (w.heap.size + 2) 45 i0 (.agg #[.int .i64 0, .int .i64 0]) 2 16 Try.underlying40 hi hz0 hz1 hz2 rfl (by decide) _ k ((sprL P l k).flatMap spnL) rfl ?c0 _ _ _ [.int .i64 ((rch P l k).1 + addL P u), .int .i64 ((rch P l k).2 + addH P u)] rfl rfl ?c1 ?c2 ?c3 ?c4 ?c5 ?_)
          case c0 => exact World.ownsRow.alloc (OX).out _
          try (case c1 => exact cells_new _ _ _ _ (by simp))
          case c2 => first | (intro u hu; simp only [List.mem_cons, List.not_mem_nil, or_false] at hu; rcases hu with rfl | rfl <;> rfl) | exact ⟨rfl, rfl⟩
          case c3 => unfold maxLen; omega
          case c4 => omega
          case c5 => first | exact Nat.le_trans (BX).out.2 (le_alloc _ _) | (have := (BX).out.2; simp at this; omega)
          intro v2 w4 hown2 hgrow _
          have hbX := ((Below.refl (w.heap.size + 2) _).alloc (BX).out.2 _).trans (below_grown hgrow HownB.out (Nat.le_trans (BX).out.2 (le_alloc _ _)))
          have HW4 := Lib.hid ((hbX.block (w.heap.size + 1) (by omega)).trans (KX).out)
          have HB4 := Lib.hid ((BX).out.1.trans (hbX.mono (by omega)))
          clear hgrow hbX
          rw [show (sprL P l k).flatMap spnL ++ [.int .i64 ((rch P l k).1 + addL P u), .int .i64 ((rch P l k).2 + addH P u)] = (sprL P l (k + 1)).flatMap spnL by rw [sprL_succ, flat_snoc, HN.out]] at hown2
          rw [show ((rch P l k).1 + addL P u) = (rch P l (k + 1)).1 by rw [HN.out], show ((rch P l k).2 + addH P u) = (rch P l (k + 1)).2 by rw [HN.out]] at HW4
          obtain ⟨sa2, sc2, rfl, _⟩ := ownsRow_shape hown2
          have Hown2 := Lib.hid hown2
          clear hown2
          go_wp2
          go_roundw
          case rel => exact ⟨k + 1, hlt, by go_num, HB4.out, HW4.out, Hown2.out, fun i hi => by
            by_cases hik : i = k
            · rw [hik]; exact HE.out
            · exact hne.out i (by omega)⟩
          case measure => simp [intOf]; omega
      · have hN0 := rch_said (P := P) HU0.out hm
        have HM := Lib.hid hm
        rw [hm] at cU
        rw [hN0] at hbd2
        have HN0 := Lib.hid hN0
        clear hm hN0
        have OY := Lib.hid ((own2 (ownsRow_below Hown.out HB4.out) (b := w.heap.size + 1) (by omega) (.int .i64 ((rch P l k).1 + addL P u)) (.int .i64 ((rch P l k).2 + addH P u))).alloc (Obj.cells #[.int .i64 (addL P u), .int .i64 (addH P u)] 45))
        have KY := Lib.hid (block_alloc (set2 KW.out (.int .i64 ((rch P l k).1 + addL P u)) (.int .i64 ((rch P l k).2 + addH P u))) (Obj.cells #[.int .i64 (addL P u), .int .i64 (addH P u)] 45))
        have BY := Lib.hid (bel2 HBR.out HB4.out hszr (b := w.heap.size + 1) (Nat.le_refl _) (by omega) (.int .i64 ((rch P l k).1 + addL P u)) (.int .i64 ((rch P l k).2 + addH P u)) (Obj.cells #[.int .i64 (addL P u), .int .i64 (addH P u)] 45))
        go_wp2_with fail
        refine (common_any ((rch P l k).1 + addL P u, (rch P l k).2 + addH P u) (u.lo, u.hi) _).mono ?_
        rintro e w3 ⟨rfl, hb5⟩
        generalize hC : common ((rch P l k).1 + addL P u, (rch P l k).2 + addH P u) (u.lo, u.hi) = C at *
        have HN := Lib.hid (show rch P l (k + 1) = (C.1, C.2) by rw [HN0.out])
        have kW3 := (hb5.block (w.heap.size + 1) (by have := BY.out.2; omega)).trans KY.out
        have cW := block_cell kW3
        have fW := block_free kW3
        have zW3 := lt_of_block kW3
        have OX := Lib.hid (own2 (ownsRow_below OY.out hb5) (b := w.heap.size + 1) (by omega) (.int .i64 C.1) (.int .i64 C.2))
        have KX := Lib.hid (set2 kW3 (.int .i64 C.1) (.int .i64 C.2))
        have BX := Lib.hid (bel2' BY.out.1 hb5 BY.out.2 (b := w.heap.size + 1) (Nat.le_refl _) (.int .i64 C.1) (.int .i64 C.2))
        clear kW3 hb5 hC
        by_cases hno : C.2 < C.1
        · have HE := Lib.hid (show noneAt P l k = true by unfold noneAt; rw [HN.out]; exact decide_eq_true hno)
          have HR := Lib.hid (reachN_at hk hne.out (fun _ => HE.out))
          go_wp2
          go_ret
          exact reach_out HR.out (ownsRow_mono OX.out (by omega)) (HB.out.trans (BX.out.1.mono (by omega)))
        · have HE := Lib.hid (show noneAt P l k = false by unfold noneAt; rw [HN.out]; exact decide_eq_false hno)
          go_wp2_with (at_builtin; refine wpList_append_own _ rfl _ _ 40 rfl (w.heap.size + 2) 45 i0 (.agg #[.int .i64 0, .int .i64 0]) 2 16 Try.underlying40 hi hz0 hz1 hz2 rfl (by decide) _ k ((sprL P l k).flatMap spnL) rfl ?d0 _ _ _ [.int .i64 C.1, .int .i64 C.2] rfl rfl ?d1 ?d2 ?d3 ?d4 ?d5 ?_)
          case d0 => exact World.ownsRow.alloc (OX).out _
          try (case d1 => exact cells_new _ _ _ _ (by simp))
          case d2 => first | (intro u hu; simp only [List.mem_cons, List.not_mem_nil, or_false] at hu; rcases hu with rfl | rfl <;> rfl) | exact ⟨rfl, rfl⟩
          case d3 => unfold maxLen; omega
          case d4 => omega
          case d5 => first | exact Nat.le_trans (BX).out.2 (le_alloc _ _) | (have := (BX).out.2; simp at this; omega)
          intro v2 w4 hown2 hgrow _
          have hbX := ((Below.refl (w.heap.size + 2) _).alloc (BX).out.2 _).trans (below_grown hgrow HownB.out (Nat.le_trans (BX).out.2 (le_alloc _ _)))
          have HW4 := Lib.hid ((hbX.block (w.heap.size + 1) (by omega)).trans (KX).out)
          have HB4 := Lib.hid ((BX).out.1.trans (hbX.mono (by omega)))
          clear hgrow hbX
          rw [show (sprL P l k).flatMap spnL ++ [.int .i64 C.1, .int .i64 C.2] = (sprL P l (k + 1)).flatMap spnL by rw [sprL_succ, flat_snoc, HN.out]] at hown2
          rw [show C.1 = (rch P l (k + 1)).1 by rw [HN.out], show C.2 = (rch P l (k + 1)).2 by rw [HN.out]] at HW4
          obtain ⟨sa2, sc2, rfl, _⟩ := ownsRow_shape hown2
          have Hown2 := Lib.hid hown2
          clear hown2
          go_wp2
          go_roundw
          case rel => exact ⟨k + 1, hlt, by go_num, HB4.out, HW4.out, Hown2.out, fun i hi => by
            by_cases hik : i = k
            · rw [hik]; exact HE.out
            · exact hne.out i (by omega)⟩
          case measure => simp [intOf]; omega
    · obtain rfl : k = l.length := by omega
      have HR := Lib.hid (reachN_at hk hne.out (fun h => absurd h (by omega)))
      go_wp2
      go_ret
      exact reach_out HR.out (ownsRow_mono Hown.out (by omega)) hbw

end Go.Proofs.Ythgcnakbbmknoaa

/- Regions that draw their order and hold calls that make memory: one walk in the order of the text, in the class of the worlds that are as W below block B. -/
namespace Go.Proofs.Ythgcnakbbmknoaa
open Go.RowKit

/-- A world that is as W below block B. -/
structure BW (B : Nat) (W : World) where
  w : World
  b : Below B W w

instance bwNonempty (B : Nat) (W : World) : Nonempty (BW B W) := ⟨⟨W, Below.refl _ _⟩⟩

section
variable {P : Program} {B : Nat} {W : World}

theorem wp_region_below {id : Nat} {Q : Exit → Act → World → Prop} {a : Act} {w : World} {l : List Oper} (hm : P.follows .mixedOrders = true) (hB : Region.lexB .any l.toArray = true) (hw : Below B W w)
    (h : wpQuiet P l.toArray (fun w' => ∃ x : BW B W, w' = x.w) (fun a' => ∀ w', (∃ x : BW B W, w' = x.w) → Q .normal a' w') l a) : (Code.region id l.toArray true).wp P Q a w :=
  wp_region_quiet (C := fun w' => ∃ x : BW B W, w' = x.w) hm hB ⟨⟨_, hw.drew⟩, rfl⟩ (by simpa using h)

theorem bw_call {f : FuncId} {args : Array Value} {x : BW B W} {v : Value} (hB : B ≤ W.heap.size) (h : Calls P f args x.w fun e w' => e = .returned v ∧ Below x.w.heap.size x.w w') :
    Calls P f args x.w fun e w'' => e = .returned v ∧ ∃ y : BW B W, w'' = y.w :=
  h.mono fun _ w' ⟨he, hb⟩ => ⟨he, ⟨w', x.b.trans (hb.mono (Nat.le_trans hB x.b.size))⟩, rfl⟩

theorem bw_same {f : FuncId} {args : Array Value} {x : BW B W} {v : Value} (h : Calls P f args x.w fun e w' => e = .returned v ∧ x.w = w') :
    Calls P f args x.w fun e w'' => e = .returned v ∧ ∃ y : BW B W, w'' = y.w :=
  h.mono fun _ _ ⟨he, hb⟩ => ⟨he, x, hb.symm⟩

theorem bw_same' {f : FuncId} {args : Array Value} {x : BW B W} {v : Value} (h : Calls P f args x.w fun e w' => e = .returned v ∧ w' = x.w) :
    Calls P f args x.w fun e w'' => e = .returned v ∧ ∃ y : BW B W, w'' = y.w :=
  h.mono fun _ _ ⟨he, hb⟩ => ⟨he, x, hb⟩

/-- A call from a world that is as A below B: so is the world behind it. -/
theorem calls_big {f : FuncId} {args : Array Value} {A W' : World} {v : Ending} (hB : Below B A W') (hA : B ≤ A.heap.size) (h : Calls P f args W' fun e w' => e = v ∧ Below W'.heap.size W' w') : Calls P f args W' fun e w' => e = v ∧ Below B A w' :=
  h.mono fun _ _ ⟨he, hb⟩ => ⟨he, hB.trans (hb.mono (Nat.le_trans hA hB.size))⟩

theorem bw_out {w' : World} (h : ∃ x : BW B W, w' = x.w) : Below B W w' := by
  obtain ⟨x, rfl⟩ := h
  exact x.b

/-- The cells of a block that is known, in every world of the class. -/
theorem bw_cells {b : Nat} {cs : Array Value} {t : TypeId} (hk : W.heap[b]? = some (.cells cs t (0, 0))) (hb : b < B) : ∀ (x : BW B W) (o : Nat), x.w.cell? ⟨b, o, none⟩ = cs[o]? :=
  fun x o => block_cell ((x.b.block b hb).trans hk) o

theorem bw_cell {b o : Nat} {v : Value} (hk : W.cell? ⟨b, o, none⟩ = some v) (hb : b < B) : ∀ x : BW B W, x.w.cell? ⟨b, o, none⟩ = some v :=
  fun x => (x.b.cell (p := ⟨b, o, none⟩) hb).trans hk
end

end Go.Proofs.Ythgcnakbbmknoaa

/- Regions that draw their order, whose operations read, or call what makes memory, and that end in a forced tail (a store): one walk in the order of the text. The library has the two halves (a class of worlds; a forced tail in one world): here they meet. -/
namespace Go.Proofs.Ythgcnakbbmknoaa
open Go.RowKit

section
variable {P : Program} {ops : Array Oper} {md : Region.Mode} {C : World → Prop}

/-- The next f operations are of the first n, each quiet in the class; then L. -/
def HeadQ (P : Program) (md : Region.Mode) (ops : Array Oper) (C : World → Prop) (n : Nat) (L : Array Bool → Act → Prop) : Nat → Array Bool → Act → Prop
  | 0, s, a => L s a
  | f + 1, s, a => Region.ready md ops s ≠ [] ∧ ∀ i ∈ Region.ready md ops s, i < n ∧ qOp P ops C i (HeadQ P md ops C n L f (s.setIfInBounds i true)) a

theorem any_of_headQ {n g : Nat} {L : Array Bool → Act → Prop} {Q : Exit → Act → World → Prop} (hL : ∀ s a w, C w → L s a → wpAny P md ops Q g s a w) :
    ∀ (f : Nat) (s : Array Bool) (a : Act) (w : World), C w → HeadQ P md ops C n L f s a → wpAny P md ops Q (f + g) s a w := by
  intro f
  induction f with
  | zero => intro s a w hw h; rw [Nat.zero_add]; exact hL _ _ _ hw h
  | succ f ih =>
    intro s a w hw h
    rw [Nat.add_right_comm]
    exact ⟨fun h0 => absurd h0 h.1, fun i hi => wpOp_of_qOp hw (fun a' w' hw' h' => ih _ a' w' hw' h') (h.2 i hi).2⟩

theorem getD_false_of {s : Array Bool} {i : Nat} (h1 : s.getD i true = false) (h2 : s.getD i false = true) : False := by
  rw [getD_both h1] at h2; cases h2

/-- What may come up now may be taken first. -/
theorem headQ_first {n i : Nat} {o : Oper} {v : Value} {L : Array Bool → Act → Prop} (hi : ops[i]? = some o) (hsel : ∀ (j : Nat) (o : Oper) cs b, ops[j]? = some o → o.op ≠ .select cs b)
    (hs : Region.sinkB md ops n = true) (hc : Region.chainB md ops n = true) (hn : n < ops.size) (hin : i < n) (hdone : ∀ s a, L s a → ∀ j ∈ Region.ready md ops s, n ≤ j) :
    ∀ (f : Nat) (s : Array Bool) (a : Act), HeadInv md ops n s →
      (∀ j oj, ops[j]? = some oj → j ≠ i → s.getD j true = false → (∀ e ∈ oj.after, Region.binds md e = true → e.on ≠ i) → o.apart ops oj = true) →
      i ∈ Region.ready md ops s → YieldsIn P ops C o v a → HeadQ P md ops C n L f (s.setIfInBounds i true) (a.put o.dst v) → HeadQ P md ops C n L (f + 1) s a := by
  intro f
  induction f with
  | zero =>
    intro s a inv _ hr hy H
    refine ⟨(fun h => by rw [h] at hr; cases hr), fun j hj => ?_⟩
    have hjn : j < n := Nat.lt_of_not_le fun h => tail_waits hs hc hn inv _ i rfl hin (mem_ready.1 hr).1 j h hj
    refine ⟨hjn, ?_⟩
    by_cases e : j = i
    · rw [e]; exact hy.qOp hi H
    · exact absurd (hdone _ _ H j (ready_mono hj e)) (by omega)
  | succ f ih =>
    intro s a inv hfree hr hy H
    have hun := (mem_ready.1 hr).1
    refine ⟨(fun h => by rw [h] at hr; cases hr), fun j hj => ?_⟩
    have hjn : j < n := Nat.lt_of_not_le fun h => tail_waits hs hc hn inv _ i rfl hin hun j h hj
    refine ⟨hjn, ?_⟩
    by_cases e : j = i
    · rw [e]; exact hy.qOp hi H
    · obtain ⟨hju, oj, hoj, hall⟩ := mem_ready.1 hj
      have hq := qOp_put hoj (hfree j oj hoj e hju fun x hx hb hon => getD_false_of hun (by rw [← hon]; exact hall x hx hb)) (fun cs b => hsel i o cs b hi) (fun cs b => hsel j oj cs b hoj) hy (H.2 j (ready_mono hj e)).2
      refine qOp_mono (fun a' h3 => ih (s.setIfInBounds j true) a' (inv.set hj hjn) (fun k ok hk hki hu hno => hfree k ok hk hki ?_ hno) (ready_mono hr (Ne.symm e)) h3.1 ?_) hq
      · by_cases e2 : j = k
        · rw [← e2]; exact hju
        · rwa [getD_set_ne true e2] at hu
      · rw [Array.setIfInBounds_comm _ _ e]; exact h3.2

theorem headQ_lex {n g : Nat} {R : Act → Prop} (hsel : Region.noSelect ops = true) (hs : Region.sinkB md ops n = true) (hc : Region.chainB md ops n = true) (hn : n < ops.size) :
    ∀ (l : List Oper) (k : Nat) (s : Array Bool) (a : Act), (∀ j, j < l.length → l[j]? = ops[k + j]?) → k + l.length = n → HeadInv md ops n s → Region.lexHead md ops g l.length k s = true → wpQuiet P ops C R l a →
      HeadQ P md ops C n (fun s' a' => Region.seqB md ops g n s' = true ∧ R a') l.length s a := by
  intro l
  induction l with
  | nil =>
    intro k s a _ hk _ hB h
    obtain rfl : k = n := by simpa using hk
    exact ⟨by simpa [Region.lexHead] using hB, h⟩
  | cons o l ih =>
    intro k s a hl hk inv hB h
    have h0 : ops[k]? = some o := by simpa using (hl 0 (by simp)).symm
    simp only [List.length_cons] at hk hl
    simp only [List.length_cons, Region.lexHead, Bool.and_eq_true] at hB
    have hr : k ∈ Region.ready md ops s := by simpa using hB.1.1
    obtain ⟨v, hy, hK⟩ := yieldsIn_of_qOp (i := k) h0 (show qOp P ops C k (wpQuiet P ops C R l) a by unfold qOp; simp only [h0]; exact h)
    exact headQ_first h0 (Region.noSelect_spec hsel) hs hc hn (by omega) (fun _ _ hL => seqB_ready hL.1) l.length s a inv (Region.free_spec h0 hB.1.2) hr hy
      (ih (k + 1) _ _ (fun j hj => by have := hl (j + 1) (by omega); simpa [Nat.add_assoc, Nat.add_comm 1 j] using this) (by omega) (inv.set hr (by omega)) hB.2 hK)

/-- One walk for every order: the first n operations in the class, then the tail from any world of it. -/
theorem wp_region_qtail {id : Nat} {Q : Exit → Act → World → Prop} {a : Act} {w : World} {l : List Oper} (n : Nat) (hm : P.follows .mixedOrders = true) (hB : Region.lexTailB .any l.toArray n = true) (hC : C { w with drawn := w.drawn + 1 })
    (h : wpQuiet P l.toArray C (fun a' => ∀ w', C w' → wpList P l.toArray Q (l.drop n) a' w') (l.take n) a) : (Code.region id l.toArray true).wp P Q a w := by
  simp only [Region.lexTailB, Bool.and_eq_true, decide_eq_true_eq] at hB
  obtain ⟨⟨⟨⟨hsel, hn⟩, hs⟩, hc⟩, hlex⟩ := hB
  have hn' : n < l.length := by simpa using hn
  have htl : (l.take n).length = n := by rw [List.length_take]; omega
  have hdl : (l.drop n).length = l.toArray.size - n := by simp
  have inv0 : HeadInv .any l.toArray n (Array.replicate l.toArray.size false) :=
    ⟨Array.size_replicate, (fun j _ _ hl => by rw [getD_replicate_false] at hl; cases hl), fun t _ ht => getD_in (by rw [Array.size_replicate]; exact ht) (getD_replicate_false _ _)⟩
  have H := headQ_lex (g := l.toArray.size - n) hsel hs hc hn (l.take n) 0 _ a (fun j hj => by
    have hj' : j < n := by omega
    simp [hj']) (by omega) inv0 (by rw [htl]; exact hlex) h
  rw [htl] at H
  have H2 := any_of_headQ (Q := Q) (g := l.toArray.size - n) (fun s a' w' hw' hL => by
    have := wpAny_of_seq (md := .any) (Q' := Q) (l.drop n) n s a' w' (fun j => by simp [List.getElem?_drop]) (by rw [hdl]; exact hL.1) (hL.2 w' hw')
    rwa [hdl] at this) n _ a _ hC H
  rw [show n + (l.toArray.size - n) = l.toArray.size by omega] at H2
  exact wp_region_any hm H2
end

/-- The same for the worlds that are as W below block B. -/
theorem wp_region_belowtail {P : Program} {B : Nat} {W : World} {id : Nat} {Q : Exit → Act → World → Prop} {a : Act} {w : World} {l : List Oper} (n : Nat) (hm : P.follows .mixedOrders = true) (hB : Region.lexTailB .any l.toArray n = true) (hw : Below B W w)
    (h : wpQuiet P l.toArray (fun w' => ∃ x : BW B W, w' = x.w) (fun a' => ∀ w', (∃ x : BW B W, w' = x.w) → wpList P l.toArray Q (l.drop n) a' w') (l.take n) a) : (Code.region id l.toArray true).wp P Q a w :=
  wp_region_qtail (C := fun w' => ∃ x : BW B W, w' = x.w) n hm hB ⟨⟨_, hw.drew⟩, rfl⟩ h

end Go.Proofs.Ythgcnakbbmknoaa

/- Walks of layer 2 (chain), parts: lookBack, Wear. -/
namespace Go.Proofs.Ythgcnakbbmknoaa
open Go.RowKit

/-- The wear behind each use when k of them have been narrowed. -/
def lbL (P : Prt) (l : List Us) (k : Nat) : List Spn := (List.range l.length).map fun i => if l.length ≤ i + 1 + k then wearAt P l i else rch P l (i + 1)
def wearL (P : Prt) (l : List Us) : List Spn := (List.range l.length).map fun i => wearAt P l i

theorem lbL_len (P : Prt) (l : List Us) (k : Nat) : (lbL P l k).length = l.length := by simp [lbL]
theorem wearL_len (P : Prt) (l : List Us) : (wearL P l).length = l.length := by simp [wearL]
theorem lbL_at (P : Prt) (l : List Us) (k : Nat) {i : Nat} (hi : i < l.length) : (lbL P l k)[i]? = some (if l.length ≤ i + 1 + k then wearAt P l i else rch P l (i + 1)) := by
  simp [lbL, hi]

theorem lbL_start (P : Prt) (l : List Us) : lbL P l 0 = sprL P l l.length := by
  unfold lbL sprL
  apply List.map_congr_left
  intro i hi
  rw [List.mem_range] at hi
  split
  · have e : i = l.length - 1 := by omega
    subst e
    unfold wearAt
    rw [show l.length - 1 - (l.length - 1) = 0 by omega, show l.length - 1 + 1 = l.length by omega]
    rfl
  · rfl

theorem lbL_end {P : Prt} {l : List Us} {k : Nat} (hk : l.length ≤ k + 1) : lbL P l k = wearL P l := by
  unfold lbL wearL
  apply List.map_congr_left
  intro i hi
  rw [if_pos (by omega)]

theorem lbL_step {P : Prt} {l : List Us} {k : Nat} (hk : k + 1 < l.length) : lbL P l (k + 1) = (lbL P l k).set (l.length - 2 - k) (common (rch P l (l.length - 1 - k)) ((bkd P l k).1 - addH P (l.getD (l.length - 1 - k) Us.zero), (bkd P l k).2 - addL P (l.getD (l.length - 1 - k) Us.zero))) := by
  apply List.ext_getElem?
  intro i
  rw [List.getElem?_set]
  rcases Nat.lt_or_ge i l.length with hi | hi
  · rw [lbL_at P l (k + 1) hi, lbL_at P l k hi]
    by_cases e : l.length - 2 - k = i
    · subst e
      rw [if_pos (by omega : l.length ≤ l.length - 2 - k + 1 + (k + 1)), if_pos rfl, if_pos (by rw [lbL_len]; omega)]
      unfold wearAt
      rw [show l.length - 1 - (l.length - 2 - k) = k + 1 by omega]
      rfl
    · rw [if_neg e]
      by_cases h2 : l.length ≤ i + 1 + k
      · rw [if_pos (by omega), if_pos h2]
      · rw [if_neg (by omega), if_neg h2]
  · rw [if_neg (by omega), List.getElem?_eq_none (by rw [lbL_len]; omega), List.getElem?_eq_none (by rw [lbL_len]; omega)]

/-- Spans in a block of their own. -/
def SpRow (w : World) (g : Nat) (cap : Nat) (xs : List Spn) : Prop :=
  ∃ cur, w.heap[g]? = some (.cells cur 45 (0, 0)) ∧ cur.size = cap * 2 ∧ cur.toList.take (xs.length * 2) = xs.flatMap spnL

theorem SpRow.cell {w : World} {g cap : Nat} {xs : List Spn} (h : SpRow w g cap xs) {i : Nat} {x : Spn} (hx : xs[i]? = some x) : w.cell? ⟨g, i * 2, none⟩ = some (.int .i64 x.1) ∧ w.cell? ⟨g, i * 2 + 1, none⟩ = some (.int .i64 x.2) := by
  obtain ⟨cur, h1, _, h3⟩ := h
  have hi : i < xs.length := (List.getElem?_eq_some_iff.1 hx).1
  have key : ∀ j u, (spnL x)[j]? = some u → w.cell? ⟨g, i * 2 + j, none⟩ = some u := by
    intro j u hu
    have e1 := flat_at (m := 2) (f := spnL) (fun _ => rfl) xs i x hx j u hu
    have hj : j < 2 := by simpa using (List.getElem?_eq_some_iff.1 hu).1
    rw [← h3, List.getElem?_take_of_lt (by omega), Array.getElem?_toList] at e1
    rw [block_cell h1]
    exact e1
  exact ⟨key 0 _ rfl, key 1 _ rfl⟩

theorem SpRow.free {w : World} {g cap : Nat} {xs : List Spn} (h : SpRow w g cap xs) (o : Nat) : w.frozen? ⟨g, o, none⟩ = false := by
  obtain ⟨cur, h1, _, _⟩ := h
  exact block_free h1 o

theorem SpRow.later {w w' : World} {g cap : Nat} {xs : List Spn} (h : SpRow w g cap xs) (hb : Below w.heap.size w w') : SpRow w' g cap xs := by
  obtain ⟨cur, h1, h2, h3⟩ := h
  exact ⟨cur, (hb.block g (lt_of_block h1)).trans h1, h2, h3⟩

theorem flat_set (xs : List Spn) (i : Nat) (x : Spn) (hi : i < xs.length) : ((xs.flatMap spnL).set (i * 2) (.int .i64 x.1)).set (i * 2 + 1) (.int .i64 x.2) = (xs.set i x).flatMap spnL := by
  induction xs generalizing i with
  | nil => simp at hi
  | cons y ys ih =>
    cases i with
    | zero => simp
    | succ i =>
      have := ih i (by simpa using hi)
      rw [List.set_cons_succ, List.flatMap_cons, List.flatMap_cons, ← this]
      rw [show (i + 1) * 2 = i * 2 + 1 + 1 by omega, show i * 2 + 1 + 1 + 1 = (i * 2 + 1) + 1 + 1 by omega]
      simp [spnL]

theorem SpRow.set {w : World} {g cap : Nat} {xs : List Spn} (h : SpRow w g cap xs) {i : Nat} (hi : i < xs.length) (x : Spn) : SpRow ((w.setCell ⟨g, i * 2, none⟩ (.int .i64 x.1)).setCell ⟨g, i * 2 + 1, none⟩ (.int .i64 x.2)) g cap (xs.set i x) := by
  obtain ⟨cur, h1, h2, h3⟩ := h
  refine ⟨_, block_set (block_set h1 (i * 2) _) (i * 2 + 1) _, by simp [h2], ?_⟩
  rw [← flat_set xs i x hi, ← h3]
  simp only [Array.toList_setIfInBounds, List.length_set]
  rw [List.take_set, List.take_set]

theorem SpRow.of_own {w : World} {base g cap : Nat} {xs : List Spn} {n : Nat} (h : w.ownsRow base 45 2 (.slice (some ⟨g, 0, none⟩) n cap) n (xs.flatMap spnL)) : SpRow w g cap xs ∧ base ≤ g ∧ n ≤ cap ∧ cap ≤ maxLen ∧ xs.length = n := by
  obtain ⟨h0, h1 | ⟨g', cap', cur, h1, h2, h3, h4, h5, h6, h7⟩⟩ := h
  · obtain ⟨h1, _⟩ := h1; cases h1
  · injection h1 with e1 e2 e3
    injection e1 with e1
    injection e1 with e1
    subst e1; subst e3
    have hl : xs.length = n := by rw [flat_len (m := 2) (f := spnL) (fun _ => rfl)] at h0; omega
    exact ⟨⟨cur, h3, h6, by rw [hl]; exact h7⟩, h2, h4, h5, hl⟩

theorem SpRow.own {w : World} {base g cap : Nat} {xs : List Spn} {n : Nat} (h : SpRow w g cap xs) (hb : base ≤ g) (hn : n ≤ cap) (hc : cap ≤ maxLen) (hl : xs.length = n) : w.ownsRow base 45 2 (.slice (some ⟨g, 0, none⟩) n cap) n (xs.flatMap spnL) := by
  obtain ⟨cur, h1, h2, h3⟩ := h
  subst hl
  exact ⟨flat_len (m := 2) (f := spnL) (fun _ => rfl) xs, .inr ⟨g, cap, cur, rfl, hb, h1, hn, hc, h2, h3⟩⟩

theorem le_setCell (w : World) (p : Addr) (u : Value) : w.heap.size ≤ (w.setCell p u).heap.size := by simp

theorem set2_other {w : World} {b c : Nat} {x : Option Obj} (h : w.heap[b]? = x) (hne : b ≠ c) (u1 u2 : Value) : ((w.setCell ⟨c, 0, none⟩ u1).setCell ⟨c, 1, none⟩ u2).heap[b]? = x :=
  block_set_other (p := ⟨c, 1, none⟩) (block_set_other (p := ⟨c, 0, none⟩) h hne u1) hne u2

theorem two_new (w : World) (o o' : Obj) : ((w.alloc o).alloc o').heap[w.heap.size + 1]? = some o' := block_new _ _ _ (size_alloc _ _).symm
theorem two_old (w : World) (o o' : Obj) : ((w.alloc o).alloc o').heap[w.heap.size]? = some o := block_alloc (block_new _ _ _ rfl) _

theorem below_cells {W w1 : World} (hb : Below W.heap.size W w1) : (∀ b o, b < W.heap.size → w1.cell? ⟨b, o, none⟩ = W.cell? ⟨b, o, none⟩) ∧ (∀ b o, b < W.heap.size → w1.frozen? ⟨b, o, none⟩ = W.frozen? ⟨b, o, none⟩) :=
  ⟨fun b o h => hb.cell (p := ⟨b, o, none⟩) h, fun b o h => hb.frozen (p := ⟨b, o, none⟩) h⟩

end Go.Proofs.Ythgcnakbbmknoaa

/- Walks of layer 2 (chain), parts: Wear, Refuted. -/
namespace Go.Proofs.Ythgcnakbbmknoaa
open Go.RowKit

def wearE (P : Prt) (l : List Us) : Int := if partM P l = 0 then (if reachN P l < l.length then 3 else 0) else partM P l
theorem wearE_bad {P : Prt} {l : List Us} (h : ¬ partM P l = 0) : wearE P l = partM P l := by unfold wearE; rw [if_neg h]
theorem wearE_none {P : Prt} {l : List Us} (h : partM P l = 0) (h2 : reachN P l < l.length) : wearE P l = 3 := by unfold wearE; rw [if_pos h, if_pos h2]
theorem wearE_ok {P : Prt} {l : List Us} (h : partM P l = 0) (h2 : ¬ reachN P l < l.length) : wearE P l = 0 := by unfold wearE; rw [if_pos h, if_neg h2]

/-- The answer of Wear. -/
def WearRes (P : Prt) (l : List Us) (w : World) (e : Ending) (w' : World) : Prop :=
  ∃ v, e = .returned (.tuple #[v, .int .i64 (wearE P l)]) ∧ Below w.heap.size w w' ∧ (wearE P l = 0 → w'.ownsRow w.heap.size 45 2 v l.length ((wearL P l).flatMap spnL)) ∧ (wearE P l ≠ 0 → v = .slice none 0 0)

theorem WearRes.bad {P : Prt} {l : List Us} {w w' : World} {f : Int} (hb : Below w.heap.size w w') (h : wearE P l = f) (hf : f ≠ 0) : WearRes P l w (.returned (.tuple #[.slice none 0 0, .int .i64 f])) w' := by
  subst h; exact ⟨_, rfl, hb, fun h => absurd h hf, fun _ => rfl⟩

theorem WearRes.ok {P : Prt} {l : List Us} {w w' : World} {v : Value} (hb : Below w.heap.size w w') (h : wearE P l = 0) (ho : w'.ownsRow w.heap.size 45 2 v l.length ((wearL P l).flatMap spnL)) : WearRes P l w (.returned (.tuple #[v, .int .i64 0])) w' :=
  ⟨v, by rw [h], hb, fun _ => ho, fun h' => absurd h h'⟩

/-! ### Refuted -/
structure RefA where
  use : Int
  is : Bool
  e : Int
def refM (P : Prt) (l : List Us) : RefA := if partM P l = 0 then (if reachN P l < l.length then ⟨reachN P l, true, 0⟩ else ⟨0, false, 0⟩) else ⟨0, false, partM P l⟩
abbrev refV (r : RefA) : Value := .tuple #[.int .i64 r.use, .bool r.is, .int .i64 r.e]

end Go.Proofs.Ythgcnakbbmknoaa

/- Walks of layer 2 (chain), parts: Beyond, Surely. -/
namespace Go.Proofs.Ythgcnakbbmknoaa
open Go.RowKit

abbrev lifeV (r : Int × Int) : Value := .tuple #[.int .i64 r.1, .int .i64 r.2]

theorem wearE_zero {P : Prt} {l : List Us} (h : wearE P l = 0) : partM P l = 0 ∧ reachN P l = l.length := by
  unfold wearE at h
  split at h
  · rename_i h1
    split at h
    · omega
    · have := reachN_le P l; exact ⟨h1, by omega⟩
  · rename_i h1; exact absurd h h1

theorem wear_bd {P : Prt} {l : List Us} (hP : POk P) (hn : l.length ≤ 40) (hl : UOks P l) {i : Nat} (hi : i < l.length) : -40000000000000 ≤ (wearAt P l i).1 ∧ (wearAt P l i).1 ≤ 40000000000000 ∧ -40000000000000 ≤ (wearAt P l i).2 ∧ (wearAt P l i).2 ≤ 40000000000000 := by
  have := bkd_bd hP hn hl (l.length - 1 - i) (by omega)
  unfold wearAt
  omega

theorem wearL_get {P : Prt} {l : List Us} {i : Nat} (hi : i < l.length) : (wearL P l).getD i Spn.zero = wearAt P l i := by
  unfold wearL
  rw [List.getD_eq_getElem?_getD, List.getElem?_map, List.getElem?_range hi]; rfl

theorem life_bad {P : Prt} {l : List Us} {g : Bool} (h : ¬ wearE P l = 0) : lifeM P l g = (0, wearE P l) := by
  unfold lifeM wearE at *
  split
  · rename_i h1
    rw [if_pos h1] at h
    split
    · rfl
    · rename_i h2; rw [if_neg h2] at h; omega
  · rfl

theorem life_at {P : Prt} {l : List Us} {g : Bool} {k : Nat} (h : wearE P l = 0) (hk : k < l.length) (h1 : ∀ i, i < k → wornM P l i (endOf g (wearAt P l i)) = false) (h2 : wornM P l k (endOf g (wearAt P l k)) = true) : lifeM P l g = ((k : Int), 0) := by
  obtain ⟨e1, e2⟩ := wearE_zero h
  have e : spentN P l g = k := firstB_eq (by omega) h1 (fun _ => h2)
  unfold lifeM firstM
  rw [if_pos e1, if_neg (by omega), e, if_pos hk]

theorem life_none {P : Prt} {l : List Us} {g : Bool} (h : wearE P l = 0) (h1 : ∀ i, i < l.length → wornM P l i (endOf g (wearAt P l i)) = false) : lifeM P l g = (-1, 0) := by
  obtain ⟨e1, e2⟩ := wearE_zero h
  have e : spentN P l g = l.length := firstB_eq (by omega) h1 (fun h => by omega)
  unfold lifeM firstM
  rw [if_pos e1, if_neg (by omega), e, if_neg (by omega)]

end Go.Proofs.Ythgcnakbbmknoaa

/- Walks of layer 2 (chain), parts: Due. -/
namespace Go.Proofs.Ythgcnakbbmknoaa
open Go.RowKit

def rateHi (P : Prt) (c : Int) : Int := (P.rs.getD c.toNat (0, 0)).2
/-- How many turns more, if nothing stands against it. -/
def moreM (P : Prt) (l : List Us) (c : Int) : Int := if 0 < rateHi P c then min (P.tu - turnsTo l l.length) ((P.wo * 1000000 - (rch P l l.length).2) / rateHi P c) else P.tu - turnsTo l l.length

theorem due_bad {P : Prt} {l : List Us} {c d : Int} (h : ¬ partM P l = 0) : dueM P l c d = (0, partM P l) := by unfold dueM; rw [if_neg h]
theorem due_arg {P : Prt} {l : List Us} {c d : Int} (h : partM P l = 0) (h2 : decide (0 ≤ c ∧ c ≤ (P.rs.length : Int) - 1) = false ∨ decide (sinceAt l l.length ≤ d ∧ d ≤ 100000) = false) : dueM P l c d = (0, 1) := by
  unfold dueM; rw [if_pos h, if_pos h2]
theorem due_none {P : Prt} {l : List Us} {c d : Int} (h : partM P l = 0) (h2 : decide (0 ≤ c ∧ c ≤ (P.rs.length : Int) - 1) = true) (h3 : decide (sinceAt l l.length ≤ d ∧ d ≤ 100000) = true) (h4 : reachN P l < l.length) : dueM P l c d = (0, 3) := by
  unfold dueM; rw [if_pos h, if_neg (by rw [h2, h3]; simp), if_pos h4]
theorem due_spent {P : Prt} {l : List Us} {c d : Int} (h : partM P l = 0) (h2 : decide (0 ≤ c ∧ c ≤ (P.rs.length : Int) - 1) = true) (h3 : decide (sinceAt l l.length ≤ d ∧ d ≤ 100000) = true) (h4 : ¬ reachN P l < l.length) (h5 : spentM P (rch P l l.length).2 (turnsTo l l.length) d = true) : dueM P l c d = (0, 3) := by
  unfold dueM; rw [if_pos h, if_neg (by rw [h2, h3]; simp), if_neg h4, if_pos h5]
theorem due_ok {P : Prt} {l : List Us} {c d : Int} (h : partM P l = 0) (h2 : decide (0 ≤ c ∧ c ≤ (P.rs.length : Int) - 1) = true) (h3 : decide (sinceAt l l.length ≤ d ∧ d ≤ 100000) = true) (h4 : ¬ reachN P l < l.length) (h5 : spentM P (rch P l l.length).2 (turnsTo l l.length) d = false) : dueM P l c d = (moreM P l c, 0) := by
  unfold dueM; rw [if_pos h, if_neg (by rw [h2, h3]; simp), if_neg h4, if_neg (by rw [h5]; simp)]; rfl

theorem rateHi_ok {P : Prt} (hP : POk P) {c : Int} (h : decide (0 ≤ c ∧ c ≤ (P.rs.length : Int) - 1) = true) : 0 ≤ rateHi P c ∧ rateHi P c ≤ 1000000 := by
  rw [decide_eq_true_eq] at h
  have hlt : c.toNat < P.rs.length := by omega
  have := hP.rate (P.rs.getD c.toNat (0, 0)) (by rw [List.getD_eq_getElem?_getD, List.getElem?_eq_getElem hlt]; exact List.getElem_mem hlt)
  unfold rateHi
  omega

set_option maxRecDepth 100000 in
set_option maxHeartbeats 8000000 in
theorem kdue_any (P : Prt) (l : List Us) (bv v : Value) (c d : Int) (w : World) (hv : SpAt w bv P.rs) (hl : UsAt w v l) :
    Calls Try.prog 48 #[prtV P bv, v, .int .i64 c, .int .i64 d] w fun e w' => e = .returned (lifeV (dueM P l c d)) ∧ Below w.heap.size w w' := by
  have HU0 := Lib.hid hl
  have HV0 := Lib.hid hv
  have hb0 := (Below.refl w.heap.size w).alloc (Nat.le_refl _) (Obj.cells #[bv, .int .i64 P.wo, .int .i64 P.tu, .int .i64 P.ag] 98)
  have k0 := block_new w (Obj.cells #[bv, .int .i64 P.wo, .int .i64 P.tu, .int .i64 P.ag] 98) w.heap.size rfl
  have HV := Lib.hid (hv.below hb0 (Nat.le_refl _))
  obtain ⟨a, cap, rfl, hn, hcap, hc⟩ := hv
  have HRC := Lib.hid hc
  clear hc
  have HB := Lib.hid hb0
  have K0 := Lib.hid k0
  clear hb0 k0
  have HU := Lib.hid (HU0.out.below HB.out (Nat.le_refl _))
  obtain ⟨ua, ucap, rfl, un, ucl, uc⟩ := hl
  have HUC := Lib.hid uc
  clear uc
  by_cases hq : partM P l = 0
  · obtain ⟨hP, h40, hU⟩ := partM_ok hq
    have HQ := Lib.hid hq
    have HP := Lib.hid hP
    have HT := Lib.hid (fun i (hi : i ≤ l.length) => turnsTo_bd hU i hi)
    have HDU := Lib.hid (fun i (hi : i < l.length) => (hU i hi))
    have HRB := Lib.hid (rch_bd40 hP h40 hU (Nat.le_refl _))
    have w0 := hP.w0
    have w1' := hP.w1
    have t0' := hP.t0
    have t1' := hP.t1
    clear hq hP hU
    go_enter Try.func48, Try.ntmps48
    go_wp2_with fail
    generalize w.alloc (Obj.cells #[Value.slice a P.rs.length cap, .int .i64 P.wo, .int .i64 P.tu, .int .i64 P.ag] 98) = wA at *
    have hce := block_cell K0.out
    go_wp2_with fail
    refine (kcheckPart_any P l _ _ _ HV.out HU.out).mono ?_
    rintro e w1 ⟨rfl, hb1⟩
    rw [HQ.out]
    clear hce
    go_wp2_with fail
    go_loopw [12, 13, 27] (fun t s i wr => ∃ k : Nat, k ≤ l.length ∧ i = .int .i64 k ∧ t = .int .i64 (turnsTo l k) ∧ s = .int .i64 (sinceAt l k) ∧ Below wA.heap.size wA wr) (fun _ _ i _ => l.length - (intOf i).toNat)
    case atStart => exact ⟨0, Nat.zero_le _, rfl, rfl, rfl, hb1⟩
    case round =>
      obtain ⟨k, hk, rfl, rfl, rfl, hb⟩ := hrel
      by_cases hlt : k < l.length
      · obtain ⟨b, off, rfl, hbl, hc⟩ := HUC.out (by omega)
        have hbw := HB.out.trans (hb.mono HB.out.size)
        obtain ⟨g1, g2, g3, g4, g5, g6⟩ := us_at hbw hbl hc hlt
        have Hs := Lib.hid (show turnsTo l (k + 1) = turnsTo l k + (l.getD k Us.zero).t from rfl)
        have Hd := Lib.hid (show sinceAt l (k + 1) = (l.getD k Us.zero).d from rfl)
        have hu := HDU.out k hlt
        have ht := HT.out k hk
        obtain ⟨t0, t1⟩ : 0 ≤ (l.getD k Us.zero).t ∧ (l.getD k Us.zero).t ≤ 1000000 := ⟨hu.t0, hu.t1⟩
        have hz2 : b < wr.heap.size := by have := hbw.size; omega
        clear hc hu hbw
        generalize turnsTo l k = t at *
        generalize l.getD k Us.zero = u at *
        go_wp2
        go_roundw
        case rel => exact ⟨k + 1, hlt, by go_num, by rw [Hs.out], by rw [Hd.out], hb.alloc hb.size _⟩
        case measure => simp [intOf]; omega
      · obtain rfl : k = l.length := by omega
        have ht := HT.out _ hk
        have kp := (hb.block _ (lt_of_block K0.out)).trans K0.out
        have hce := block_cell kp
        have KP := Lib.hid kp
        have HBR := Lib.hid hb
        clear kp hb hlt
        cases h1 : decide (0 ≤ c ∧ c ≤ (P.rs.length : Int) - 1) <;> cases h2 : decide (sinceAt l l.length ≤ d ∧ d ≤ 100000)
        case true.true =>
          have H1 := Lib.hid h1
          have H2 := Lib.hid h2
          have HRH := Lib.hid (rateHi_ok HP.out h1)
          rw [decide_eq_true_eq] at h1
          obtain ⟨c1, c2⟩ := h1
          clear h2
          obtain ⟨cn, rfl⟩ : ∃ cn : Nat, c = cn := ⟨c.toNat, by omega⟩
          generalize hsn : sinceAt l l.length = sn at *
          have HSN := Lib.hid hsn
          clear hsn
          go_wp2_with (go_at_call 49; (first | with_reducible refine (kwithin_is _ (cn : Int) 0 ((P.rs.length : Int) - 1) _ H1.out).mono ?_ | with_reducible refine (kwithin_is _ d sn 100000 _ H2.out).mono ?_); rintro e w' ⟨rfl, rfl⟩)
          refine (reach_any P l _ _ _ (HV.out.below HBR.out (Nat.le_refl _)) (HU.out.below HBR.out (Nat.le_refl _)) HQ.out).mono ?_
          rintro e w2 ⟨v2, rfl, ho, hb2⟩
          have hbA2 := HBR.out.trans (hb2.mono HBR.out.size)
          have kp2 := (hb2.block _ (lt_of_block KP.out)).trans KP.out
          clear hce
          have hce := block_cell kp2
          have KP2 := Lib.hid kp2
          have HB2 := Lib.hid hbA2
          clear kp2 hb2 hbA2
          by_cases hr : reachN P l < l.length
          · have HE := Lib.hid (due_none (c := cn) (d := d) HQ.out H1.out (by rw [HSN.out]; exact H2.out) hr)
            obtain ⟨a2, c2', rfl, _⟩ := ownsRow_shape ho
            have hr' : (reachN P l : Int) < l.length := by omega
            clear ho
            go_wp2
            go_ret2
            exact ⟨congrArg (fun r => Ending.returned (lifeV r)) HE.out.symm, HB.out.trans (HB2.out.mono HB.out.size)⟩
          · have hrn : reachN P l = l.length := by have := reachN_le P l; omega
            rw [hrn] at ho
            have hel := ElAt.of_own (m := 2) (f := spnL) (xs := sprL P l l.length) (fun _ => rfl) (by rw [sprL_len]; exact ho)
            obtain ⟨a2, c2', rfl, n2, m2, hcc⟩ := hel
            rw [sprL_len] at *
            have HR := Lib.hid hr
            have HCC := Lib.hid hcc
            have hbd := HRB.out
            clear ho hrn hr hcc
            obtain ⟨we, hwe⟩ : ∃ we, (rch P l l.length).2 = we := ⟨_, rfl⟩
            have HWE := Lib.hid hwe
            rw [hwe] at hbd
            obtain ⟨_, _, hb3', hb4'⟩ := hbd
            have HDS := Lib.hid (fun hs => due_spent (P := P) (l := l) (c := cn) (d := d) HQ.out H1.out (by rw [HSN.out]; exact H2.out) HR.out (by rw [hwe]; exact hs))
            have HDO := Lib.hid (fun hs => due_ok (P := P) (l := l) (c := cn) (d := d) HQ.out H1.out (by rw [HSN.out]; exact H2.out) HR.out (by rw [hwe]; exact hs))
            clear hwe
            by_cases hl0 : (0 : Int) < l.length
            · obtain ⟨sb, so, rfl, sbl, scc⟩ := HCC.out (by omega)
              obtain ⟨_, s2⟩ := sp_at (Below.refl w2.heap.size w2) sbl scc (k := l.length - 1) (by rw [sprL_len]; omega)
              rw [show (sprL P l l.length).getD (l.length - 1) Spn.zero = rch P l l.length by
                unfold sprL
                rw [List.getD_eq_getElem?_getD, List.getElem?_map, List.getElem?_range (by omega)]
                show rch P l (l.length - 1 + 1) = _
                rw [show l.length - 1 + 1 = l.length by omega], HWE.out] at s2
              have i1 : (0 : Int) ≤ (l.length : Int) - 1 := by omega
              have i2 : (l.length : Int) - 1 < l.length := by omega
              have i3 : ((l.length : Int) - 1).toNat = l.length - 1 := by omega
              clear scc
              go_wp2_with fail
              refine (spent_any P _ we (turnsTo l l.length) d _ w0 w1').mono ?_
              rintro e w3 ⟨rfl, hb5⟩
              have hbA3 := HB2.out.trans (hb5.mono HB2.out.size)
              have kp3 := (hb5.block _ (lt_of_block KP2.out)).trans KP2.out
              clear hce
              have hce := block_cell kp3
              have HBW3 := Lib.hid (HB.out.trans (hbA3.mono HB.out.size))
              clear kp3 hb5 hbA3
              cases hsp : spentM P we (turnsTo l l.length) d
              · have HE := Lib.hid (HDO.out hsp)
                obtain ⟨f1, f2, f3⟩ := spentM_false.1 hsp
                obtain ⟨rb, ro, rfl, rbl, rce⟩ := HRC.out (by omega)
                obtain ⟨_, r2⟩ := sp_at HBW3.out rbl rce (k := cn) (by omega)
                have hrh := HRH.out
                have er : (P.rs.getD cn Spn.zero).2 = rateHi P cn := by unfold rateHi; rw [Int.toNat_natCast]; rfl
                rw [er] at r2
                have HMO := Lib.hid (show moreM P l cn = if 0 < rateHi P cn then min (P.tu - turnsTo l l.length) ((P.wo * 1000000 - we) / rateHi P cn) else P.tu - turnsTo l l.length by unfold moreM; rw [HWE.out])
                generalize rateHi P cn = rh at *
                obtain ⟨h01, h02⟩ := hrh
                have j1 : (0 : Int) ≤ cn := by omega
                have j2 : (cn : Int) < P.rs.length := by omega
                have hdv : 0 < rh → 0 ≤ (P.wo * 1000000 - we) / rh ∧ (P.wo * 1000000 - we) / rh ≤ P.wo * 1000000 - we := fun hh => ⟨Int.ediv_nonneg (by omega) (by omega), Int.ediv_le_self _ (by omega)⟩
                have HDV := Lib.hid hdv
                clear er rce hsp hdv
                by_cases hrate : 0 < rh
                · have HM2 := Lib.hid (show moreM P l cn = min (P.tu - turnsTo l l.length) ((P.wo * 1000000 - we) / rh) by rw [HMO.out, if_pos hrate])
                  obtain ⟨v1, v2⟩ := HDV.out hrate
                  go_wp2
                  all_goals
                    go_ret2
                    exact ⟨by rw [HE.out, HM2.out]; refine congrArg Ending.returned ?_; refine congrArg Value.tuple ?_; simp; omega, HBW3.out⟩
                · have HM2 := Lib.hid (show moreM P l cn = P.tu - turnsTo l l.length by rw [HMO.out, if_neg hrate])
                  go_wp2
                  go_ret2
                  exact ⟨by rw [HE.out, HM2.out]; rfl, HBW3.out⟩
              · have HE := Lib.hid (HDS.out hsp)
                clear hsp
                go_wp2
                go_ret2
                exact ⟨congrArg (fun r => Ending.returned (lifeV r)) HE.out.symm, HBW3.out⟩
            · have hwe0 : we = 0 := by
                have e : l.length = 0 := by omega
                have := HWE.out
                rw [e] at this
                exact this.symm
              subst hwe0
              go_wp2_with fail
              refine (spent_any P _ 0 (turnsTo l l.length) d _ w0 w1').mono ?_
              rintro e w3 ⟨rfl, hb5⟩
              have hbA3 := HB2.out.trans (hb5.mono HB2.out.size)
              have kp3 := (hb5.block _ (lt_of_block KP2.out)).trans KP2.out
              clear hce
              have hce := block_cell kp3
              have HBW3 := Lib.hid (HB.out.trans (hbA3.mono HB.out.size))
              clear kp3 hb5 hbA3
              cases hsp : spentM P 0 (turnsTo l l.length) d
              · have HE := Lib.hid (HDO.out hsp)
                obtain ⟨f1, f2, f3⟩ := spentM_false.1 hsp
                obtain ⟨rb, ro, rfl, rbl, rce⟩ := HRC.out (by omega)
                obtain ⟨_, r2⟩ := sp_at HBW3.out rbl rce (k := cn) (by omega)
                have hrh := HRH.out
                have er : (P.rs.getD cn Spn.zero).2 = rateHi P cn := by unfold rateHi; rw [Int.toNat_natCast]; rfl
                rw [er] at r2
                have HMO := Lib.hid (show moreM P l cn = if 0 < rateHi P cn then min (P.tu - turnsTo l l.length) ((P.wo * 1000000 - 0) / rateHi P cn) else P.tu - turnsTo l l.length by unfold moreM; rw [HWE.out])
                generalize rateHi P cn = rh at *
                obtain ⟨h01, h02⟩ := hrh
                have j1 : (0 : Int) ≤ cn := by omega
                have j2 : (cn : Int) < P.rs.length := by omega
                have hdv : 0 < rh → 0 ≤ (P.wo * 1000000 - 0) / rh ∧ (P.wo * 1000000 - 0) / rh ≤ P.wo * 1000000 - 0 := fun hh => ⟨Int.ediv_nonneg (by omega) (by omega), Int.ediv_le_self _ (by omega)⟩
                have HDV := Lib.hid hdv
                clear er rce hsp hdv
                by_cases hrate : 0 < rh
                · have HM2 := Lib.hid (show moreM P l cn = min (P.tu - turnsTo l l.length) ((P.wo * 1000000 - 0) / rh) by rw [HMO.out, if_pos hrate])
                  obtain ⟨v1, v2⟩ := HDV.out hrate
                  go_wp2
                  all_goals
                    go_ret2
                    exact ⟨by rw [HE.out, HM2.out]; refine congrArg Ending.returned ?_; refine congrArg Value.tuple ?_; simp; omega, HBW3.out⟩
                · have HM2 := Lib.hid (show moreM P l cn = P.tu - turnsTo l l.length by rw [HMO.out, if_neg hrate])
                  go_wp2
                  go_ret2
                  exact ⟨by rw [HE.out, HM2.out]; rfl, HBW3.out⟩
              · have HE := Lib.hid (HDS.out hsp)
                clear hsp
                go_wp2
                go_ret2
                exact ⟨congrArg (fun r => Ending.returned (lifeV r)) HE.out.symm, HBW3.out⟩
        all_goals
          have HE := Lib.hid (due_arg (P := P) (l := l) (c := c) (d := d) HQ.out (by rw [h1, h2]; simp))
          have H1 := Lib.hid h1
          have H2 := Lib.hid h2
          clear h1 h2
          generalize sinceAt l l.length = sn at *
          go_wp2_with (go_at_call 49; (first | with_reducible refine (kwithin_is _ c 0 ((P.rs.length : Int) - 1) _ H1.out).mono ?_ | with_reducible refine (kwithin_is _ d sn 100000 _ H2.out).mono ?_); rintro e w' ⟨rfl, rfl⟩)
          go_ret2
          exact ⟨congrArg (fun r => Ending.returned (lifeV r)) HE.out.symm, HB.out.trans (HBR.out.mono HB.out.size)⟩
  · have HE := Lib.hid (due_bad (c := c) (d := d) hq)
    go_enter Try.func48, Try.ntmps48
    go_wp2_with fail
    generalize w.alloc (Obj.cells #[Value.slice a P.rs.length cap, .int .i64 P.wo, .int .i64 P.tu, .int .i64 P.ag] 98) = wA at *
    have hce := block_cell K0.out
    go_wp2_with fail
    refine (kcheckPart_any P l _ _ _ HV.out HU.out).mono ?_
    rintro e w1 ⟨rfl, hb1⟩
    generalize partM P l = f at *
    go_wp2
    go_ret2
    exact ⟨congrArg (fun r => Ending.returned (lifeV r)) HE.out.symm, HB.out.trans (hb1.mono HB.out.size)⟩

end Go.Proofs.Ythgcnakbbmknoaa

/- Walks of the statements' own helpers (layer 2): works. -/
namespace Go.Proofs.Ythgcnakbbmknoaa
open Go.RowKit

theorem exRun : runM exC exL 0 4 = ⟨421, 425, 0⟩ := by kernel_rfl
theorem exWitE : witE exC exL 0 4 421 = 0 := by kernel_rfl
theorem exWit : witG exC exL 0 4 421 = [100, 103, 108, 110] := by kernel_rfl
theorem exDue : dueM exP exU 0 1000 = (160000, 0) := by kernel_rfl

theorem int4 (w : World) (a b c d : Int) : InAt (w.alloc (.cells #[.int .i64 a, .int .i64 b, .int .i64 c, .int .i64 d] 3)) (.slice (some ⟨w.heap.size, 0, none⟩) 4 4) [a, b, c, d] := by
  refine ⟨_, 4, rfl, Nat.le_refl _, by decide, fun _ => ⟨w.heap.size, 0, rfl, by rw [size_alloc]; omega, fun i hi => ?_⟩⟩
  have hi' : i < 4 := hi
  rw [block_cell (block_new w _ _ rfl)]
  match i, hi' with
  | 0, _ => rfl
  | 1, _ => rfl
  | 2, _ => rfl
  | 3, _ => rfl

set_option maxHeartbeats 4000000 in
theorem works_any (w : World) : Calls Try.prog 12 #[] w fun e w' => e = .returned (.bool true) ∧ Below w.heap.size w w' := by
  go_enter Try.func12, Try.ntmps12
  go_wp2_with fail
  refine (example_any _).mono ?_
  rintro e w1 ⟨v1, v2, v3, rfl, h1, h2, h3, hb1⟩
  have H1 := Lib.hid h1
  have H2 := Lib.hid h2
  have H3 := Lib.hid h3
  have HB1 := Lib.hid hb1
  obtain ⟨a1, c1, rfl, _, _, _⟩ := h1
  obtain ⟨a2, c2, rfl, _, _, _⟩ := h2
  obtain ⟨a3, c3, rfl, _, _, _⟩ := h3
  clear hb1
  rw [show exL.length = 2 from rfl] at *
  rw [show exP.rs.length = 2 from rfl] at *
  rw [show exU.length = 2 from rfl] at *
  simp only [exC, exP]
  go_wp2_with fail
  generalize hW : (w1.alloc (Obj.cells #[.int .i64 4, .int .i64 100, .int .i64 110] 23)).alloc (Obj.cells #[.slice a2 2 c2, .int .i64 1, .int .i64 300000, .int .i64 1000] 98) = w2 at *
  have hb2 : Below w1.heap.size w1 w2 := by rw [← hW]; exact blw2 _ _ _
  have kC : w2.heap[w1.heap.size]? = some (Obj.cells #[.int .i64 4, .int .i64 100, .int .i64 110] 23) := by rw [← hW]; exact two_od _ _ _
  have kP : w2.heap[w1.heap.size + 1]? = some (Obj.cells #[.slice a2 2 c2, .int .i64 1, .int .i64 300000, .int .i64 1000] 98) := by rw [← hW]; exact two_nw _ _ _
  have G1 := Lib.hid (H1.out.below hb2 (Nat.le_refl _))
  have G2 := Lib.hid (H2.out.below hb2 (Nat.le_refl _))
  have G3 := Lib.hid (H3.out.below hb2 (Nat.le_refl _))
  have HB2 := Lib.hid (HB1.out.trans (hb2.mono HB1.out.size))
  have KC := Lib.hid kC
  have KP := Lib.hid kP
  clear hb2 kC kP hW H1 H2 H3 HB1
  refine (krun_any exC exL _ 0 4 _ G1.out).mono ?_
  rintro e w3 ⟨rfl, hb3⟩
  rw [exRun]
  have cC := block_cell ((hb3.block _ (lt_of_block KC.out)).trans KC.out)
  have zC := Nat.lt_of_lt_of_le (lt_of_block KC.out) hb3.size
  have HB3 := Lib.hid hb3
  clear hb3
  go_wp2_with fail
  have bx : Below w3.heap.size w3 (w3.alloc (Obj.cells #[.int .i64 421, .int .i64 425] 45)) := (Below.refl _ _).alloc (Nat.le_refl _) _
  have kx : (w3.alloc (Obj.cells #[.int .i64 421, .int .i64 425] 45)).heap[w3.heap.size]? = some (Obj.cells #[.int .i64 421, .int .i64 425] 45) := block_new _ _ _ rfl
  generalize w3.alloc (Obj.cells #[.int .i64 421, .int .i64 425] 45) = w4 at *
  have hb4 := HB3.out.trans (bx.mono HB3.out.size)
  have HB4 := Lib.hid hb4
  have KX := Lib.hid kx
  clear bx kx cC zC hb4
  refine (kwit_any exC exL _ 0 4 421 _ (G1.out.below HB4.out (Nat.le_refl _))).mono ?_
  rintro e w5 ⟨v5, rfl, h5, hb5⟩
  rw [exWitE]
  rw [exWit] at h5
  have HB5 := Lib.hid (HB4.out.trans (hb5.mono HB4.out.size))
  have KX5 := Lib.hid ((hb5.block _ (lt_of_block KX.out)).trans KX.out)
  have H5 := Lib.hid h5
  obtain ⟨a5, c5, rfl, _, _, _⟩ := h5
  rw [show [(100 : Int), 103, 108, 110].length = 4 from rfl] at *
  have cP := block_cell ((HB5.out.block _ (lt_of_block KP.out)).trans KP.out)
  have zP := Nat.lt_of_lt_of_le (lt_of_block KP.out) HB5.out.size
  clear hb5
  go_wp2_with fail
  refine (kdue_any exP exU _ _ 0 1000 _ (G2.out.below HB5.out (Nat.le_refl _)) (G3.out.below HB5.out (Nat.le_refl _))).mono ?_
  rintro e w6 ⟨rfl, hb6⟩
  rw [exDue]
  have HB6 := Lib.hid (HB5.out.trans (hb6.mono HB5.out.size))
  have cX := block_cell ((hb6.block _ (lt_of_block KX5.out)).trans KX5.out)
  have zX := Nat.lt_of_lt_of_le (lt_of_block KX5.out) hb6.size
  have H6 := Lib.hid (H5.out.below hb6 (Nat.le_refl _))
  clear hb6 cP zP
  go_wp2_with fail
  refine (sameInts_any _ _ [100, 103, 108, 110] [100, 103, 108, 110] _ (H6.out.below ((Below.refl _ _).alloc (Nat.le_refl _) _) (Nat.le_refl _)) (int4 _ _ _ _ _)).mono ?_
  rintro e w7 ⟨rfl, hb7⟩
  go_wp2
  go_ret
  exact ⟨rfl, HB2.out.trans ((HB6.out.trans ((((Below.refl _ _).alloc (Nat.le_refl _) _).trans (hb7.mono (al_le _ _))).mono HB6.out.size)).mono HB2.out.size)⟩

end Go.Proofs.Ythgcnakbbmknoaa

/- Walks of layer 2 (chain), parts: the specification's CheckPart. -/
namespace Go.Proofs.Ythgcnakbbmknoaa
open Go.RowKit

theorem rfromq (q : Bool) (n lo hi : Int) (w : World) (h : decide (lo ≤ n ∧ n ≤ hi) = q) :
    Calls Try.prog 56 #[.int .i64 n, .int .i64 lo, .int .i64 hi] w fun e w' => e = .returned (.bool q) ∧ w' = w := by
  subst h
  exact (rfrom_any n lo hi w).mono fun _ _ ⟨h1, h2⟩ => ⟨h1, h2.symm⟩

theorem since_pos {P : Prt} {l : List Us} : ∀ {k : Nat}, (∀ i, i < k → useOk P.rs.length (l.getD i Us.zero) (sinceAt l i) = true) → 0 ≤ sinceAt l k
  | 0, _ => Int.le_refl _
  | k + 1, h => by
    have h1 := (uok_of (h k (by omega))).d0
    have h2 := since_pos (k := k) (fun i hi => h i (by omega))
    simp only [sinceAt]
    omega

theorem useOk_iff {n : Int} {u : Us} {s : Int} : useOk n u s = true ↔ (s ≤ u.d ∧ u.d ≤ 100000) ∧ (0 ≤ u.t ∧ u.t ≤ 1000000) ∧ (0 ≤ u.c ∧ u.c ≤ n - 1) ∧ (0 ≤ u.lo ∧ u.lo ≤ u.hi ∧ u.hi ≤ 2000000000) ∧ (u.m = true ∨ (u.lo = 0 ∧ u.hi = 0)) := by
  unfold useOk spanBad
  simp only [Bool.and_eq_true, Bool.or_eq_true, Bool.not_eq_true', Bool.or_eq_false_iff, Bool.not_eq_false', decide_eq_true_eq]
  constructor
  · rintro ⟨⟨⟨⟨h1, h2⟩, h3⟩, h4, h5⟩, h6⟩
    exact ⟨h1, h2, h3, ⟨by omega, by omega, by omega⟩, h6⟩
  · rintro ⟨h1, h2, h3, h4, h6⟩
    exact ⟨⟨⟨⟨h1, h2⟩, h3⟩, ⟨by omega, by omega⟩, ⟨by omega, by omega⟩⟩, h6⟩

theorem useOk_no {n : Int} {u : Us} {s : Int} (h : ¬ ((s ≤ u.d ∧ u.d ≤ 100000) ∧ (0 ≤ u.t ∧ u.t ≤ 1000000) ∧ (0 ≤ u.c ∧ u.c ≤ n - 1) ∧ (0 ≤ u.lo ∧ u.lo ≤ u.hi ∧ u.hi ≤ 2000000000) ∧ (u.m = true ∨ (u.lo = 0 ∧ u.hi = 0)))) : useOk n u s = false := by
  cases e : useOk n u s
  · rfl
  · exact absurd (useOk_iff.1 e) h

theorem partOk_iff {P : Prt} : partOk P = true ↔ (1 ≤ (P.rs.length : Int) ∧ (P.rs.length : Int) ≤ 4) ∧ (∀ i, i < P.rs.length → rateBad (P.rs.getD i Spn.zero) = false) ∧ (0 ≤ P.wo ∧ P.wo ≤ 1000) ∧ (0 ≤ P.tu ∧ P.tu ≤ 1000000) ∧ (0 ≤ P.ag ∧ P.ag ≤ 100000) := by
  unfold partOk
  simp only [Bool.and_eq_true, Bool.not_eq_true', decide_eq_true_eq]
  have e : P.rs.any rateBad = false ↔ ∀ i, i < P.rs.length → rateBad (P.rs.getD i Spn.zero) = false := by
    constructor
    · intro h i hi
      cases hq : rateBad (P.rs.getD i Spn.zero)
      · rfl
      · rw [any_true_of (d := Spn.zero) hi hq] at h; cases h
    · exact any_false_of
  rw [e]
  constructor
  · rintro ⟨⟨⟨⟨h1, h2⟩, h3⟩, h4⟩, h5⟩; exact ⟨h1, h2, h3, h4, h5⟩
  · rintro ⟨h1, h2, h3, h4, h5⟩; exact ⟨⟨⟨⟨h1, h2⟩, h3⟩, h4⟩, h5⟩

theorem partOk_no {P : Prt} (h : ¬ ((1 ≤ (P.rs.length : Int) ∧ (P.rs.length : Int) ≤ 4) ∧ (∀ i, i < P.rs.length → rateBad (P.rs.getD i Spn.zero) = false) ∧ (0 ≤ P.wo ∧ P.wo ≤ 1000) ∧ (0 ≤ P.tu ∧ P.tu ≤ 1000000) ∧ (0 ≤ P.ag ∧ P.ag ≤ 100000))) : partOk P = false := by
  cases e : partOk P
  · rfl
  · exact absurd (partOk_iff.1 e) h

end Go.Proofs.Ythgcnakbbmknoaa

/- Walks of layer 2 (chain), parts: the specification's grown, forward. -/
namespace Go.Proofs.Ythgcnakbbmknoaa
open Go.RowKit

theorem grown_free {P : Prt} {s : Spn} {u : Us} (h : u.m = false) : grown P s u = (s.1 + addL P u, s.2 + addH P u) := by unfold grown; rw [if_neg (by rw [h]; decide)]
theorem grown_said {P : Prt} {s : Spn} {u : Us} (h : u.m = true) : grown P s u = common (s.1 + addL P u, s.2 + addH P u) (u.lo, u.hi) := by unfold grown; rw [if_pos h]

end Go.Proofs.Ythgcnakbbmknoaa

/- Walks of layer 2 (chain), parts: the specification's forward. -/
namespace Go.Proofs.Ythgcnakbbmknoaa
open Go.RowKit

/-- The answer of forward. -/
def FwdRes (P : Prt) (l : List Us) (w : World) (e : Ending) (w' : World) : Prop :=
  Below w.heap.size w w' ∧ ((reachN P l < l.length ∧ e = .returned (.tuple #[.slice none 0 0, .int .i64 (reachN P l)])) ∨
    (reachN P l = l.length ∧ ∃ v, e = .returned (.tuple #[v, .int .i64 (-1)]) ∧ w'.ownsRow w.heap.size 45 2 v l.length ((sprL P l l.length).flatMap spnL)))

theorem FwdRes.no {P : Prt} {l : List Us} {w w' : World} {k : Nat} (hk : reachN P l = k) (hlt : k < l.length) (hb : Below w.heap.size w w') : FwdRes P l w (.returned (.tuple #[.slice none 0 0, .int .i64 k])) w' := by
  subst hk; exact ⟨hb, .inl ⟨hlt, rfl⟩⟩

theorem FwdRes.yes {P : Prt} {l : List Us} {w w' : World} {v : Value} (hk : reachN P l = l.length) (h : w'.ownsRow w.heap.size 45 2 v l.length ((sprL P l l.length).flatMap spnL)) (hb : Below w.heap.size w w') : FwdRes P l w (.returned (.tuple #[v, .int .i64 (-1)])) w' :=
  ⟨hb, .inr ⟨hk, _, rfl, h⟩⟩

end Go.Proofs.Ythgcnakbbmknoaa

/- Walks of layer 2 (chain), parts: the specification's wear. -/
namespace Go.Proofs.Ythgcnakbbmknoaa
open Go.RowKit

/-- The answer of the specification's wear. -/
def RWearRes (P : Prt) (l : List Us) (w : World) (e : Ending) (w' : World) : Prop :=
  Below w.heap.size w w' ∧ ((reachN P l < l.length ∧ e = .returned (.tuple #[.slice none 0 0, .int .i64 3])) ∨
    (reachN P l = l.length ∧ ∃ v, e = .returned (.tuple #[v, .int .i64 0]) ∧ w'.ownsRow w.heap.size 45 2 v l.length ((wearL P l).flatMap spnL)))

theorem RWearRes.no {P : Prt} {l : List Us} {w w' : World} (hlt : reachN P l < l.length) (hb : Below w.heap.size w w') : RWearRes P l w (.returned (.tuple #[.slice none 0 0, .int .i64 3])) w' :=
  ⟨hb, .inl ⟨hlt, rfl⟩⟩

theorem RWearRes.yes {P : Prt} {l : List Us} {w w' : World} {v : Value} (hk : reachN P l = l.length) (h : w'.ownsRow w.heap.size 45 2 v l.length ((wearL P l).flatMap spnL)) (hb : Below w.heap.size w w') : RWearRes P l w (.returned (.tuple #[v, .int .i64 0])) w' :=
  ⟨hb, .inr ⟨hk, _, rfl, h⟩⟩

end Go.Proofs.Ythgcnakbbmknoaa

/- Walks of layer 2 (chain), parts: the specification's Worn, beyond. -/
namespace Go.Proofs.Ythgcnakbbmknoaa
open Go.RowKit

theorem firstM_at {P : Prt} {l : List Us} {g : Bool} {k : Nat} (hk : k < l.length) (h1 : ∀ i, i < k → wornM P l i (endOf g (wearAt P l i)) = false) (h2 : wornM P l k (endOf g (wearAt P l k)) = true) : (k : Int) = firstM P l g := by
  have e : spentN P l g = k := firstB_eq (by omega) h1 (fun _ => h2)
  unfold firstM
  rw [e, if_pos hk]

theorem firstM_none {P : Prt} {l : List Us} {g : Bool} (h1 : ∀ i, i < l.length → wornM P l i (endOf g (wearAt P l i)) = false) : -1 = firstM P l g := by
  have e : spentN P l g = l.length := firstB_eq (by omega) h1 (fun h => by omega)
  unfold firstM
  rw [e, if_neg (by omega)]

end Go.Proofs.Ythgcnakbbmknoaa

/- Walks of layer 2 (chain), parts: the specification's Wear, Refuted, Beyond, Surely. -/
namespace Go.Proofs.Ythgcnakbbmknoaa
open Go.RowKit

end Go.Proofs.Ythgcnakbbmknoaa

/- Walks of layer 2 (chain), parts: copies. -/
namespace Go.Proofs.Ythgcnakbbmknoaa
open Go.RowKit

theorem copyUses_any_info : (Try.prog.info? 152).map (fun i => (i.zero, i.size, i.bytes)) = some (some (.agg #[.int .i64 0, .int .i64 0, .int .i64 0, .bool false, .int .i64 0, .int .i64 0]), 6, 48) := by kernel_rfl
theorem copyGauges_any_info : (Try.prog.info? 53).map (fun i => (i.zero, i.size, i.bytes)) = some (some (.agg #[.int .i64 0, .int .i64 0, .int .i64 0, .int .i64 0]), 4, 32) := by kernel_rfl
set_option maxHeartbeats 1000000 in
theorem copyGauges_any (v : Value) (l : List Gau) (w : World) (hv : ElAt 4 gauL w v l) (hn : l.length * 32 ≤ 140737488351232) :
    Calls Try.prog 14 #[v] w fun e w' => ∃ v', e = .returned v' ∧ w'.ownsRow w.heap.size 53 4 v' l.length (l.flatMap gauL) ∧ Below w.heap.size w w' := by
  obtain ⟨i0, hi, hz0, hz1, hz2⟩ := info_parts copyGauges_any_info
  have hf : ∀ x, (gauL x).length = 4 := fun _ => rfl
  have hf1 : ∀ x, ∀ u ∈ gauL x, u.oneCell' = true := fun x u hu => by simp at hu; rcases hu with rfl | rfl | rfl | rfl | rfl | rfl <;> rfl
  have hb1 := (Below.refl w.heap.size w).alloc (Nat.le_refl _) (.cells #[] 53)
  have k1 := block_new w (.cells #[] 53) w.heap.size rfl
  have hox : (w.alloc (.cells #[] 53)).ownsRow w.heap.size 53 4 (.slice (some ⟨w.heap.size, 0, none⟩) 0 0) 0 ([].flatMap gauL) :=
    ⟨by simp, .inr ⟨w.heap.size, 0, #[], rfl, Nat.le_refl _, k1, Nat.le_refl _, by decide, by simp, by simp⟩⟩
  have E1 := Lib.hid (hv.below hb1 (Nat.le_refl _))
  have HOX := Lib.hid hox
  have HB := Lib.hid hb1
  have HSZ := Lib.hid (show w.heap.size ≤ (w.alloc (.cells #[] 53)).heap.size from hb1.size)
  obtain ⟨a, cap, rfl, h1, h2, h3⟩ := hv
  clear k1 hox hb1 h3
  go_enter Try.func14, Try.ntmps14
  go_wp2_with (at_builtin; refine app_elAt rfl (.tmp 3) (.tmp 4) 24 rfl w.heap.size 53 i0 (.agg #[.int .i64 0, .int .i64 0, .int .i64 0, .int .i64 0]) 4 32 Try.underlying24 hi hz0 hz1 hz2 rfl (by decide) gauL hf hf1 _ [] l rfl HOX.out _ rfl E1.out (by unfold maxLen; simp; omega) (by simp; omega) HSZ.out ?_; intro v2 w2 ho2 hb2; have HO2 := Lib.hid ho2; have HB2 := Lib.hid hb2; obtain ⟨a2, c2, rfl, _⟩ := ownsRow_shape ho2; clear ho2 hb2)
  go_ret
  exact ⟨_, rfl, HO2.out, HB.out.trans HB2.out⟩

end Go.Proofs.Ythgcnakbbmknoaa
