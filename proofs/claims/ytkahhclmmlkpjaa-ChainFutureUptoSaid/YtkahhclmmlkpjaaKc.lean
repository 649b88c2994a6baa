/- Walks of layer 2 (chain): Check of both. -/
import Derived.Test.YtkahhclmmlkpjaaKw
namespace Go.Proofs.Ytkahhclmmlkpjaa
open Go.RowKit

theorem chk_bad {c : Chn} {l : List Gau} (h : chainBad c = true) : 20 = chkM c l := by unfold chkM; rw [if_pos h]
theorem chk_many {c : Chn} {l : List Gau} (h : chainBad c = false) (h2 : (40 : Int) < l.length) : 2 = chkM c l := by unfold chkM; rw [if_neg (by simp [h]), if_pos (by omega)]
theorem chk_gauge {c : Chn} {l : List Gau} (h : chainBad c = false) (h2 : ¬ (40 : Int) < l.length) (h3 : l.any (gauBad c.n) = true) : 21 = chkM c l := by unfold chkM; rw [if_neg (by simp [h]), if_neg (by omega), if_pos h3]
theorem chk_fine {c : Chn} {l : List Gau} (h : chainBad c = false) (h2 : ¬ (40 : Int) < l.length) (h3 : l.any (gauBad c.n) = false) : 0 = chkM c l := by unfold chkM; rw [if_neg (by simp [h]), if_neg (by omega), if_neg (by simp [h3])]

theorem chain_bad_iff {c : Chn} (h : chainBad c = true) : c.n < 1 ∨ 24 < c.n ∨ c.li < 1 ∨ 100000 < c.li ∨ c.pi < 1 ∨ c.li < c.pi := by
  simp [chainBad] at h; omega

set_option maxHeartbeats 1000000 in
theorem kcheck_any (c : Chn) (l : List Gau) (v : Value) (w : World) (hv : GaAt w v l) :
    Calls Try.prog 20 #[chnV c, v] w fun e w' => e = .returned (.int .i64 (chkM c l)) ∧ Below w.heap.size w w' := by
  have hb0 := (Below.refl w.heap.size w).alloc (Nat.le_refl _) (Obj.cells #[.int .i64 c.n, .int .i64 c.pi, .int .i64 c.li] 23)
  have k0 := block_new w (Obj.cells #[.int .i64 c.n, .int .i64 c.pi, .int .i64 c.li] 23) w.heap.size rfl
  have hsz : (w.alloc (Obj.cells #[.int .i64 c.n, .int .i64 c.pi, .int .i64 c.li] 23)).heap.size = w.heap.size + 1 := size_alloc _ _
  have K0 := Lib.hid k0
  have HB := Lib.hid hb0
  have HSZ := Lib.hid hsz
  clear k0 hb0 hsz
  have hv1 := hv.below HB.out (Nat.le_refl _)
  have HV := Lib.hid hv1
  obtain ⟨a, cap, rfl, hn, hcap, hc⟩ := hv
  clear hc hv1
  cases hq : chainBad c
  · have HQ := Lib.hid hq
    obtain ⟨n1, n2, l1, l2, p1, p2⟩ := cok_of hq
    clear hq
    by_cases hl : (40 : Int) < l.length
    · have HR := Lib.hid (chk_many HQ.out hl)
      go_enter Try.func20, Try.ntmps20
      go_wp2_with fail
      generalize hwA : w.alloc (Obj.cells #[.int .i64 c.n, .int .i64 c.pi, .int .i64 c.li] 23) = wA at *
      clear hwA
      have hce := block_cell K0.out
      go_wp2_with (go_at_call 60; refine (kwithin_any _ _ _ _).mono ?_; rintro e w' ⟨rfl, rfl⟩)
      all_goals first | (exfalso; omega) | skip
      go_ret
      exact ⟨ret_int HR.out, HB.out⟩
    · cases hg : l.any (gauBad c.n)
      all_goals
        have HG := Lib.hid hg
        first | have HR := Lib.hid (chk_gauge HQ.out hl hg) | have HR := Lib.hid (chk_fine HQ.out hl hg)
        clear hg
        go_enter Try.func20, Try.ntmps20
        go_wp2_with fail
        generalize hwA : w.alloc (Obj.cells #[.int .i64 c.n, .int .i64 c.pi, .int .i64 c.li] 23) = wA at *
        clear hwA
        have hce := block_cell K0.out
        go_wp2_with (first | (go_at_call 60; refine (kwithin_any _ _ _ _).mono ?_; rintro e w' ⟨rfl, rfl⟩) |
          (go_at_call 63; refine (containsGau_any _ l _ _ _ HV.out HG.out (fun x w1 _ hb1 => gbad_any x c.n w.heap.size w1 ((hb1.cell (lt_of_block K0.out)).trans (by rw [hce]; rfl)) (Nat.lt_of_lt_of_le (lt_of_block K0.out) hb1.size) n2)).mono ?_; rintro e w1 ⟨rfl, hb1⟩))
        all_goals first | (exfalso; omega) | skip
        go_ret
        exact ⟨ret_int HR.out, HB.out.trans (hb1.mono HB.out.size)⟩
  · have HR := Lib.hid (chk_bad (l := l) hq)
    cases h1 : decide (1 ≤ c.n ∧ c.n ≤ 24) <;> cases h2 : decide (1 ≤ c.li ∧ c.li ≤ 100000) <;> cases h3 : decide (1 ≤ c.pi ∧ c.pi ≤ c.li)
    all_goals try (have := chain_bad_iff hq; simp only [decide_eq_true_eq] at h1 h2 h3; omega)
    all_goals
      clear hq
      have H1 := Lib.hid h1
      have H2 := Lib.hid h2
      have H3 := Lib.hid h3
      clear h1 h2 h3
      go_enter Try.func20, Try.ntmps20
      go_wp2_with fail
      generalize hwA : w.alloc (Obj.cells #[.int .i64 c.n, .int .i64 c.pi, .int .i64 c.li] 23) = wA at *
      clear hwA
      have hce := block_cell K0.out
      go_wp2_with (go_at_call 60; (first | with_reducible refine (kwithin_is _ c.n 1 24 _ H1.out).mono ?_ | with_reducible refine (kwithin_is _ c.li 1 100000 _ H2.out).mono ?_ | with_reducible refine (kwithin_is _ c.pi 1 c.li _ H3.out).mono ?_); rintro e w' ⟨rfl, rfl⟩)
      go_ret
      exact ⟨ret_int HR.out, HB.out⟩

end Go.Proofs.Ytkahhclmmlkpjaa
