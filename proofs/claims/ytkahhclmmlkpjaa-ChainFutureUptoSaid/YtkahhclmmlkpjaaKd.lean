/- Walks of layer 2 (chain): the specification's Check. -/
import Derived.Test.YtkahhclmmlkpjaaKc
namespace Go.Proofs.Ytkahhclmmlkpjaa
open Go.RowKit

def chainM (c : Chn) : Int := if chainBad c = true then 20 else 0
theorem chainM_bad {c : Chn} (h : chainBad c = true) : 20 = chainM c := by unfold chainM; rw [if_pos h]
theorem chainM_fine {c : Chn} (h : chainBad c = false) : 0 = chainM c := by unfold chainM; rw [if_neg (by simp [h])]

set_option maxHeartbeats 1000000 in
theorem rchain_any (c : Chn) (w : World) :
    Calls Try.prog 64 #[chnV c] w fun e w' => e = .returned (.int .i64 (chainM c)) ∧ Below w.heap.size w w' := by
  have hb0 := (Below.refl w.heap.size w).alloc (Nat.le_refl _) (Obj.cells #[.int .i64 c.n, .int .i64 c.pi, .int .i64 c.li] 23)
  have k0 := block_new w (Obj.cells #[.int .i64 c.n, .int .i64 c.pi, .int .i64 c.li] 23) w.heap.size rfl
  have hsz : (w.alloc (Obj.cells #[.int .i64 c.n, .int .i64 c.pi, .int .i64 c.li] 23)).heap.size = w.heap.size + 1 := size_alloc _ _
  have K0 := Lib.hid k0
  have HB := Lib.hid hb0
  have HSZ := Lib.hid hsz
  clear k0 hb0 hsz
  cases hq : chainBad c
  · have HR := Lib.hid (chainM_fine hq)
    obtain ⟨n1, n2, l1, l2, p1, p2⟩ := cok_of hq
    clear hq
    go_enter Try.func64, Try.ntmps64
    go_wp2_with fail
    generalize hwA : w.alloc (Obj.cells #[.int .i64 c.n, .int .i64 c.pi, .int .i64 c.li] 23) = wA at *
    clear hwA
    have hce := block_cell K0.out
    go_wp2_with (go_at_call 65; refine (rfrom_any _ _ _ _).mono ?_; rintro e w' ⟨rfl, rfl⟩)
    all_goals first | (exfalso; omega) | skip
    go_ret
    exact ⟨ret_int HR.out, HB.out⟩
  · have HR := Lib.hid (chainM_bad hq)
    cases h1 : decide (1 ≤ c.n ∧ c.n ≤ 24) <;> cases h3 : decide (1 ≤ c.pi ∧ c.pi ≤ c.li)
    all_goals
      have hq2 := chain_bad_iff hq
      clear hq
      have H1 := Lib.hid h1
      have H3 := Lib.hid h3
      simp only [decide_eq_true_eq, decide_eq_false_iff_not] at h1 h3
      try (have h4 : 100000 < c.li := by omega)
      clear h1 h3 hq2
      go_enter Try.func64, Try.ntmps64
      go_wp2_with fail
      generalize hwA : w.alloc (Obj.cells #[.int .i64 c.n, .int .i64 c.pi, .int .i64 c.li] 23) = wA at *
      clear hwA
      have hce := block_cell K0.out
      go_wp2_with (go_at_call 65; (first | with_reducible refine (rfrom_is _ c.n 1 24 _ H1.out).mono ?_ | with_reducible refine (rfrom_is _ c.pi 1 c.li _ H3.out).mono ?_); rintro e w' ⟨rfl, rfl⟩)
      go_ret
      exact ⟨ret_int HR.out, HB.out⟩

theorem rchain_is (q : Int) (c : Chn) (w : World) (h : chainM c = q) :
    Calls Try.prog 64 #[chnV c] w fun e w' => e = .returned (.int .i64 q) ∧ Below w.heap.size w w' := by
  subst h
  exact rchain_any c w

theorem gau_bad {N : Int} {g : Gau} (h : gauBad N g = true) : g.a < 0 ∨ g.b ≤ g.a ∨ N < g.b ∨ ¬ (0 ≤ g.lo ∧ g.lo ≤ g.hi) ∨ 10000000 < g.hi := by
  simp [gauBad, spanBad] at h; omega

set_option maxHeartbeats 1000000 in
theorem rcheck_any (c : Chn) (l : List Gau) (v : Value) (w : World) (hv : GaAt w v l) :
    Calls Try.prog 21 #[chnV c, v] w fun e w' => e = .returned (.int .i64 (chkM c l)) ∧ Below w.heap.size w w' := by
  have hb0 := (Below.refl w.heap.size w).alloc (Nat.le_refl _) (Obj.cells #[.int .i64 c.n, .int .i64 c.pi, .int .i64 c.li] 23)
  have k0 := block_new w (Obj.cells #[.int .i64 c.n, .int .i64 c.pi, .int .i64 c.li] 23) w.heap.size rfl
  have hsz : (w.alloc (Obj.cells #[.int .i64 c.n, .int .i64 c.pi, .int .i64 c.li] 23)).heap.size = w.heap.size + 1 := size_alloc _ _
  have K0 := Lib.hid k0
  have HB := Lib.hid hb0
  have HSZ := Lib.hid hsz
  clear k0 hb0 hsz
  have hv1 := hv.below HB.out (Nat.le_refl _)
  obtain ⟨a, cap, rfl, hn, hcap, hc⟩ := hv1
  have HC := Lib.hid hc
  clear hc hv
  cases hq : chainBad c
  · have HQ := Lib.hid hq
    have HM := Lib.hid (chainM_fine hq).symm
    obtain ⟨n1, n2, l1, l2, p1, p2⟩ := cok_of hq
    clear hq
    go_enter Try.func21, Try.ntmps21
    go_wp2_with fail
    generalize hwA : w.alloc (Obj.cells #[.int .i64 c.n, .int .i64 c.pi, .int .i64 c.li] 23) = wA at *
    clear hwA
    have hce := block_cell K0.out
    by_cases hl : (40 : Int) < l.length
    · have HR := Lib.hid (chk_many HQ.out hl)
      go_wp2_with (go_at_call 64; refine (rchain_is 0 c _ HM.out).mono ?_; rintro e w1 ⟨rfl, hb1⟩)
      go_ret
      exact ⟨ret_int HR.out, HB.out.trans (hb1.mono HB.out.size)⟩
    · go_wp2_with (go_at_call 64; refine (rchain_is 0 c _ HM.out).mono ?_; rintro e w1 ⟨rfl, hb1⟩)
      clear hce
      go_loopw [6] (fun i wr => ∃ k : Nat, k ≤ l.length ∧ i = .int .i64 k ∧ Below wA.heap.size wA wr ∧ Hid (∀ i, i < k → gauBad c.n (l.getD i Gau.zero) = false)) (fun i _ => l.length - (intOf i).toNat)
      case atStart => exact ⟨0, Nat.zero_le _, rfl, hb1, fun i hi => by omega⟩
      case round =>
        obtain ⟨k, hk, rfl, hb, hf⟩ := hrel
        have hce := block_cell ((hb.block _ (lt_of_block K0.out)).trans K0.out)
        have hz := Nat.lt_of_lt_of_le (lt_of_block K0.out) hb.size
        by_cases hlt : k < l.length
        · obtain ⟨b, off, rfl, hbl, hc⟩ := HC.out (by omega)
          have g1 := ga_at hb hbl hc hlt
          clear hc
          generalize hq0 : l.getD k Gau.zero = q at g1
          have Hq := Lib.hid hq0
          clear hq0
          cases hq : gauBad c.n q
          · have HQ2 := Lib.hid hq
            have hg := gok_of hq
            clear hq
            obtain ⟨⟨a0, ab, bn, lo0, lh, h0, _⟩, alt⟩ := hg
            go_wp2_with (go_at_call 65; refine (rfrom_any _ _ _ _).mono ?_; rintro e w' ⟨rfl, rfl⟩)
            all_goals first | (exfalso; omega) | skip
            go_roundw
            case rel => exact ⟨k + 1, hlt, by go_num, hb.alloc hb.size _, fun i hi => by
              by_cases hik : i = k
              · rw [hik, Hq.out]; exact HQ2.out
              · exact hf.out i (by omega)⟩
            case measure => simp [intOf]; omega
          · have HQ2 := Lib.hid hq
            have HB2 := Lib.hid (gau_bad hq)
            have HA := Lib.hid (any_true_of (d := Gau.zero) (p := gauBad c.n) hlt (by rw [Hq.out]; exact HQ2.out))
            have HR := Lib.hid (chk_gauge HQ.out (by omega) HA.out)
            clear hq
            go_wp2_with (go_at_call 65; refine (rfrom_any _ _ _ _).mono ?_; rintro e w' ⟨rfl, rfl⟩)
            all_goals first | (have := HB2.out; exfalso; omega) | skip
            all_goals
              go_ret
              exact ⟨ret_int HR.out, HB.out.trans ((hb.alloc hb.size _).mono HB.out.size)⟩
        · have HF := Lib.hid (any_false_of (d := Gau.zero) (p := gauBad c.n) (l := l) (fun i hi => hf.out i (by omega)))
          have HR := Lib.hid (chk_fine HQ.out (by omega) HF.out)
          go_wp2
          go_ret
          exact ⟨ret_int HR.out, HB.out.trans (hb.mono HB.out.size)⟩
  · have HR := Lib.hid (chk_bad (l := l) hq)
    have HM := Lib.hid (chainM_bad hq).symm
    clear hq
    go_enter Try.func21, Try.ntmps21
    go_wp2_with fail
    generalize hwA : w.alloc (Obj.cells #[.int .i64 c.n, .int .i64 c.pi, .int .i64 c.li] 23) = wA at *
    clear hwA
    have hce := block_cell K0.out
    go_wp2_with (go_at_call 64; refine (rchain_is 20 c _ HM.out).mono ?_; rintro e w1 ⟨rfl, hb1⟩)
    go_ret
    exact ⟨ret_int HR.out, HB.out.trans (hb1.mono HB.out.size)⟩

end Go.Proofs.Ytkahhclmmlkpjaa
