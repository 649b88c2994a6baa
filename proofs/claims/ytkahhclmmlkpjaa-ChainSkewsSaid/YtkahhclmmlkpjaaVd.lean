/- Walks of layer 2 (chain): Run of the specification. -/
import Derived.Test.YtkahhclmmlkpjaaVc
namespace Go.Proofs.Ytkahhclmmlkpjaa
open Go.RowKit

theorem run_bad {c : Chn} {l : List Gau} {a b : Int} (h : CkM c l a b ≠ 0) : (⟨0, 0, CkM c l a b⟩ : RunA) = runM c l a b := by
  unfold CkM at h ⊢
  unfold runM
  by_cases h1 : crunM c l a b = 0
  · rw [if_pos h1] at h ⊢
    rw [if_pos h1]
    by_cases h2 : agreeB c l = true
    · rw [if_pos h2] at h; exact absurd rfl h
    · rw [if_neg h2, if_neg h2]
  · rw [if_neg h1, if_neg h1]

theorem run_good {c : Chn} {l : List Gau} {a b : Int} (h : CkM c l a b = 0) : (⟨lowM c l a.toNat b.toNat, highM c l a.toNat b.toNat, 0⟩ : RunA) = runM c l a b := by
  obtain ⟨h1, h2⟩ := ck_zero h
  unfold runM
  rw [if_pos h1, if_pos h2]

theorem ck_small {c : Chn} {l : List Gau} {a b : Int} (h : CkM c l a b = 0) {i k : Nat} (hi : i ≤ c.n.toNat) (hk : k ≤ c.n.toNat) : -335544320000000 ≤ RM c l i k ∧ RM c l i k ≤ 1099511627776 := by
  obtain ⟨h1, h2, h3⟩ := chk_goks (crun_zero (ck_zero h).1).1
  exact RM_small h1 h2 hi hk

set_option maxRecDepth 100000 in
set_option maxHeartbeats 1000000 in
theorem rRun_any (c : Chn) (l : List Gau) (v : Value) (a b : Int) (w : World) (hv : GaAt w v l) :
    Calls Try.prog 26 #[chnV c, v, .int .i64 a, .int .i64 b] w fun e w' => e = .returned (runV (runM c l a b)) ∧ Below w.heap.size w w' := by
  have hb0 := ((Below.refl w.heap.size w).alloc (Nat.le_refl _) (Obj.cells #[.int .i64 c.n, .int .i64 c.pi, .int .i64 c.li] 23)).alloc (by simp only [size_alloc]; omega) (Obj.cells #[.int .i64 0, .int .i64 0] 37)
  have k0 := block_alloc (block_new w (Obj.cells #[.int .i64 c.n, .int .i64 c.pi, .int .i64 c.li] 23) w.heap.size rfl) (Obj.cells #[.int .i64 0, .int .i64 0] 37)
  have k1 := block_new (w.alloc (Obj.cells #[.int .i64 c.n, .int .i64 c.pi, .int .i64 c.li] 23)) (Obj.cells #[.int .i64 0, .int .i64 0] 37) (w.heap.size + 1) (by simp only [size_alloc])
  have HV := Lib.hid (hv.below hb0 (Nat.le_refl _))
  obtain ⟨va, cap, rfl, hn, hcap, hc⟩ := hv
  clear hc
  have HB := Lib.hid hb0
  have K0 := Lib.hid k0
  have K1 := Lib.hid k1
  clear hb0 k0 k1
  go_enter Try.func26, Try.ntmps26
  go_wp2_with fail
  generalize (w.alloc (Obj.cells #[.int .i64 c.n, .int .i64 c.pi, .int .i64 c.li] 23)).alloc (Obj.cells #[.int .i64 0, .int .i64 0] 37) = wA at *
  have hce := block_cell K0.out
  go_wp2_with fail
  refine (rchecked_any c l _ _ _ _ HV.out).mono ?_
  rintro e w1 ⟨hb1, h⟩
  have kE := (hb1.block _ (lt_of_block K1.out)).trans K1.out
  have z0 := lt_of_block kE
  have c1 := block_cell kE
  have f1 := block_free kE
  have HBW := Lib.hid (HB.out.trans (hb1.mono HB.out.size))
  have KE := Lib.hid kE
  clear hb1 kE hce
  rcases h with ⟨hm, rfl⟩ | ⟨hm, hd, cp, G, C, M, rfl, hN, hM⟩
  · have HR := Lib.hid (run_bad hm)
    generalize CkM c l a b = m at *
    go_wp2
    refine bodyPost_ret (v := runV ⟨0, 0, m⟩) ?_ rfl ⟨?_, ?_⟩
    · simp (maxDischargeDepth := 8) [results, Try.results26, go_sem, c1]
    · rw [HR.out]
    · repeat' (first | exact HBW.out | (with_reducible refine Below.drew ?_) | (with_reducible refine Below.alloc ?_ ?_ _) | (with_reducible refine Below.setCell ?_ ?_ _))
      all_goals (first | omega | (simp; done) | (simp; omega))
  · have HR := Lib.hid (run_good hm)
    obtain ⟨hchk, ha, hab, hbn⟩ := crun_zero (ck_zero hm).1
    have n24 := (chk_goks hchk).1.n2
    obtain ⟨a, rfl⟩ : ∃ m : Nat, a = m := ⟨a.toNat, by omega⟩
    obtain ⟨b, rfl⟩ : ∃ m : Nat, b = m := ⟨b.toNat, by omega⟩
    have m1 := hM b a (by omega) (by omega)
    have m2 := hM a b (by omega) (by omega)
    have r1 := ck_small hm (i := b) (k := a) (by omega) (by omega)
    rw [← m1] at r1
    simp only [lowM, highM, Int.toNat_natCast] at HR
    rw [← m1, ← m2] at HR
    have HN := Lib.hid hN
    clear m1 m2 hM hN hm hchk
    go_wp2_with fail
    refine (nrun_any M c.n.toNat hd cp G C a b _ HN.out (by omega) (by omega) (by omega) (by omega) (by omega)).mono ?_
    rintro e w3 ⟨rfl, hb3⟩
    have kS := (hb3.block _ (lt_of_block KE.out)).trans KE.out
    have z1 := lt_of_block kS
    clear c1 f1
    have c1 := block_cell kS
    have f1 := block_free kS
    have hbw3 := HBW.out.trans (hb3.mono HBW.out.size)
    clear kS hb3
    go_wp2
    refine bodyPost_ret (v := runV ⟨-M b a, M a b, 0⟩) ?_ rfl ⟨?_, ?_⟩
    · simp (maxDischargeDepth := 8) [results, Try.results26, go_sem, c1]
    · rw [HR.out]
    · repeat' (first | exact hbw3 | (with_reducible refine Below.drew ?_) | (with_reducible refine Below.alloc ?_ ?_ _) | (with_reducible refine Below.setCell ?_ ?_ _))
      all_goals (first | omega | (simp; done) | (simp; omega))

end Go.Proofs.Ytkahhclmmlkpjaa
