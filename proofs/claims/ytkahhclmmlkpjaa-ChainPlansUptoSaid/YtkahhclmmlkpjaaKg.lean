/- Walks of layer 2 (chain): checkRun and Run of the program. -/
import Derived.Test.YtkahhclmmlkpjaaKf
import Derived.Test.YtkahhclmmlkpjaaKd
namespace Go.Proofs.Ytkahhclmmlkpjaa
open Go.RowKit

def crunM (c : Chn) (l : List Gau) (a b : Int) : Int := if chkM c l = 0 then (if 0 ≤ a ∧ a ≤ b ∧ b ≤ c.n then 0 else 1) else chkM c l

theorem crun_bad {c : Chn} {l : List Gau} {a b : Int} (h : ¬ chkM c l = 0) : chkM c l = crunM c l a b := by unfold crunM; rw [if_neg h]
theorem crun_arg {c : Chn} {l : List Gau} {a b : Int} (h : chkM c l = 0) (h2 : ¬ (0 ≤ a ∧ a ≤ b ∧ b ≤ c.n)) : 1 = crunM c l a b := by unfold crunM; rw [if_pos h, if_neg h2]
theorem crun_ok {c : Chn} {l : List Gau} {a b : Int} (h : chkM c l = 0) (h2 : 0 ≤ a ∧ a ≤ b ∧ b ≤ c.n) : 0 = crunM c l a b := by unfold crunM; rw [if_pos h, if_pos h2]

set_option maxHeartbeats 1000000 in
theorem kcrun_any (c : Chn) (l : List Gau) (v : Value) (a b : Int) (w : World) (hv : GaAt w v l) :
    Calls Try.prog 71 #[chnV c, v, .int .i64 a, .int .i64 b] w fun e w' => e = .returned (.int .i64 (crunM c l a b)) ∧ Below w.heap.size w w' := by
  have hb0 := (Below.refl w.heap.size w).alloc (Nat.le_refl _) (Obj.cells #[.int .i64 c.n, .int .i64 c.pi, .int .i64 c.li] 23)
  have k0 := block_new w (Obj.cells #[.int .i64 c.n, .int .i64 c.pi, .int .i64 c.li] 23) w.heap.size rfl
  have hsz : (w.alloc (Obj.cells #[.int .i64 c.n, .int .i64 c.pi, .int .i64 c.li] 23)).heap.size = w.heap.size + 1 := size_alloc _ _
  have K0 := Lib.hid k0
  have HB := Lib.hid hb0
  have HSZ := Lib.hid hsz
  clear k0 hb0 hsz
  have hv1 := hv.below HB.out (Nat.le_refl _)
  have HV := Lib.hid hv1
  obtain ⟨va, cap, rfl, hn, hcap, hc⟩ := hv
  clear hc hv1
  by_cases hq : chkM c l = 0
  · have HQ := Lib.hid hq
    clear hq
    cases h1 : decide (0 ≤ b ∧ b ≤ c.n) <;> cases h2 : decide (0 ≤ a ∧ a ≤ b)
    all_goals
      have H1 := Lib.hid h1
      have H2 := Lib.hid h2
      simp only [decide_eq_true_eq, decide_eq_false_iff_not] at h1 h2
      first
        | have HR := Lib.hid (crun_ok (a := a) (b := b) HQ.out (by omega))
        | have HR := Lib.hid (crun_arg (a := a) (b := b) HQ.out (by omega))
      clear h1 h2
      go_enter Try.func71, Try.ntmps71
      go_wp2_with fail
      generalize hwA : w.alloc (Obj.cells #[.int .i64 c.n, .int .i64 c.pi, .int .i64 c.li] 23) = wA at *
      clear hwA
      have hce := block_cell K0.out
      go_wp2_with fail
      refine (kcheck_any c l _ _ HV.out).mono ?_
      rintro e w1 ⟨rfl, hb1⟩
      rw [HQ.out]
      clear hce
      have hce := block_cell ((hb1.block _ (lt_of_block K0.out)).trans K0.out)
      have HB1 := Lib.hid hb1
      clear hb1
      go_wp2_with (go_at_call 60; (first | with_reducible refine (kwithin_is _ b 0 c.n _ H1.out).mono ?_ | with_reducible refine (kwithin_is _ a 0 b _ H2.out).mono ?_); rintro e w' ⟨rfl, rfl⟩)
      go_ret
      exact ⟨ret_int HR.out, HB.out.trans (HB1.out.mono HB.out.size)⟩
  · have HQ := Lib.hid (crun_bad (a := a) (b := b) hq)
    go_enter Try.func71, Try.ntmps71
    go_wp2_with fail
    generalize hwA : w.alloc (Obj.cells #[.int .i64 c.n, .int .i64 c.pi, .int .i64 c.li] 23) = wA at *
    clear hwA
    have hce := block_cell K0.out
    go_wp2_with fail
    refine (kcheck_any c l _ _ HV.out).mono ?_
    rintro e w1 ⟨rfl, hb1⟩
    go_wp2
    go_ret
    exact ⟨ret_int HQ.out, HB.out.trans (hb1.mono HB.out.size)⟩

/-- The answer of Run: the span, and the error. -/
structure RunA where
  lo : Int
  hi : Int
  e : Int
def runM (c : Chn) (l : List Gau) (a b : Int) : RunA :=
  if crunM c l a b = 0 then (if agreeB c l = true then ⟨lowM c l a.toNat b.toNat, highM c l a.toNat b.toNat, 0⟩ else ⟨0, 0, 3⟩) else ⟨0, 0, crunM c l a b⟩
abbrev runV (r : RunA) : Value := .tuple #[.agg #[.int .i64 r.lo, .int .i64 r.hi], .int .i64 r.e]

theorem crun_zero {c : Chn} {l : List Gau} {a b : Int} (h : crunM c l a b = 0) : chkM c l = 0 ∧ 0 ≤ a ∧ a ≤ b ∧ b ≤ c.n := by
  unfold crunM at h
  split at h
  · split at h
    · refine ⟨?_, ?_⟩ <;> assumption
    · omega
  · omega

theorem chk_goks {c : Chn} {l : List Gau} (h : chkM c l = 0) : COk c ∧ GOks c l ∧ l.length ≤ 40 := by
  obtain ⟨h1, h2, h3⟩ := chk_ok h
  exact ⟨h1, fun g hg => (h3 g hg).1, h2⟩

theorem sel_all (l : List Gau) : selTo l (fun _ => true) l.length = l := by rw [selTo_all l _ (Nat.le_refl _), List.take_length]

set_option maxHeartbeats 400000 in
theorem all_any (x : Int) (w : World) : Calls Try.prog 67 #[.int .i64 x] w fun e w' => e = .returned (.bool true) ∧ w = w' := by
  go_enter Try.func67, Try.ntmps67
  go_wp2
  go_ret
  exact ⟨rfl, rfl⟩

/-- follow with all gauges. -/
theorem follow_any (n : Nat) (pi li : Int) (l : List Gau) (v : Value) (w : World) (hv : GaAt w v l) (h : chkM (CN n pi li) l = 0) :
    Calls Try.prog 66 #[chnV (CN n pi li), v, .func (.func 67) #[] #[]] w (FollowRes n pi li l w) := by
  obtain ⟨h1, h2, h3⟩ := chk_goks h
  have := followAll_any n pi li l v (fun _ => true) w hv h1 h2 (by omega) (fun j w1 _ _ => all_any _ _)
  rwa [sel_all] at this

theorem agree_small {n : Nat} {pi li : Int} {l : List Gau} (h : chkM (CN n pi li) l = 0) {i k : Nat} (hi : i ≤ n) (hk : k ≤ n) : -335544320000000 ≤ RM (CN n pi li) l i k ∧ RM (CN n pi li) l i k ≤ 1099511627776 := by
  obtain ⟨h1, h2, h3⟩ := chk_goks h
  exact RM_small h1 h2 (by simpa [CN] using hi) (by simpa [CN] using hk)

theorem netC_sizes (M M' : Net) : (netC M).size = (netC M').size := by rw [netC_size, netC_size]

/-- The whole bounds stored into the variable that was made last. -/
theorem storeBounds (M1 : Net) (W : World) : (storeCells ⟨W.heap.size, 0, none⟩ (netC M1).toList 0).run Try.prog (W.alloc (.cells (netC fun _ _ => 0) 100)) = .ok () (W.alloc (.cells (netC M1) 100)) :=
  run_storeCells_new (P := Try.prog) W 100 (netC fun _ _ => 0) (netC M1) (boundsSize M1) (netC_sizes _ _) (netC_one M1)

set_option maxRecDepth 100000 in
set_option maxHeartbeats 1000000 in
theorem krun_any (c : Chn) (l : List Gau) (v : Value) (a b : Int) (w : World) (hv : GaAt w v l) :
    Calls Try.prog 25 #[chnV c, v, .int .i64 a, .int .i64 b] w fun e w' => e = .returned (runV (runM c l a b)) ∧ Below w.heap.size w w' := by
  have hb0 := ((Below.refl w.heap.size w).alloc (Nat.le_refl _) (Obj.cells #[.int .i64 c.n, .int .i64 c.pi, .int .i64 c.li] 23)).alloc (by simp only [size_alloc]; omega) (Obj.cells #[.int .i64 0, .int .i64 0] 37)
  have k0 := block_alloc (block_new w (Obj.cells #[.int .i64 c.n, .int .i64 c.pi, .int .i64 c.li] 23) w.heap.size rfl) (Obj.cells #[.int .i64 0, .int .i64 0] 37)
  have k1 := block_new (w.alloc (Obj.cells #[.int .i64 c.n, .int .i64 c.pi, .int .i64 c.li] 23)) (Obj.cells #[.int .i64 0, .int .i64 0] 37) (w.heap.size + 1) (by simp only [size_alloc])
  have hsz : ((w.alloc (Obj.cells #[.int .i64 c.n, .int .i64 c.pi, .int .i64 c.li] 23)).alloc (Obj.cells #[.int .i64 0, .int .i64 0] 37)).heap.size = w.heap.size + 2 := by simp only [size_alloc]
  have HV := Lib.hid (hv.below hb0 (Nat.le_refl _))
  obtain ⟨va, cap, rfl, hn, hcap, hc⟩ := hv
  clear hc
  have HB := Lib.hid hb0
  have K0 := Lib.hid k0
  have K1 := Lib.hid k1
  have HSZ := Lib.hid hsz
  clear hb0 k0 k1 hsz
  by_cases hq : crunM c l a b = 0
  · have HQ := Lib.hid hq
    obtain ⟨hchk, ha, hab, hbn⟩ := crun_zero hq
    obtain ⟨n, pi, li⟩ := c
    obtain ⟨n, rfl⟩ : ∃ m : Nat, n = m := ⟨n.toNat, by dsimp only at hbn; omega⟩
    obtain ⟨a, rfl⟩ : ∃ m : Nat, a = m := ⟨a.toNat, by omega⟩
    obtain ⟨b, rfl⟩ : ∃ m : Nat, b = m := ⟨b.toNat, by omega⟩
    dsimp only at *
    have HC := Lib.hid (show chkM (CN n pi li) l = 0 from hchk)
    have n24 := (chk_goks hchk).1.n2
    dsimp only at n24
    clear hq hchk
    have hzb := zeroBounds
    go_enter Try.func25, Try.ntmps25
    go_wp2_with fail
    generalize (w.alloc (Obj.cells #[.int .i64 n, .int .i64 pi, .int .i64 li] 23)).alloc (Obj.cells #[.int .i64 0, .int .i64 0] 37) = wA at *
    refine (kcrun_any (CN n pi li) l _ _ _ _ HV.out).mono ?_
    rintro e w1 ⟨rfl, hb1⟩
    rw [HQ.out]
    have c0 := block_cell ((hb1.block _ (lt_of_block K0.out)).trans K0.out)
    go_wp2_with fail
    refine (follow_any n pi li l _ _ (HV.out.below hb1 (Nat.le_refl _)) HC.out).mono ?_
    rintro e w2 ⟨M1, rfl, hb2, hM⟩
    have hb12 := hb1.trans (hb2.mono hb1.size)
    have kE := (hb12.block _ (lt_of_block K1.out)).trans K1.out
    have z0 := lt_of_block kE
    have c1 := block_cell kE
    have f1 := block_free kE
    have KE := Lib.hid kE
    have HBW := Lib.hid (HB.out.trans (hb12.mono HB.out.size))
    have HM := Lib.hid hM
    clear c0 hb1 hb2 hb12 kE hM
    have hst := storeBounds M1
    have hs1 := netC_size M1
    cases hag : agreeB (CN n pi li) l
    · have HR := Lib.hid (show (⟨0, 0, 3⟩ : RunA) = runM (CN n pi li) l a b by unfold runM; rw [if_pos HQ.out, if_neg (by simp [hag])])
      clear hag
      go_wp2
      refine bodyPost_ret (v := .tuple #[.agg #[.int .i64 0, .int .i64 0], .int .i64 3]) ?_ rfl ⟨?_, ?_⟩
      · simp (maxDischargeDepth := 8) [results, Try.results25, go_sem, c1, z0]
      · show Ending.returned (runV ⟨0, 0, 3⟩) = _
        rw [HR.out]
      · repeat' (first | exact HBW.out | (with_reducible refine Below.drew ?_) | (with_reducible refine Below.alloc ?_ ?_ _) | (with_reducible refine Below.setCell ?_ ?_ _))
        all_goals (first | omega | (simp; done) | (simp; omega))
    · have HR := Lib.hid (show (⟨-RM (CN n pi li) l b a, RM (CN n pi li) l a b, 0⟩ : RunA) = runM (CN n pi li) l a b by unfold runM; rw [if_pos HQ.out, if_pos hag]; rfl)
      have m1 := HM.out hag b a (by omega) (by omega)
      have m2 := HM.out hag a b (by omega) (by omega)
      have r1 := agree_small HC.out (i := b) (k := a) (by omega) (by omega)
      rw [← m1] at r1
      rw [← m1, ← m2] at HR
      clear hag m1 m2
      go_wp2_with fail
      refine (brun_any M1 w2.heap.size a b _ (block_new _ _ _ rfl) (by omega) (by omega) (by omega) (by omega)).mono ?_
      rintro e w3 ⟨rfl, hb3⟩
      have kS := (hb3.block (w.heap.size + 1) (by simp only [size_alloc]; omega)).trans (block_alloc KE.out _)
      have c1 := block_cell kS
      have f1 := block_free kS
      have hbw3 := HBW.out.trans ((((Below.refl w2.heap.size w2).alloc (Nat.le_refl _) (.cells (netC M1) 100)).trans (hb3.mono (by simp only [size_alloc]; omega))).mono HBW.out.size)
      clear kS hb3 hst hs1 hzb
      go_wp2
      refine bodyPost_ret (v := runV ⟨-M1 b a, M1 a b, 0⟩) ?_ rfl ⟨?_, ?_⟩
      · simp (maxDischargeDepth := 8) [results, Try.results25, go_sem, c1]
      · rw [HR.out]
      · repeat' (first | exact hbw3 | (with_reducible refine Below.drew ?_) | (with_reducible refine Below.alloc ?_ ?_ _) | (with_reducible refine Below.setCell ?_ ?_ _))
        all_goals (first | omega | (simp; done) | (simp; omega))
  · have HR := Lib.hid (show (⟨0, 0, crunM c l a b⟩ : RunA) = runM c l a b by unfold runM; rw [if_neg hq])
    go_enter Try.func25, Try.ntmps25
    go_wp2_with fail
    generalize (w.alloc (Obj.cells #[.int .i64 c.n, .int .i64 c.pi, .int .i64 c.li] 23)).alloc (Obj.cells #[.int .i64 0, .int .i64 0] 37) = wA at *
    refine (kcrun_any c l _ _ _ _ HV.out).mono ?_
    rintro e w1 ⟨rfl, hb1⟩
    have kE := (hb1.block _ (lt_of_block K1.out)).trans K1.out
    have z0 := lt_of_block kE
    have c1 := block_cell kE
    have f1 := block_free kE
    have HBW := Lib.hid (HB.out.trans (hb1.mono HB.out.size))
    clear hb1 kE
    generalize crunM c l a b = m at *
    go_wp2
    refine bodyPost_ret (v := runV ⟨0, 0, m⟩) ?_ rfl ⟨?_, ?_⟩
    · simp (maxDischargeDepth := 8) [results, Try.results25, go_sem, c1]
    · rw [HR.out]
    · repeat' (first | exact HBW.out | (with_reducible refine Below.drew ?_) | (with_reducible refine Below.alloc ?_ ?_ _) | (with_reducible refine Below.setCell ?_ ?_ _))
      all_goals (first | omega | (simp; done) | (simp; omega))

end Go.Proofs.Ytkahhclmmlkpjaa
