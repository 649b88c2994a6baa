/- Walks of layer 2 (chain): a net's run, and checked, Run of the specification. -/
import Derived.Test.YtkahhclmmlkpjaaVb
import Derived.Test.YtkahhclmmlkpjaaKg
namespace Go.Proofs.Ytkahhclmmlkpjaa
open Go.RowKit

set_option maxRecDepth 100000 in
set_option maxHeartbeats 1000000 in
theorem nrun_any (M : Net) (n hd c : Nat) (G C : Nat → Nat) (i k : Nat) (w : World) (hN : NetB w n hd G C M) (hi : i ≤ n) (hk : k ≤ n) (_hn : n ≤ 24) (h1 : -1000000000000000 ≤ M k i) (h2 : M k i ≤ 1000000000000000) :
    Calls Try.prog 70 #[.slice (some ⟨hd, 0, none⟩) (n + 1) c, .int .i64 i, .int .i64 k] w fun e w' => e = .returned (.agg #[.int .i64 (-M k i), .int .i64 (M i k)]) ∧ Below w.heap.size w w' := by
  obtain ⟨p1, p2, p3⟩ := hN.2.1 k hk
  obtain ⟨q1, q2, q3⟩ := hN.2.1 i hi
  have c1 := (hN.2.2.2 k i hk hi).1
  have c2 := (hN.2.2.2 i k hi hk).1
  have hb := hN.1
  have i1 : (0 : Int) ≤ i := by omega
  have i2 : (i : Int) < (n : Int) + 1 := by omega
  have k1 : (0 : Int) ≤ k := by omega
  have k2 : (k : Int) < (n : Int) + 1 := by omega
  clear hN p3 q3
  go_enter Try.func70, Try.ntmps70
  go_wp2_with fail
  refine wp_region_still_tail 16 (by kernel_rfl) (by kernel_rfl) ?_
  change wpStill _ _ (World.drew _) (fun a' => wpList _ _ _ _ a' (World.drew _)) _ _
  simp only [List.take_succ_cons, List.take_zero, List.drop_succ_cons, List.drop_zero]
  repeat still_step
  refine wpStill_nil ?_
  go_wp2
  exact bodyPost_ret (v := .agg #[.int .i64 (-M k i), .int .i64 (M i k)]) (by simp [results, Try.results70, go_sem]) rfl ⟨rfl, ((Below.refl _ _).alloc (Nat.le_refl _) _).drew⟩

/-- The answer of checked. -/
def CkM (c : Chn) (l : List Gau) (a b : Int) : Int := if crunM c l a b = 0 then (if agreeB c l = true then 0 else 3) else crunM c l a b
def CkRes (c : Chn) (l : List Gau) (a b : Int) (w : World) (e : Ending) (w' : World) : Prop :=
  Below w.heap.size w w' ∧ ((CkM c l a b ≠ 0 ∧ e = .returned (.tuple #[.slice none 0 0, .int .i64 (CkM c l a b)])) ∨
    (CkM c l a b = 0 ∧ ∃ (hd cp : Nat) (G C : Nat → Nat) (M : Net), e = .returned (.tuple #[.slice (some ⟨hd, 0, none⟩) (c.n.toNat + 1) cp, .int .i64 0]) ∧ NetB w' c.n.toNat hd G C M ∧
      ∀ i k, i ≤ c.n.toNat → k ≤ c.n.toNat → M i k = RM c l i k))

theorem ck_zero {c : Chn} {l : List Gau} {a b : Int} (h : CkM c l a b = 0) : crunM c l a b = 0 ∧ agreeB c l = true := by
  unfold CkM at h
  split at h
  · split at h
    · refine ⟨?_, ?_⟩ <;> assumption
    · omega
  · omega

theorem crun_two {c : Chn} {l : List Gau} {a b : Int} (h : chkM c l = 0) : crunM c l a b = if 0 ≤ a ∧ a ≤ b ∧ b ≤ c.n then 0 else 1 := by unfold crunM; rw [if_pos h]

theorem rbuildC_any (c : Chn) (l : List Gau) (v : Value) (w : World) (hv : GaAt w v l) (hc : COk c) (hl : GOks c l) (hlen : l.length ≤ 100) :
    Calls Try.prog 72 #[chnV c, v] w fun e w' => ∃ (hd cp : Nat) (G C : Nat → Nat) (M1 : Net), e = .returned (.tuple #[.slice (some ⟨hd, 0, none⟩) (c.n.toNat + 1) cp, .bool (agreeB c l)]) ∧ Below w.heap.size w w' ∧ NetB w' c.n.toNat hd G C M1 ∧
      (agreeB c l = true → ∀ i k, i ≤ c.n.toNat → k ≤ c.n.toNat → M1 i k = RM c l i k) := by
  obtain ⟨n, pi, li⟩ := c
  obtain ⟨n, rfl⟩ : ∃ m : Nat, n = m := ⟨n.toNat, by have := hc.n1; dsimp only at this; omega⟩
  exact rbuild_any n pi li l v w hv hc hl hlen

set_option maxRecDepth 100000 in
set_option maxHeartbeats 4000000 in
theorem rchecked_any (c : Chn) (l : List Gau) (v : Value) (a b : Int) (w : World) (hv : GaAt w v l) :
    Calls Try.prog 69 #[chnV c, v, .int .i64 a, .int .i64 b] w (CkRes c l a b w) := by
  have hb0 := (Below.refl w.heap.size w).alloc (Nat.le_refl _) (Obj.cells #[.int .i64 c.n, .int .i64 c.pi, .int .i64 c.li] 23)
  have k0 := block_new w (Obj.cells #[.int .i64 c.n, .int .i64 c.pi, .int .i64 c.li] 23) w.heap.size rfl
  have hsz : (w.alloc (Obj.cells #[.int .i64 c.n, .int .i64 c.pi, .int .i64 c.li] 23)).heap.size = w.heap.size + 1 := size_alloc _ _
  have K0 := Lib.hid k0
  have HB := Lib.hid hb0
  have HSZ := Lib.hid hsz
  clear k0 hb0 hsz
  have HV := Lib.hid (hv.below HB.out (Nat.le_refl _))
  obtain ⟨va, cap, rfl, hn, hcap, hc⟩ := hv
  clear hc
  by_cases hq : chkM c l = 0
  · have HQ := Lib.hid hq
    have HR := Lib.hid (crun_two (a := a) (b := b) hq)
    obtain ⟨hck1, hck2, hck3⟩ := chk_goks hq
    clear hq
    have HC1 := Lib.hid hck1
    have HC2 := Lib.hid hck2
    have hl : l.length ≤ 100 := by omega
    clear hck1 hck2 hck3
    by_cases h0 : a < 0
    · have HE := Lib.hid (show CkM c l a b = 1 by have e : crunM c l a b = 1 := by { rw [HR.out, if_neg (by omega)] }; unfold CkM; rw [e]; rfl)
      go_enter Try.func69, Try.ntmps69
      go_wp2_with fail
      generalize hwA : w.alloc (Obj.cells #[.int .i64 c.n, .int .i64 c.pi, .int .i64 c.li] 23) = wA at *
      clear hwA
      have hce := block_cell K0.out
      go_wp2_with fail
      refine (rcheck_any c l _ _ HV.out).mono ?_
      rintro e w1 ⟨rfl, hb1⟩
      rw [HQ.out]
      clear hce
      have hce := block_cell ((hb1.block _ (lt_of_block K0.out)).trans K0.out)
      have hz := Nat.lt_of_lt_of_le (lt_of_block K0.out) hb1.size
      go_wp2
      refine bodyPost_ret (v := .tuple #[.slice none 0 0, .int .i64 1]) (by simp [results, Try.results69, go_sem]) rfl ⟨HB.out.trans (hb1.mono HB.out.size), .inl ⟨by rw [HE.out]; decide, by rw [HE.out]⟩⟩
    · by_cases h1 : a ≤ b
      · by_cases h2 : b ≤ c.n
        · have HE := Lib.hid (show crunM c l a b = 0 by rw [HR.out, if_pos (by omega)])
          go_enter Try.func69, Try.ntmps69
          go_wp2_with fail
          generalize hwA : w.alloc (Obj.cells #[.int .i64 c.n, .int .i64 c.pi, .int .i64 c.li] 23) = wA at *
          clear hwA
          have hce := block_cell K0.out
          go_wp2_with fail
          refine (rcheck_any c l _ _ HV.out).mono ?_
          rintro e w1 ⟨rfl, hb1⟩
          rw [HQ.out]
          clear hce
          have hce := block_cell ((hb1.block _ (lt_of_block K0.out)).trans K0.out)
          have hz := Nat.lt_of_lt_of_le (lt_of_block K0.out) hb1.size
          have HB1 := Lib.hid hb1
          have HV1 := Lib.hid (HV.out.below hb1 (Nat.le_refl _))
          clear hb1
          go_wp2_with fail
          refine (rbuildC_any c l _ _ HV1.out HC1.out HC2.out hl).mono ?_
          rintro e w2 ⟨hd, cp, G, C, M1, rfl, hb2, hN, hM⟩
          have HBW := Lib.hid (HB.out.trans ((HB1.out.trans (hb2.mono HB1.out.size)).mono HB.out.size))
          have HN := Lib.hid hN
          have HM := Lib.hid hM
          clear hb2 hN hM hce hz
          cases hag : agreeB c l
          · have HF := Lib.hid (show CkM c l a b = 3 by unfold CkM; rw [HE.out, if_pos rfl, if_neg (by rw [hag]; decide)])
            clear hag
            go_wp2
            refine bodyPost_ret (v := .tuple #[.slice none 0 0, .int .i64 3]) (by simp [results, Try.results69, go_sem]) rfl ⟨HBW.out, .inl ⟨by rw [HF.out]; decide, by rw [HF.out]⟩⟩
          · have HF := Lib.hid (show CkM c l a b = 0 by unfold CkM; rw [HE.out, if_pos rfl, if_pos hag])
            have HM2 := Lib.hid (HM.out hag)
            clear hag
            go_wp2
            refine bodyPost_ret (v := .tuple #[.slice (some ⟨hd, 0, none⟩) (c.n.toNat + 1) cp, .int .i64 0]) (by simp [results, Try.results69, go_sem]) rfl ⟨HBW.out, .inr ⟨HF.out, hd, cp, G, C, M1, rfl, HN.out, HM2.out⟩⟩
        · have HE := Lib.hid (show CkM c l a b = 1 by have e : crunM c l a b = 1 := by { rw [HR.out, if_neg (by omega)] }; unfold CkM; rw [e]; rfl)
          go_enter Try.func69, Try.ntmps69
          go_wp2_with fail
          generalize hwA : w.alloc (Obj.cells #[.int .i64 c.n, .int .i64 c.pi, .int .i64 c.li] 23) = wA at *
          clear hwA
          have hce := block_cell K0.out
          go_wp2_with fail
          refine (rcheck_any c l _ _ HV.out).mono ?_
          rintro e w1 ⟨rfl, hb1⟩
          rw [HQ.out]
          clear hce
          have hce := block_cell ((hb1.block _ (lt_of_block K0.out)).trans K0.out)
          have hz := Nat.lt_of_lt_of_le (lt_of_block K0.out) hb1.size
          go_wp2
          refine bodyPost_ret (v := .tuple #[.slice none 0 0, .int .i64 1]) (by simp [results, Try.results69, go_sem]) rfl ⟨HB.out.trans (hb1.mono HB.out.size), .inl ⟨by rw [HE.out]; decide, by rw [HE.out]⟩⟩
      · have HE := Lib.hid (show CkM c l a b = 1 by have e : crunM c l a b = 1 := by { rw [HR.out, if_neg (by omega)] }; unfold CkM; rw [e]; rfl)
        go_enter Try.func69, Try.ntmps69
        go_wp2_with fail
        generalize hwA : w.alloc (Obj.cells #[.int .i64 c.n, .int .i64 c.pi, .int .i64 c.li] 23) = wA at *
        clear hwA
        have hce := block_cell K0.out
        go_wp2_with fail
        refine (rcheck_any c l _ _ HV.out).mono ?_
        rintro e w1 ⟨rfl, hb1⟩
        rw [HQ.out]
        clear hce
        have hce := block_cell ((hb1.block _ (lt_of_block K0.out)).trans K0.out)
        have hz := Nat.lt_of_lt_of_le (lt_of_block K0.out) hb1.size
        go_wp2
        refine bodyPost_ret (v := .tuple #[.slice none 0 0, .int .i64 1]) (by simp [results, Try.results69, go_sem]) rfl ⟨HB.out.trans (hb1.mono HB.out.size), .inl ⟨by rw [HE.out]; decide, by rw [HE.out]⟩⟩
  · have HQ := Lib.hid (show CkM c l a b = chkM c l by unfold CkM; rw [← crun_bad (a := a) (b := b) hq, if_neg hq])
    have HN := Lib.hid hq
    go_enter Try.func69, Try.ntmps69
    go_wp2_with fail
    generalize hwA : w.alloc (Obj.cells #[.int .i64 c.n, .int .i64 c.pi, .int .i64 c.li] 23) = wA at *
    clear hwA
    have hce := block_cell K0.out
    go_wp2_with fail
    refine (rcheck_any c l _ _ HV.out).mono ?_
    rintro e w1 ⟨rfl, hb1⟩
    generalize chkM c l = m at *
    go_wp2
    refine bodyPost_ret (v := .tuple #[.slice none 0 0, .int .i64 m]) (by simp [results, Try.results69, go_sem]) rfl ⟨HB.out.trans (hb1.mono HB.out.size), .inl ⟨by rw [HQ.out]; exact HN.out, by rw [HQ.out]⟩⟩

end Go.Proofs.Ytkahhclmmlkpjaa
