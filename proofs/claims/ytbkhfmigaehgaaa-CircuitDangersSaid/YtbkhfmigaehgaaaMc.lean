/- CircuitOrder walked. -/
import Derived.Test.YtbkhfmigaehgaaaMb
namespace Go.Proofs.Ytbkhfmigaehgaaa
open Go.RowKit

/-- A set and any number have a part of the set in common. -/
theorem and_any (a : Nat) (x : Int) (ha : a < 1048576) : ∃ r : Nat, bits .and .i64 (a : Int) x = r ∧ r < 1048576 ∧ (∀ i, r.testBit i = true → a.testBit i = true) ∧ r ≤ a := by
  have hle : a &&& (BitVec.ofInt 64 x).toNat ≤ a := Nat.and_le_left
  refine ⟨a &&& (BitVec.ofInt 64 x).toNat, ?_, by omega, fun i hi => ?_, hle⟩
  · show IntKind.i64.wrap ((BitVec.ofInt 64 (a : Int) &&& BitVec.ofInt 64 x).toNat : Int) = _
    rw [BitVec.toNat_and, ofInt_i64 a (by omega)]
    exact wrap_i64_in (by omega) (by omega)
  · rw [Nat.testBit_and, Bool.and_eq_true] at hi
    exact hi.1

theorem setB_le {n m k : Nat} (h : setB (n : Int) m = true) (hk : k ≤ n) : setB (k : Int) m = true := by
  unfold setB at *
  simp only [decide_eq_true_eq] at *
  omega

theorem setB_or {a b m : Nat} (h1 : setB (a : Int) m = true) (h2 : setB (b : Int) m = true) : setB ((a ||| b : Nat) : Int) m = true := by
  unfold setB at *
  simp only [decide_eq_true_eq] at *
  have e : ((2 : Int) ^ m) = ((2 ^ m : Nat) : Int) := by simp
  have := Nat.or_lt_two_pow (n := m) (x := a) (y := b) (by omega) (by omega)
  omega

theorem run_e_ok {c : Cir} {h k o : Int} (hv : validB c = true) (he : (runC c h k o).e = 0) : setB h c.hz.toNat = true ∧ setB k c.sw.length = true ∧ setB o c.sw.length = true := by
  unfold runC at he
  rw [if_pos hv] at he
  split at he
  · rename_i hs
    simp only [Bool.and_eq_true] at hs
    exact ⟨hs.1.1, hs.1.2, hs.2⟩
  · cases he

theorem run_e_arg {c : Cir} {h k o : Int} (hv : validB c = true) (he : ¬ (runC c h k o).e = 0) : runC c h k o = ⟨false, 1⟩ := by
  unfold runC at *
  rw [if_pos hv] at *
  split at he
  · rename_i hs; exact absurd rfl he
  · rename_i hs; rw [if_neg hs]

set_option maxRecDepth 100000 in
set_option maxHeartbeats 8000000 in
theorem lawOrder_any (c : Cir) (sv wv : Value) (h k o h2 k2 o2 : Int) (w : World) (hv : CirAt w sv wv c) :
    Calls Try.prog 9 #[cirV c sv wv, staV h k o, staV h2 k2 o2] w fun e w' => e = .returned (.bool true) ∧ Below w.heap.size w w' := by
  have HB := Lib.hid (blw3 w (cirO c sv wv) (staO h k o) (staO h2 k2 o2))
  have K0 := Lib.hid (three_0 w (cirO c sv wv) (staO h k o) (staO h2 k2 o2))
  have K1 := Lib.hid (three_1 w (cirO c sv wv) (staO h k o) (staO h2 k2 o2))
  have K2 := Lib.hid (three_2 w (cirO c sv wv) (staO h k o) (staO h2 k2 o2))
  have HV := Lib.hid (hv.below HB.out (Nat.le_refl _))
  go_enter Try.func9, Try.ntmps9
  go_wp2_with fail
  generalize ((w.alloc (cirO c sv wv)).alloc (staO h k o)).alloc (staO h2 k2 o2) = wA at *
  refine (far_any c sv wv _ HV.out).mono ?_
  rintro e w1 ⟨q, rfl, hb1⟩
  have HB1 := Lib.hid hb1
  clear hb1
  cases q
  rotate_left
  · go_wp2_with fail
    refine (works_any _).mono ?_
    rintro e wz ⟨rfl, hbz⟩
    go_wp2_with fail
    go_ret
    exact ⟨rfl, HB.out.trans ((HB1.out.trans (hbz.mono HB1.out.size)).mono HB.out.size)⟩
  have c0 := block_cell (keepZ K0.out HB1.out)
  go_wp2_with fail
  refine (rcheck_any c sv wv _ (HV.out.below HB1.out (Nat.le_refl _))).mono ?_
  rintro e w2 ⟨rfl, hb2⟩
  have HB2 := Lib.hid (HB1.out.trans (hb2.mono HB1.out.size))
  clear hb2
  clear c0
  cases hq : validB c
  · have HR0 := Lib.hid (chkC_bad hq)
    clear hq
    rw [← HR0.out]
    go_wp2_with fail
    refine (works_any _).mono ?_
    rintro e wz ⟨rfl, hbz⟩
    go_wp2_with fail
    go_ret
    exact ⟨rfl, HB.out.trans ((HB2.out.trans (hbz.mono HB2.out.size)).mono HB.out.size)⟩
  have HR0 := Lib.hid (chkC_ok hq)
  have HQ := Lib.hid hq
  have HC := Lib.hid (cval hq)
  have s12 := (cval hq).s2
  have hz8 := (cval hq).h2
  clear hq
  rw [← HR0.out]
  have c0 := block_cell (keepZ K0.out HB2.out)
  have c1 := block_cell (keepZ K1.out HB2.out)
  go_wp2_with fail
  refine (cruns_any c sv wv h k o _ (HV.out.below HB2.out (Nat.le_refl _))).mono ?_
  rintro e w3 ⟨rfl, hb3⟩
  have HB3 := Lib.hid (HB2.out.trans (hb3.mono HB2.out.size))
  clear hb3
  clear c0 c1
  by_cases he : (runC c h k o).e = 0
  rotate_left
  · rw [run_e_arg HQ.out he]
    clear he
    go_wp2_with fail
    refine (works_any _).mono ?_
    rintro e wz ⟨rfl, hbz⟩
    go_wp2_with fail
    go_ret
    exact ⟨rfl, HB.out.trans ((HB3.out.trans (hbz.mono HB3.out.size)).mono HB.out.size)⟩
  obtain ⟨g1, g2, g3⟩ := run_e_ok HQ.out he
  have HRK := Lib.hid (run_ok HQ.out g1 g2 g3)
  rw [HRK.out]
  have G1 := Lib.hid g1
  have G2 := Lib.hid g2
  have G3 := Lib.hid g3
  obtain ⟨hn, rfl, hn20⟩ := set_nat g1 (by omega)
  obtain ⟨kn, rfl, kn20⟩ := set_nat g2 (by omega)
  obtain ⟨on, rfl, on20⟩ := set_nat g3 (by omega)
  clear g1 g2 g3 he
  generalize hcq : cond c ⟨(hn : Int).toNat, (kn : Int).toNat, (on : Int).toNat⟩ 24 0 = cq
  have HCQ := Lib.hid hcq
  clear hcq
  have c0 := block_cell (keepZ K0.out HB3.out)
  have c2 := block_cell (keepZ K2.out HB3.out)
  go_wp2_with fail
  refine (rswi_any c sv wv k2 _ (HV.out.below HB3.out (Nat.le_refl _)) HC.out).mono ?_
  rintro e w4 ⟨rfl, hb4⟩
  have HB4 := Lib.hid (HB3.out.trans (hb4.mono HB3.out.size))
  clear hb4
  clear c0 c2
  cases hs : setB k2 c.sw.length
  · clear hs
    go_wp2_with fail
    refine (works_any _).mono ?_
    rintro e wz ⟨rfl, hbz⟩
    go_wp2_with fail
    go_ret
    exact ⟨rfl, HB.out.trans ((HB4.out.trans (hbz.mono HB4.out.size)).mono HB.out.size)⟩
  have GS := Lib.hid hs
  obtain ⟨k2n, rfl, k2n20⟩ := set_nat hs (by omega)
  clear hs
  obtain ⟨r1, e1, r120, r1s, r1l⟩ := and_any hn h2 hn20
  obtain ⟨r3, e3, r320, r3s, r3l⟩ := and_any on o2 on20
  have e2 := i64_or_nat kn k2n (by omega) (by omega)
  have HR2 := Lib.hid (run_ok (c := c) (h := r1) (k := ((kn ||| k2n : Nat) : Int)) (o := r3) HQ.out (setB_le G1.out r1l) (setB_or G2.out GS.out) (setB_le G3.out r3l))
  have HMON := Lib.hid (show cq = true → cond c ⟨r1, kn ||| k2n, r3⟩ 24 0 = true from fun hc => by
    rw [← HCQ.out] at hc
    exact cond_mono (s := ⟨hn, kn, on⟩) (t := ⟨r1, kn ||| k2n, r3⟩) ⟨r1s, or_left kn k2n, r3s⟩ 24 0 hc)
  clear r1s r3s r120 r320 r1l r3l
  generalize hkk : kn ||| k2n = kk at *
  clear hkk
  have c0 := block_cell (keepZ K0.out HB4.out)
  have c1 := block_cell (keepZ K1.out HB4.out)
  have c2 := block_cell (keepZ K2.out HB4.out)
  go_wp2_with fail
  clear e1 e2 e3
  refine (cruns_any c sv wv r1 kk r3 _ (HV.out.below HB4.out (Nat.le_refl _))).mono ?_
  rintro e w5 ⟨rfl, hb5⟩
  have HB5 := Lib.hid (HB4.out.trans (hb5.mono HB4.out.size))
  clear hb5
  clear c0 c1 c2
  rw [HR2.out]
  have HMON2 := Lib.hid (show cq = true → cond c ⟨(r1 : Int).toNat, (kk : Int).toNat, (r3 : Int).toNat⟩ 24 0 = true from HMON.out)
  generalize cond c ⟨(r1 : Int).toNat, (kk : Int).toNat, (r3 : Int).toNat⟩ 24 0 = cq2 at *
  cases cq
  · go_wp2_with fail
    refine (works_any _).mono ?_
    rintro e wz ⟨rfl, hbz⟩
    go_wp2_with fail
    go_ret
    exact ⟨rfl, HB.out.trans ((HB5.out.trans (hbz.mono HB5.out.size)).mono HB.out.size)⟩
  · obtain rfl := HMON2.out rfl
    go_wp2_with fail
    refine (works_any _).mono ?_
    rintro e wz ⟨rfl, hbz⟩
    go_wp2_with fail
    go_ret
    exact ⟨rfl, HB.out.trans ((HB5.out.trans (hbz.mono HB5.out.size)).mono HB.out.size)⟩

end Go.Proofs.Ytbkhfmigaehgaaa
