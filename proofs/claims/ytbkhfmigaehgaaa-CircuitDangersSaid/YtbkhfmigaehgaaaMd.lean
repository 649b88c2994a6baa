/- CircuitSingle walked. -/
import Derived.Test.YtbkhfmigaehgaaaMc
namespace Go.Proofs.Ytbkhfmigaehgaaa
open Go.RowKit

theorem critR_is {c : Cir} (h : validB c = true) : critR c = natL (critM c) := by unfold critR; rw [h]; rfl

set_option maxRecDepth 100000 in
set_option maxHeartbeats 8000000 in
theorem lawSingle_any (c : Cir) (sv wv : Value) (sw h k o : Int) (w : World) (hv : CirAt w sv wv c) :
    Calls Try.prog 10 #[cirV c sv wv, .int .i64 sw, staV h k o] w fun e w' => e = .returned (.bool true) ∧ Below w.heap.size w w' := by
  have HB := Lib.hid (blw2 w (cirO c sv wv) (staO h k o))
  have K0 := Lib.hid (two_od w (cirO c sv wv) (staO h k o))
  have K1 := Lib.hid (two_nw w (cirO c sv wv) (staO h k o))
  have HV := Lib.hid (hv.below HB.out (Nat.le_refl _))
  have m5 : (c.sw.length : Int) ≤ 9223372036854775807 := by
    obtain ⟨⟨_, _, _, _, _, _⟩, _⟩ := hv
    omega
  obtain ⟨⟨sa, scap, rfl, _⟩, _⟩ := hv
  go_enter Try.func10, Try.ntmps10
  go_wp2_with fail
  generalize (w.alloc (cirO c (.slice sa c.sw.length scap) wv)).alloc (staO h k o) = wA at *
  refine (far_any c _ wv _ HV.out).mono ?_
  rintro e w1 ⟨q, rfl, hb1⟩
  have HB1 := Lib.hid hb1
  clear hb1
  cases q
  rotate_left
  · go_wp2_with fail
    refine (works_any _).mono ?_
    rintro e wz ⟨rfl, hbz⟩
    go_wp2_with fail
    go_ret
    exact ⟨rfl, HB.out.trans ((HB1.out.trans (hbz.mono HB1.out.size)).mono HB.out.size)⟩
  have c0 := block_cell (keepZ K0.out HB1.out)
  go_wp2_with fail
  refine (rcheck_any c _ wv _ (HV.out.below HB1.out (Nat.le_refl _))).mono ?_
  rintro e w2 ⟨rfl, hb2⟩
  have HB2 := Lib.hid (HB1.out.trans (hb2.mono HB1.out.size))
  clear hb2
  clear c0
  cases hq : validB c
  · have HR0 := Lib.hid (chkC_bad hq)
    clear hq
    rw [← HR0.out]
    go_wp2_with fail
    refine (works_any _).mono ?_
    rintro e wz ⟨rfl, hbz⟩
    go_wp2_with fail
    go_ret
    exact ⟨rfl, HB.out.trans ((HB2.out.trans (hbz.mono HB2.out.size)).mono HB.out.size)⟩
  have HR0 := Lib.hid (chkC_ok hq)
  have HQ := Lib.hid hq
  have HC := Lib.hid (cval hq)
  have s12 := (cval hq).s2
  have hz8 := (cval hq).h2
  clear hq
  rw [← HR0.out]
  by_cases hs0 : sw < 0
  · go_wp2_with fail
    refine (works_any _).mono ?_
    rintro e wz ⟨rfl, hbz⟩
    go_wp2_with fail
    go_ret
    exact ⟨rfl, HB.out.trans ((HB2.out.trans (hbz.mono HB2.out.size)).mono HB.out.size)⟩
  have c0 := block_cell (keepZ K0.out HB2.out)
  have c1 := block_cell (keepZ K1.out HB2.out)
  by_cases hs1 : (c.sw.length : Int) ≤ sw
  · go_wp2_with fail
    refine (works_any _).mono ?_
    rintro e wz ⟨rfl, hbz⟩
    go_wp2_with fail
    go_ret
    exact ⟨rfl, HB.out.trans ((HB2.out.trans (hbz.mono HB2.out.size)).mono HB.out.size)⟩
  obtain ⟨s, rfl⟩ : ∃ s : Nat, sw = s := ⟨sw.toNat, by omega⟩
  have hs2 : s < c.sw.length := by omega
  go_wp2_with fail
  refine (rhaz_any c _ wv h _ HC.out).mono ?_
  rintro e w3 ⟨rfl, hb3⟩
  have HB3 := Lib.hid (HB2.out.trans (hb3.mono HB2.out.size))
  clear hb3
  clear c0 c1
  cases hh : setB h c.hz.toNat
  · clear hh
    go_wp2_with fail
    refine (works_any _).mono ?_
    rintro e wz ⟨rfl, hbz⟩
    go_wp2_with fail
    go_ret
    exact ⟨rfl, HB.out.trans ((HB3.out.trans (hbz.mono HB3.out.size)).mono HB.out.size)⟩
  have G1 := Lib.hid hh
  obtain ⟨hn, rfl, hn20⟩ := set_nat hh (by omega)
  clear hh
  have c0 := block_cell (keepZ K0.out HB3.out)
  have c1 := block_cell (keepZ K1.out HB3.out)
  by_cases h0 : hn = 0
  · subst h0
    go_wp2_with fail
    refine (works_any _).mono ?_
    rintro e wz ⟨rfl, hbz⟩
    go_wp2_with fail
    go_ret
    exact ⟨rfl, HB.out.trans ((HB3.out.trans (hbz.mono HB3.out.size)).mono HB.out.size)⟩
  have h0b : ((hn : Int) == 0) = false := by simp; omega
  have H0 := Lib.hid h0
  clear h0
  go_wp2_with fail
  refine (rswi_any c _ wv o _ (HV.out.below HB3.out (Nat.le_refl _)) HC.out).mono ?_
  rintro e w4 ⟨rfl, hb4⟩
  have HB4 := Lib.hid (HB3.out.trans (hb4.mono HB3.out.size))
  clear hb4
  clear c0 c1
  cases ho : setB o c.sw.length
  · clear ho
    go_wp2_with fail
    refine (works_any _).mono ?_
    rintro e wz ⟨rfl, hbz⟩
    go_wp2_with fail
    go_ret
    exact ⟨rfl, HB.out.trans ((HB4.out.trans (hbz.mono HB4.out.size)).mono HB.out.size)⟩
  have G3 := Lib.hid ho
  obtain ⟨on, rfl, on20⟩ := set_nat ho (by omega)
  clear ho
  have c0 := block_cell (keepZ K0.out HB4.out)
  go_wp2_with fail
  refine (ccritical_any c _ wv _ (HV.out.below HB4.out (Nat.le_refl _))).mono ?_
  rintro e w5 ⟨v, rfl, ⟨va, vcap, rfl, _, _, _⟩, hb5⟩
  have HB5 := Lib.hid (HB4.out.trans (hb5.mono HB4.out.size))
  clear hb5
  clear c0
  rw [← HR0.out, critR_is HQ.out, natL_len]
  by_cases hcr : 0 < (critM c).length
  · have hcr2 : (0 : Int) < (critM c).length := by omega
    generalize (critM c).length = L at *
    go_wp2_with fail
    refine (works_any _).mono ?_
    rintro e wz ⟨rfl, hbz⟩
    go_wp2_with fail
    go_ret
    exact ⟨rfl, HB.out.trans ((HB5.out.trans (hbz.mono HB5.out.size)).mono HB.out.size)⟩
  have HCM := Lib.hid (show critM c = [] from List.eq_nil_of_length_eq_zero (by omega))
  have hcr2 : ¬ (0 : Int) < (critM c).length := by omega
  generalize (critM c).length = L at *
  have hpw := wrap64_pow (k := s) (by omega)
  have hp20 := pow_set (k := s) (by omega)
  have s0 : (0 : Int) ≤ s := by omega
  have HST := Lib.hid (show cond c ⟨hn, 2 ^ s, on⟩ 24 0 = false from single_stop HCM.out hs2 H0.out (by
    have := G1.out
    unfold setB at this
    simp only [decide_eq_true_eq] at this
    have e : ((2 : Int) ^ c.hz.toNat) = ((2 ^ c.hz.toNat : Nat) : Int) := by simp
    omega) on)
  have HSB := Lib.hid (show setB ((2 ^ s : Nat) : Int) c.sw.length = true by
    unfold setB
    rw [decide_eq_true_eq, show ((2 : Int) ^ c.sw.length) = ((2 ^ c.sw.length : Nat) : Int) by simp]
    have := Nat.pow_lt_pow_right (show 1 < 2 by omega) hs2
    generalize (2 ^ s : Nat) = a at *
    generalize (2 ^ c.sw.length : Nat) = b at *
    omega)
  generalize (2 ^ s : Nat) = M at *
  have HRK := Lib.hid (run_ok (c := c) (h := hn) (k := M) (o := on) HQ.out G1.out HSB.out G3.out)
  have c0 := block_cell (keepZ K0.out HB5.out)
  have c1 := block_cell (keepZ K1.out HB5.out)
  go_wp2_with fail
  refine (cruns_any c _ wv hn M on _ (HV.out.below HB5.out (Nat.le_refl _))).mono ?_
  rintro e w6 ⟨rfl, hb6⟩
  have HB6 := Lib.hid (HB5.out.trans (hb6.mono HB5.out.size))
  clear hb6
  clear c0 c1
  rw [HRK.out]
  have HST2 := Lib.hid (show cond c ⟨(hn : Int).toNat, (M : Int).toNat, (on : Int).toNat⟩ 24 0 = false from HST.out)
  rw [HST2.out]
  go_wp2_with fail
  refine (works_any _).mono ?_
  rintro e wz ⟨rfl, hbz⟩
  go_wp2_with fail
  go_ret
  exact ⟨rfl, HB.out.trans ((HB6.out.trans (hbz.mono HB6.out.size)).mono HB.out.size)⟩

end Go.Proofs.Ytbkhfmigaehgaaa
