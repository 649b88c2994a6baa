/- DriveSingle, the walk. -/
import Derived.Test.YtpoenjnpfodfpaaLn
import Derived.Test.YtpoenjnpfodfpaaFg
namespace Go.Proofs.Ytpoenjnpfodfpaa
open Go.RowKit

theorem critTo_nil {E : Esc} {S : Stp} {way back : Int} : ∀ n, critTo E S way back n = [] → ∀ k, k < n → critB E S way back k = false := by
  intro n
  induction n with
  | zero => intro _ k hk; omega
  | succ n ih =>
    intro h k hk
    simp only [critTo, List.append_eq_nil_iff] at h
    by_cases hkn : k = n
    · rw [hkn]
      cases hq : critB E S way back n
      · rfl
      · rw [hq] at h; simp at h
    · exact ih h.1 k (by omega)

theorem single_says {E : Esc} {S : Stp} {way back : Int} {k : Nat} {L : List Int} (h : checkStopM E S = 0) (hk : k < E.bs.length) (hc : critTo E S way back E.bs.length = []) (hf : failB S.fa k = false) (hL : InSpan S L) (hl : L.length ≤ 100) :
    holdsM E (S.orF k) = true ∧ behG (playM E (S.orF k) L) L.length ≤ back ∧ wayG (playM E (S.orF k) L) (restG (playM E (S.orF k) L) L.length) ≤ way ∧
    (playM E (S.orF k) L (restG (playM E (S.orF k) L) L.length) = 0 ∨ L.length < 100) := by
  have hc' := critTo_nil _ hc k hk
  have hck := check_or h hk
  obtain ⟨hE, hS⟩ := checkStopM_num hck
  unfold critB at hc'
  rw [hf] at hc'
  have hs : safeB E (S.orF k) way back = true := by simpa using hc'
  unfold safeB swB at hs
  simp only [Bool.and_eq_true, beq_iff_eq, decide_eq_true_eq] at hs
  obtain ⟨⟨⟨⟨s1, s2⟩, s3⟩, s4⟩, s5⟩ := hs
  have hL' : InSpan (S.orF k) L := hL
  obtain ⟨q1, q2, q3⟩ := within_says hE hS hL' s1
  have q4 := behind_le hE hS hL' hl
  refine ⟨s5, by omega, by omega, ?_⟩
  by_cases hz : playM E (S.orF k) L (restG (playM E (S.orF k) L) L.length) = 0
  · exact .inl hz
  · right
    have a := q3 hz
    have b := (restN_spec E (S.orF k) true).1
    obtain ⟨c1, c2, c3⟩ := restG_spec (playM E (S.orF k) L) L.length
    rcases Nat.lt_or_ge (restG (playM E (S.orF k) L) L.length) L.length with hlt | hge
    · exact absurd (c3 hlt) hz
    · omega

abbrev oneO (k : Int) (lv : Value) (way back : Int) : Value := .agg #[.int .i64 k, lv, .int .i64 way, .int .i64 back]

set_option maxRecDepth 100000 in
set_option maxHeartbeats 8000000 in
theorem single_main (E : Esc) (v : Value) (S : Stp) (k : Nat) (lv : Value) (xs : List Int) (way back : Int) (w : World) (hv : BrAt w v E.bs) (hx : InAt w lv xs) (hf : checkStopM E S = 0) (hh : histB S xs = true) (hk : k < E.bs.length) :
    Calls Try.prog 13 #[escV E v, stpV S, oneO k lv way back] w fun e w' => e = .returned (.bool true) ∧ Below w.heap.size w w' := by
  have HV0 := Lib.hid hv
  have HX0 := Lib.hid hx
  obtain ⟨xa, xc, rfl, xn, xm, hxc⟩ := hx
  clear hxc
  have hbA := (((Below.refl w.heap.size w).alloc (Nat.le_refl _) (Obj.cells #[.bool E.up, .int .i64 E.em, .int .i64 E.pu, .int .i64 E.dr, .int .i64 E.mo, v] 24)).alloc (by simp) (Obj.cells #[.int .i64 S.sp, .int .i64 S.lo, .int .i64 S.hi, .int .i64 S.fa] 38)).alloc (by simp; omega) (Obj.cells #[.int .i64 k, .slice xa xs.length xc, .int .i64 way, .int .i64 back] 72)
  have k1 := block_alloc (block_alloc (block_new w (Obj.cells #[.bool E.up, .int .i64 E.em, .int .i64 E.pu, .int .i64 E.dr, .int .i64 E.mo, v] 24) w.heap.size rfl) (Obj.cells #[.int .i64 S.sp, .int .i64 S.lo, .int .i64 S.hi, .int .i64 S.fa] 38)) (Obj.cells #[.int .i64 k, .slice xa xs.length xc, .int .i64 way, .int .i64 back] 72)
  have k2 := block_alloc (block_new (w.alloc (Obj.cells #[.bool E.up, .int .i64 E.em, .int .i64 E.pu, .int .i64 E.dr, .int .i64 E.mo, v] 24)) (Obj.cells #[.int .i64 S.sp, .int .i64 S.lo, .int .i64 S.hi, .int .i64 S.fa] 38) (w.heap.size + 1) (by simp only [size_alloc])) (Obj.cells #[.int .i64 k, .slice xa xs.length xc, .int .i64 way, .int .i64 back] 72)
  have k3 := block_new ((w.alloc (Obj.cells #[.bool E.up, .int .i64 E.em, .int .i64 E.pu, .int .i64 E.dr, .int .i64 E.mo, v] 24)).alloc (Obj.cells #[.int .i64 S.sp, .int .i64 S.lo, .int .i64 S.hi, .int .i64 S.fa] 38)) (Obj.cells #[.int .i64 k, .slice xa xs.length xc, .int .i64 way, .int .i64 back] 72) (w.heap.size + 1 + 1) (by simp only [size_alloc])
  have hsz : (((w.alloc (Obj.cells #[.bool E.up, .int .i64 E.em, .int .i64 E.pu, .int .i64 E.dr, .int .i64 E.mo, v] 24)).alloc (Obj.cells #[.int .i64 S.sp, .int .i64 S.lo, .int .i64 S.hi, .int .i64 S.fa] 38)).alloc (Obj.cells #[.int .i64 k, .slice xa xs.length xc, .int .i64 way, .int .i64 back] 72)).heap.size = w.heap.size + 3 := by simp only [size_alloc]
  have hv1 := hv.below hbA (Nat.le_refl _)
  obtain ⟨a, cap, rfl, hn, hcap, hc⟩ := hv
  clear hc
  obtain ⟨hE, hS⟩ := checkStopM_num hf
  obtain ⟨hin, hlen⟩ := histB_span hh
  have hli : (xs.length : Int) ≤ 100 := by omega
  have hl3 := Esc.ok_len hE
  have hk0 : (0 : Int) ≤ (k : Int) := by omega
  have hk1 : (k : Int) < E.bs.length := by omega
  have Hfar := Lib.hid (far_no hf)
  have Hf := Lib.hid hf
  have Hh := Lib.hid hh
  have HIn := Lib.hid hin
  have f0 := hS.fa0
  have f7 := hS.fa7
  have hfb := bits_fail1 (fa := S.fa) (k := k) (by omega) f0 f7
  have hor := bits_or (fa := S.fa) (k := k) (by omega) f0 f7
  have hfin : ∀ L F, critR E S way back = (L, F) → (F = 1 ∧ L = []) ∨ (F = 0 ∧ (0 < L.length ∨ (L = [] ∧ failB S.fa k = true) ∨ (L = [] ∧ failB S.fa k = false ∧ (holdsM E (S.orF k) = true ∧ behG (playM E (S.orF k) xs) xs.length ≤ back ∧ wayG (playM E (S.orF k) xs) (restG (playM E (S.orF k) xs) xs.length) ≤ way ∧
    (playM E (S.orF k) xs (restG (playM E (S.orF k) xs) xs.length) = 0 ∨ xs.length < 100))))) := by
    intro L F h
    unfold critR at h
    rw [if_pos hf] at h
    by_cases hl : (0 ≤ way ∧ way ≤ 10000000) ∧ (0 ≤ back ∧ back ≤ 10000000)
    · rw [if_pos hl] at h
      cases h
      right
      refine ⟨rfl, ?_⟩
      by_cases hn : critTo E S way back E.bs.length = []
      · right
        cases hff : failB S.fa k
        · exact .inr ⟨hn, rfl, single_says hf hk hn hff hin hlen⟩
        · exact .inl ⟨hn, rfl⟩
      · left
        exact List.length_pos_iff.2 hn
    · rw [if_neg hl] at h
      cases h
      exact .inl ⟨rfl, rfl⟩
  have HFin := Lib.hid hfin
  have HC := Lib.hid (check_or hf hk)
  have Hk := Lib.hid hk
  clear hf hh hin hfin hk
  go_enter Try.func13, Try.ntmps13
  go_wp2_with fail
  generalize (((w.alloc (Obj.cells #[.bool E.up, .int .i64 E.em, .int .i64 E.pu, .int .i64 E.dr, .int .i64 E.mo, .slice a E.bs.length cap] 24)).alloc (Obj.cells #[.int .i64 S.sp, .int .i64 S.lo, .int .i64 S.hi, .int .i64 S.fa] 38)).alloc (Obj.cells #[.int .i64 k, .slice xa xs.length xc, .int .i64 way, .int .i64 back] 72)) = wA at *
  have HSZ := Lib.hid hsz
  have HV := Lib.hid hv1
  have K1 := Lib.hid k1
  have K2 := Lib.hid k2
  have K3 := Lib.hid k3
  clear hsz hv1 k1 k2 k3
  refine (far_any _ _ _ HV.out).mono ?_
  rintro e w1 ⟨rfl, hb1⟩
  rw [Hfar.out]
  have c1 := block_cell ((hb1.block w.heap.size (by have := HSZ.out; omega)).trans K1.out)
  have c2 := block_cell ((hb1.block (w.heap.size + 1) (by have := HSZ.out; omega)).trans K2.out)
  have c3 := block_cell ((hb1.block (w.heap.size + 1 + 1) (by have := HSZ.out; omega)).trans K3.out)
  go_wp2_with fail
  refine (rcheckStop_any E S _ _ (HV.out.below hb1 (Nat.le_refl _))).mono ?_
  rintro e w2 ⟨rfl, hb2⟩
  rw [Hf.out]
  have hb12 := hb1.trans (hb2.mono hb1.size)
  have hbw2 := hbA.trans (hb12.mono hbA.size)
  clear c1 c2 c3
  have c1 := block_cell ((hb12.block w.heap.size (by have := HSZ.out; omega)).trans K1.out)
  have c2 := block_cell ((hb12.block (w.heap.size + 1) (by have := HSZ.out; omega)).trans K2.out)
  have c3 := block_cell ((hb12.block (w.heap.size + 1 + 1) (by have := HSZ.out; omega)).trans K3.out)
  go_wp2_with fail
  refine (history_any S _ xs _ (HX0.out.below hbw2 (Nat.le_refl _))).mono ?_
  rintro e w3 ⟨rfl, hb3⟩
  rw [Hh.out]
  have hb13 := hb12.trans (hb3.mono hb12.size)
  clear c1 c2 c3
  have c1 := block_cell ((hb13.block w.heap.size (by have := HSZ.out; omega)).trans K1.out)
  have c2 := block_cell ((hb13.block (w.heap.size + 1) (by have := HSZ.out; omega)).trans K2.out)
  have c3 := block_cell ((hb13.block (w.heap.size + 1 + 1) (by have := HSZ.out; omega)).trans K3.out)
  go_wp2_with fail
  refine (critical_any E S _ way back _ (HV.out.below hb13 (Nat.le_refl _))).mono ?_
  rintro e w4 ⟨v4, rfl, hi4, hb4⟩
  obtain ⟨⟨L, F⟩, hlf⟩ : ∃ D, critR E S way back = D := ⟨_, rfl⟩
  have hF := HFin.out L F hlf
  rw [hlf] at hi4 ⊢
  dsimp only at hi4 ⊢
  obtain ⟨a4, c4, rfl, n4, m4, _⟩ := hi4
  have hb14 := hb13.trans (hb4.mono hb13.size)
  have hbw4 := hbA.trans (hb14.mono hbA.size)
  clear c1 c2 c3 HFin hlf
  have c1 := block_cell ((hb14.block w.heap.size (by have := HSZ.out; omega)).trans K1.out)
  have c2 := block_cell ((hb14.block (w.heap.size + 1) (by have := HSZ.out; omega)).trans K2.out)
  have c3 := block_cell ((hb14.block (w.heap.size + 1 + 1) (by have := HSZ.out; omega)).trans K3.out)
  clear hb1 hb2 hb12 hb3 hb13 hb4
  rcases hF with ⟨rfl, rfl⟩ | ⟨rfl, hF⟩
  · go_wp2_with fail
    refine (works_any _).mono ?_
    rintro e w5 ⟨rfl, hb5⟩
    go_wp2
    go_ret
    exact ⟨rfl, hbw4.trans (hb5.mono hbw4.size)⟩
  · rcases hF with hL | ⟨rfl, hff⟩ | ⟨rfl, hff, hall⟩
    · have hL' : (0 : Int) < L.length := by omega
      go_wp2_with fail
      refine (works_any _).mono ?_
      rintro e w5 ⟨rfl, hb5⟩
      go_wp2
      go_ret
      exact ⟨rfl, hbw4.trans (hb5.mono hbw4.size)⟩
    · rw [hff] at hfb
      clear hff
      go_wp2_with fail
      refine (works_any _).mono ?_
      rintro e w5 ⟨rfl, hb5⟩
      go_wp2
      go_ret
      exact ⟨rfl, hbw4.trans (hb5.mono hbw4.size)⟩
    · rw [hff] at hfb
      clear hff
      obtain ⟨t1, t2, t3, t4⟩ := hall
      have hkS := (hb14.block _ (lt_of_block K2.out)).trans K2.out
      have hkE := (hb14.block _ (lt_of_block K1.out)).trans K1.out
      have hkO := (hb14.block _ (lt_of_block K3.out)).trans K3.out
      have f2 := block_free hkS
      have hbw := hbw4.setCell (p := ⟨w.heap.size + 1, 3, none⟩) (by show w.heap.size ≤ w.heap.size + 1; omega) (.int .i64 (orM S.fa k))
      have kE' := block_set_other hkE (p := ⟨w.heap.size + 1, 3, none⟩) (by simp) (.int .i64 (orM S.fa k))
      have kO' := block_set_other hkO (p := ⟨w.heap.size + 1, 3, none⟩) (by simp) (.int .i64 (orM S.fa k))
      have kS' := block_set hkS 3 (.int .i64 (orM S.fa k))
      have T1 := Lib.hid t1
      have T4 := Lib.hid t4
      clear hkS hkE hkO t1 t4
      go_wp2_with fail
      generalize w4.setCell ⟨w.heap.size + 1, 3, none⟩ (.int .i64 (orM S.fa k)) = wC at *
      have KE := Lib.hid kE'
      have KO := Lib.hid kO'
      have KS : Hid (wC.heap[w.heap.size + 1]? = some (.cells #[.int .i64 S.sp, .int .i64 S.lo, .int .i64 S.hi, .int .i64 (orM S.fa k)] 38 (0, 0))) := kS'
      have HP := Lib.hid (playR_ok (E := E) (S := S.orF k) (xs := xs) HC.out Hh.out)
      have HHo := Lib.hid (holds_f HC.out)
      obtain ⟨hE', hS'⟩ := checkStopM_num HC.out
      clear kE' kS' kO' c1 c2 c3 f2 hfb hor
      refine (play_any E (S.orF k) _ _ xs _ (HV0.out.below hbw (Nat.le_refl _)) (HX0.out.below hbw (Nat.le_refl _))).mono ?_
      rintro e w5 ⟨v5, rfl, hi5, hb5⟩
      rw [HP.out] at hi5 ⊢
      have HI5 := Lib.hid hi5
      obtain ⟨a5, c5, rfl, n5, m5, _⟩ := hi5
      rw [speedsL_len] at *
      have c1 := block_cell ((hb5.block _ (lt_of_block KE.out)).trans KE.out)
      have c2 := block_cell ((hb5.block _ (lt_of_block KS.out)).trans KS.out)
      go_wp2_with fail
      refine (holdsR_any E (S.orF k) _ _ (HV0.out.below (hbw.trans (hb5.mono hbw.size)) (Nat.le_refl _))).mono ?_
      rintro e w6 ⟨rfl, hb6⟩
      rw [HHo.out, T1.out]
      have hb56 := hb5.trans (hb6.mono hb5.size)
      have HI6 := Lib.hid (HI5.out.below hb6 (Nat.le_refl _))
      clear c1 c2
      have c2 := block_cell ((hb56.block _ (lt_of_block KS.out)).trans KS.out)
      have c3 := block_cell ((hb56.block _ (lt_of_block KO.out)).trans KO.out)
      have hxx : ((xs.length : Int) != (xs.length : Int)) = false := by simp
      have hbz := hbw.trans (hb56.mono hbw.size)
      go_wp2_with fail
      go_quiet ((go_at_call 43; exact Calls.quiet_of_same ((behind_play hE' hS' _ xs _ HIn.out hlen (HI6.out.below (B := w6.heap.size) (below_drewN (Below.refl _ _) _) (Nat.le_refl _))).mono fun _ _ ⟨h1, h2⟩ => ⟨h1, h2.symm⟩)))
      go_wp2_with fail
      refine (rest_play hE' hS' _ xs _ HIn.out hlen (HI6.out.below (B := w6.heap.size) (below_drewN (Below.refl _ _) _) (Nat.le_refl _))).mono ?_
      rintro e w7 ⟨rfl, rfl⟩
      clear hxx
      rcases T4.out with h4 | h4
      · have h4b : (playM E (S.orF k) xs (restG (playM E (S.orF k) xs) xs.length) == 0) = true := by simpa using h4
        clear h4
        go_wp2_with fail
        refine (works_any _).mono ?_
        rintro e w8 ⟨rfl, hb8⟩
        go_wp2
        go_ret
        exact ⟨rfl, (below_drewN hbz _).trans (hb8.mono hbz.size)⟩
      · have h4i : (xs.length : Int) < 100 := by omega
        go_wp2_with fail
        all_goals
          refine (works_any _).mono ?_
          rintro e w8 ⟨rfl, hb8⟩
          go_wp2
          go_ret
          exact ⟨rfl, (below_drewN hbz _).trans (hb8.mono hbz.size)⟩

end Go.Proofs.Ytpoenjnpfodfpaa
