/- Walks of layer 3 (circuit): Least of both. -/
import Derived.Test.YtbkhfmigaehgaaaMe
import Derived.Test.YtbkhfmigaehgaaaMh
namespace Go.Proofs.Ytbkhfmigaehgaaa
open Go.RowKit

set_option maxHeartbeats 400000 in
theorem ocount_is (q n : Nat) (w : World) (hn : n < 4096) (hq : ones n = q) :
    Calls Try.prog 89 #[.int .u64 n] w fun e w' => e = .returned (.int .i64 (q : Nat)) ∧ w = w' := by
  subst hq
  go_enter Try.func89, Try.ntmps89
  go_wp2_with fail
  refine (ocount64_any n _ hn).mono ?_
  rintro e w1 ⟨rfl, rfl⟩
  go_wp2
  go_ret
  exact ⟨rfl, rfl⟩

theorem rones_is (q n : Nat) (w : World) (hn : n < 1048576) (hq : ones n = q) :
    Calls Try.prog 50 #[.int .i64 n] w fun e w' => e = .returned (.int .i64 (q : Nat)) ∧ w = w' := by
  subst hq
  exact rones_any n w hn

structure LstA where
  v : Int
  e : Int
def lstP (c : Cir) (h : Nat) : Nat → Bool := fun s => passM c (2 ^ h) s
def lstAll (c : Cir) : Nat := 2 ^ c.sw.length - 1
def lstR (c : Cir) (h : Int) : LstA := if validB c = true then (if decide (0 ≤ h ∧ h ≤ c.hz - 1) = true then (if lstP c h.toNat (lstAll c) = true then ⟨(bestP (lstP c h.toNat) (lstAll c) (lstAll c) : Nat), 0⟩ else ⟨0, 3⟩) else ⟨0, 1⟩) else ⟨0, 30⟩
abbrev lstV (r : LstA) : Value := .tuple #[.int .i64 r.v, .int .i64 r.e]

theorem lst_bad {c : Cir} (h : Int) (hv : validB c = false) : lstR c h = ⟨0, 30⟩ := by unfold lstR; rw [hv]; rfl
theorem lst_arg {c : Cir} {h : Int} (hv : validB c = true) (h2 : decide (0 ≤ h ∧ h ≤ c.hz - 1) = false) : lstR c h = ⟨0, 1⟩ := by unfold lstR; rw [hv, h2]; rfl
theorem lst_none {c : Cir} {h : Int} (hv : validB c = true) (h2 : decide (0 ≤ h ∧ h ≤ c.hz - 1) = true) (h3 : lstP c h.toNat (lstAll c) = false) : lstR c h = ⟨0, 3⟩ := by unfold lstR; rw [hv, h2, h3]; rfl
theorem lst_some {c : Cir} {h : Int} (hv : validB c = true) (h2 : decide (0 ≤ h ∧ h ≤ c.hz - 1) = true) (h3 : lstP c h.toNat (lstAll c) = true) : lstR c h = ⟨(bestP (lstP c h.toNat) (lstAll c) (lstAll c) : Nat), 0⟩ := by unfold lstR; rw [hv, h2, h3]; rfl

theorem all_lt {c : Cir} (hc : CVal c) : lstAll c < 4096 := by
  have := Nat.pow_le_pow_right (show 0 < 2 by omega) hc.s2
  have h1 := Nat.one_le_two_pow (n := c.sw.length)
  unfold lstAll
  omega

theorem bestP_le {p : Nat → Bool} {all : Nat} : ∀ k, k ≤ all → bestP p all k ≤ all
  | 0, _ => Nat.le_refl _
  | k + 1, hk => by
    rw [show bestP p all (k + 1) = if (decide (ones k < ones (bestP p all k)) && p k) = true then k else bestP p all k from rfl]
    split
    · omega
    · exact bestP_le k (by omega)

theorem bestP_no {p : Nat → Bool} {all k : Nat} (h : (decide (ones k < ones (bestP p all k)) && p k) = false) : bestP p all (k + 1) = bestP p all k := by
  rw [show bestP p all (k + 1) = if (decide (ones k < ones (bestP p all k)) && p k) = true then k else bestP p all k from rfl, h]; rfl
theorem bestP_yes {p : Nat → Bool} {all k : Nat} (h : (decide (ones k < ones (bestP p all k)) && p k) = true) : bestP p all (k + 1) = k := by
  rw [show bestP p all (k + 1) = if (decide (ones k < ones (bestP p all k)) && p k) = true then k else bestP p all k from rfl, h]; rfl

set_option maxRecDepth 100000 in
set_option maxHeartbeats 8000000 in
theorem cleast_any (c : Cir) (sv wv : Value) (h : Int) (w : World) (hv : CirAt w sv wv c) :
    Calls Try.prog 31 #[cirV c sv wv, .int .i64 h] w fun e w' => e = .returned (lstV (lstR c h)) ∧ Below w.heap.size w w' := by
  have HB := Lib.hid ((Below.refl w.heap.size w).alloc (Nat.le_refl _) (cirO c sv wv))
  have K0 := Lib.hid (block_new w (cirO c sv wv) w.heap.size rfl)
  have HV := Lib.hid (hv.below HB.out (Nat.le_refl _))
  obtain ⟨⟨sa, scap, rfl, _, m2, _⟩, _⟩ := hv
  cases hq : validB c
  · have HR0 := Lib.hid (chkC_bad hq)
    have HR := Lib.hid (lst_bad h hq)
    clear hq
    go_enter Try.func31, Try.ntmps31
    go_wp2_with fail
    generalize w.alloc (cirO c (.slice sa c.sw.length scap) wv) = wA at *
    refine (ccheck_any c _ _ _ HV.out).mono ?_
    rintro e w1 ⟨rfl, hb1⟩
    rw [← HR0.out]
    go_wp2
    go_ret2
    exact ⟨by rw [HR.out]; rfl, HB.out.trans (hb1.mono HB.out.size)⟩
  · have HR0 := Lib.hid (chkC_ok hq)
    have HC := Lib.hid (cval hq)
    have s12 := (cval hq).s2
    have s1 := (cval hq).s1
    have z1 := (cval hq).h1
    have z8 := (cval hq).h2
    cases hh : decide (0 ≤ h ∧ h ≤ c.hz - 1)
    · have HR := Lib.hid (lst_arg hq hh)
      have HH := Lib.hid hh
      clear hq hh
      go_enter Try.func31, Try.ntmps31
      go_wp2_with fail
      generalize w.alloc (cirO c (.slice sa c.sw.length scap) wv) = wA at *
      refine (ccheck_any c _ _ _ HV.out).mono ?_
      rintro e w1 ⟨rfl, hb1⟩
      rw [← HR0.out]
      have c0 := block_cell (keepZ K0.out hb1)
      have HB1 := Lib.hid hb1
      clear hb1
      go_wp2_with (go_at_call 75; refine (cwithin_is _ _ _ _ _ HH.out).mono ?_; rintro e w2 ⟨rfl, rfl⟩)
      go_ret2
      exact ⟨by rw [HR.out]; rfl, HB.out.trans (HB1.out.mono HB.out.size)⟩
    · have HH := Lib.hid hh
      have HRN := Lib.hid (lst_none hq hh)
      have HRS := Lib.hid (lst_some hq hh)
      simp only [decide_eq_true_eq] at hh
      obtain ⟨n, rfl⟩ : ∃ n : Nat, h = n := ⟨h.toNat, by omega⟩
      have n8 : n ≤ 8 := by omega
      rw [Int.toNat_natCast] at HRN HRS
      have hpw := wrap64_pow (k := c.sw.length) (by omega)
      have hp1 := Nat.one_le_two_pow (n := c.sw.length)
      have hal := all_lt (cval hq)
      have HAL := Lib.hid (show ((2 ^ c.sw.length : Nat) : Int) - 1 = (lstAll c : Nat) by unfold lstAll; omega)
      have hpl := pow_set (k := c.sw.length) (by omega)
      obtain ⟨A, hA⟩ : ∃ A, 2 ^ n = A := ⟨_, rfl⟩
      have hA20 : A < 1048576 := by rw [← hA]; exact pow_set (by omega)
      have HA := Lib.hid hA
      have HP := Lib.hid (fun s => show lstP c n s = passM c A s by unfold lstP; rw [hA])
      generalize (2 ^ c.sw.length : Nat) = M at *
      clear hq hh hA
      go_enter Try.func31, Try.ntmps31
      go_wp2_with fail
      generalize w.alloc (cirO c (.slice sa c.sw.length scap) wv) = wA at *
      refine (ccheck_any c _ _ _ HV.out).mono ?_
      rintro e w1 ⟨rfl, hb1⟩
      rw [← HR0.out]
      have c0 := block_cell (keepZ K0.out hb1)
      have HB1 := Lib.hid hb1
      clear hb1
      go_wp2_with (go_at_call 75; refine (cwithin_is _ _ _ _ _ HH.out).mono ?_; rintro e w2 ⟨rfl, rfl⟩)
      rw [HAL.out]
      have kk := keepZ K0.out HB1.out
      have b1 := bw_cells (B := w1.heap.size) kk (lt_of_block kk)
      have HV1 := Lib.hid (HV.out.below HB1.out (Nat.le_refl _))
      have HALL := Lib.hid (show lstAll c = lstAll c from rfl)
      generalize hall : lstAll c = all at *
      clear c0 kk hpw hp1 hpl
      cases hp : passM c A all
      · have HPP := Lib.hid hp
        have HR := Lib.hid (HRN.out (by rw [HP.out, hp]))
        clear hp
        refine wp_region_below (by kernel_rfl) (by kernel_rfl) (Below.refl w1.heap.size w1) ?_
        repeat ((with_reducible refine wpQuiet_step (fun K hK => ?_)); go_simp; first | (refine hK _ ?_; clear hK K) | (apply Exists.intro; refine ⟨fun _ => ?_, hK _ ?_⟩; (first | (go_at_call 86; with_reducible exact bw_same (calone_is A n _ (by omega) HA.out)) | (go_at_call 88; exact bw_call (Nat.le_refl _) (rcond_is HPP.out (passes_any c _ wv A all _ (HV1.out.below (BW.b _) (Nat.le_refl _)) HC.out hA20 (by omega))))); clear hK K))
        refine wpQuiet_nil ?_
        intro wq hwq0
        have hwq := bw_out hwq0
        clear hwq0
        go_wp2_with fail
        go_ret2
        exact ⟨by rw [HR.out]; rfl, HB.out.trans ((HB1.out.trans (hwq.mono HB1.out.size)).mono HB.out.size)⟩
      · have HPP := Lib.hid hp
        have HR := Lib.hid (HRS.out (by rw [HP.out, hp]))
        clear hp
        refine wp_region_below (by kernel_rfl) (by kernel_rfl) (Below.refl w1.heap.size w1) ?_
        repeat ((with_reducible refine wpQuiet_step (fun K hK => ?_)); go_simp; first | (refine hK _ ?_; clear hK K) | (apply Exists.intro; refine ⟨fun _ => ?_, hK _ ?_⟩; (first | (go_at_call 86; with_reducible exact bw_same (calone_is A n _ (by omega) HA.out)) | (go_at_call 88; exact bw_call (Nat.le_refl _) (rcond_is HPP.out (passes_any c _ wv A all _ (HV1.out.below (BW.b _) (Nat.le_refl _)) HC.out hA20 (by omega))))); clear hK K))
        refine wpQuiet_nil ?_
        intro wq hwq0
        have hwq := bw_out hwq0
        clear hwq0
        have HB2 := Lib.hid (HB1.out.trans (hwq.mono HB1.out.size))
        clear hwq b1 hall
        go_wp2_with fail
        go_loopw [7, 33] (fun x i wr => ∃ k : Nat, k ≤ all ∧ i = .int .i64 k ∧ x = .int .i64 (bestP (lstP c n) all k : Nat) ∧ Hid (Below wA.heap.size wA wr)) (fun _ i _ => all - (intOf i).toNat)
        case atStart => exact ⟨0, Nat.zero_le _, rfl, rfl, HB2⟩
        case round =>
          obtain ⟨k, hk, rfl, rfl, hb⟩ := hrel
          by_cases hlt : k < all
          · have hbl := bestP_le (p := lstP c n) (all := all) k hk
            have kk := keepZ K0.out hb.out
            have b1 := bw_cells (B := wr.heap.size) kk (lt_of_block kk)
            have HV2 := Lib.hid (HV.out.below hb.out (Nat.le_refl _))
            have HNO := Lib.hid (bestP_no (p := lstP c n) (all := all) (k := k))
            have HYES := Lib.hid (bestP_yes (p := lstP c n) (all := all) (k := k))
            have HPK := Lib.hid (HP.out k)
            generalize bestP (lstP c n) all k = L at *
            obtain ⟨o1, ho1⟩ : ∃ o, ones k = o := ⟨_, rfl⟩
            obtain ⟨o2, ho2⟩ : ∃ o, ones L = o := ⟨_, rfl⟩
            have HO1 := Lib.hid ho1
            have HO2 := Lib.hid ho2
            rw [ho1, ho2] at HNO HYES
            have ob1 := (ones_le 12 k (by omega) (by omega)).1
            have ob2 := (ones_le 12 L (by omega) (by omega)).1
            rw [ho1] at ob1
            rw [ho2] at ob2
            clear ho1 ho2 kk
            by_cases hf : o1 < o2
            · cases hp : passM c A k
              · have HPP2 := Lib.hid hp
                have HN := Lib.hid (HNO.out (by rw [HPK.out, hp]; simp))
                clear hp
                go_wp2_with (go_at_call 89; (first | (with_reducible refine (ocount_is o1 k _ (by omega) HO1.out).mono ?_) | (with_reducible refine (ocount_is o2 L _ (by omega) HO2.out).mono ?_)); rintro e w4 ⟨rfl, rfl⟩)
                refine wp_region_below (by kernel_rfl) (by kernel_rfl) (Below.refl wr.heap.size wr) ?_
                repeat ((with_reducible refine wpQuiet_step (fun K hK => ?_)); go_simp; first | (refine hK _ ?_; clear hK K) | (apply Exists.intro; refine ⟨fun _ => ?_, hK _ ?_⟩; (first | (go_at_call 86; with_reducible exact bw_same (calone_is A n _ (by omega) HA.out)) | (go_at_call 88; exact bw_call (Nat.le_refl _) (rcond_is HPP2.out (passes_any c _ wv A k _ (HV2.out.below (BW.b _) (Nat.le_refl _)) HC.out hA20 (by omega))))); clear hK K))
                refine wpQuiet_nil ?_
                intro wq hwq0
                have hwq := bw_out hwq0
                clear hwq0
                have HB3 := Lib.hid (hb.out.trans (hwq.mono hb.out.size))
                clear hwq b1
                go_wp2_with fail
                go_roundw
                case rel => exact ⟨k + 1, hlt, by go_num, by rw [HN.out], HB3⟩
                case measure => simp [intOf]; omega
              · have HPP2 := Lib.hid hp
                have HN := Lib.hid (HYES.out (by rw [HPK.out, hp]; simpa using hf))
                clear hp
                go_wp2_with (go_at_call 89; (first | (with_reducible refine (ocount_is o1 k _ (by omega) HO1.out).mono ?_) | (with_reducible refine (ocount_is o2 L _ (by omega) HO2.out).mono ?_)); rintro e w4 ⟨rfl, rfl⟩)
                refine wp_region_below (by kernel_rfl) (by kernel_rfl) (Below.refl wr.heap.size wr) ?_
                repeat ((with_reducible refine wpQuiet_step (fun K hK => ?_)); go_simp; first | (refine hK _ ?_; clear hK K) | (apply Exists.intro; refine ⟨fun _ => ?_, hK _ ?_⟩; (first | (go_at_call 86; with_reducible exact bw_same (calone_is A n _ (by omega) HA.out)) | (go_at_call 88; exact bw_call (Nat.le_refl _) (rcond_is HPP2.out (passes_any c _ wv A k _ (HV2.out.below (BW.b _) (Nat.le_refl _)) HC.out hA20 (by omega))))); clear hK K))
                refine wpQuiet_nil ?_
                intro wq hwq0
                have hwq := bw_out hwq0
                clear hwq0
                have HB3 := Lib.hid (hb.out.trans (hwq.mono hb.out.size))
                clear hwq b1
                go_wp2_with fail
                go_roundw
                case rel => exact ⟨k + 1, hlt, by go_num, by rw [HN.out], HB3⟩
                case measure => simp [intOf]; omega
            · have HN := Lib.hid (HNO.out (by rw [decide_eq_false hf]; rfl))
              go_wp2_with (go_at_call 89; (first | (with_reducible refine (ocount_is o1 k _ (by omega) HO1.out).mono ?_) | (with_reducible refine (ocount_is o2 L _ (by omega) HO2.out).mono ?_)); rintro e w4 ⟨rfl, rfl⟩)
              refine wp_region_below (by kernel_rfl) (by kernel_rfl) (Below.refl wr.heap.size wr) ?_
              repeat ((with_reducible refine wpQuiet_step (fun K hK => ?_)); go_simp; first | (refine hK _ ?_; clear hK K) | (apply Exists.intro; refine ⟨fun _ => ?_, hK _ ?_⟩; (fail); clear hK K))
              refine wpQuiet_nil ?_
              intro wq hwq0
              have hwq := bw_out hwq0
              clear hwq0
              have HB3 := Lib.hid (hb.out.trans (hwq.mono hb.out.size))
              clear hwq b1
              go_wp2_with fail
              go_roundw
              case rel => exact ⟨k + 1, hlt, by go_num, by rw [HN.out], HB3⟩
              case measure => simp [intOf]; omega
          · obtain rfl : k = all := by omega
            go_wp2_with fail
            go_ret2
            exact ⟨by rw [HR.out]; rfl, HB.out.trans (hb.out.mono HB.out.size)⟩

end Go.Proofs.Ytbkhfmigaehgaaa
