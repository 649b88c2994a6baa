/- Walks of layer 3 (circuit): checkTrials, shows, shown, shownByEach of the program. -/
import Derived.Test.YtbkhfmigaehgaaaCj
import Derived.Test.YtbkhfmigaehgaaaBt
import Derived.Laws.MakeOwn
namespace Go.Proofs.Ytbkhfmigaehgaaa
open Go.RowKit

abbrev triL (t : Tri) : List Value := [.int .i64 t.hz, .int .i64 t.wire]
abbrev triV (t : Tri) : Value := .agg #[.int .i64 t.hz, .int .i64 t.wire]
abbrev TrAt (w : World) (v : Value) (l : List Tri) : Prop := ElAt 2 triL w v l
abbrev triO (t : Tri) : Obj := .cells #[.int .i64 t.hz, .int .i64 t.wire] 138

theorem tr_at {w w' : World} {b off : Nat} {l : List Tri} {k : Nat} (hb : Below w.heap.size w w') (hbl : b < w.heap.size)
    (hc : ∀ i x, l[i]? = some x → ∀ j u, (triL x)[j]? = some u → w.cell? ⟨b, off + i * 2 + j, none⟩ = some u) (hk : k < l.length) :
    w'.cell? ⟨b, off + k * 2, none⟩ = some (.int .i64 (l.getD k Tri.zero).hz) ∧ w'.cell? ⟨b, off + k * 2 + 1, none⟩ = some (.int .i64 (l.getD k Tri.zero).wire) := by
  have h := hc k _ (getD_get? hk Tri.zero)
  exact ⟨(hb.cell hbl).trans (h 0 _ rfl), (hb.cell hbl).trans (h 1 _ rfl)⟩

set_option maxRecDepth 100000 in
set_option maxHeartbeats 2000000 in
theorem tbad_any (t : Tri) (c : Cir) (sv wv : Value) (gc : Nat) (w : World) (hv : WsAt w wv c.ws) (hc : CVal c) (k0 : w.heap[gc]? = some (cirO c sv wv)) :
    Calls Try.prog 145 #[triV t, .pointer (some ⟨gc, 0, none⟩)] w fun e w' => e = .returned (.bool (!triB c t)) ∧ Below w.heap.size w w' := by
  have HB := Lib.hid ((Below.refl w.heap.size w).alloc (Nat.le_refl _) (triO t))
  have K0 := Lib.hid (block_alloc k0 (triO t))
  have K1 := Lib.hid (block_new w (triO t) w.heap.size rfl)
  obtain ⟨wa, wcap, rfl, _⟩ := hv
  obtain ⟨n, hn⟩ : ∃ n : Nat, c.hz = n := ⟨c.hz.toNat, by have := hc.h1; omega⟩
  have n8 : n ≤ 8 := by have := hc.h2; omega
  have w24 := hc.w2
  have HZ := Lib.hid hn
  clear k0 hn hc
  cases h1 : setB t.hz n
  · have H1 := Lib.hid h1
    have HR := Lib.hid (show true = !triB c t by unfold triB; rw [show c.hz.toNat = n by have := HZ.out; omega, h1]; rfl)
    clear h1
    have c0 := block_cell K0.out
    rw [HZ.out] at c0
    go_enter Try.func145, Try.ntmps145
    go_wp2_with fail
    refine (isSet_is _ _ _ _ (by omega) H1.out).mono ?_
    rintro e w1 ⟨rfl, rfl⟩
    go_wp2
    go_ret
    exact ⟨ret_bool HR.out, HB.out⟩
  · cases h2 : decide (0 ≤ t.wire ∧ t.wire ≤ (c.ws.length : Int) - 1)
    all_goals
      have H1 := Lib.hid h1
      have H2 := Lib.hid h2
      have HR := Lib.hid (show (!decide (0 ≤ t.wire ∧ t.wire ≤ (c.ws.length : Int) - 1)) = !triB c t by unfold triB; rw [show c.hz.toNat = n by have := HZ.out; omega, h1]; rfl)
      rw [h2] at HR
      clear h1 h2
      have c0 := block_cell K0.out
      rw [HZ.out] at c0
      go_enter Try.func145, Try.ntmps145
      go_wp2_with (first | (go_at_call 72; refine (isSet_is _ _ _ _ (by omega) H1.out).mono ?_; rintro e w1 ⟨rfl, rfl⟩) | (go_at_call 75; refine (cwithin_is _ _ _ _ _ H2.out).mono ?_; rintro e w1 ⟨rfl, rfl⟩))
      go_ret
      exact ⟨ret_bool HR.out, HB.out⟩

set_option maxHeartbeats 1000000 in
theorem indexTri_any {be : Nat} (v : Value) (l : List Tri) (p : Tri → Bool) (w : World) (hv : TrAt w v l)
    (hg : ∀ (x : Tri) (w1 : World), x ∈ l → Below w.heap.size w w1 → Calls Try.prog 145 #[triV x, .pointer (some ⟨be, 0, none⟩)] w1 fun e w' => e = .returned (.bool (p x)) ∧ Below w1.heap.size w1 w') :
    Calls Try.prog 168 #[v, .func (.func 145) #[] #[.pointer (some ⟨be, 0, none⟩)]] w (IdxRes (l.any p) w) := by
  obtain ⟨a, cap, rfl, hn, hcap, hc⟩ := hv
  have HC := Lib.hid hc
  have HG := Lib.hid hg
  clear hc hg
  go_enter Try.func168, Try.ntmps168
  go_wp2_with fail
  go_loopw [8] (fun i wr => ∃ k : Nat, k ≤ l.length ∧ i = .int .i64 k ∧ Below w.heap.size w wr ∧ Hid (∀ i, i < k → p (l.getD i Tri.zero) = false)) (fun i _ => l.length - (intOf i).toNat)
  case atStart => exact ⟨0, Nat.zero_le _, rfl, Below.refl _ _, fun i hi => by omega⟩
  case round =>
    obtain ⟨k, hk, rfl, hb, hf⟩ := hrel
    by_cases hlt : k < l.length
    · obtain ⟨b, off, rfl, hbl, hc⟩ := HC.out (by omega)
      have g1 := tr_at hb hbl hc hlt
      clear hc
      have hm := getD_mem hlt Tri.zero
      generalize hq0 : l.getD k Tri.zero = q at g1 hm
      have Hq := Lib.hid hq0
      have HM := Lib.hid hm
      clear hq0 hm
      go_wp2_with fail
      refine (HG.out q wr HM.out hb).mono ?_
      rintro e w1 ⟨rfl, hb1⟩
      have hb2 := hb.trans (hb1.mono hb.size)
      clear hb hb1 g1
      cases hq : p q
      · have HQ := Lib.hid hq
        clear hq
        go_wp2
        go_roundw
        case rel => exact ⟨k + 1, hlt, by go_num, hb2, fun i hi => by
          by_cases hik : i = k
          · rw [hik, Hq.out]; exact HQ.out
          · exact hf.out i (by omega)⟩
        case measure => simp [intOf]; omega
      · have HQ := Lib.hid hq
        clear hq
        go_wp2
        go_ret
        exact ⟨k, rfl, by rw [any_true_of (d := Tri.zero) hlt (by rw [Hq.out]; exact HQ.out)]; simp, hb2⟩
    · go_wp2
      go_ret
      exact ⟨-1, rfl, by rw [any_false_of (d := Tri.zero) (fun i hi => hf.out i (by omega))]; simp, hb⟩

set_option maxHeartbeats 400000 in
theorem containsTri_any {be : Nat} (v : Value) (l : List Tri) (p : Tri → Bool) (q : Bool) (w : World) (hv : TrAt w v l) (hq : l.any p = q)
    (hg : ∀ (x : Tri) (w1 : World), x ∈ l → Below w.heap.size w w1 → Calls Try.prog 145 #[triV x, .pointer (some ⟨be, 0, none⟩)] w1 fun e w' => e = .returned (.bool (p x)) ∧ Below w1.heap.size w1 w') :
    Calls Try.prog 146 #[v, .func (.func 145) #[] #[.pointer (some ⟨be, 0, none⟩)]] w fun e w' => e = .returned (.bool q) ∧ Below w.heap.size w w' := by
  subst hq
  have HG := Lib.hid hg
  clear hg
  go_enter Try.func146, Try.ntmps146
  go_wp2_with fail
  refine (indexTri_any _ _ p _ hv HG.out).mono ?_
  rintro e w1 ⟨r, rfl, hr, hb⟩
  have HR := Lib.hid hr
  clear hr
  go_wp2
  go_ret
  exact ⟨ret_bool HR.out, hb⟩

theorem chkT_bad {c : Cir} (l : List Tri) (h : validB c = false) : (30 : Int) = chkT c l := by unfold chkT; rw [h]; rfl
theorem chkT_many {c : Cir} {l : List Tri} (h : validB c = true) (h2 : 12 < l.length) : (2 : Int) = chkT c l := by unfold chkT; rw [h, if_neg (by simp), if_pos h2]
theorem chkT_trial {c : Cir} {l : List Tri} (h : validB c = true) (h2 : ¬ 12 < l.length) (h3 : l.all (triB c) = false) : (31 : Int) = chkT c l := by unfold chkT; rw [h, if_neg (by simp), if_neg h2, h3]; rfl
theorem chkT_ok {c : Cir} {l : List Tri} (h : validB c = true) (h2 : ¬ 12 < l.length) (h3 : l.all (triB c) = true) : (0 : Int) = chkT c l := by unfold chkT; rw [h, if_neg (by simp), if_neg h2, h3]; rfl

structure TVal (c : Cir) (l : List Tri) : Prop where
  cv : CVal c
  v : validB c = true
  n : l.length ≤ 12
  t : ∀ t ∈ l, triB c t = true
theorem tval {c : Cir} {l : List Tri} (h : chkT c l = 0) : TVal c l := by
  unfold chkT at h
  split at h
  · omega
  · rename_i hv
    have hv : validB c = true := by simpa using hv
    split at h
    · omega
    · split at h
      · rename_i h2 h3
        exact ⟨cval hv, hv, by omega, List.all_eq_true.1 h3⟩
      · omega

theorem all_any_tri (c : Cir) (l : List Tri) : (l.any fun t => !triB c t) = !(l.all (triB c)) := by
  induction l with
  | nil => rfl
  | cons x l ih => rw [List.any_cons, List.all_cons, ih]; cases triB c x <;> rfl

set_option maxRecDepth 100000 in
set_option maxHeartbeats 2000000 in
theorem ccheckT_any (c : Cir) (l : List Tri) (sv wv v : Value) (w : World) (hv : CirAt w sv wv c) (hl : TrAt w v l) :
    Calls Try.prog 90 #[cirV c sv wv, v] w fun e w' => e = .returned (.int .i64 (chkT c l)) ∧ Below w.heap.size w w' := by
  have HB := Lib.hid ((Below.refl w.heap.size w).alloc (Nat.le_refl _) (cirO c sv wv))
  have K0 := Lib.hid (block_new w (cirO c sv wv) w.heap.size rfl)
  have HV := Lib.hid (hv.below HB.out (Nat.le_refl _))
  have HT := Lib.hid (hl.below HB.out (Nat.le_refl _))
  obtain ⟨ta, tcap, rfl, m1, m2, _⟩ := hl
  have m3 : (l.length : Int) ≤ 9223372036854775807 := by omega
  cases hq : validB c
  · have HR := Lib.hid (chkT_bad l hq)
    have HR0 := Lib.hid (chkC_bad hq)
    clear hq
    go_enter Try.func90, Try.ntmps90
    go_wp2_with fail
    generalize w.alloc (cirO c sv wv) = wA at *
    refine (ccheck_any c _ _ _ HV.out).mono ?_
    rintro e w1 ⟨rfl, hb1⟩
    rw [← HR0.out]
    go_wp2
    go_ret
    exact ⟨ret_int HR.out, HB.out.trans (hb1.mono HB.out.size)⟩
  · have HR0 := Lib.hid (chkC_ok hq)
    by_cases hl : 12 < l.length
    · have HR := Lib.hid (chkT_many hq hl)
      have hl2 : (12 : Int) < l.length := by omega
      clear hq hl
      go_enter Try.func90, Try.ntmps90
      go_wp2_with fail
      generalize w.alloc (cirO c sv wv) = wA at *
      refine (ccheck_any c _ _ _ HV.out).mono ?_
      rintro e w1 ⟨rfl, hb1⟩
      rw [← HR0.out]
      go_wp2
      go_ret
      exact ⟨ret_int HR.out, HB.out.trans (hb1.mono HB.out.size)⟩
    · have HC := Lib.hid (cval hq)
      have hl2 : ¬ (12 : Int) < l.length := by omega
      cases h3 : l.all (triB c)
      all_goals
        first | have HR := Lib.hid (chkT_trial hq hl h3) | have HR := Lib.hid (chkT_ok hq hl h3)
        have HA := Lib.hid (all_any_tri c l)
        rw [h3] at HA
        clear hq hl h3
        go_enter Try.func90, Try.ntmps90
        go_wp2_with fail
        generalize w.alloc (cirO c sv wv) = wA at *
        refine (ccheck_any c _ _ _ HV.out).mono ?_
        rintro e w1 ⟨rfl, hb1⟩
        rw [← HR0.out]
        have HB1 := Lib.hid hb1
        clear hb1
        go_wp2_with fail
        refine (containsTri_any _ l _ _ _ (HT.out.below HB1.out (Nat.le_refl _)) HA.out (fun x w2 _ hb2 => tbad_any x c sv wv w.heap.size w2 (HV.out.ws.below (HB1.out.trans (hb2.mono HB1.out.size)) (Nat.le_refl _)) HC.out (keepZ (keepZ K0.out HB1.out) hb2))).mono ?_
        rintro e w2 ⟨rfl, hb2⟩
        go_wp2
        go_ret
        exact ⟨ret_int HR.out, HB.out.trans ((HB1.out.trans (hb2.mono HB1.out.size)).mono HB.out.size)⟩

/-! ### what a trial shows -/
theorem tri_nat {c : Cir} {t : Tri} (hc : CVal c) (h : triB c t = true) : ∃ hz wi : Nat, t.hz = hz ∧ t.wire = wi ∧ hz < 1048576 ∧ wi < c.ws.length := by
  unfold triB setB at h
  simp only [Bool.and_eq_true, decide_eq_true_eq] at h
  have gp := Nat.pow_le_pow_right (show 0 < 2 by omega) (show c.hz.toNat ≤ 8 by have := hc.h2; omega)
  have : ((2 : Int) ^ c.hz.toNat) = ((2 ^ c.hz.toNat : Nat) : Int) := by simp
  exact ⟨t.hz.toNat, t.wire.toNat, by omega, by omega, by omega, by omega⟩

set_option maxRecDepth 100000 in
set_option maxHeartbeats 4000000 in
theorem shows_any (c : Cir) (t : Tri) (sv wv : Value) (cl : Nat) (w : World) (hv : CirAt w sv wv c) (hc : CVal c) (ht : triB c t = true) (h2 : cl < 1048576) :
    Calls Try.prog 148 #[cirV c sv wv, triV t, .int .i64 cl] w fun e w' => e = .returned (.bool (toldB c t cl)) ∧ Below w.heap.size w w' := by
  obtain ⟨hz, wi, e1, e2, hz20, hwi⟩ := tri_nat hc ht
  obtain ⟨thz, twi⟩ := t
  dsimp only at e1 e2
  subst e1
  subst e2
  have HS1 := Lib.hid (sta_ok hz20 h2)
  have HS2 := Lib.hid (sta_ok hz20 (show 0 < 1048576 by decide))
  have HT := Lib.hid (show (cond c ⟨hz, cl, 0⟩ 24 wi && !cond c ⟨hz, 0, 0⟩ 24 wi) = toldB c ⟨hz, wi⟩ cl by unfold toldB; rw [Int.toNat_natCast])
  have HV0 := Lib.hid hv
  obtain ⟨⟨sa, scap, rfl, _⟩, ⟨wa, wcap, rfl, _⟩⟩ := hv
  have HB := Lib.hid ((blw3 w (cirO c (.slice sa c.sw.length scap) (.slice wa c.ws.length wcap)) (triO ⟨hz, wi⟩) (pliO c ⟨hz, 0, 0⟩ (.slice sa c.sw.length scap) (.slice wa c.ws.length wcap))).alloc (Nat.le_trans (Nat.le_trans (al_le _ _) (al_le _ _)) (al_le _ _)) (pliO c ⟨hz, cl, 0⟩ (.slice sa c.sw.length scap) (.slice wa c.ws.length wcap)))
  have KT := Lib.hid (block_alloc (three_1 w (cirO c (.slice sa c.sw.length scap) (.slice wa c.ws.length wcap)) (triO ⟨hz, wi⟩) (pliO c ⟨hz, 0, 0⟩ (.slice sa c.sw.length scap) (.slice wa c.ws.length wcap))) (pliO c ⟨hz, cl, 0⟩ (.slice sa c.sw.length scap) (.slice wa c.ws.length wcap)))
  have KS := Lib.hid (block_alloc (three_2 w (cirO c (.slice sa c.sw.length scap) (.slice wa c.ws.length wcap)) (triO ⟨hz, wi⟩) (pliO c ⟨hz, 0, 0⟩ (.slice sa c.sw.length scap) (.slice wa c.ws.length wcap))) (pliO c ⟨hz, cl, 0⟩ (.slice sa c.sw.length scap) (.slice wa c.ws.length wcap)))
  have HV := Lib.hid (HV0.out.below HB.out (Nat.le_refl _))
  have HC := Lib.hid hc
  have w24 := hc.w2
  clear hc ht
  go_enter Try.func148, Try.ntmps148
  go_wp2_with fail
  generalize (((w.alloc (cirO c (.slice sa c.sw.length scap) (.slice wa c.ws.length wcap))).alloc (triO ⟨hz, wi⟩)).alloc (pliO c ⟨hz, 0, 0⟩ (.slice sa c.sw.length scap) (.slice wa c.ws.length wcap))).alloc (pliO c ⟨hz, cl, 0⟩ (.slice sa c.sw.length scap) (.slice wa c.ws.length wcap)) = wA at *
  refine (conducts_any c ⟨hz, cl, 0⟩ (.slice sa c.sw.length scap) (.slice wa c.ws.length wcap) HC.out HS1.out 24 wi _ hwi (by omega) HV.out).mono ?_
  rintro e w1 ⟨rfl, hb1⟩
  have cT := block_cell (keepZ KT.out hb1)
  have cS := block_cell (keepZ KS.out hb1)
  have HB1 := Lib.hid hb1
  clear hb1
  cases hq : cond c ⟨hz, cl, 0⟩ 24 wi
  · rw [hq] at HT
    clear hq
    go_wp2_with fail
    go_ret
    exact ⟨ret_bool HT.out, HB.out.trans (HB1.out.mono HB.out.size)⟩
  · rw [hq] at HT
    clear hq
    go_wp2_with fail
    refine (conducts_any c ⟨hz, 0, 0⟩ (.slice sa c.sw.length scap) (.slice wa c.ws.length wcap) HC.out HS2.out 24 wi _ hwi (by omega) (HV.out.below HB1.out (Nat.le_refl _))).mono ?_
    rintro e w2 ⟨rfl, hb2⟩
    clear cT cS
    go_wp2_with fail
    go_ret
    exact ⟨ret_bool HT.out, HB.out.trans ((HB1.out.trans (hb2.mono HB1.out.size)).mono HB.out.size)⟩

theorem shows_is (q : Bool) (c : Cir) (t : Tri) (sv wv : Value) (cl : Nat) (w : World) (hv : CirAt w sv wv c) (hc : CVal c) (ht : triB c t = true) (h2 : cl < 1048576) (hq : toldB c t cl = q) :
    Calls Try.prog 148 #[cirV c sv wv, triV t, .int .i64 cl] w fun e w' => e = .returned (.bool q) ∧ Below w.heap.size w w' := by
  subst hq
  exact shows_any c t sv wv cl w hv hc ht h2

end Go.Proofs.Ytbkhfmigaehgaaa
