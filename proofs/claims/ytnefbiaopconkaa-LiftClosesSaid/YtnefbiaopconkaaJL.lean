/- Walks of layer 5 (lift): BinarySearch, areBreaks, the moving door. -/
import Derived.Test.YtnefbiaopconkaaJK
import Derived.Test.YtnefbiaopconkaaJz
namespace Go.Proofs.Ytnefbiaopconkaa
open Go.RowKit

set_option maxHeartbeats 400000 in
theorem less_any (a b : Int) (w : World) : Calls Try.prog 106 #[.int .i64 a, .int .i64 b] w fun e w' => e = .returned (.bool (decide (a < b))) ∧ w = w' := by
  have h1 : ∀ (x : Int) (w : World), Calls Try.prog 109 #[.int .i64 x] w fun e w' => e = .returned (.bool false) ∧ w = w' := by
    intro x w
    go_enter Try.func109, Try.ntmps109
    go_wp2
    go_ret
    exact ⟨by simp, rfl⟩
  have H1 := Lib.hid h1
  clear h1
  go_enter Try.func106, Try.ntmps106
  go_wp2_with (go_at_call 109; refine (H1.out _ _).mono ?_; rintro e w' ⟨rfl, rfl⟩)
  go_ret
  exact ⟨rfl, rfl⟩

set_option maxHeartbeats 400000 in
theorem snan_any (x : Int) (w : World) : Calls Try.prog 107 #[.int .i64 x] w fun e w' => e = .returned (.bool false) ∧ w = w' := by
  go_enter Try.func107, Try.ntmps107
  go_wp2
  go_ret
  exact ⟨by simp, rfl⟩

theorem asc_mono {l : List Int} {most : Int} (h : ascTo l most l.length = true) {a b : Nat} (hab : a ≤ b) (hb : b < l.length) : l.getD a 0 ≤ l.getD b 0 := by
  have := asc_lt h (b - a) a (by omega)
  rw [show a + (b - a) = b by omega] at this
  omega

theorem brk_iff {l : List Int} {k : Nat} : brkB l k = true ↔ ∃ i, i < l.length ∧ l.getD i 0 = (k : Int) := by
  unfold brkB
  rw [List.any_eq_true]
  constructor
  · rintro ⟨x, hx, h⟩
    obtain ⟨i, hi, rfl⟩ := List.getElem_of_mem hx
    refine ⟨i, hi, ?_⟩
    rw [List.getD_eq_getElem?_getD, List.getElem?_eq_getElem hi]
    simpa using h
  · rintro ⟨i, hi, h⟩
    exact ⟨_, getD_mem hi 0, by simpa using h⟩

theorem brk_found {l : List Int} {most : Int} (h : ascTo l most l.length = true) {k i : Nat} (h1 : ∀ j, j < i → l.getD j 0 < (k : Int)) (h2 : ∀ j, i ≤ j → j < l.length → (k : Int) ≤ l.getD j 0) :
    brkB l k = (decide (i < l.length) && decide (l.getD i 0 = (k : Int))) := by
  cases hb : brkB l k
  · by_cases hi : i < l.length
    · have : ¬ l.getD i 0 = (k : Int) := fun he => by rw [brk_iff.2 ⟨i, hi, he⟩] at hb; cases hb
      simp only [hi, this, decide_true, decide_false, Bool.true_and]
    · simp only [hi, decide_false, Bool.false_and]
  · obtain ⟨j, hj, he⟩ := brk_iff.1 hb
    have hji : ¬ j < i := fun h' => by have := h1 j h'; omega
    have h3 := asc_mono h (show i ≤ j by omega) hj
    have h4 := h2 i (Nat.le_refl _) (by omega)
    have h5 : i < l.length := by omega
    have h6 : l.getD i 0 = (k : Int) := by omega
    simp only [h5, h6, decide_true, Bool.and_self]

theorem mid_eq2 (i j : Nat) : ((i : Int) + (j : Int)) / 2 = (((i + j) / 2 : Nat) : Int) := by omega

set_option maxRecDepth 100000 in
set_option maxHeartbeats 2000000 in
theorem binary_any (v : Value) (l : List Int) (most : Int) (k : Nat) (w : World) (hv : InAt w v l) (hs : ascTo l most l.length = true) (hlen : l.length ≤ 100000) (_hk : k ≤ 100000) :
    Calls Try.prog 100 #[v, .int .i64 k] w fun e w' => (∃ i : Nat, e = .returned (.tuple #[.int .i64 i, .bool (brkB l k)])) ∧ w = w' := by
  obtain ⟨a, cap, rfl, hn, hcap, hc⟩ := hv
  have HC := Lib.hid hc
  have HA := Lib.hid (fun a b hab hb => asc_mono hs (a := a) (b := b) hab hb)
  have HBF := Lib.hid (fun i h1 h2 => brk_found hs (k := k) (i := i) h1 h2)
  clear hc hs
  go_enter Try.func100, Try.ntmps100
  go_wp2_with fail
  go_loopw [7, 8] (fun x y wr => ∃ i j : Nat, i ≤ j ∧ j ≤ l.length ∧ x = .int .i64 i ∧ y = .int .i64 j ∧ w = wr ∧ Hid (∀ m, m < i → l.getD m 0 < (k : Int)) ∧ Hid (∀ m, j ≤ m → m < l.length → (k : Int) ≤ l.getD m 0)) (fun x y _ => (intOf y).toNat - (intOf x).toNat)
  case atStart => exact ⟨0, l.length, Nat.zero_le _, Nat.le_refl _, rfl, rfl, rfl, Lib.hid (fun m hm => by omega), Lib.hid (fun m h1 h2 => by omega)⟩
  case round =>
    obtain ⟨i, j, hij, hj, rfl, rfl, rfl, h1, h2⟩ := hrel
    by_cases hlt : i < j
    · have Hm := Lib.hid (mid_eq2 i j)
      obtain ⟨b, off, rfl, hbl, hc⟩ := HC.out (by omega)
      have hmid : (i + j) / 2 < l.length := by omega
      have g1 := hc _ hmid
      have m1 : i ≤ (i + j) / 2 := by omega
      have m2 : (i + j) / 2 < j := by omega
      clear hc
      go_upto_region 5 with fail
      rw [Hm.out]
      generalize (i + j) / 2 = m at *
      have j0 : (0 : Int) ≤ m := by omega
      have j1 : (m : Int) < l.length := by omega
      by_cases hq : l.getD m 0 < (k : Int)
      · have HN : Hid (∀ n, n < m + 1 → l.getD n 0 < (k : Int)) := Lib.hid (fun n hn => by
          have := HA.out n m (by omega) hmid
          omega)
        generalize l.getD m 0 = x at *
        go_wp2_with (go_at_call 106; refine (less_any _ _ _).mono ?_; rintro e w' ⟨rfl, rfl⟩)
        go_roundw
        case rel => exact ⟨m + 1, j, by omega, hj, by go_num, rfl, by trivial, HN, h2⟩
        case measure => simp [intOf]; omega
      · have HN : Hid (∀ n, m ≤ n → n < l.length → (k : Int) ≤ l.getD n 0) := Lib.hid (fun n hn hn2 => by
          have := HA.out m n hn hn2
          omega)
        generalize l.getD m 0 = x at *
        go_wp2_with (go_at_call 106; refine (less_any _ _ _).mono ?_; rintro e w' ⟨rfl, rfl⟩)
        go_roundw
        case rel => exact ⟨i, m, m1, by omega, rfl, rfl, by trivial, h1, HN⟩
        case measure => simp [intOf]; omega
    · obtain rfl : i = j := by omega
      have HF := Lib.hid (HBF.out i h1.out h2.out)
      by_cases hi : i < l.length
      · obtain ⟨b, off, rfl, hbl, hc⟩ := HC.out (by omega)
        have g1 := hc _ hi
        have j0 : (0 : Int) ≤ i := by omega
        have j1 : (i : Int) < l.length := by omega
        clear hc
        rw [decide_eq_true hi, Bool.true_and] at HF
        generalize l.getD i 0 = x at *
        by_cases hx : x = (k : Int)
        · rw [decide_eq_true hx] at HF
          have hxb : (x == (k : Int)) = true := by simpa using hx
          clear hx
          go_wp2_with (go_at_call 107; refine (snan_any _ _).mono ?_; rintro e w' ⟨rfl, rfl⟩)
          go_ret2
          exact ⟨⟨i, by rw [HF.out]; rfl⟩, rfl⟩
        · rw [decide_eq_false hx] at HF
          have hxb : (x == (k : Int)) = false := by simpa using hx
          clear hx
          go_wp2_with (go_at_call 107; refine (snan_any _ _).mono ?_; rintro e w' ⟨rfl, rfl⟩)
          go_ret2
          exact ⟨⟨i, by rw [HF.out]; rfl⟩, rfl⟩
      · rw [decide_eq_false hi, Bool.false_and] at HF
        have hni : ¬ (i : Int) < l.length := by omega
        go_wp2_with fail
        go_ret2
        exact ⟨⟨i, by rw [HF.out]; rfl⟩, rfl⟩

def breB (l : List Int) : Bool := decide ((l.length : Int) ≤ 20) && ascB l 100000

set_option maxHeartbeats 1000000 in
theorem areBreaks_any (v : Value) (l : List Int) (w : World) (hv : InAt w v l) :
    Calls Try.prog 88 #[v] w fun e w' => e = .returned (.bool (breB l)) ∧ w = w' := by
  have HV := Lib.hid hv
  have HD := Lib.hid (show breB l = (decide ((l.length : Int) ≤ 20) && ascB l 100000) from rfl)
  obtain ⟨a, cap, rfl, hn, hcap, hc⟩ := hv
  clear hc
  go_enter Try.func88, Try.ntmps88
  go_wp2_with (go_at_call 99; refine (areAsc_any _ l 100000 _ HV.out (by decide)).mono ?_; rintro e w' ⟨rfl, rfl⟩)
  all_goals
    go_ret
    exact ⟨ret_bool (by rw [HD.out]; first | (simp_all; done) | (simp_all; intros; omega)), rfl⟩

/-! ### the moving door -/
abbrev movO (d : Dor) (s : DSt) : Obj := .cells #[.int .i64 d.wide, .int .i64 d.wait, .int .i64 s.ph, .int .i64 s.at', .int .i64 s.lf] 105

/-- A method turns the door's state. -/
def Turned (d : Dor) (s' : DSt) (g : Nat) (w w' : World) : Prop := Below g w w' ∧ w'.heap[g]? = some (movO d s') ∧ ∀ b o, g < b → w.heap[b]? = some o → w'.heap[b]? = some o

theorem Turned.set {d : Dor} {s s' : DSt} {g : Nat} {w w' : World} (h : Turned d s g w w') (o : Nat) (u : Value) (hs : Obj.cells (#[.int .i64 d.wide, .int .i64 d.wait, .int .i64 s.ph, .int .i64 s.at', .int .i64 s.lf].setIfInBounds o u) 105 = movO d s') : Turned d s' g w (w'.setCell ⟨g, o, none⟩ u) := by
  obtain ⟨h1, h2, h3⟩ := h
  refine ⟨h1.setCell (Nat.le_refl _) u, ?_, fun b x hb hx => ?_⟩
  · rw [← hs]; exact block_set h2 o u
  · rw [block_set_other (h3 b x hb hx) (p := ⟨g, o, none⟩) (by show b ≠ g; omega) u]

theorem Turned.start {d : Dor} {s : DSt} {g : Nat} {w : World} (h : w.heap[g]? = some (movO d s)) : Turned d s g w w := ⟨Below.refl _ _, h, fun _ _ _ h => h⟩

theorem Turned.trans {d : Dor} {s s' : DSt} {g : Nat} {w w' w'' : World} (h : Turned d s g w w') (h2 : Turned d s' g w' w'') : Turned d s' g w w'' :=
  ⟨h.1.trans h2.1, h2.2.1, fun b o hb ho => h2.2.2 b o hb (h.2.2 b o hb ho)⟩

theorem Turned.drewN {d : Dor} {s : DSt} {g : Nat} {w w' : World} (h : Turned d s g w w') (n : Nat) : Turned d s g w (w'.drewN n) := ⟨below_drewN h.1 n, h.2.1, h.2.2⟩

set_option maxHeartbeats 1000000 in
theorem wait_any (d : Dor) (s : DSt) (g : Nat) (w : World) (k0 : w.heap[g]? = some (movO d s)) :
    Calls Try.prog 108 #[ptr g] w fun e w' => e = .returned (.tuple #[]) ∧ Turned d (waitS d s.at') g w w' := by
  have HT := Lib.hid (Turned.start k0)
  have c0 := block_cell k0
  have f0 := block_free k0
  clear k0
  by_cases hw : d.wait = 0
  · have hwb : (d.wait == 0) = true := by simpa using hw
    have HW := Lib.hid (show waitS d s.at' = ⟨2, s.at', 0⟩ by unfold waitS; rw [if_pos hw, hw])
    go_enter Try.func108, Try.ntmps108
    go_wp2
    go_end0
    refine ⟨rfl, ?_⟩
    rw [HW.out]
    exact ((HT.out.set (s' := ⟨1, s.at', s.lf⟩) 2 _ rfl).set (s' := ⟨1, s.at', 0⟩) 4 _ rfl).set 2 _ rfl
  · have hwb : (d.wait == 0) = false := by simpa using hw
    have HW := Lib.hid (show waitS d s.at' = ⟨1, s.at', d.wait⟩ by unfold waitS; rw [if_neg hw])
    clear hw
    go_enter Try.func108, Try.ntmps108
    go_wp2
    go_end0
    refine ⟨rfl, ?_⟩
    rw [HW.out]
    exact (HT.out.set (s' := ⟨1, s.at', s.lf⟩) 2 _ rfl).set 4 _ rfl

set_option maxHeartbeats 1000000 in
theorem disturb_any (d : Dor) (s : DSt) (g : Nat) (w : World) (k0 : w.heap[g]? = some (movO d s)) :
    Calls Try.prog 101 #[ptr g] w fun e w' => e = .returned (.tuple #[]) ∧ Turned d (distS d s) g w w' := by
  have HT := Lib.hid (Turned.start k0)
  have c0 := block_cell k0
  have f0 := block_free k0
  have HT1 := Lib.hid (HT.out.set (s' := ⟨0, s.at', s.lf⟩) 2 (.int .i64 0) rfl)
  clear k0
  by_cases hw : s.at' = d.wide
  · have hwb : (s.at' == d.wide) = true := by simpa using hw
    have HW := Lib.hid (show distS d s = waitS d s.at' by unfold distS; rw [if_pos hw])
    clear hw
    go_enter Try.func101, Try.ntmps101
    go_wp2_with fail
    go_quiet (fail)
    go_wp2_with fail
    refine (wait_any d ⟨0, s.at', s.lf⟩ g _ (HT1.out.drewN _).2.1).mono ?_
    rintro e w1 ⟨rfl, ht⟩
    have HTT := Lib.hid ((HT1.out.drewN _).trans ht)
    clear ht
    go_wp2
    go_end0
    exact ⟨rfl, by rw [HW.out]; exact HTT.out⟩
  · have hwb : (s.at' == d.wide) = false := by simpa using hw
    have HW := Lib.hid (show distS d s = ⟨0, s.at', s.lf⟩ by unfold distS; rw [if_neg hw])
    clear hw
    go_enter Try.func101, Try.ntmps101
    go_wp2_with fail
    go_quiet (fail)
    go_wp2_with fail
    go_end0
    exact ⟨rfl, by rw [HW.out]; exact HT1.out.drewN _⟩

set_option maxHeartbeats 2000000 in
theorem move_any (d : Dor) (s : DSt) (g : Nat) (w : World) (hd : dorB d = true) (hs : DIn d s) (k0 : w.heap[g]? = some (movO d s)) :
    Calls Try.prog 102 #[ptr g] w fun e w' => e = .returned (.tuple #[]) ∧ Turned d (moveS d s) g w w' := by
  obtain ⟨d1, d2, d3, d4⟩ := dor_of hd
  obtain ⟨hp, a0, a1, l0, l1, ho, hwt, hcl⟩ := hs
  obtain ⟨ph, a, lf⟩ := s
  dsimp only at hp a0 a1 l0 l1 ho hwt hcl
  have HT := Lib.hid (Turned.start k0)
  have c0 := block_cell k0
  have f0 := block_free k0
  clear k0 ho hwt hcl hd
  rcases hp with rfl | rfl | rfl
  · have HT1 := Lib.hid (HT.out.set (s' := ⟨0, a + 1, lf⟩) 3 (.int .i64 (a + 1)) rfl)
    by_cases hw : a + 1 = d.wide
    · have hwb : (a + 1 == d.wide) = true := by simpa using hw
      have HW := Lib.hid (show moveS d ⟨0, a, lf⟩ = waitS d (a + 1) by unfold moveS; rw [if_pos rfl, if_pos hw])
      clear hw
      go_enter Try.func102, Try.ntmps102
      go_wp2_with fail
      go_quiet (fail)
      go_wp2_with fail
      refine (wait_any d ⟨0, a + 1, lf⟩ g _ (HT1.out.drewN _).2.1).mono ?_
      rintro e w1 ⟨rfl, ht⟩
      have HTT := Lib.hid ((HT1.out.drewN _).trans ht)
      clear ht
      go_wp2
      go_end0
      exact ⟨rfl, by rw [HW.out]; exact HTT.out⟩
    · have hwb : (a + 1 == d.wide) = false := by simpa using hw
      have HW := Lib.hid (show moveS d ⟨0, a, lf⟩ = ⟨0, a + 1, lf⟩ by unfold moveS; rw [if_pos rfl, if_neg hw])
      clear hw
      go_enter Try.func102, Try.ntmps102
      go_wp2_with fail
      go_quiet (fail)
      go_wp2_with fail
      go_end0
      exact ⟨rfl, by rw [HW.out]; exact HT1.out.drewN _⟩
  · have HT1 := Lib.hid (HT.out.set (s' := ⟨1, a, lf - 1⟩) 4 (.int .i64 (lf - 1)) rfl)
    by_cases hw : lf - 1 = 0
    · have hwb : (lf - 1 == 0) = true := by simpa using hw
      have HW := Lib.hid (show moveS d ⟨1, a, lf⟩ = ⟨2, a, lf - 1⟩ by unfold moveS; simp only [show ¬ ((1 : Int) = 0) by decide, if_false, if_true]; rw [if_pos hw])
      have HT2 := Lib.hid (HT1.out.set (s' := ⟨2, a, lf - 1⟩) 2 (.int .i64 2) rfl)
      clear hw
      go_enter Try.func102, Try.ntmps102
      go_wp2_with fail
      go_end0
      exact ⟨rfl, by rw [HW.out]; exact HT2.out⟩
    · have hwb : (lf - 1 == 0) = false := by simpa using hw
      have HW := Lib.hid (show moveS d ⟨1, a, lf⟩ = ⟨1, a, lf - 1⟩ by unfold moveS; simp only [show ¬ ((1 : Int) = 0) by decide, if_false, if_true]; rw [if_neg hw])
      clear hw
      go_enter Try.func102, Try.ntmps102
      go_wp2_with fail
      go_end0
      exact ⟨rfl, by rw [HW.out]; exact HT1.out⟩
  · have HT1 := Lib.hid (HT.out.set (s' := ⟨2, a - 1, lf⟩) 3 (.int .i64 (a - 1)) rfl)
    by_cases hw : a - 1 = 0
    · have hwb : (a - 1 == 0) = true := by simpa using hw
      have HW := Lib.hid (show moveS d ⟨2, a, lf⟩ = ⟨3, a - 1, lf⟩ by unfold moveS; simp only [show ¬ ((2 : Int) = 0) by decide, show ¬ ((2 : Int) = 1) by decide, if_false]; rw [if_pos hw])
      have HT2 := Lib.hid (HT1.out.set (s' := ⟨3, a - 1, lf⟩) 2 (.int .i64 3) rfl)
      clear hw
      go_enter Try.func102, Try.ntmps102
      go_wp2_with fail
      go_end0
      exact ⟨rfl, by rw [HW.out]; exact HT2.out⟩
    · have hwb : (a - 1 == 0) = false := by simpa using hw
      have HW := Lib.hid (show moveS d ⟨2, a, lf⟩ = ⟨2, a - 1, lf⟩ by unfold moveS; simp only [show ¬ ((2 : Int) = 0) by decide, show ¬ ((2 : Int) = 1) by decide, if_false]; rw [if_neg hw])
      clear hw
      go_enter Try.func102, Try.ntmps102
      go_wp2_with fail
      go_end0
      exact ⟨rfl, by rw [HW.out]; exact HT1.out⟩

end Go.Proofs.Ytnefbiaopconkaa
