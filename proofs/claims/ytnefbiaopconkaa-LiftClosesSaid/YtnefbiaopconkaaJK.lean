/- Mathematics of layer 5 (lift): doors. -/
import Derived.Test.YtnefbiaopconkaaJi
namespace Go.Proofs.Ytnefbiaopconkaa

structure DSt where
  ph : Int
  at' : Int
  lf : Int

def brkB (l : List Int) (k : Nat) : Bool := l.any fun x => decide (x = (k : Int))

def waitS (d : Dor) (a : Int) : DSt := if d.wait = 0 then ⟨2, a, d.wait⟩ else ⟨1, a, d.wait⟩
def distS (d : Dor) (s : DSt) : DSt := if s.at' = d.wide then waitS d s.at' else ⟨0, s.at', s.lf⟩
def moveS (d : Dor) (s : DSt) : DSt :=
  if s.ph = 0 then (if s.at' + 1 = d.wide then waitS d (s.at' + 1) else ⟨0, s.at' + 1, s.lf⟩)
  else if s.ph = 1 then (if s.lf - 1 = 0 then ⟨2, s.at', s.lf - 1⟩ else ⟨1, s.at', s.lf - 1⟩)
  else (if s.at' - 1 = 0 then ⟨3, s.at' - 1, s.lf⟩ else ⟨2, s.at' - 1, s.lf⟩)
def stD (d : Dor) (l : List Int) : Nat → DSt
  | 0 => ⟨0, 0, 0⟩
  | k + 1 => moveS d (if brkB l k = true then distS d (stD d l k) else stD d l k)

/-- What is so of a door that is not closed. -/
structure DIn (d : Dor) (s : DSt) : Prop where
  p : s.ph = 0 ∨ s.ph = 1 ∨ s.ph = 2
  a0 : 0 ≤ s.at'
  a1 : s.at' ≤ d.wide
  l0 : 0 ≤ s.lf
  l1 : s.lf ≤ d.wait
  o : s.ph = 0 → s.at' < d.wide
  w : s.ph = 1 → s.at' = d.wide ∧ 1 ≤ s.lf
  c : s.ph = 2 → 1 ≤ s.at'

/-- The ticks until the door is closed if nobody stands in it. -/
def phi (d : Dor) (s : DSt) : Int := if s.ph = 0 then (d.wide - s.at') + d.wait + d.wide else if s.ph = 1 then s.lf + d.wide else if s.ph = 2 then s.at' else 0

def stepM (d : Dor) : Int := 2 * (d.wide - 1) + d.wait

theorem dist_in {d : Dor} (hd : dorB d = true) {s : DSt} (h : DIn d s) : DIn d (distS d s) ∧ phi d (distS d s) ≤ phi d s + stepM d := by
  obtain ⟨d1, d2, d3, d4⟩ := dor_of hd
  obtain ⟨hp, a0, a1, l0, l1, ho, hw, hc⟩ := h
  unfold distS waitS
  split
  · split
    · refine ⟨⟨by simp, by dsimp only; omega, by dsimp only; omega, by dsimp only; omega, by dsimp only; omega, by simp, by simp, by intro _; dsimp only; omega⟩, ?_⟩
      simp only [phi, stepM]
      rcases hp with h | h | h <;> simp [h] <;> (have := ho; have := hw; have := hc; simp_all) <;> omega
    · refine ⟨⟨by simp, by dsimp only; omega, by dsimp only; omega, by dsimp only; omega, by dsimp only; omega, by simp, by intro _; dsimp only; omega, by simp⟩, ?_⟩
      simp only [phi, stepM]
      rcases hp with h | h | h <;> simp [h] <;> (have := ho; have := hw; have := hc; simp_all) <;> omega
  · refine ⟨⟨by simp, a0, a1, l0, l1, by intro _; dsimp only; omega, by simp, by simp⟩, ?_⟩
    simp only [phi, stepM]
    rcases hp with h | h | h <;> simp [h] <;> (have := ho; have := hw; have := hc; simp_all) <;> omega

theorem move_in {d : Dor} (hd : dorB d = true) {s : DSt} (h : DIn d s) : ((moveS d s).ph = 3 ∧ (moveS d s).at' = 0 ∧ phi d s = 1 ∨ DIn d (moveS d s) ∧ 1 ≤ (moveS d s).at') ∧ phi d (moveS d s) = phi d s - 1 ∧ 1 ≤ phi d s := by
  obtain ⟨d1, d2, d3, d4⟩ := dor_of hd
  obtain ⟨hp, a0, a1, l0, l1, ho, hw, hc⟩ := h
  obtain ⟨ph, a, lf⟩ := s
  dsimp only at *
  rcases hp with rfl | rfl | rfl
  · have ho := ho rfl
    simp only [moveS, if_true, waitS]
    split
    · split
      · refine ⟨.inr ⟨⟨by simp, by dsimp only; omega, by dsimp only; omega, by dsimp only; omega, by dsimp only; omega, by simp, by simp, by intro _; dsimp only; omega⟩, by dsimp only; omega⟩, ?_, ?_⟩ <;> simp [phi] <;> omega
      · refine ⟨.inr ⟨⟨by simp, by dsimp only; omega, by dsimp only; omega, by dsimp only; omega, by dsimp only; omega, by simp, by intro _; dsimp only; omega, by simp⟩, by dsimp only; omega⟩, ?_, ?_⟩ <;> simp [phi] <;> omega
    · refine ⟨.inr ⟨⟨by simp, by dsimp only; omega, by dsimp only; omega, by dsimp only; omega, by dsimp only; omega, by intro _; dsimp only; omega, by simp, by simp⟩, by dsimp only; omega⟩, ?_, ?_⟩ <;> simp [phi] <;> omega
  · obtain ⟨w1, w2⟩ := hw rfl
    simp only [moveS, show ¬ ((1 : Int) = 0) by decide, if_false, if_true]
    split
    · refine ⟨.inr ⟨⟨by simp, by dsimp only; omega, by dsimp only; omega, by dsimp only; omega, by dsimp only; omega, by simp, by simp, by intro _; dsimp only; omega⟩, by dsimp only; omega⟩, ?_, ?_⟩ <;> simp [phi] <;> omega
    · refine ⟨.inr ⟨⟨by simp, by dsimp only; omega, by dsimp only; omega, by dsimp only; omega, by dsimp only; omega, by simp, by intro _; dsimp only; omega, by simp⟩, by dsimp only; omega⟩, ?_, ?_⟩ <;> simp [phi] <;> omega
  · have hc := hc rfl
    simp only [moveS, show ¬ ((2 : Int) = 0) by decide, show ¬ ((2 : Int) = 1) by decide, if_false]
    split
    · refine ⟨.inl ⟨rfl, by dsimp only; omega, by simp [phi]; omega⟩, ?_, ?_⟩ <;> simp [phi] <;> omega
    · refine ⟨.inr ⟨⟨by simp, by dsimp only; omega, by dsimp only; omega, by dsimp only; omega, by dsimp only; omega, by simp, by simp, by intro _; dsimp only; omega⟩, by dsimp only; omega⟩, ?_, ?_⟩ <;> simp [phi] <;> omega

theorem init_in {d : Dor} (hd : dorB d = true) : DIn d ⟨0, 0, 0⟩ := by
  obtain ⟨d1, d2, d3, d4⟩ := dor_of hd
  exact ⟨.inl rfl, by simp, by dsimp only; omega, by simp, by dsimp only; omega, by intro _; dsimp only; omega, by simp, by simp⟩

/-- The breaks before a tick. -/
def cntL (l : List Int) (k : Nat) : Nat := (l.filter fun x => decide (x < (k : Int))).length

theorem cntL_le (l : List Int) (k : Nat) : cntL l k ≤ l.length := List.length_filter_le _ _

theorem cntL_cons (x : Int) (l : List Int) (k : Nat) : cntL (x :: l) k = (if x < (k : Int) then 1 else 0) + cntL l k := by
  unfold cntL
  rw [List.filter_cons]
  by_cases h : x < (k : Int)
  · rw [if_pos (by simpa using h), if_pos h, List.length_cons]; omega
  · rw [if_neg (by simpa using h), if_neg h]; omega

theorem cntL_mono : ∀ (l : List Int) (k : Nat), cntL l k ≤ cntL l (k + 1)
  | [], _ => Nat.le_refl _
  | x :: l, k => by
    have h := cntL_mono l k
    rw [cntL_cons, cntL_cons]
    split <;> split <;> omega

theorem cntL_more : ∀ (l : List Int) (k : Nat), brkB l k = true → cntL l k + 1 ≤ cntL l (k + 1)
  | [], _, h => by simp [brkB] at h
  | x :: l, k, hb => by
    have h := cntL_mono l k
    rw [cntL_cons, cntL_cons]
    by_cases hx : x = (k : Int)
    · rw [if_neg (by omega), if_pos (by omega)]; omega
    · have h2 := cntL_more l k (by simpa [brkB, hx] using hb)
      split <;> split <;> omega

theorem cntL_step (l : List Int) (k : Nat) : cntL l k + (if brkB l k = true then 1 else 0) ≤ cntL l (k + 1) := by
  by_cases hb : brkB l k = true
  · rw [if_pos hb]; exact cntL_more l k hb
  · rw [if_neg hb]; exact cntL_mono l k

/-- A door that is not closed yet. -/
theorem st_in {d : Dor} (hd : dorB d = true) (l : List Int) : ∀ k : Nat, (∀ j, j ≤ k → (stD d l j).ph ≠ 3) → DIn d (stD d l k) ∧ (k : Int) + phi d (stD d l k) ≤ 2 * d.wide + d.wait + stepM d * (cntL l k : Nat)
  | 0, _ => by
    obtain ⟨d1, d2, d3, d4⟩ := dor_of hd
    refine ⟨init_in hd, ?_⟩
    have : 0 ≤ stepM d * (cntL l 0 : Nat) := Int.mul_nonneg (by unfold stepM; omega) (by omega)
    simp [stD, phi]
    omega
  | k + 1, h => by
    obtain ⟨h1, h2⟩ := st_in hd l k (fun j hj => h j (by omega))
    obtain ⟨d1, d2, d3, d4⟩ := dor_of hd
    have hS : 0 ≤ stepM d := by unfold stepM; omega
    have hc := cntL_step l k
    have h3 := h (k + 1) (Nat.le_refl _)
    simp only [stD] at h3 ⊢
    cases hb : brkB l k
    · rw [hb] at h3 hc
      simp only [Bool.false_eq_true, if_false] at h3 hc ⊢
      obtain ⟨m1, m2, _⟩ := move_in hd h1
      have hm : stepM d * (cntL l k : Nat) ≤ stepM d * (cntL l (k + 1) : Nat) := Int.mul_le_mul_of_nonneg_left (by omega) hS
      refine ⟨?_, by omega⟩
      rcases m1 with m1 | m1
      · exact absurd m1.1 h3
      · exact m1.1
    · rw [hb] at h3 hc
      simp only [if_true] at h3 hc ⊢
      obtain ⟨q1, q2⟩ := dist_in hd h1
      obtain ⟨m1, m2, _⟩ := move_in hd q1
      have hm : stepM d * ((cntL l k : Nat) + 1 : Int) ≤ stepM d * (cntL l (k + 1) : Nat) := Int.mul_le_mul_of_nonneg_left (by omega) hS
      rw [Int.mul_add, Int.mul_one] at hm
      refine ⟨?_, by omega⟩
      rcases m1 with m1 | m1
      · exact absurd m1.1 h3
      · exact m1.1

def outL (d : Dor) (l : List Int) (n : Nat) : List Int := (List.range n).map fun i => (stD d l (i + 1)).at'
theorem outL_succ (d : Dor) (l : List Int) (n : Nat) : outL d l (n + 1) = outL d l n ++ [(stD d l (n + 1)).at'] := by simp [outL, List.range_succ]
theorem outL_len (d : Dor) (l : List Int) (n : Nat) : (outL d l n).length = n := by simp [outL]

/-- In how many ticks the door is closed. -/
def doorN (d : Dor) (l : List Int) : Nat := lstN (fun k => decide ((stD d l k).ph = 3)) 10000

theorem phi_pos {d : Dor} (hd : dorB d = true) {s : DSt} (h : DIn d s) : 1 ≤ phi d s := (move_in hd h).2.2

theorem st_bd {d : Dor} (hd : dorB d = true) {l : List Int} (hl : l.length ≤ 20) {k : Nat} (h : ∀ j, j ≤ k → (stD d l j).ph ≠ 3) : (k : Int) + 1 ≤ 2 * d.wide + d.wait + stepM d * (l.length : Nat) ∧ k ≤ 7000 := by
  obtain ⟨h1, h2⟩ := st_in hd l k h
  obtain ⟨d1, d2, d3, d4⟩ := dor_of hd
  have hS : 0 ≤ stepM d := by unfold stepM; omega
  have h3 := phi_pos hd h1
  have h4 := cntL_le l k
  have h5 : stepM d * (cntL l k : Nat) ≤ stepM d * (l.length : Nat) := Int.mul_le_mul_of_nonneg_left (by omega) hS
  have h6 : stepM d * (l.length : Nat) ≤ 298 * 20 := Int.mul_le_mul (by unfold stepM; omega) (by omega) (by omega) (by omega)
  omega

theorem doorN_is {d : Dor} {l : List Int} {k : Nat} (hk : k ≤ 9000) (h1 : ∀ j, j < k → (stD d l j).ph ≠ 3) (h2 : (stD d l k).ph = 3) : doorN d l = k :=
  lst_eq (by omega) (fun i hi => decide_eq_false (h1 i hi)) (fun _ => decide_eq_true h2)

theorem doorN_spec {d : Dor} (hd : dorB d = true) {l : List Int} (hl : l.length ≤ 20) :
    (stD d l (doorN d l)).ph = 3 ∧ (stD d l (doorN d l)).at' = 0 ∧ 1 ≤ doorN d l ∧ (doorN d l : Int) ≤ 2 * d.wide + d.wait + stepM d * (l.length : Nat) ∧ ∀ j, j < doorN d l → (stD d l j).ph ≠ 3 := by
  obtain ⟨h1, h2, h3⟩ := lst_spec (fun k => decide ((stD d l k).ph = 3)) 10000
  have hlt : doorN d l < 10000 := by
    rcases Nat.lt_or_ge (doorN d l) 10000 with h | h
    · exact h
    · have he : doorN d l = 10000 := by unfold doorN at *; omega
      have h4 : ∀ j, j ≤ 9000 → (stD d l j).ph ≠ 3 := fun j hj => of_decide_eq_false (h2 j (by unfold doorN at he; omega))
      have := (st_bd hd hl h4).2
      omega
  have h4 : (stD d l (doorN d l)).ph = 3 := of_decide_eq_true (h3 hlt)
  have h5 : ∀ j, j < doorN d l → (stD d l j).ph ≠ 3 := fun j hj => of_decide_eq_false (h2 j hj)
  have h6 : 1 ≤ doorN d l := by
    rcases Nat.eq_zero_or_pos (doorN d l) with h | h
    · rw [h] at h4
      simp [stD] at h4
    · exact h
  obtain ⟨m, hm⟩ : ∃ m, doorN d l = m + 1 := ⟨doorN d l - 1, by omega⟩
  rw [hm] at h4 h5 ⊢
  obtain ⟨q1, _⟩ := st_in hd l m (fun j hj => h5 j (by omega))
  have q3 := (st_bd hd hl (k := m) (fun j hj => h5 j (by omega))).1
  refine ⟨h4, ?_, by omega, by omega, h5⟩
  simp only [stD] at h4 ⊢
  cases hb : brkB l m
  · rw [hb] at h4
    simp only [Bool.false_eq_true, if_false] at h4 ⊢
    rcases (move_in hd q1).1 with m1 | m1
    · exact m1.2.1
    · rcases m1.1.p with h | h | h <;> rw [h4] at h <;> cases h
  · rw [hb] at h4
    simp only [if_true] at h4 ⊢
    rcases (move_in hd (dist_in hd q1).1).1 with m1 | m1
    · exact m1.2.1
    · rcases m1.1.p with h | h | h <;> rw [h4] at h <;> cases h

end Go.Proofs.Ytnefbiaopconkaa
