/- Mathematics of layer 5 (lift): the worst breaks of a door. -/
import Derived.Test.YtnefbiaopconkaaJN
namespace Go.Proofs.Ytnefbiaopconkaa

/-- The first tick in which somebody can stand in the doorway and do most harm. -/
def worT (d : Dor) : Int := 2 * d.wide + d.wait - 1
def brwL (d : Dor) (n : Nat) : List Int := (List.range n).map fun (i : Nat) => worT d + (i : Int) * stepM d
theorem brwL_len (d : Dor) (n : Nat) : (brwL d n).length = n := by simp [brwL]
theorem brwL_succ (d : Dor) (n : Nat) : brwL d (n + 1) = brwL d n ++ [worT d + (n : Int) * stepM d] := by simp [brwL, List.range_succ]
theorem brwL_get (d : Dor) (n i : Nat) (h : i < n) : (brwL d n).getD i 0 = worT d + (i : Int) * stepM d := by simp [brwL, h]

theorem mul_step {a b : Nat} {S : Int} (hS : 0 ≤ S) (h : a + 1 ≤ b) : (a : Int) * S + S ≤ (b : Int) * S := by
  have := Int.mul_le_mul_of_nonneg_right (show ((a : Int) + 1) ≤ b by omega) hS
  rw [Int.add_mul, Int.one_mul] at this
  exact this

theorem brk_wor {d : Dor} {n k : Nat} : brkB (brwL d n) k = true ↔ ∃ i : Nat, i < n ∧ worT d + (i : Int) * stepM d = (k : Int) := by
  simp only [brkB, brwL, List.any_eq_true, List.mem_map, List.mem_range, decide_eq_true_eq]
  constructor
  · rintro ⟨x, ⟨i, hi, rfl⟩, hx⟩; exact ⟨i, hi, hx⟩
  · rintro ⟨i, hi, hx⟩; exact ⟨_, ⟨i, hi, rfl⟩, hx⟩

/-- No break between two of the worst. -/
theorem brk_between {d : Dor} {n k : Nat} (hS : 0 < stepM d) {i : Nat} (h1 : (k : Int) < worT d + (i : Int) * stepM d) (h0 : i = 0 ∨ worT d + ((i - 1 : Nat) : Int) * stepM d < (k : Int)) : brkB (brwL d n) k = false := by
  cases hb : brkB (brwL d n) k
  · rfl
  · obtain ⟨j, hj, he⟩ := brk_wor.1 hb
    exfalso
    rcases Nat.lt_or_ge j i with h | h
    · rcases h0 with h0 | h0
      · omega
      · rcases Nat.eq_or_lt_of_le (show j ≤ i - 1 by omega) with h2 | h2
        · rw [h2] at he; omega
        · have := mul_step (S := stepM d) (by omega) (show j + 1 ≤ i - 1 by omega)
          omega
    · rcases Nat.eq_or_lt_of_le h with h2 | h2
      · rw [h2] at h1; omega
      · have := mul_step (S := stepM d) (by omega) (show i + 1 ≤ j by omega)
        omega

/-- What is so of the door in a tick: it is not closed, and nobody need wait longer than m. -/
def At (d : Dor) (l : List Int) (k : Nat) (m : Int) : Prop := DIn d (stD d l k) ∧ phi d (stD d l k) = m

theorem din_ne {d : Dor} {s : DSt} (h : DIn d s) : s.ph ≠ 3 := by rcases h.p with h | h | h <;> omega

theorem free_one {d : Dor} (hd : dorB d = true) {l : List Int} {k : Nat} {m : Int} (h : At d l k m) (hm : 1 < m) (hb : brkB l k = false) : At d l (k + 1) (m - 1) := by
  obtain ⟨h1, h2⟩ := h
  have hs : stD d l (k + 1) = moveS d (stD d l k) := by show moveS d (if brkB l k = true then _ else _) = _; rw [hb]; rfl
  obtain ⟨q1, q2, _⟩ := move_in hd h1
  rw [At, hs]
  refine ⟨?_, by omega⟩
  rcases q1 with q1 | q1
  · omega
  · exact q1.1

theorem free_run {d : Dor} (hd : dorB d = true) {l : List Int} {k : Nat} : ∀ (j : Nat) {m : Int}, At d l k m → (j : Int) < m → (∀ i, i < j → brkB l (k + i) = false) → At d l (k + j) (m - j)
  | 0, m, h, _, _ => by simpa using h
  | j + 1, m, h, hj, hb => by
    have h1 := free_run hd j h (by omega) (fun i hi => hb i (by omega))
    have h2 := free_one hd h1 (by omega) (hb j (by omega))
    rw [show m - ((j + 1 : Nat) : Int) = m - (j : Int) - 1 by omega]
    exact h2

theorem brk_one {d : Dor} (hd : dorB d = true) (hS : 0 < stepM d) {l : List Int} {k : Nat} (h : At d l k 1) (hb : brkB l k = true) : At d l (k + 1) (stepM d) := by
  obtain ⟨h1, h2⟩ := h
  obtain ⟨d1, d2, d3, d4⟩ := dor_of hd
  have hs : stD d l (k + 1) = moveS d (distS d (stD d l k)) := by show moveS d (if brkB l k = true then _ else _) = _; rw [hb]; rfl
  have hp : phi d (distS d (stD d l k)) = 1 + stepM d := by
    generalize stD d l k = s at *
    obtain ⟨ph, a, lf⟩ := s
    obtain ⟨hp, a0, a1, l0, l1, ho, hw, hc⟩ := h1
    dsimp only at *
    rcases hp with rfl | rfl | rfl
    · have := ho rfl
      simp [phi] at h2
      omega
    · obtain ⟨w1, w2⟩ := hw rfl
      simp [phi] at h2
      omega
    · simp [phi] at h2
      unfold stepM at *
      unfold distS waitS
      dsimp only
      split
      · split
        · omega
        · simp [phi]; omega
      · simp [phi]; omega
  have hdi := (dist_in hd h1).1
  obtain ⟨q1, q2, _⟩ := move_in hd hdi
  rw [At, hs]
  refine ⟨?_, by omega⟩
  rcases q1 with q1 | q1
  · omega
  · exact q1.1

theorem close_one {d : Dor} (hd : dorB d = true) {l : List Int} {k : Nat} (h : At d l k 1) (hb : brkB l k = false) : (stD d l (k + 1)).ph = 3 := by
  obtain ⟨h1, h2⟩ := h
  have hs : stD d l (k + 1) = moveS d (stD d l k) := by show moveS d (if brkB l k = true then _ else _) = _; rw [hb]; rfl
  obtain ⟨q1, q2, _⟩ := move_in hd h1
  rw [hs]
  rcases q1 with q1 | q1
  · exact q1.1
  · have := phi_pos hd q1.1
    omega

/-- The worst breaks keep the door open as long as Dwell says. -/
theorem wor_run {d : Dor} (hd : dorB d = true) (hS : 0 < stepM d) (n : Nat) : ∀ (i : Nat), i ≤ n → ∀ k : Nat, (k : Int) = worT d + (i : Int) * stepM d → At d (brwL d n) k 1 ∧ ∀ j, j ≤ k → (stD d (brwL d n) j).ph ≠ 3
  | 0, _, k, hk => by
    obtain ⟨d1, d2, d3, d4⟩ := dor_of hd
    have h0 : At d (brwL d n) 0 ((k : Int) + 1) := ⟨init_in hd, by unfold worT at hk; simp [stD, phi]; omega⟩
    have hb : ∀ j, j < k → brkB (brwL d n) j = false := fun j hj => brk_between (i := 0) hS (by omega) (.inl rfl)
    have hr : ∀ j : Nat, j ≤ k → At d (brwL d n) j ((k : Int) + 1 - j) := fun j hj => by
      have := free_run hd j h0 (by omega) (fun i hi => by rw [Nat.zero_add]; exact hb i (by omega))
      rw [Nat.zero_add] at this
      exact this
    refine ⟨?_, fun j hj => din_ne (hr j hj).1⟩
    have := hr k (Nat.le_refl _)
    rw [show (k : Int) + 1 - k = 1 by omega] at this
    exact this
  | i + 1, hi, k, hk => by
    obtain ⟨d1, d2, d3, d4⟩ := dor_of hd
    have hi0 : 0 ≤ (i : Int) * stepM d := Int.mul_nonneg (by omega) (by omega)
    have hmul : ((i + 1 : Nat) : Int) * stepM d = (i : Int) * stepM d + stepM d := by rw [show ((i + 1 : Nat) : Int) = (i : Int) + 1 by omega, Int.add_mul, Int.one_mul]
    rw [hmul] at hk
    have hT : 1 ≤ worT d := by unfold worT; omega
    obtain ⟨m, hm⟩ : ∃ m : Nat, (m : Int) = worT d + (i : Int) * stepM d := ⟨(worT d + (i : Int) * stepM d).toNat, by omega⟩
    obtain ⟨s, hs⟩ : ∃ s : Nat, (s : Int) = stepM d := ⟨(stepM d).toNat, by omega⟩
    obtain ⟨h1, h2⟩ := wor_run hd hS n i (by omega) m hm
    have h3 := brk_one hd hS h1 (brk_wor.2 ⟨i, by omega, hm.symm⟩)
    have hkm : k = m + s := by omega
    have hb : ∀ j, j < s - 1 → brkB (brwL d n) (m + 1 + j) = false := fun j hj => brk_between (i := i + 1) hS (by rw [hmul]; omega) (.inr (by rw [show i + 1 - 1 = i from rfl]; omega))
    have hr : ∀ j : Nat, j ≤ s - 1 → At d (brwL d n) (m + 1 + j) (stepM d - j) := fun j hj => free_run hd j h3 (by omega) (fun i hi => hb i (by omega))
    refine ⟨?_, fun j hj => ?_⟩
    · have := hr (s - 1) (Nat.le_refl _)
      rw [show m + 1 + (s - 1) = k by omega, show stepM d - ((s - 1 : Nat) : Int) = 1 by omega] at this
      exact this
    · rcases Nat.lt_or_ge m j with h | h
      · have := hr (j - (m + 1)) (by omega)
        rw [show m + 1 + (j - (m + 1)) = j by omega] at this
        exact din_ne this.1
      · exact h2 j h

theorem wor_bd {d : Dor} (hd : dorB d = true) {n : Nat} (hn : n ≤ 20) : 0 ≤ (n : Int) * stepM d ∧ (n : Int) * stepM d ≤ 298 * 20 := by
  obtain ⟨d1, d2, d3, d4⟩ := dor_of hd
  refine ⟨Int.mul_nonneg (by omega) (by unfold stepM; omega), ?_⟩
  have := Int.mul_le_mul (show (n : Int) ≤ 20 by omega) (show stepM d ≤ 298 by unfold stepM; omega) (by unfold stepM; omega) (by omega)
  omega

theorem wor_doorN {d : Dor} (hd : dorB d = true) (hS : 0 < stepM d) {n : Nat} (hn : n ≤ 20) : (doorN d (brwL d n) : Int) = dweM d n := by
  obtain ⟨d1, d2, d3, d4⟩ := dor_of hd
  obtain ⟨b1, b2⟩ := wor_bd hd hn
  have hT : 1 ≤ worT d := by unfold worT; omega
  obtain ⟨k, hk⟩ : ∃ k : Nat, (k : Int) = worT d + (n : Int) * stepM d := ⟨(worT d + (n : Int) * stepM d).toNat, by omega⟩
  obtain ⟨h1, h2⟩ := wor_run hd hS n n (Nat.le_refl _) k hk
  have hb : brkB (brwL d n) k = false := by
    cases hb : brkB (brwL d n) k
    · rfl
    · obtain ⟨j, hj, he⟩ := brk_wor.1 hb
      have := mul_step (S := stepM d) (by omega) (show j + 1 ≤ n by omega)
      omega
  have h3 := close_one hd h1 hb
  rw [doorN_is (d := d) (l := brwL d n) (k := k + 1) (by unfold worT at hk; omega) (fun j hj => h2 j (by omega)) h3]
  unfold dweM
  unfold worT at hk
  show ((k + 1 : Nat) : Int) = 2 * d.wide + d.wait + (n : Int) * stepM d
  omega

theorem wor_brk {d : Dor} (hd : dorB d = true) {n : Nat} (hS : 0 < stepM d) (hn : n ≤ 20) : breB (brwL d n) = true := by
  obtain ⟨d1, d2, d3, d4⟩ := dor_of hd
  have hT : 1 ≤ worT d ∧ worT d ≤ 299 := by unfold worT; omega
  rw [breB, Bool.and_eq_true]
  refine ⟨decide_eq_true (by rw [brwL_len]; omega), ?_⟩
  rw [show ascB (brwL d n) 100000 = ascTo (brwL d n) 100000 (brwL d n).length from rfl, ascTo_all, brwL_len]
  intro i hi
  obtain ⟨b1, b2⟩ := wor_bd hd (n := i) (by omega)
  rw [brwL_get d n i hi]
  refine ⟨?_, by omega⟩
  unfold lowA
  split
  · omega
  · rw [brwL_get d n (i - 1) (by omega)]
    have := mul_step (S := stepM d) (by omega) (show i - 1 + 1 ≤ i by omega)
    omega

end Go.Proofs.Ytnefbiaopconkaa
