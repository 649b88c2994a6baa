/- The plain mathematics of layer 3 (circuit): how many elements a set has; the least set. Nothing here speaks of the program. -/
import Derived.Test.YtbkhfmigaehgaaaCn
namespace Go.Proofs.Ytbkhfmigaehgaaa

def onesF : Nat → Nat → Nat
  | 0, _ => 0
  | f + 1, n => if n = 0 then 0 else n % 2 + onesF f (n / 2)

theorem onesF_succ (f n : Nat) : onesF (f + 1) n = if n = 0 then 0 else n % 2 + onesF f (n / 2) := rfl

theorem onesF_more : ∀ (f n : Nat), n < 2 ^ f → onesF (f + 1) n = onesF f n
  | 0, n, h => by
    have : n = 0 := by simpa using h
    subst this; rfl
  | f + 1, n, h => by
    rw [onesF_succ (f + 1) n, onesF_succ f n]
    split
    · rfl
    · rw [onesF_more f (n / 2) (by rw [Nat.pow_succ] at h; omega)]

/-- How many elements a set of less than 20 numbers has. -/
def ones (n : Nat) : Nat := onesF 20 n

theorem ones_zero : ones 0 = 0 := rfl
theorem ones_step {n : Nat} (h : n < 1048576) (h0 : n ≠ 0) : ones n = n % 2 + ones (n / 2) := by
  unfold ones
  rw [← onesF_more 20 n h, onesF_succ, if_neg h0]

theorem ones_le : ∀ (m n : Nat), m ≤ 20 → n < 2 ^ m → ones n ≤ m ∧ (n < 2 ^ m - 1 → ones n < m)
  | 0, n, _, h => by
    have : n = 0 := by simpa using h
    subst this
    exact ⟨by rw [ones_zero]; exact Nat.le_refl _, fun h => by simp at h⟩
  | m + 1, n, hm, h => by
    have hp := Nat.pow_le_pow_right (show 0 < 2 by omega) hm
    rw [Nat.pow_succ] at h
    by_cases h0 : n = 0
    · subst h0
      rw [ones_zero]
      exact ⟨Nat.zero_le _, fun _ => Nat.succ_pos _⟩
    · have h1 := ones_le m (n / 2) (by omega) (by omega)
      rw [ones_step (by omega) h0]
      refine ⟨by omega, fun h2 => ?_⟩
      rw [Nat.pow_succ] at h2
      by_cases h3 : n / 2 < 2 ^ m - 1
      · have := h1.2 h3; omega
      · have : n % 2 = 0 := by omega
        omega

theorem ones_all (m : Nat) : m ≤ 20 → ones (2 ^ m - 1) = m := by
  induction m with
  | zero => intro _; rfl
  | succ m ih =>
    intro hm
    have hp := Nat.pow_le_pow_right (show 0 < 2 by omega) hm
    have hp1 := Nat.one_le_two_pow (n := m)
    rw [Nat.pow_succ] at hp ⊢
    rw [ones_step (by omega) (by omega), show (2 ^ m * 2 - 1) / 2 = 2 ^ m - 1 by omega, ih (by omega)]
    omega

/-- The program's search: of the first k sets, beginning with all of them. -/
def bestP (p : Nat → Bool) (all : Nat) : Nat → Nat
  | 0 => all
  | k + 1 => if (decide (ones k < ones (bestP p all k)) && p k) = true then k else bestP p all k
/-- The specification's search. -/
def bestS (p : Nat → Bool) : Nat → Option Nat
  | 0 => none
  | k + 1 => match bestS p k with
    | none => if p k = true then some k else none
    | some b => if (decide (ones k < ones b) && p k) = true then some k else some b

theorem bestS_none {p : Nat → Bool} : ∀ {k : Nat}, (∀ j, j < k → p j = false) → bestS p k = none
  | 0, _ => rfl
  | k + 1, h => by
    unfold bestS
    rw [bestS_none (fun j hj => h j (by omega)), h k (by omega)]
    rfl

theorem best_same {p : Nat → Bool} {m : Nat} (hm : m ≤ 12) : ∀ k, k ≤ 2 ^ m - 1 → (bestS p k = none ∧ bestP p (2 ^ m - 1) k = 2 ^ m - 1) ∨ bestS p k = some (bestP p (2 ^ m - 1) k)
  | 0, _ => Or.inl ⟨rfl, rfl⟩
  | k + 1, hk => by
    have h1 := (ones_le m k (by omega) (by omega)).2 (by omega)
    rcases best_same hm k (by omega) with ⟨h2, h3⟩ | h2
    · rw [show bestS p (k + 1) = (match bestS p k with | none => if p k = true then some k else none | some b => if (decide (ones k < ones b) && p k) = true then some k else some b) from rfl, h2]
      rw [show bestP p (2 ^ m - 1) (k + 1) = if (decide (ones k < ones (bestP p (2 ^ m - 1) k)) && p k) = true then k else bestP p (2 ^ m - 1) k from rfl, h3, ones_all m (by omega), decide_eq_true h1, Bool.true_and]
      cases hp : p k
      · exact Or.inl ⟨rfl, rfl⟩
      · exact Or.inr rfl
    · rw [show bestS p (k + 1) = (match bestS p k with | none => if p k = true then some k else none | some b => if (decide (ones k < ones b) && p k) = true then some k else some b) from rfl, h2]
      rw [show bestP p (2 ^ m - 1) (k + 1) = if (decide (ones k < ones (bestP p (2 ^ m - 1) k)) && p k) = true then k else bestP p (2 ^ m - 1) k from rfl]
      right
      dsimp only
      split <;> rfl

theorem best_final {p : Nat → Bool} {m : Nat} (hm : m ≤ 12) (ha : p (2 ^ m - 1) = true) : bestS p (2 ^ m) = some (bestP p (2 ^ m - 1) (2 ^ m - 1)) := by
  have hp1 := Nat.one_le_two_pow (n := m)
  have h := best_same (p := p) hm (2 ^ m - 1) (Nat.le_refl _)
  have e : 2 ^ m = (2 ^ m - 1) + 1 := by omega
  have hs : bestS p ((2 ^ m - 1) + 1) = (match bestS p (2 ^ m - 1) with | none => if p (2 ^ m - 1) = true then some (2 ^ m - 1) else none | some b => if (decide (ones (2 ^ m - 1) < ones b) && p (2 ^ m - 1)) = true then some (2 ^ m - 1) else some b) := rfl
  rw [← e] at hs
  rw [hs]
  rcases h with ⟨h2, h3⟩ | h2
  · rw [h2, h3, ha]; rfl
  · rw [h2]
    dsimp only
    have hb : bestP p (2 ^ m - 1) (2 ^ m - 1) < 2 ^ m := by
      have : ∀ k, k ≤ 2 ^ m - 1 → bestP p (2 ^ m - 1) k < 2 ^ m := by
        intro k
        induction k with
        | zero => intro _; show 2 ^ m - 1 < 2 ^ m; omega
        | succ k ih =>
          intro hk
          rw [show bestP p (2 ^ m - 1) (k + 1) = if (decide (ones k < ones (bestP p (2 ^ m - 1) k)) && p k) = true then k else bestP p (2 ^ m - 1) k from rfl]
          split
          · omega
          · exact ih (by omega)
      exact this _ (Nat.le_refl _)
    have := (ones_le m _ (by omega) hb).1
    rw [ones_all m (by omega), decide_eq_false (by omega)]
    rfl

theorem bestP_spec {p : Nat → Bool} {all : Nat} (ha : p all = true) : ∀ k, p (bestP p all k) = true ∧ ∀ j, j < k → p j = true → ones (bestP p all k) ≤ ones j
  | 0 => ⟨ha, fun j hj => by omega⟩
  | k + 1 => by
    obtain ⟨h1, h2⟩ := bestP_spec (p := p) (all := all) ha k
    rw [show bestP p all (k + 1) = if (decide (ones k < ones (bestP p all k)) && p k) = true then k else bestP p all k from rfl]
    split
    · rename_i h
      simp only [Bool.and_eq_true, decide_eq_true_eq] at h
      refine ⟨h.2, fun j hj hp => ?_⟩
      by_cases e : j = k
      · rw [e]; exact Nat.le_refl _
      · have := h2 j (by omega) hp; omega
    · rename_i h
      simp only [Bool.and_eq_true, decide_eq_true_eq] at h
      refine ⟨h1, fun j hj hp => ?_⟩
      by_cases e : j = k
      · subst e
        have : ¬ ones j < ones (bestP p all j) := fun hlt => h ⟨hlt, hp⟩
        omega
      · exact h2 j (by omega) hp

end Go.Proofs.Ytbkhfmigaehgaaa
