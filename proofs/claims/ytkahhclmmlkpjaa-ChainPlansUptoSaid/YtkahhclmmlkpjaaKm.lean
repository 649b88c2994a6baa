/- The plain mathematics of layer 2 (chain), first part: bounds of differences, and what follows from them. Nothing here speaks of the program. -/
import Derived.WalkKit
namespace Go.Proofs.Ytkahhclmmlkpjaa

/-- Bounds of differences: end k lies behind end i by at most 'M i k'. -/
abbrev Net := Nat → Nat → Int

/-- The places x of the ends 0 .. n keep all bounds. -/
def Sat (n : Nat) (M : Net) (x : Nat → Int) : Prop := ∀ i k, i ≤ n → k ≤ n → x k - x i ≤ M i k

/-- One round: by way of end b. -/
def rnd (M : Net) (b : Nat) : Net := fun i k => min (M i k) (M i b + M b k)

/-- In the midst of the round: the rows before i are done, and row i up to k. -/
def mid (M : Net) (b i k : Nat) : Net := fun i' k' => if i' < i ∨ (i' = i ∧ k' < k) then min (M i' k') (M i' b + M b k') else M i' k'

/-- The rounds 0 .. t - 1. -/
def fw (M : Net) : Nat → Net
  | 0 => M
  | t + 1 => rnd (fw M t) t

/-- No end lies before itself behind any of the rounds up to t. -/
def Good (n : Nat) (M : Net) (t : Nat) : Prop := ∀ u, u ≤ t → ∀ i, i ≤ n → 0 ≤ fw M u i i

theorem mid_start (M : Net) (b : Nat) : mid M b 0 0 = M := by
  funext i k; simp [mid]

theorem mid_row {n : Nat} {M : Net} {b : Nat} (i : Nat) : ∀ i' k', i' ≤ n → k' ≤ n → mid M b i (n + 1) i' k' = mid M b (i + 1) 0 i' k' := by
  intro i' k' h1 h2
  unfold mid
  by_cases h : i' < i ∨ (i' = i ∧ k' < n + 1)
  · rw [if_pos h, if_pos (by omega)]
  · rw [if_neg h, if_neg (by omega)]

theorem mid_end {n : Nat} {M : Net} {b : Nat} : ∀ i' k', i' ≤ n → k' ≤ n → mid M b (n + 1) 0 i' k' = rnd M b i' k' := by
  intro i' k' h1 h2
  unfold mid rnd
  rw [if_pos (by omega)]

/-- A step of the round: what is stored. -/
theorem mid_step {M : Net} {b i k : Nat} (hb : 0 ≤ M b b) : min (mid M b i k i k) (mid M b i k i b + mid M b i k b k) = rnd M b i k := by
  unfold mid rnd
  rw [if_neg (by omega)]
  have h1 : (if i < i ∨ (i = i ∧ b < k) then min (M i b) (M i b + M b b) else M i b) = M i b := by split <;> omega
  have h2 : (if b < i ∨ (b = i ∧ k < k) then min (M b k) (M b b + M b k) else M b k) = M b k := by split <;> omega
  rw [h1, h2]

theorem mid_next {M : Net} {b i k : Nat} : ∀ i' k', mid M b i (k + 1) i' k' = if i' = i ∧ k' = k then rnd M b i k else mid M b i k i' k' := by
  intro i' k'
  unfold mid rnd
  by_cases h : i' = i ∧ k' = k
  · obtain ⟨rfl, rfl⟩ := h
    rw [if_pos (by omega), if_pos ⟨rfl, rfl⟩]
  · rw [if_neg h]
    by_cases h2 : i' < i ∨ (i' = i ∧ k' < k)
    · rw [if_pos h2, if_pos (by omega)]
    · rw [if_neg h2, if_neg (by omega)]

/-! ### What the rounds keep -/
theorem fw_le (M : Net) (t i k : Nat) : fw M (t + 1) i k ≤ fw M t i k := by
  show min _ _ ≤ _
  omega

theorem fw_le0 (M : Net) (t i k : Nat) : fw M t i k ≤ M i k := by
  induction t with
  | zero => exact Int.le_refl _
  | succ t ih => exact Int.le_trans (fw_le M t i k) ih

theorem sat_rnd {n : Nat} {M : Net} {b : Nat} {x : Nat → Int} (hb : b ≤ n) : Sat n (rnd M b) x ↔ Sat n M x := by
  constructor
  · intro h i k hi hk
    have h1 := h i k hi hk
    unfold rnd at h1
    omega
  · intro h i k hi hk
    have h1 := h i k hi hk
    have h2 := h i b hi hb
    have h3 := h b k hb hk
    unfold rnd
    omega

theorem sat_fw {n : Nat} {M : Net} {x : Nat → Int} (t : Nat) (ht : t ≤ n + 1) : Sat n (fw M t) x ↔ Sat n M x := by
  induction t with
  | zero => exact Iff.rfl
  | succ t ih => exact (sat_rnd (by omega)).trans (ih (by omega))

/-- An end before itself: nothing keeps the bounds. -/
theorem no_sat {n : Nat} {M : Net} {t i : Nat} (ht : t ≤ n + 1) (hi : i ≤ n) (h : fw M t i i < 0) (x : Nat → Int) : ¬ Sat n M x := by
  intro hs
  have h1 := (sat_fw t ht).2 hs i i hi hi
  omega

theorem Good.mono {n : Nat} {M : Net} {t u : Nat} (h : Good n M t) (hu : u ≤ t) : Good n M u := fun v hv => h v (by omega)

theorem Good.next {n : Nat} {M : Net} {t : Nat} (h : Good n M t) (h1 : ∀ i, i ≤ n → 0 ≤ fw M (t + 1) i i) : Good n M (t + 1) := by
  intro u hu i hi
  rcases Nat.lt_or_ge u (t + 1) with h2 | h2
  · exact h u (by omega) i hi
  · obtain rfl : u = t + 1 := by omega
    exact h1 i hi

/-- Behind the rounds each bound is at most the sum by way of any end that was gone through. -/
theorem good_closed {n : Nat} {M : Net} {t : Nat} (ht : t ≤ n + 1) (h : Good n M t) : ∀ i k b, i ≤ n → k ≤ n → b < t → fw M t i k ≤ fw M t i b + fw M t b k := by
  induction t with
  | zero => intro i k b _ _ hb; omega
  | succ t ih =>
    intro i k b hi hk hb
    have ih' := ih (by omega) (h.mono (by omega))
    have hd : 0 ≤ fw M t t t := h t (by omega) t (by omega)
    show rnd (fw M t) t i k ≤ rnd (fw M t) t i b + rnd (fw M t) t b k
    unfold rnd
    rcases Nat.lt_or_ge b t with hbt | hbt
    · have a1 := ih' i k b hi hk hbt
      have a2 := ih' t k b (by omega) hk hbt
      have a3 := ih' i t b hi (by omega) hbt
      have a4 := ih' t t b (by omega) (by omega) hbt
      omega
    · obtain rfl : b = t := by omega
      omega

/-- The bounds are closed: no way is shorter, and each end lies at itself. -/
structure Closed (n : Nat) (R : Net) : Prop where
  way : ∀ i b k, i ≤ n → b ≤ n → k ≤ n → R i k ≤ R i b + R b k
  self : ∀ i, i ≤ n → R i i = 0

theorem closed_fw {n : Nat} {M : Net} (h0 : ∀ i, i ≤ n → M i i = 0) (h : Good n M (n + 1)) : Closed n (fw M (n + 1)) := by
  refine ⟨fun i b k hi hb hk => good_closed (Nat.le_refl _) h i k b hi hk (by omega), fun i hi => ?_⟩
  have h1 := h (n + 1) (Nat.le_refl _) i hi
  have h2 := fw_le0 M (n + 1) i i
  rw [h0 i hi] at h2
  omega

/-- From one end on, all at their farthest: the bounds are kept. -/
theorem Closed.far {n : Nat} {R : Net} (h : Closed n R) {i : Nat} (hi : i ≤ n) : Sat n R (fun k => R i k) := by
  intro a b ha hb
  have := h.way i a b hi ha hb
  show R i b - R i a ≤ R a b
  omega

/-- Toward one end, all at their nearest. -/
theorem Closed.near {n : Nat} {R : Net} (h : Closed n R) {i : Nat} (hi : i ≤ n) : Sat n R (fun k => - R k i) := by
  intro a b ha hb
  have := h.way a b i ha hb hi
  show - R b i - - R a i ≤ R a b
  omega

theorem good_of_sat {n : Nat} {M : Net} {x : Nat → Int} (hs : Sat n M x) : Good n M (n + 1) := by
  intro u hu i hi
  have h1 := (sat_fw u hu).2 hs i i hi hi
  omega

theorem good_iff {n : Nat} {M : Net} (h0 : ∀ i, i ≤ n → M i i = 0) : Good n M (n + 1) ↔ ∃ x, Sat n M x := by
  constructor
  · intro h
    exact ⟨_, (sat_fw (n + 1) (Nat.le_refl _)).1 ((closed_fw h0 h).far (Nat.zero_le _))⟩
  · rintro ⟨x, hx⟩
    exact good_of_sat hx

/-- Closed bounds are told by what keeps them. -/
theorem closed_le {n : Nat} {R S : Net} (hR : Closed n R) (h : ∀ x, Sat n R x → Sat n S x) {i k : Nat} (hi : i ≤ n) (hk : k ≤ n) : R i k ≤ S i k := by
  have h1 := h _ (hR.far hi) i k hi hk
  have h2 := hR.self i hi
  simp only [h2] at h1
  omega

theorem closed_eq {n : Nat} {R S : Net} (hR : Closed n R) (hS : Closed n S) (h : ∀ x, Sat n R x ↔ Sat n S x) {i k : Nat} (hi : i ≤ n) (hk : k ≤ n) : R i k = S i k :=
  Int.le_antisymm (closed_le hR (fun x => (h x).1) hi hk) (closed_le hS (fun x => (h x).2) hi hk)

/-- Two starts that are kept by the same places: the same end. -/
theorem fw_eq {n : Nat} {M L : Net} (h0 : ∀ i, i ≤ n → M i i = 0) (h0' : ∀ i, i ≤ n → L i i = 0) (h : ∀ x, Sat n M x ↔ Sat n L x) :
    (Good n M (n + 1) ↔ Good n L (n + 1)) ∧ (Good n M (n + 1) → ∀ i k, i ≤ n → k ≤ n → fw M (n + 1) i k = fw L (n + 1) i k) := by
  have hg : Good n M (n + 1) ↔ Good n L (n + 1) := by
    rw [good_iff h0, good_iff h0']
    exact ⟨fun ⟨x, hx⟩ => ⟨x, (h x).1 hx⟩, fun ⟨x, hx⟩ => ⟨x, (h x).2 hx⟩⟩
  refine ⟨hg, fun h1 i k hi hk => closed_eq (closed_fw h0 h1) (closed_fw h0' (hg.1 h1)) (fun x => ?_) hi hk⟩
  exact (sat_fw (n + 1) (Nat.le_refl _)).trans ((h x).trans (sat_fw (n + 1) (Nat.le_refl _)).symm)

/-! ### No number grows without bound -/
theorem fw_low {n : Nat} {M : Net} {B : Int} (hB : 0 ≤ B) (h : ∀ i k, i ≤ n → k ≤ n → -B ≤ M i k) (t : Nat) (ht : t ≤ n + 1) : ∀ i k, i ≤ n → k ≤ n → -(2 ^ t * B) ≤ fw M t i k := by
  induction t with
  | zero => intro i k hi hk; have := h i k hi hk; simp only [fw]; omega
  | succ t ih =>
    intro i k hi hk
    have a1 := ih (by omega) i k hi hk
    have a2 := ih (by omega) i t hi (by omega)
    have a3 := ih (by omega) t k (by omega) hk
    have a4 : (0 : Int) ≤ 2 ^ t * B := Int.mul_nonneg (Int.pow_nonneg (by omega)) hB
    have a5 : (2 : Int) ^ (t + 1) * B = 2 * (2 ^ t * B) := by rw [Int.pow_succ, Int.mul_comm (2 ^ t) 2, Int.mul_assoc]
    rw [a5]
    show _ ≤ min _ _
    omega

theorem pow_le25 {t : Nat} (ht : t ≤ 25) : (2 : Int) ^ t ≤ 2 ^ 25 := by
  have h : (2 : Nat) ^ t ≤ 2 ^ 25 := Nat.pow_le_pow_right (by omega) ht
  have h2 : ((2 ^ t : Nat) : Int) ≤ ((2 ^ 25 : Nat) : Int) := Int.ofNat_le.2 h
  simpa using h2

/-- With at most 24 links all numbers are small. -/
theorem fw_small {n : Nat} {M : Net} (hn : n ≤ 24) (h : ∀ i k, i ≤ n → k ≤ n → -10000000 ≤ M i k ∧ M i k ≤ 1099511627776) (t : Nat) (ht : t ≤ n + 1) : ∀ i k, i ≤ n → k ≤ n → -335544320000000 ≤ fw M t i k ∧ fw M t i k ≤ 1099511627776 := by
  intro i k hi hk
  have h1 := fw_low (B := 10000000) (by omega) (fun i k hi hk => (h i k hi hk).1) t ht i k hi hk
  have h2 := pow_le25 (t := t) (by omega)
  have h3 := fw_le0 M t i k
  have h4 := (h i k hi hk).2
  have h5 : (2 : Int) ^ t * 10000000 ≤ 2 ^ 25 * 10000000 := Int.mul_le_mul_of_nonneg_right h2 (by omega)
  have h6 : (2 : Int) ^ 25 * 10000000 = 335544320000000 := by decide
  omega

end Go.Proofs.Ytkahhclmmlkpjaa
