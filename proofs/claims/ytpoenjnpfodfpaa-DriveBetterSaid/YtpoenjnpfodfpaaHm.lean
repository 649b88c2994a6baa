/- The plain mathematics of layer 1 (drive), third part: histories lie between the extreme ones; rests, ways, runs back. Nothing here speaks of the program. -/
import Derived.Test.YtpoenjnpfodfpaaDn
namespace Go.Proofs.Ytpoenjnpfodfpaa
open Go.RowKit

theorem quot_le {p m p' m' : Int} (hm : 0 < m) (hm' : 0 < m') (h : p * m' ≤ p' * m) : p / m ≤ p' / m' := by
  apply Int.le_ediv_of_mul_le hm'
  have h1 : p / m * m ≤ p := Int.ediv_mul_le p (by omega)
  have h2 := Int.mul_le_mul_of_nonneg_right h1 (by omega : 0 ≤ m')
  have h3 : (p / m * m') * m ≤ p' * m := by
    have e : p / m * m * m' = p / m * m' * m := by rw [Int.mul_assoc, Int.mul_comm m m', ← Int.mul_assoc]
    omega
  exact Int.le_of_mul_le_mul_right h3 hm

theorem cross {a em F x y : Int} : (a * em + F) * (y - x) = (a * y - F) * (em + x) - (a * x - F) * (em + y) := by
  simp only [Int.mul_add, Int.add_mul, Int.mul_sub, Int.sub_mul]
  have e1 : a * y * x = a * x * y := by rw [Int.mul_assoc, Int.mul_comm y x, ← Int.mul_assoc]
  have e2 : a * em * y = a * y * em := by rw [Int.mul_assoc, Int.mul_comm em y, ← Int.mul_assoc]
  have e3 : a * em * x = a * x * em := by rw [Int.mul_assoc, Int.mul_comm em x, ← Int.mul_assoc]
  omega

theorem quot_up {a F em x y : Int} (he : 0 < em) (hx : 0 ≤ x) (hxy : x ≤ y) (h : 0 ≤ a * em + F) : (a * x - F) / (em + x) ≤ (a * y - F) / (em + y) := by
  refine quot_le (by omega) (by omega) ?_
  have h1 := Int.mul_nonneg h (by omega : 0 ≤ y - x)
  have h2 := @cross a em F x y
  omega

theorem quot_down {a F em x y : Int} (he : 0 < em) (hx : 0 ≤ x) (hxy : x ≤ y) (h : a * em + F ≤ 0) : (a * y - F) / (em + y) ≤ (a * x - F) / (em + x) := by
  refine quot_le (by omega) (by omega) ?_
  have h1 := Int.mul_nonneg (by omega : 0 ≤ -(a * em + F)) (by omega : 0 ≤ y - x)
  have h2 := @cross a em F x y
  rw [Int.neg_mul] at h1
  omega

/-- As a function of the load the change of speed goes one way only. -/
theorem quot_way {a F em x y z : Int} (he : 0 < em) (hx : 0 ≤ x) (hxy : x ≤ y) (hyz : y ≤ z) :
    ((a * x - F) / (em + x) ≤ (a * y - F) / (em + y) ∧ (a * y - F) / (em + y) ≤ (a * z - F) / (em + z)) ∨ ((a * z - F) / (em + z) ≤ (a * y - F) / (em + y) ∧ (a * y - F) / (em + y) ≤ (a * x - F) / (em + x)) := by
  rcases Int.le_total 0 (a * em + F) with h | h
  · exact .inl ⟨quot_up he hx hxy h, quot_up he (by omega) hyz h⟩
  · exact .inr ⟨quot_down he (by omega) hyz h, quot_down he hx hxy h⟩

theorem div_sign {n d : Int} (hd : 0 < d) : (0 ≤ n → 0 ≤ n / d) ∧ (n ≤ 0 → n / d ≤ 0) :=
  ⟨fun h => Int.ediv_nonneg h (by omega), fun h => by
    have := Int.ediv_le_ediv hd h
    rw [Int.zero_ediv] at this
    exact this⟩

/-- The next speed by the two quotients. -/
def nx (up : Bool) (v g F q r : Int) : Int :=
  if up = true then (if 0 < v then max 0 (v + r) else if v < 0 then -max 0 (-v + q) else if F < g then -q else 0)
  else (if 0 < v then max 0 (v + q) else if v < 0 then -max 0 (-v + r) else if F < g then q else 0)

theorem nextM_nx {E : Esc} {v load f : Int} (hg : 0 ≤ E.pu * load) (hF : 0 ≤ E.dr + f) :
    nextM E v load f = nx E.up v (E.pu * load) (E.dr + f) ((E.pu * load - (E.dr + f)) / (E.em + load)) ((-(E.pu * load) - (E.dr + f)) / (E.em + load)) := by
  unfold nx nextM
  cases E.up <;> simp only [Bool.false_eq_true, if_true, if_false, Int.neg_neg]
  · rcases Int.lt_trichotomy v 0 with hv | hv | hv
    · rw [if_neg (by omega), if_pos hv, if_neg (by omega), if_pos hv]
    · subst hv
      simp only [Int.lt_irrefl, if_false]
      by_cases h : E.dr + f < E.pu * load
      · rw [if_pos h, if_pos h]
      · rw [if_neg h, if_neg h, if_neg (by omega)]
    · rw [if_pos hv, if_pos hv]
  · rcases Int.lt_trichotomy v 0 with hv | hv | hv
    · rw [if_neg (by omega), if_pos hv, if_neg (by omega), if_pos hv]
    · subst hv
      simp only [Int.lt_irrefl, if_false]
      rw [if_neg (by omega)]
    · rw [if_pos hv, if_pos hv]

theorem nx_between {up : Bool} {v F g1 g2 g3 q1 q2 q3 r1 r2 r3 : Int} (_s1 : F ≤ g1 → 0 ≤ q1) (_s1' : g1 ≤ F → q1 ≤ 0) (s2 : F ≤ g2 → 0 ≤ q2) (s2' : g2 ≤ F → q2 ≤ 0) (s3 : F ≤ g3 → 0 ≤ q3) (s3' : g3 ≤ F → q3 ≤ 0)
    (a : q1 ≤ q2) (a' : q2 ≤ q3) (b : (r1 ≤ r2 ∧ r2 ≤ r3) ∨ (r3 ≤ r2 ∧ r2 ≤ r1)) :
    (nx up v g1 F q1 r1 ≤ nx up v g2 F q2 r2 ∧ nx up v g2 F q2 r2 ≤ nx up v g3 F q3 r3) ∨ (nx up v g3 F q3 r3 ≤ nx up v g2 F q2 r2 ∧ nx up v g2 F q2 r2 ≤ nx up v g1 F q1 r1) := by
  rcases Int.lt_trichotomy v 0 with hv | hv | hv
  · have hv' : ¬ 0 < v := by omega
    cases up <;> simp only [nx, Bool.false_eq_true, if_true, if_false, if_neg hv', if_pos hv]
    · omega
    · omega
  · subst hv
    cases up <;> simp only [nx, Bool.false_eq_true, if_true, if_false, Int.lt_irrefl]
    · left
      constructor <;> repeat' split
      all_goals omega
    · right
      constructor <;> repeat' split
      all_goals omega
  · cases up <;> simp only [nx, Bool.false_eq_true, if_true, if_false, if_pos hv]
    · omega
    · omega

theorem nextM_between {E : Esc} (hE : E.Num) {v f lo load hi : Int} (h0 : 0 ≤ lo) (h1 : lo ≤ load) (h2 : load ≤ hi) (hf : 0 ≤ f) :
    (nextM E v lo f ≤ nextM E v load f ∧ nextM E v load f ≤ nextM E v hi f) ∨ (nextM E v hi f ≤ nextM E v load f ∧ nextM E v load f ≤ nextM E v lo f) := by
  obtain ⟨e1, e2, p1, p2, d1, d2, m1, m2⟩ := hE
  have b := @quot_way (-E.pu) (E.dr + f) E.em lo load hi (by omega) h0 h1 h2
  have u := Int.mul_nonneg p1 (by omega : 0 ≤ E.em)
  have a1 := @quot_up E.pu (E.dr + f) E.em lo load (by omega) h0 h1 (by omega)
  have a2 := @quot_up E.pu (E.dr + f) E.em load hi (by omega) (by omega) h2 (by omega)
  simp only [Int.neg_mul] at b
  have s1 := @div_sign (E.pu * lo - (E.dr + f)) (E.em + lo) (by omega)
  have s2 := @div_sign (E.pu * load - (E.dr + f)) (E.em + load) (by omega)
  have s3 := @div_sign (E.pu * hi - (E.dr + f)) (E.em + hi) (by omega)
  rw [nextM_nx (Int.mul_nonneg p1 h0) (by omega), nextM_nx (Int.mul_nonneg p1 (by omega : 0 ≤ load)) (by omega), nextM_nx (Int.mul_nonneg p1 (by omega : 0 ≤ hi)) (by omega)]
  exact nx_between (fun h => s1.1 (by omega)) (fun h => s1.2 (by omega)) (fun h => s2.1 (by omega)) (fun h => s2.2 (by omega)) (fun h => s3.1 (by omega)) (fun h => s3.2 (by omega)) a1 a2 b

end Go.Proofs.Ytpoenjnpfodfpaa
