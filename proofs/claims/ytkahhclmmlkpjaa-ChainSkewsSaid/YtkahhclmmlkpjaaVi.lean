/- Walks of layer 2 (chain): Skew of the specification. -/
import Derived.Test.YtkahhclmmlkpjaaVe
namespace Go.Proofs.Ytkahhclmmlkpjaa
open Go.RowKit

/-- The first of the longest skews among the first j steps, as the specification finds it. -/
def skwTo (D : Nat → Int) (e : Nat) : Nat → Int × Int
  | 0 => (0, -1)
  | j + 1 => if (skwTo D e j).2 < D j then (((e * (j + 1) : Nat) : Int), D j) else skwTo D e j
/-- .. and as the program does. -/
def kskTo (D : Nat → Int) (e : Nat) : Nat → Int × Int
  | 0 => ((e : Int), 0)
  | j + 1 => if (kskTo D e j).2 < D j then (((e * (j + 1) : Nat) : Int), D j) else kskTo D e j

theorem skw_more {D : Nat → Int} {e j : Nat} (h : (skwTo D e j).2 < D j) : skwTo D e (j + 1) = (((e * (j + 1) : Nat) : Int), D j) := by rw [skwTo, if_pos h]
theorem skw_same {D : Nat → Int} {e j : Nat} (h : ¬ (skwTo D e j).2 < D j) : skwTo D e (j + 1) = skwTo D e j := by rw [skwTo, if_neg h]
theorem ksk_more {D : Nat → Int} {e j : Nat} (h : (kskTo D e j).2 < D j) : kskTo D e (j + 1) = (((e * (j + 1) : Nat) : Int), D j) := by rw [kskTo, if_pos h]
theorem ksk_same {D : Nat → Int} {e j : Nat} (h : ¬ (kskTo D e j).2 < D j) : kskTo D e (j + 1) = kskTo D e j := by rw [kskTo, if_neg h]

theorem skw_eq {D : Nat → Int} {e : Nat} (h : 0 ≤ D 0) : ∀ j, skwTo D e (j + 1) = kskTo D e (j + 1) := by
  intro j
  induction j with
  | zero =>
    rw [skw_more (by show (-1 : Int) < D 0; omega)]
    by_cases h0 : (0 : Int) < D 0
    · rw [ksk_more h0]
    · rw [ksk_same h0]
      have : D 0 = 0 := by omega
      rw [this]
      simp [kskTo]
  | succ j ih =>
    rw [skwTo, kskTo, ih]

def skwD (c : Chn) (k : List Gau) (d : Chn) (l : List Gau) (e j : Nat) : Int :=
  max (RM c k 0 (e * (j + 1)) + RM d l (e * (j + 1)) 0) (RM d l 0 (e * (j + 1)) + RM c k (e * (j + 1)) 0)
def skwM (c : Chn) (k : List Gau) (d : Chn) (l : List Gau) (e : Int) : LonA :=
  if chkM c k = 0 then (if chkM d l = 0 then (if c.n = d.n ∧ 1 ≤ e ∧ e ≤ c.n then (if agreeB c k = true ∧ agreeB d l = true then
    ⟨(skwTo (skwD c k d l e.toNat) e.toNat (c.n.toNat / e.toNat)).1, (skwTo (skwD c k d l e.toNat) e.toNat (c.n.toNat / e.toNat)).2, 0⟩ else ⟨0, 0, 3⟩) else ⟨0, 0, 1⟩) else ⟨0, 0, chkM d l⟩) else ⟨0, 0, chkM c k⟩

section
variable {c d : Chn} {k l : List Gau} {e : Int}
theorem skw_bad1 (h : ¬ chkM c k = 0) : (⟨0, 0, chkM c k⟩ : LonA) = skwM c k d l e := by unfold skwM; rw [if_neg h]
theorem skw_bad2 (h1 : chkM c k = 0) (h : ¬ chkM d l = 0) : (⟨0, 0, chkM d l⟩ : LonA) = skwM c k d l e := by unfold skwM; rw [if_pos h1, if_neg h]
theorem skw_arg (h1 : chkM c k = 0) (h2 : chkM d l = 0) (h : ¬ (c.n = d.n ∧ 1 ≤ e ∧ e ≤ c.n)) : (⟨0, 0, 1⟩ : LonA) = skwM c k d l e := by unfold skwM; rw [if_pos h1, if_pos h2, if_neg h]
theorem skw_none (h1 : chkM c k = 0) (h2 : chkM d l = 0) (h : c.n = d.n ∧ 1 ≤ e ∧ e ≤ c.n) (h3 : ¬ (agreeB c k = true ∧ agreeB d l = true)) : (⟨0, 0, 3⟩ : LonA) = skwM c k d l e := by unfold skwM; rw [if_pos h1, if_pos h2, if_pos h, if_neg h3]
theorem skw_ok {e : Nat} (h1 : chkM c k = 0) (h2 : chkM d l = 0) (h : c.n = d.n ∧ 1 ≤ (e : Int) ∧ (e : Int) ≤ c.n) (h3 : agreeB c k = true ∧ agreeB d l = true) {j : Nat} (hj1 : e * j ≤ c.n.toNat) (hj2 : c.n.toNat < e * (j + 1)) :
    (⟨(skwTo (skwD c k d l e) e j).1, (skwTo (skwD c k d l e) e j).2, 0⟩ : LonA) = skwM c k d l e := by
  have hj : c.n.toNat / e = j := by
    apply Nat.le_antisymm
    · have : c.n.toNat / e < j + 1 := (Nat.div_lt_iff_lt_mul (by omega)).2 (by rw [Nat.mul_comm]; exact hj2)
      omega
    · exact (Nat.le_div_iff_mul_le (by omega)).2 (by rw [Nat.mul_comm]; exact hj1)
  unfold skwM; rw [if_pos h1, if_pos h2, if_pos h, if_pos h3]
  simp only [Int.toNat_natCast, hj]
end
end Go.Proofs.Ytkahhclmmlkpjaa
