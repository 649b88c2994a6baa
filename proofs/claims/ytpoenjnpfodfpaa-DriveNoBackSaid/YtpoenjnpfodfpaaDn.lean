/- The plain mathematics of layer 1 (drive), second part: stops, extreme histories. Nothing here speaks of the program. -/
import Derived.Test.YtpoenjnpfodfpaaDm
namespace Go.Proofs.Ytpoenjnpfodfpaa
open Go.RowKit

theorem nextM_bd {E : Esc} (hE : E.Num) {v load f B : Int} (l1 : 0 ≤ load) (l2 : load ≤ 100000) (f1 : 0 ≤ f) (f2 : f ≤ 30000000) (hB : 0 ≤ B) (v1 : -B ≤ v) (v2 : v ≤ B) : -(B + 100000000) ≤ nextM E v load f ∧ nextM E v load f ≤ B + 100000000 := by
  obtain ⟨g1, g2⟩ := hE.mul l1 l2
  obtain ⟨e1, e2, p1, p2, d1, d2, m1, m2⟩ := hE
  obtain ⟨b11, b12⟩ := div_bd (n := E.pu * load - (E.dr + f)) (d := E.em + load) (B := 100000000) (by omega) (by omega) (by omega)
  obtain ⟨b21, b22⟩ := div_bd (n := -(E.pu * load) - (E.dr + f)) (d := E.em + load) (B := 100000000) (by omega) (by omega) (by omega)
  obtain ⟨up, em, pu, dr, mo, bs⟩ := E
  dsimp only at *
  cases up <;> simp only [nextM, Bool.false_eq_true, if_true, if_false, Int.neg_neg] <;> repeat' split
  all_goals omega

/-- Is a stop valid for an escalator with n brakes? -/
def Stp.ok (S : Stp) (n : Nat) : Bool :=
  (decide (0 ≤ S.hi) && decide (S.hi ≤ 100000)) && (decide (0 ≤ S.lo) && decide (S.lo ≤ S.hi)) && (decide (0 ≤ S.sp) && decide (S.sp ≤ 1000)) && (decide (0 ≤ S.fa) && decide (S.fa ≤ 2 ^ n - 1))

structure Stp.Num (S : Stp) : Prop where
  lo0 : 0 ≤ S.lo
  lohi : S.lo ≤ S.hi
  hi1 : S.hi ≤ 100000
  sp0 : 0 ≤ S.sp
  sp1 : S.sp ≤ 1000
  fa0 : 0 ≤ S.fa
  fa7 : S.fa ≤ 7

theorem pow_le7 {n : Nat} (h : n ≤ 3) : (2 : Int) ^ n - 1 ≤ 7 := by
  have hn : n = 0 ∨ n = 1 ∨ n = 2 ∨ n = 3 := by omega
  rcases hn with rfl | rfl | rfl | rfl <;> decide

theorem Stp.ok_num {S : Stp} {n : Nat} (hn : n ≤ 3) (h : S.ok n = true) : S.Num := by
  simp only [Stp.ok, Bool.and_eq_true, decide_eq_true_eq] at h
  have := pow_le7 hn
  exact ⟨h.1.1.2.1, h.1.1.2.2, h.1.1.1.2, h.1.2.1, h.1.2.2, h.2.1, by omega⟩

def checkStopM (E : Esc) (S : Stp) : Int := if E.ok = true then (if S.ok E.bs.length = true then 0 else 11) else 10

/-- The load that makes the speed greater (most), or less, and that speed. -/
def extM (E : Esc) (S : Stp) (v tick : Int) (most : Bool) : Int × Int :=
  let a := nextM E v S.lo (gripM E S tick)
  let b := nextM E v S.hi (gripM E S tick)
  if (most = true ∧ a < b) ∨ (most = false ∧ b < a) then (S.hi, b) else (S.lo, a)

theorem extM_cases (E : Esc) (S : Stp) (v tick : Int) (most : Bool) : extM E S v tick most = (S.hi, nextM E v S.hi (gripM E S tick)) ∨ extM E S v tick most = (S.lo, nextM E v S.lo (gripM E S tick)) := by
  unfold extM
  dsimp only
  by_cases h : (most = true ∧ nextM E v S.lo (gripM E S tick) < nextM E v S.hi (gripM E S tick)) ∨ (most = false ∧ nextM E v S.hi (gripM E S tick) < nextM E v S.lo (gripM E S tick))
  · rw [if_pos h]; exact .inl rfl
  · rw [if_neg h]; exact .inr rfl

theorem extM_hi {E : Esc} {S : Stp} {v tick : Int} {most : Bool} (h : (most = true ∧ nextM E v S.lo (gripM E S tick) < nextM E v S.hi (gripM E S tick)) ∨ (most = false ∧ nextM E v S.hi (gripM E S tick) < nextM E v S.lo (gripM E S tick))) : extM E S v tick most = (S.hi, nextM E v S.hi (gripM E S tick)) := by
  unfold extM
  dsimp only
  rw [if_pos h]

theorem extM_lo {E : Esc} {S : Stp} {v tick : Int} {most : Bool} (h : ¬((most = true ∧ nextM E v S.lo (gripM E S tick) < nextM E v S.hi (gripM E S tick)) ∨ (most = false ∧ nextM E v S.hi (gripM E S tick) < nextM E v S.lo (gripM E S tick)))) : extM E S v tick most = (S.lo, nextM E v S.lo (gripM E S tick)) := by
  unfold extM
  dsimp only
  rw [if_neg h]

theorem extM_bd {E : Esc} {S : Stp} (hE : E.ok = true) (hS : S.Num) {v tick B : Int} (most : Bool) (hB : 0 ≤ B) (v1 : -B ≤ v) (v2 : v ≤ B) : -(B + 100000000) ≤ (extM E S v tick most).2 ∧ (extM E S v tick most).2 ≤ B + 100000000 := by
  have f := forceTo_bd3 hE (gripB E S tick)
  have a := nextM_bd (Esc.ok_num hE) hS.lo0 (by have := hS.lohi; have := hS.hi1; omega) f.1 f.2 hB v1 v2
  have b := nextM_bd (Esc.ok_num hE) (by have := hS.lohi; have := hS.lo0; omega) hS.hi1 f.1 f.2 hB v1 v2
  rcases extM_cases E S v tick most with h | h <;> rw [h]
  · exact b
  · exact a

/-- The speed behind t ticks of the extreme history. -/
def pathM (E : Esc) (S : Stp) (most : Bool) : Nat → Int
  | 0 => S.sp
  | t + 1 => (extM E S (pathM E S most t) t most).2

theorem pathM_bd {E : Esc} {S : Stp} (hE : E.ok = true) (hS : S.Num) (most : Bool) : ∀ t : Nat, -(1000 + t * 100000000) ≤ pathM E S most t ∧ pathM E S most t ≤ 1000 + t * 100000000 := by
  intro t
  induction t with
  | zero => have := hS.sp0; have := hS.sp1; simp only [pathM]; omega
  | succ t ih =>
    have := extM_bd hE hS (v := pathM E S most t) (tick := t) (B := 1000 + t * 100000000) most (by omega) (by omega) (by omega)
    simp only [pathM]
    omega

/-- The run back over t ticks of the history with the least speeds. -/
def backTo (E : Esc) (S : Stp) : Nat → Int
  | 0 => 0
  | t + 1 => backTo E S t + max 0 (-(pathM E S false (t + 1)))

theorem backTo_bd {E : Esc} {S : Stp} (hE : E.ok = true) (hS : S.Num) : ∀ t : Nat, t ≤ 100 → 0 ≤ backTo E S t ∧ backTo E S t ≤ t * 20000000000 := by
  intro t
  induction t with
  | zero => intro _; simp [backTo]
  | succ t ih =>
    intro ht
    have := ih (by omega)
    have := pathM_bd hE hS false (t + 1)
    simp only [backTo]
    omega

end Go.Proofs.Ytpoenjnpfodfpaa
