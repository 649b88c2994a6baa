/- DriveOrder, the walk: a greater speed never makes the next speed less, and more force never makes it farther from 0. -/
import Derived.Test.YtpoenjnpfodfpaaDp
import Derived.Test.YtpoenjnpfodfpaaDv
namespace Go.Proofs.Ytpoenjnpfodfpaa
open Go.RowKit

theorem nextM_mono {E : Esc} (hE : E.Num) {v v' load f : Int} (hl : 0 ≤ load) (hf : 0 ≤ f) (h : v ≤ v') : nextM E v load f ≤ nextM E v' load f := by
  have g1 := Int.mul_nonneg hE.pu1 hl
  obtain ⟨e1, e2, p1, p2, d1, d2, m1, m2⟩ := hE
  have u := fun h => @Int.ediv_nonneg (E.pu * load - (E.dr + f)) (E.em + load) h (by omega)
  have n := fun h => @Int.ediv_nonneg (-(E.pu * load) - (E.dr + f)) (E.em + load) h (by omega)
  obtain ⟨up, em, pu, dr, mo, bs⟩ := E
  dsimp only at *
  cases up <;> simp only [nextM, Bool.false_eq_true, if_true, if_false, Int.neg_neg] <;> repeat' split
  all_goals first | omega | (have := u (by omega); omega) | (have := n (by omega); omega) | (have := u (by omega); have := n (by omega); omega)

theorem nextM_force {E : Esc} (hE : E.Num) {v load f f' : Int} (hl : 0 ≤ load) (hf : 0 ≤ f) (h : f ≤ f') : max (nextM E v load f') (-(nextM E v load f')) ≤ max (nextM E v load f) (-(nextM E v load f)) := by
  have g1 := Int.mul_nonneg hE.pu1 hl
  obtain ⟨e1, e2, p1, p2, d1, d2, m1, m2⟩ := hE
  have u := fun h => @Int.ediv_nonneg (E.pu * load - (E.dr + f')) (E.em + load) h (by omega)
  have n := fun h => @Int.ediv_nonneg (-(E.pu * load) - (E.dr + f')) (E.em + load) h (by omega)
  have a1 := @Int.ediv_le_ediv (E.pu * load - (E.dr + f')) (E.pu * load - (E.dr + f)) (E.em + load) (by omega) (by omega)
  have a2 := @Int.ediv_le_ediv (-(E.pu * load) - (E.dr + f')) (-(E.pu * load) - (E.dr + f)) (E.em + load) (by omega) (by omega)
  obtain ⟨up, em, pu, dr, mo, bs⟩ := E
  dsimp only at *
  cases up <;> simp only [nextM, Bool.false_eq_true, if_true, if_false, Int.neg_neg] <;> repeat' split
  all_goals first | omega | (have := u (by omega); omega) | (have := n (by omega); omega) | (have := u (by omega); have := n (by omega); omega)

theorem stepM_ok {E : Esc} {v load f : Int} (h : (stepM E v load f).f = 0) : E.Num ∧ (0 ≤ load ∧ load ≤ 100000) ∧ (0 ≤ f ∧ f ≤ 30000000) ∧ (stepM E v load f).a = nextM E v load f := by
  unfold stepM at h ⊢
  by_cases hE : E.ok = true
  · rw [if_pos hE] at h ⊢
    by_cases hx : (-10000000 ≤ v ∧ v ≤ 10000000) ∧ (0 ≤ load ∧ load ≤ 100000) ∧ (0 ≤ f ∧ f ≤ 30000000)
    · rw [if_pos hx] at h ⊢
      exact ⟨Esc.ok_num hE, hx.2.1, hx.2.2, rfl⟩
    · rw [if_neg hx] at h; cases h
  · rw [if_neg hE] at h; cases h

theorem stepM_bd (E : Esc) (v load f : Int) : -1000000000 ≤ (stepM E v load f).a ∧ (stepM E v load f).a ≤ 1000000000 := by
  unfold stepM
  by_cases hE : E.ok = true
  · rw [if_pos hE]
    by_cases hx : (-10000000 ≤ v ∧ v ≤ 10000000) ∧ (0 ≤ load ∧ load ≤ 100000) ∧ (0 ≤ f ∧ f ≤ 30000000)
    · rw [if_pos hx]
      have := nextM_bd (Esc.ok_num hE) (B := 10000000) hx.2.1.1 hx.2.1.2 hx.2.2.1 hx.2.2.2 (by omega) hx.1.1 hx.1.2
      dsimp only
      omega
    · rw [if_neg hx]; exact ⟨by decide, by decide⟩
  · rw [if_neg hE]; exact ⟨by decide, by decide⟩

/-- What DriveOrder says of the numbers. -/
theorem order_speed {E : Esc} {v v' load f : Int} (h1 : (stepM E v load f).f = 0) (h2 : (stepM E v' load f).f = 0) (h : v ≤ v') : (stepM E v load f).a ≤ (stepM E v' load f).a := by
  obtain ⟨hN, hl, hf, e1⟩ := stepM_ok h1
  obtain ⟨_, _, _, e2⟩ := stepM_ok h2
  rw [e1, e2]
  exact nextM_mono hN hl.1 hf.1 h

theorem order_force {E : Esc} {v load f f' : Int} (h1 : (stepM E v load f).f = 0) (h2 : (stepM E v load f').f = 0) (h : f ≤ f') : max (stepM E v load f').a (-(stepM E v load f').a) ≤ max (stepM E v load f).a (-(stepM E v load f).a) := by
  obtain ⟨hN, hl, hf, e1⟩ := stepM_ok h1
  obtain ⟨_, _, _, e2⟩ := stepM_ok h2
  rw [e1, e2]
  exact nextM_force hN hl.1 hf.1 h

end Go.Proofs.Ytpoenjnpfodfpaa
