/- The plain mathematics of ChainTight: one measure more, turns more. -/
import Derived.Test.YtkahhclmmlkpjaaUe
namespace Go.Proofs.Ytkahhclmmlkpjaa
open Go.RowKit

def useOf (d t c : Int) : Us := ⟨d, t, c, false, 0, 0⟩

theorem partM_snoc {P : Prt} {l : List Us} {d t c : Int} (hf : partM P l = 0) (hlen : l.length < 40) (hc : 0 ≤ c ∧ c ≤ (P.rs.length : Int) - 1) (hd : sinceAt l l.length ≤ d ∧ d ≤ 100000) (ht : 0 ≤ t ∧ t ≤ 1000000) : partM P (l ++ [useOf d t c]) = 0 := by
  rcases partM_cases P l with ⟨h1, _⟩ | ⟨h1, _⟩ | ⟨_, h1, h2, h3⟩
  · omega
  · omega
  · refine (partM_fine h1 (by rw [List.length_append]; simp; omega) (fun i hi => ?_)).symm
    rw [List.length_append] at hi
    simp only [List.length_singleton] at hi
    rcases Nat.lt_or_ge i l.length with h' | h'
    · rw [us_getD_append h', since_append (by omega)]
      exact h3 i h'
    · have : i = l.length := by omega
      subst this
      rw [us_getD_right (Nat.le_refl _), since_append (Nat.le_refl _), Nat.sub_self]
      show useOk _ (useOf d t c) _ = true
      exact useOk_iff.2 ⟨hd, ht, hc, ⟨Int.le_refl _, Int.le_refl _, (show (0 : Int) ≤ 2000000000 by decide)⟩, .inr ⟨rfl, rfl⟩⟩

theorem due_parts {P : Prt} {l : List Us} {c d n : Int} (hf : partM P l = 0) (h : dueM P l c d = (n, 0)) :
    (0 ≤ c ∧ c ≤ (P.rs.length : Int) - 1) ∧ (sinceAt l l.length ≤ d ∧ d ≤ 100000) ∧ reachN P l = l.length ∧ spentM P (rch P l l.length).2 (turnsTo l l.length) d = false ∧ n = moreM P l c := by
  cases h1 : decide (0 ≤ c ∧ c ≤ (P.rs.length : Int) - 1)
  · rw [due_arg hf (.inl h1)] at h; simp at h
  · cases h2 : decide (sinceAt l l.length ≤ d ∧ d ≤ 100000)
    · rw [due_arg hf (.inr h2)] at h; simp at h
    · by_cases h3 : reachN P l < l.length
      · rw [due_none hf h1 h2 h3] at h; simp at h
      · cases h4 : spentM P (rch P l l.length).2 (turnsTo l l.length) d
        · rw [due_ok hf h1 h2 h3 h4] at h
          rw [decide_eq_true_eq] at h1 h2
          have := reachN_le P l
          simp only [Prod.mk.injEq, and_true] at h
          exact ⟨h1, h2, by omega, rfl, h.symm⟩
        · rw [due_spent hf h1 h2 h3 h4] at h; simp at h

theorem worn_fine {P : Prt} {l : List Us} {d : Int} (hP : POk P) (hU : UOks P l) (hd : sinceAt l l.length ≤ d) (hs : spentM P (rch P l l.length).2 (turnsTo l l.length) d = false) {j : Nat} (hj : j < l.length) : wornM P l j (endOf true (wearAt P l j)) = false := by
  obtain ⟨s1, s2, s3⟩ := spentM_false.1 hs
  have a := bkd_top hP hU (l.length - 1 - j) (by omega)
  have b := turns_mono hU (by omega : j + 1 ≤ l.length) (Nat.le_refl _)
  have c := day_mono hU (by omega : j ≤ l.length - 1) (by omega)
  rw [since_last (by omega)] at hd
  refine spentM_false.2 ⟨?_, by omega, by omega⟩
  show (wearAt P l j).2 ≤ _
  unfold wearAt
  omega

theorem due_next {P : Prt} {l : List Us} {c d n : Int} (hf : partM P l = 0) (h : dueM P l c d = (n, 0)) : 0 ≤ n ∧ n ≤ 1000000 ∧ ∀ i : Int, l.length < 40 → (i = 0 ∨ i = 1) → n + i ≤ 1000000 →
    lifeM P (l ++ [useOf d (n + i) c]) true = (firstM P (l ++ [useOf d (n + i) c]) true, 0) ∧ (i = 0 → firstM P (l ++ [useOf d (n + i) c]) true < 0) ∧ (i = 1 → 0 ≤ firstM P (l ++ [useOf d (n + i) c]) true) := by
  obtain ⟨hc, hd, hr, hs, hn⟩ := due_parts hf h
  obtain ⟨hP, h40, hU⟩ := partM_ok hf
  obtain ⟨s1, s2, s3⟩ := spentM_false.1 hs
  have hrh := rateHi_ok hP (c := c) (by simpa using hc)
  have ht := turnsTo_bd hU l.length (Nat.le_refl _)
  have t1 := hP.t1
  have key : 0 ≤ n ∧ n ≤ P.tu - turnsTo l l.length ∧ n * rateHi P c ≤ P.wo * 1000000 - (rch P l l.length).2 ∧ (n = P.tu - turnsTo l l.length ∨ P.wo * 1000000 - (rch P l l.length).2 < (n + 1) * rateHi P c) := by
    rw [hn]
    unfold moreM
    by_cases hp : 0 < rateHi P c
    · rw [if_pos hp]
      have q0 : 0 ≤ (P.wo * 1000000 - (rch P l l.length).2) / rateHi P c := Int.ediv_nonneg (by omega) (by omega)
      have q1 := Int.ediv_mul_le (P.wo * 1000000 - (rch P l l.length).2) (by omega : rateHi P c ≠ 0)
      have q2 := Int.lt_ediv_add_one_mul_self (P.wo * 1000000 - (rch P l l.length).2) hp
      generalize (P.wo * 1000000 - (rch P l l.length).2) / rateHi P c = q at *
      rcases Int.le_total (P.tu - turnsTo l l.length) q with hle | hle
      · rw [Int.min_eq_left hle]
        have := Int.mul_le_mul_of_nonneg_right hle (by omega : 0 ≤ rateHi P c)
        exact ⟨by omega, by omega, by omega, .inl rfl⟩
      · rw [Int.min_eq_right hle]
        exact ⟨q0, hle, q1, .inr q2⟩
    · rw [if_neg hp]
      have : rateHi P c = 0 := by omega
      rw [this]
      exact ⟨by omega, by omega, by omega, .inl rfl⟩
  obtain ⟨k1, k2, k3, k4⟩ := key
  refine ⟨k1, by omega, fun i hl hi hni => ?_⟩
  have hf2 := partM_snoc hf hl hc hd (t := n + i) ⟨by omega, hni⟩
  obtain ⟨hP2, _, hU2⟩ := partM_ok hf2
  have hb : ∀ u ∈ [useOf d (n + i) c], u.m = false := fun u hu => by
    rw [List.mem_singleton] at hu; subst hu; rfl
  have hr2 := reach_right hP hU2 hb hr
  refine ⟨life_yes hf2 (by omega), ?_⟩
  have hlen : (l ++ [useOf d (n + i) c]).length = l.length + 1 := by rw [List.length_append]; rfl
  have hlast : wornM P (l ++ [useOf d (n + i) c]) l.length (endOf true (wearAt P (l ++ [useOf d (n + i) c]) l.length)) = spentM P ((rch P l l.length).2 + (n + i) * rateHi P c) (turnsTo l l.length + (n + i)) d := by
    unfold wornM
    have hg : (l ++ [useOf d (n + i) c]).getD l.length Us.zero = useOf d (n + i) c := by rw [us_getD_right (Nat.le_refl _), Nat.sub_self]; rfl
    rw [hg]
    have e1 : turnsTo (l ++ [useOf d (n + i) c]) (l.length + 1) = turnsTo l l.length + (n + i) := by
      simp only [turnsTo]
      rw [hg, turns_append _ _ _ (Nat.le_refl _)]
      rfl
    rw [e1]
    have e2 : endOf true (wearAt P (l ++ [useOf d (n + i) c]) l.length) = (rch P l l.length).2 + (n + i) * rateHi P c := by
      show (wearAt P (l ++ [useOf d (n + i) c]) l.length).2 = _
      unfold wearAt
      rw [hlen, show l.length + 1 - 1 - l.length = 0 by omega]
      simp only [bkd]
      rw [hlen]
      simp only [rch]
      rw [hg, rch_append _ _ _ _ (Nat.le_refl _), grown_free (by rfl)]
      rfl
    rw [e2]
    rfl
  have hold : ∀ j, j < l.length → wornM P (l ++ [useOf d (n + i) c]) j (endOf true (wearAt P (l ++ [useOf d (n + i) c]) j)) = false := fun j hj => by
    rw [wear_left hP hU2 hb hj, worn_left hj]
    exact worn_fine hP hU hd.1 hs hj
  constructor
  · intro hi0
    subst hi0
    rw [← firstM_none (P := P) (l := l ++ [useOf d (n + 0) c]) (g := true) (fun j hj => by
      rw [hlen] at hj
      rcases Nat.lt_or_ge j l.length with h' | h'
      · exact hold j h'
      · have : j = l.length := by omega
        rw [this, hlast]
        rw [Int.add_zero]
        exact spentM_false.2 ⟨by omega, by omega, s3⟩)]
    decide
  · intro hi1
    subst hi1
    rw [← firstM_at (P := P) (l := l ++ [useOf d (n + 1) c]) (g := true) (k := l.length) (by omega) hold (by
      rw [hlast]
      simp only [spentM, Bool.or_eq_true, decide_eq_true_eq]
      rcases k4 with k4 | k4
      · left; right; omega
      · left; left; omega)]
    omega

/-! ### One measure more -/
def measure (u : Us) (lo hi : Int) : Us := ⟨u.d, u.t, u.c, true, lo, hi⟩

theorem getD_set (l : List Us) (i : Nat) (u : Us) (j : Nat) (hj : j < l.length) : (l.set i u).getD j Us.zero = if i = j then u else l.getD j Us.zero := by
  rw [List.getD_eq_getElem?_getD, List.getD_eq_getElem?_getD, List.getElem?_set]
  by_cases h : i = j
  · subst h; rw [if_pos rfl, if_pos hj, if_pos rfl]; rfl
  · rw [if_neg h, if_neg h]

theorem narrow_set {l : List Us} {i : Nat} (_hi : i < l.length) (hm : (l.getD i Us.zero).m = false) (lo hi : Int) : Narrow l (l.set i (measure (l.getD i Us.zero) lo hi)) := by
  refine ⟨List.length_set, fun j hj => ?_, fun j hj => ?_, fun j hj hjm => ?_⟩
  · rw [getD_set l i _ j hj]; split
    · rename_i h; subst h; rfl
    · rfl
  · rw [getD_set l i _ j hj]; split
    · rename_i h; subst h; rfl
    · rfl
  · rw [getD_set l i _ j hj]; split
    · rename_i h; subst h; rw [hm] at hjm; cases hjm
    · exact ⟨hjm, rfl, rfl⟩

theorem narrow_self (l : List Us) : Narrow l l := ⟨rfl, fun _ _ => rfl, fun _ _ => rfl, fun _ _ h => ⟨h, rfl, rfl⟩⟩

end Go.Proofs.Ytkahhclmmlkpjaa
