/- The plain mathematics of layer 2 (chain), fourth part: runs, witnesses. Nothing here speaks of the program. -/
import Derived.Test.YtkahhclmmlkpjaaKn
namespace Go.Proofs.Ytkahhclmmlkpjaa

/-- All gauges are as they should be. -/
def GOks (c : Chn) (l : List Gau) : Prop := ∀ g ∈ l, GOk c.n g

theorem GOks.append {c : Chn} {l k : List Gau} (h : GOks c l) (h' : GOks c k) : GOks c (l ++ k) := fun g hg => by
  rcases List.mem_append.1 hg with h1 | h1
  · exact h g h1
  · exact h' g h1

theorem GOks.one {c : Chn} {g : Gau} (h : GOk c.n g) : GOks c [g] := fun g' hg => by
  rw [List.mem_singleton] at hg; rw [hg]; exact h

theorem ends_append {c : Chn} {l k : List Gau} {x : Nat → Int} : Ends c (l ++ k) x ↔ Ends c l x ∧ ∀ g ∈ k, g.lo ≤ x g.b.toNat - x g.a.toNat ∧ x g.b.toNat - x g.a.toNat ≤ g.hi := by
  unfold Ends
  simp only [List.mem_append]
  constructor
  · rintro ⟨h1, h2⟩
    exact ⟨⟨h1, fun g hg => h2 g (.inl hg)⟩, fun g hg => h2 g (.inr hg)⟩
  · rintro ⟨⟨h1, h2⟩, h3⟩
    refine ⟨h1, fun g hg => ?_⟩
    rcases hg with hg | hg
    · exact h2 g hg
    · exact h3 g hg

theorem Agree.less {c : Chn} {l k : List Gau} (h : Agree c (l ++ k)) : Agree c l := by
  obtain ⟨x, hx⟩ := h
  exact ⟨x, (ends_append.1 hx).1⟩

/-- A bound of a run by what is possible: it is kept, and it is reached. -/
theorem RM_max {c : Chn} {l : List Gau} (hc : COk c) (hl : GOks c l) (h : Agree c l) {i k : Nat} (hi : i ≤ c.n.toNat) (hk : k ≤ c.n.toNat) :
    (∀ x, Ends c l x → x k - x i ≤ RM c l i k) ∧ ∃ x, Ends c l x ∧ x k - x i = RM c l i k := by
  have R := closedR hc hl h
  refine ⟨fun x hx => (sat_RM hl x).2 hx i k hi hk, _, (sat_RM hl _).1 (R.far hi), ?_⟩
  show RM c l i k - RM c l i i = _
  rw [R.self i hi]; omega

theorem RM_eq {c : Chn} {l : List Gau} (hc : COk c) (hl : GOks c l) (h : Agree c l) {i k : Nat} (hi : i ≤ c.n.toNat) (hk : k ≤ c.n.toNat) {v : Int}
    (h1 : ∀ x, Ends c l x → x k - x i ≤ v) (h2 : ∃ x, Ends c l x ∧ x k - x i = v) : RM c l i k = v := by
  obtain ⟨a, x, hx, e⟩ := RM_max hc hl h hi hk
  obtain ⟨y, hy, e'⟩ := h2
  have := h1 x hx
  have := a y hy
  omega

/-- The same possible lengths: the same bounds. -/
theorem RM_same {c : Chn} {l k : List Gau} (hc : COk c) (hl : GOks c l) (hk : GOks c k) (h : ∀ x, Ends c l x ↔ Ends c k x) (ha : Agree c l) {i j : Nat} (hi : i ≤ c.n.toNat) (hj : j ≤ c.n.toNat) : RM c l i j = RM c k i j := by
  have ha' : Agree c k := by obtain ⟨x, hx⟩ := ha; exact ⟨x, (h x).1 hx⟩
  obtain ⟨a, x, hx, e⟩ := RM_max hc hk ha' hi hj
  exact RM_eq hc hl ha hi hj (fun y hy => a y ((h y).1 hy)) ⟨x, (h x).2 hx, e⟩

/-- With more gauges all bounds are narrower. -/
theorem RM_more {c : Chn} {l k : List Gau} (hc : COk c) (hl : GOks c l) (hk : GOks c k) (ha : Agree c (l ++ k)) {i j : Nat} (hi : i ≤ c.n.toNat) (hj : j ≤ c.n.toNat) : RM c (l ++ k) i j ≤ RM c l i j := by
  obtain ⟨a, _⟩ := RM_max hc hl ha.less hi hj
  obtain ⟨_, x, hx, e⟩ := RM_max hc (hl.append hk) ha hi hj
  have := a x (ends_append.1 hx).1
  omega

theorem run_pos {c : Chn} {l : List Gau} (hc : COk c) {x : Nat → Int} (hx : Ends c l x) {i k : Nat} (hik : i ≤ k) (hk : k ≤ c.n.toNat) : 0 ≤ x k - x i ∧ x k - x i ≤ ((k : Int) - i) * 100000 := by
  have h := runs hx.1 i (k - i) (by omega)
  rw [show i + (k - i) = k by omega, Int.natCast_sub hik] at h
  have p1 := hc.p1
  have l2 := hc.l2
  have h1 : 0 ≤ ((k : Int) - i) * c.pi := Int.mul_nonneg (by omega) (by omega)
  have h2 : ((k : Int) - i) * c.li ≤ ((k : Int) - i) * 100000 := Int.mul_le_mul_of_nonneg_left l2 (by omega)
  omega

/-- The least and the greatest length of a run. -/
def lowM (c : Chn) (l : List Gau) (i k : Nat) : Int := -RM c l k i
def highM (c : Chn) (l : List Gau) (i k : Nat) : Int := RM c l i k

theorem run_span {c : Chn} {l : List Gau} (hc : COk c) (hl : GOks c l) (h : Agree c l) {i k : Nat} (hik : i ≤ k) (hk : k ≤ c.n.toNat) :
    0 ≤ lowM c l i k ∧ lowM c l i k ≤ highM c l i k ∧ highM c l i k ≤ ((k : Int) - i) * 100000 := by
  obtain ⟨a1, x1, h1, e1⟩ := RM_max hc hl h (i := k) (k := i) hk (by omega)
  obtain ⟨a2, x2, h2, e2⟩ := RM_max hc hl h (i := i) (k := k) (by omega) hk
  have b1 := run_pos hc h1 hik hk
  have b2 := run_pos hc h2 hik hk
  have b3 := a1 x2 h2
  unfold lowM highM
  omega

theorem run_in {c : Chn} {l : List Gau} (_hc : COk c) (hl : GOks c l) {x : Nat → Int} (hx : Ends c l x) {i k : Nat} (hik : i ≤ k) (hk : k ≤ c.n.toNat) : lowM c l i k ≤ x k - x i ∧ x k - x i ≤ highM c l i k := by
  have h1 := (sat_RM hl x).2 hx i k (by omega) hk
  have h2 := (sat_RM hl x).2 hx k i hk (by omega)
  unfold lowM highM
  omega

/-- The run from a to b is of the length m. -/
def gEx (a b : Nat) (m : Int) : Gau := ⟨a, b, m, m⟩

theorem gEx_ok {c : Chn} {l : List Gau} (hc : COk c) (hl : GOks c l) (h : Agree c l) {a b : Nat} {m : Int} (hab : a ≤ b) (hb : b ≤ c.n.toNat) (h1 : lowM c l a b ≤ m) (h2 : m ≤ highM c l a b) : GOk c.n (gEx a b m) := by
  have r := run_span hc hl h hab hb
  have n1 := hc.n1
  have n2 := hc.n2
  refine ⟨by simp only [gEx]; omega, by simp only [gEx]; omega, by simp only [gEx]; omega, by simp only [gEx]; omega, by simp only [gEx]; omega, by simp only [gEx]; omega, ?_⟩
  simp only [gEx]
  intro e
  have e' : a = b := by omega
  subst e'
  omega

theorem gEx_ends {c : Chn} {l : List Gau} {a b : Nat} {m : Int} {x : Nat → Int} : Ends c (l ++ [gEx a b m]) x ↔ Ends c l x ∧ x b - x a = m := by
  rw [ends_append]
  simp only [List.mem_singleton, forall_eq, gEx, Int.toNat_natCast]
  constructor
  · rintro ⟨h1, h2⟩; exact ⟨h1, by omega⟩
  · rintro ⟨h1, h2⟩; exact ⟨h1, by omega⟩

theorem sat_min {n : Nat} {M : Net} {x y : Nat → Int} (hx : Sat n M x) (hy : Sat n M y) : Sat n M (fun k => min (x k) (y k)) := by
  intro i k hi hk
  have h1 := hx i k hi hk
  have h2 := hy i k hi hk
  show min (x k) (y k) - min (x i) (y i) ≤ _
  omega

theorem Sat.shift {n : Nat} {M : Net} {x : Nat → Int} (hx : Sat n M x) (d : Int) : Sat n M (fun k => d + x k) := by
  intro i k hi hk
  have h1 := hx i k hi hk
  show d + x k - (d + x i) ≤ _
  omega

/-- Each length of a run from one end of its span to the other one comes true. -/
theorem between {c : Chn} {l : List Gau} (hc : COk c) (hl : GOks c l) (h : Agree c l) {a b : Nat} {m : Int} (hab : a ≤ b) (hb : b ≤ c.n.toNat) (h1 : lowM c l a b ≤ m) (h2 : m ≤ highM c l a b) : Agree c (l ++ [gEx a b m]) := by
  have R := closedR hc hl h
  refine ⟨fun k => min (RM c l a k) (m + RM c l b k), gEx_ends.2 ⟨(sat_RM hl _).1 (sat_min (R.far (by omega)) ((R.far hb).shift m)), ?_⟩⟩
  have e1 := R.self a (by omega)
  have e2 := R.self b hb
  unfold lowM at h1
  unfold highM at h2
  show min (RM c l a b) (m + RM c l b b) - min (RM c l a a) (m + RM c l b a) = m
  rw [e1, e2]
  omega

/-! ### Witnesses -/
/-- All ends at their nearest to the joint. -/
def nearM (c : Chn) (l : List Gau) (k : Nat) : Int := lowM c l 0 k
def witM (c : Chn) (l : List Gau) : List Int := (List.range c.n.toNat).map fun i => nearM c l (i + 1) - nearM c l i

theorem near_ends {c : Chn} {l : List Gau} (hc : COk c) (hl : GOks c l) (h : Agree c l) : Ends c l (nearM c l) := (sat_RM hl _).1 ((closedR hc hl h).near (Nat.zero_le _))
theorem near_least {c : Chn} {l : List Gau} (hc : COk c) (hl : GOks c l) (h : Agree c l) {x : Nat → Int} (hx : Ends c l x) {k : Nat} (hk : k ≤ c.n.toNat) : nearM c l k - nearM c l 0 ≤ x k - x 0 := by
  have h1 := (run_in hc hl hx (Nat.zero_le k) hk).1
  have h2 : nearM c l 0 = 0 := by
    unfold nearM lowM
    rw [(closedR hc hl h).self 0 (Nat.zero_le _)]; rfl
  rw [h2]
  unfold nearM
  omega

/-- The links that have been chosen, one after the other, each as short as can be. -/
def chosen (c : Chn) (l : List Gau) : Nat → List Gau
  | 0 => l
  | i + 1 => chosen c l i ++ [gEx i (i + 1) (nearM c l (i + 1) - nearM c l i)]

theorem chosen_ends {c : Chn} {l : List Gau} {x : Nat → Int} : ∀ i, Ends c (chosen c l i) x ↔ Ends c l x ∧ ∀ j, j < i → x (j + 1) - x j = nearM c l (j + 1) - nearM c l j := by
  intro i
  induction i with
  | zero => simp [chosen]
  | succ i ih =>
    rw [chosen, gEx_ends, ih]
    constructor
    · rintro ⟨⟨h1, h2⟩, h3⟩
      refine ⟨h1, fun j hj => ?_⟩
      by_cases e : j = i
      · rw [e]; exact h3
      · exact h2 j (by omega)
    · rintro ⟨h1, h2⟩
      exact ⟨⟨h1, fun j hj => h2 j (by omega)⟩, h2 i (by omega)⟩

theorem chosen_agree {c : Chn} {l : List Gau} (hc : COk c) (hl : GOks c l) (h : Agree c l) (i : Nat) : Agree c (chosen c l i) := ⟨_, (chosen_ends i).2 ⟨near_ends hc hl h, fun _ _ => rfl⟩⟩

theorem near_link {c : Chn} {l : List Gau} (hc : COk c) (hl : GOks c l) (h : Agree c l) {i : Nat} (hi : i < c.n.toNat) : c.pi ≤ nearM c l (i + 1) - nearM c l i ∧ nearM c l (i + 1) - nearM c l i ≤ c.li := (near_ends hc hl h).1 i hi

theorem chosen_ok {c : Chn} {l : List Gau} (hc : COk c) (hl : GOks c l) (h : Agree c l) : ∀ i, i ≤ c.n.toNat → GOks c (chosen c l i) := by
  intro i
  induction i with
  | zero => intro _; exact hl
  | succ i ih =>
    intro hi
    refine GOks.append (ih (by omega)) (GOks.one ?_)
    have a := near_link hc hl h (i := i) (by omega)
    have p1 := hc.p1
    have l2 := hc.l2
    refine ⟨?_, ?_, ?_, ?_, ?_, ?_, ?_⟩ <;> simp only [gEx] <;> omega

/-- The next link: the least one by the gauges and by those that have been chosen. -/
theorem chosen_low {c : Chn} {l : List Gau} (hc : COk c) (hl : GOks c l) (h : Agree c l) {i : Nat} (hi : i < c.n.toNat) : lowM c (chosen c l i) i (i + 1) = nearM c l (i + 1) - nearM c l i := by
  have key : RM c (chosen c l i) (i + 1) i = -(nearM c l (i + 1) - nearM c l i) := by
    refine RM_eq hc (chosen_ok hc hl h i (by omega)) (chosen_agree hc hl h i) (by omega) (by omega) (fun x hx => ?_) ⟨nearM c l, (chosen_ends i).2 ⟨near_ends hc hl h, fun _ _ => rfl⟩, by omega⟩
    obtain ⟨h1, h2⟩ := (chosen_ends i).1 hx
    have h3 : ∀ j, j ≤ i → x j - x 0 = nearM c l j - nearM c l 0 := by
      intro j
      induction j with
      | zero => intro _; omega
      | succ j ih => intro hj; have := ih (by omega); have := h2 j (by omega); omega
    have h4 := h3 i (Nat.le_refl _)
    have h5 := near_least hc hl h h1 (k := i + 1) (by omega)
    omega
  unfold lowM
  rw [key]
  omega

theorem chosen_len (c : Chn) (l : List Gau) (i : Nat) : (chosen c l i).length = l.length + i := by
  induction i with
  | zero => rfl
  | succ i ih => rw [chosen, List.length_append, ih]; simp; omega

/-- A gauge over no link says nothing. -/
theorem none_same {c : Chn} {l : List Gau} {a : Nat} {x : Nat → Int} : Ends c (l ++ [gEx a a 0]) x ↔ Ends c l x := by
  rw [gEx_ends]
  constructor
  · exact fun h => h.1
  · exact fun h => ⟨h, by omega⟩

end Go.Proofs.Ytkahhclmmlkpjaa
