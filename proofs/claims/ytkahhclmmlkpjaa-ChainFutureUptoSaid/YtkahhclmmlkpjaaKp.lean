/- The plain mathematics of layer 2 (chain), sixth part: which gauges are needed; lengths and their ends. Nothing here speaks of the program. -/
import Derived.Test.YtkahhclmmlkpjaaKo
namespace Go.Proofs.Ytkahhclmmlkpjaa

def Gau.zero : Gau := ⟨0, 0, 0, 0⟩

theorem gau_getD_mem {l : List Gau} {i : Nat} (h : i < l.length) : l.getD i Gau.zero ∈ l := by
  rw [List.getD_eq_getElem?_getD, List.getElem?_eq_getElem h]; exact List.getElem_mem _

def upd (q : Nat → Bool) (i : Nat) (b : Bool) : Nat → Bool := fun j => if j = i then b else q j

theorem upd_self (q : Nat → Bool) (i : Nat) (b : Bool) : upd q i b i = b := by unfold upd; rw [if_pos rfl]
theorem upd_other {q : Nat → Bool} {i j : Nat} (b : Bool) (h : j ≠ i) : upd q i b j = q j := by unfold upd; rw [if_neg h]

/-- Those of the first k gauges of which q says so. -/
def selTo (l : List Gau) (q : Nat → Bool) : Nat → List Gau
  | 0 => []
  | k + 1 => selTo l q k ++ (if q k = true then [l.getD k Gau.zero] else [])

/-- The numbers below k of which q says so. -/
def idxTo (q : Nat → Bool) : Nat → List Nat
  | 0 => []
  | k + 1 => idxTo q k ++ (if q k = true then [k] else [])

theorem selTo_mem {l : List Gau} {q : Nat → Bool} {g : Gau} : ∀ {k : Nat}, g ∈ selTo l q k ↔ ∃ i, i < k ∧ q i = true ∧ g = l.getD i Gau.zero := by
  intro k
  induction k with
  | zero => simp [selTo]
  | succ k ih =>
    simp only [selTo, List.mem_append, ih]
    constructor
    · rintro (⟨i, h1, h2, h3⟩ | h)
      · exact ⟨i, by omega, h2, h3⟩
      · by_cases hq : q k = true
        · rw [if_pos hq, List.mem_singleton] at h
          exact ⟨k, by omega, hq, h⟩
        · rw [if_neg hq] at h; simp at h
    · rintro ⟨i, h1, h2, h3⟩
      by_cases e : i = k
      · subst e
        right
        rw [if_pos h2, List.mem_singleton]; exact h3
      · exact .inl ⟨i, by omega, h2, h3⟩

theorem selTo_congr {l : List Gau} {q q' : Nat → Bool} : ∀ k, (∀ i, i < k → q i = q' i) → selTo l q k = selTo l q' k := by
  intro k
  induction k with
  | zero => intro _; rfl
  | succ k ih => intro h; simp only [selTo]; rw [ih (fun i hi => h i (by omega)), h k (by omega)]

theorem selTo_all (l : List Gau) : ∀ k, k ≤ l.length → selTo l (fun _ => true) k = l.take k := by
  intro k
  induction k with
  | zero => intro _; simp [selTo]
  | succ k ih =>
    intro h
    simp only [selTo, if_true]
    rw [ih (by omega), List.take_add_one, List.getElem?_eq_getElem (by omega), List.getD_eq_getElem?_getD, List.getElem?_eq_getElem (by omega)]
    rfl

theorem idxTo_congr {q q' : Nat → Bool} : ∀ k, (∀ i, i < k → q i = q' i) → idxTo q k = idxTo q' k := by
  intro k
  induction k with
  | zero => intro _; rfl
  | succ k ih => intro h; simp only [idxTo]; rw [ih (fun i hi => h i (by omega)), h k (by omega)]

theorem idxTo_len (q : Nat → Bool) : ∀ k, (idxTo q k).length ≤ k := by
  intro k
  induction k with
  | zero => exact Nat.le_refl _
  | succ k ih => simp only [idxTo, List.length_append]; split <;> simp <;> omega

/-- Which gauges are left when those below i have been gone through. -/
def keepF (h : (Nat → Bool) → Bool) : Nat → Nat → Bool
  | 0 => fun _ => true
  | i + 1 => if h (upd (keepF h i) i false) = true then upd (keepF h i) i false else keepF h i

section
variable {h : (Nat → Bool) → Bool}

theorem keepF_ge : ∀ {i j : Nat}, i ≤ j → keepF h i j = true := by
  intro i
  induction i with
  | zero => intro j _; rfl
  | succ i ih =>
    intro j hj
    simp only [keepF]
    split
    · rw [upd_other _ (by omega)]; exact ih (by omega)
    · exact ih (by omega)

theorem keepF_step {i j : Nat} (hj : j ≠ i) : keepF h (i + 1) j = keepF h i j := by
  simp only [keepF]
  split
  · exact upd_other _ hj
  · rfl

theorem keepF_lt {j : Nat} : ∀ {i : Nat}, j < i → keepF h i j = keepF h (j + 1) j := by
  intro i
  induction i with
  | zero => intro h; omega
  | succ i ih =>
    intro hj
    by_cases e : j = i
    · rw [e]
    · rw [keepF_step e]; exact ih (by omega)

theorem keepF_less {i j : Nat} : ∀ {k : Nat}, i ≤ k → keepF h k j = true → keepF h i j = true := by
  intro k
  induction k with
  | zero => intro h1 h2; have : i = 0 := by omega
            rw [this]; exact h2
  | succ k ih =>
    intro h1 h2
    by_cases e : i = k + 1
    · rw [e]; exact h2
    · refine ih (by omega) ?_
      by_cases ej : j = k
      · exact keepF_ge (by omega)
      · rwa [keepF_step ej] at h2

theorem keepF_holds (h0 : h (fun _ => true) = true) : ∀ i, h (keepF h i) = true := by
  intro i
  induction i with
  | zero => exact h0
  | succ i ih =>
    simp only [keepF]
    split
    · assumption
    · exact ih

/-- None of those that are left can be spared. -/
theorem keepF_need (mono : ∀ q q' : Nat → Bool, (∀ j, q j = true → q' j = true) → h q = true → h q' = true) {n j : Nat} (hj : j < n) (hk : keepF h n j = true) : h (upd (keepF h n) j false) = false := by
  cases hq : h (upd (keepF h n) j false)
  · rfl
  · have h1 : h (upd (keepF h j) j false) = true := by
      refine mono _ _ (fun i hi => ?_) hq
      by_cases e : i = j
      · rw [e, upd_self] at hi; cases hi
      · rw [upd_other _ e] at hi ⊢
        exact keepF_less (by omega) hi
    rw [keepF_lt hj] at hk
    simp only [keepF] at hk
    rw [if_pos h1, upd_self] at hk
    cases hk
end

/-! ### What holds of gauges -/
instance (n : Nat) (M : Net) (t : Nat) : Decidable (Good n M t) := by unfold Good; infer_instance
def agreeB (c : Chn) (l : List Gau) : Bool := decide (Good c.n.toNat (netP c l) (c.n.toNat + 1))

theorem agreeB_iff {c : Chn} {l : List Gau} (hc : COk c) (hl : GOks c l) : agreeB c l = true ↔ Agree c l := by
  unfold agreeB
  rw [decide_eq_true_eq]
  exact goodP hc hl

/-- They do not agree; or, if that is asked, the run from a to b is at most m long. -/
def clashB (c : Chn) (l : List Gau) : Bool := !agreeB c l
def shortB (c : Chn) (a b : Nat) (m : Int) (l : List Gau) : Bool := !agreeB c l || decide (RM c l a b ≤ m)

theorem GOks.sel {c : Chn} {l : List Gau} (hl : GOks c l) (q : Nat → Bool) {k : Nat} (hk : k ≤ l.length) : GOks c (selTo l q k) := by
  intro g hg
  obtain ⟨i, h1, _, rfl⟩ := selTo_mem.1 hg
  exact hl _ (gau_getD_mem (by omega))

theorem ends_sel {c : Chn} {l : List Gau} {q q' : Nat → Bool} {k : Nat} {x : Nat → Int} (h : ∀ j, q j = true → q' j = true) (hx : Ends c (selTo l q' k) x) : Ends c (selTo l q k) x := by
  refine ⟨hx.1, fun g hg => hx.2 g ?_⟩
  obtain ⟨i, h1, h2, h3⟩ := selTo_mem.1 hg
  exact selTo_mem.2 ⟨i, h1, h _ h2, h3⟩

theorem clash_mono {c : Chn} {l : List Gau} (hc : COk c) (hl : GOks c l) (q q' : Nat → Bool) (h : ∀ j, q j = true → q' j = true) (hq : clashB c (selTo l q l.length) = true) : clashB c (selTo l q' l.length) = true := by
  unfold clashB at hq ⊢
  rw [Bool.not_eq_true'] at hq ⊢
  cases e : agreeB c (selTo l q' l.length)
  · rfl
  · obtain ⟨x, hx⟩ := (agreeB_iff hc (hl.sel q' (Nat.le_refl _))).1 e
    have := (agreeB_iff hc (hl.sel q (Nat.le_refl _))).2 ⟨x, ends_sel h hx⟩
    rw [hq] at this; cases this

theorem short_mono {c : Chn} {l : List Gau} (hc : COk c) (hl : GOks c l) {a b : Nat} {m : Int} (ha : a ≤ c.n.toNat) (hb : b ≤ c.n.toNat) (q q' : Nat → Bool) (h : ∀ j, q j = true → q' j = true) (hq : shortB c a b m (selTo l q l.length) = true) : shortB c a b m (selTo l q' l.length) = true := by
  unfold shortB at hq ⊢
  rw [Bool.or_eq_true, Bool.not_eq_true', decide_eq_true_eq] at hq ⊢
  cases e : agreeB c (selTo l q' l.length)
  · exact .inl rfl
  · right
    have a' := (agreeB_iff hc (hl.sel q' (Nat.le_refl _))).1 e
    obtain ⟨x, hx⟩ := a'
    have a1 := (agreeB_iff hc (hl.sel q (Nat.le_refl _))).2 ⟨x, ends_sel h hx⟩
    rcases hq with hq | hq
    · rw [hq] at a1; cases a1
    · obtain ⟨_, y, hy, ey⟩ := RM_max hc (hl.sel q' (Nat.le_refl _)) ⟨x, hx⟩ ha hb
      have := (RM_max hc (hl.sel q (Nat.le_refl _)) ⟨x, ends_sel h hx⟩ ha hb).1 y (ends_sel h hy)
      omega

/-! ### Lengths and their ends -/
/-- All links before the end k together. -/
def preM (xs : List Int) : Nat → Int
  | 0 => 0
  | k + 1 => preM xs k + xs.getD k 0

def PossM (c : Chn) (l : List Gau) (xs : List Int) : Prop :=
  xs.length = c.n.toNat ∧ (∀ i, i < xs.length → c.pi ≤ xs.getD i 0 ∧ xs.getD i 0 ≤ c.li) ∧ ∀ g ∈ l, g.lo ≤ preM xs g.b.toNat - preM xs g.a.toNat ∧ preM xs g.b.toNat - preM xs g.a.toNat ≤ g.hi

theorem poss_ends {c : Chn} {l : List Gau} {xs : List Int} (h : PossM c l xs) : Ends c l (preM xs) := by
  obtain ⟨h1, h2, h3⟩ := h
  refine ⟨fun i hi => ?_, h3⟩
  have := h2 i (by omega)
  simp only [preM]
  omega

theorem preM_diff (x : Nat → Int) (n : Nat) : ∀ k, k ≤ n → preM ((List.range n).map fun i => x (i + 1) - x i) k = x k - x 0 := by
  intro k
  induction k with
  | zero => intro _; simp [preM]
  | succ k ih =>
    intro h
    simp only [preM]
    rw [ih (by omega)]
    have e : ((List.range n).map fun i => x (i + 1) - x i).getD k 0 = x (k + 1) - x k := by
      rw [List.getD_eq_getElem?_getD, List.getElem?_map, List.getElem?_range (by omega)]; rfl
    rw [e]
    omega

theorem ends_poss {c : Chn} {l : List Gau} (hl : GOks c l) {x : Nat → Int} (h : Ends c l x) : PossM c l ((List.range c.n.toNat).map fun i => x (i + 1) - x i) := by
  refine ⟨by simp, fun i hi => ?_, fun g hg => ?_⟩
  · simp only [List.length_map, List.length_range] at hi
    have e : ((List.range c.n.toNat).map fun i => x (i + 1) - x i).getD i 0 = x (i + 1) - x i := by
      rw [List.getD_eq_getElem?_getD, List.getElem?_map, List.getElem?_range hi]; rfl
    rw [e]
    exact h.1 i hi
  · have g1 := hl g hg
    have a0 := g1.a0
    have ab := g1.ab
    have bn := g1.bn
    have h2 := h.2 g hg
    rw [preM_diff x _ _ (by omega), preM_diff x _ _ (by omega)]
    omega

end Go.Proofs.Ytkahhclmmlkpjaa
