/- The plain mathematics of layer 2 (chain), fifth part: histories, plans, further measures. Nothing here speaks of the program. -/
import Derived.Test.YtkahhclmmlkpjaaQm
namespace Go.Proofs.Ytkahhclmmlkpjaa

theorem us_getD_append {a b : List Us} {i : Nat} (h : i < a.length) : (a ++ b).getD i Us.zero = a.getD i Us.zero := by
  rw [List.getD_eq_getElem?_getD, List.getD_eq_getElem?_getD, List.getElem?_append_left h]

theorem us_getD_right {a b : List Us} {i : Nat} (h : a.length ≤ i) : (a ++ b).getD i Us.zero = b.getD (i - a.length) Us.zero := by
  rw [List.getD_eq_getElem?_getD, List.getD_eq_getElem?_getD, List.getElem?_append_right h]

abbrev UOks (P : Prt) (l : List Us) : Prop := ∀ i, i < l.length → UOk P.rs.length (l.getD i Us.zero) (sinceAt l i)

theorem since_append {a b : List Us} : ∀ {i : Nat}, i ≤ a.length → sinceAt (a ++ b) i = sinceAt a i
  | 0, _ => rfl
  | i + 1, h => by simp only [sinceAt]; rw [us_getD_append (by omega)]

theorem UOks.left {P : Prt} {a b : List Us} (h : UOks P (a ++ b)) : UOks P a := fun i hi => by
  have := h i (by rw [List.length_append]; omega)
  rw [us_getD_append hi, since_append (by omega)] at this
  exact this

theorem rch_append (P : Prt) (a b : List Us) : ∀ i, i ≤ a.length → rch P (a ++ b) i = rch P a i := by
  intro i
  induction i with
  | zero => intro _; rfl
  | succ i ih => intro h; simp only [rch]; rw [ih (by omega), us_getD_append (by omega)]

theorem turns_append (a b : List Us) : ∀ i, i ≤ a.length → turnsTo (a ++ b) i = turnsTo a i := by
  intro i
  induction i with
  | zero => intro _; rfl
  | succ i ih => intro h; simp only [turnsTo]; rw [ih (by omega), us_getD_append (by omega)]

theorem turns_mono {P : Prt} {l : List Us} (hl : UOks P l) {i : Nat} : ∀ {k : Nat}, i ≤ k → k ≤ l.length → turnsTo l i ≤ turnsTo l k := by
  intro k
  induction k with
  | zero => intro h _; have : i = 0 := by omega
            subst this; exact Int.le_refl _
  | succ k ih =>
    intro h hk
    rcases Nat.lt_or_ge k i with h' | h'
    · have : i = k + 1 := by omega
      subst this; exact Int.le_refl _
    · have := ih h' (by omega)
      have := (hl k (by omega)).t0
      simp only [turnsTo]; omega

theorem day_mono {P : Prt} {l : List Us} (hl : UOks P l) {i : Nat} : ∀ {k : Nat}, i ≤ k → k < l.length → (l.getD i Us.zero).d ≤ (l.getD k Us.zero).d := by
  intro k
  induction k with
  | zero => intro h _; have : i = 0 := by omega
            subst this; exact Int.le_refl _
  | succ k ih =>
    intro h hk
    rcases Nat.lt_or_ge k i with h' | h'
    · have : i = k + 1 := by omega
      subst this; exact Int.le_refl _
    · have a := ih h' (by omega)
      have b := (hl (k + 1) hk).d0
      simp only [sinceAt] at b
      omega

/-! ### Histories -/
/-- The wear behind i uses of a history. -/
def wsAt (ws : List Int) : Nat → Int
  | 0 => 0
  | i + 1 => ws.getD i 0
def histAt (P : Prt) (l : List Us) (ws : List Int) (i : Nat) : Prop :=
  wsAt ws i + addL P (l.getD i Us.zero) ≤ ws.getD i 0 ∧ ws.getD i 0 ≤ wsAt ws i + addH P (l.getD i Us.zero) ∧ ((l.getD i Us.zero).m = true → (l.getD i Us.zero).lo ≤ ws.getD i 0 ∧ ws.getD i 0 ≤ (l.getD i Us.zero).hi)
def Hist (P : Prt) (l : List Us) (ws : List Int) : Prop := ws.length = l.length ∧ ∀ i, i < l.length → histAt P l ws i

theorem hist_rch {P : Prt} {l : List Us} {ws : List Int} (h : Hist P l ws) : ∀ i, i ≤ l.length → (rch P l i).1 ≤ wsAt ws i ∧ wsAt ws i ≤ (rch P l i).2 := by
  intro i
  induction i with
  | zero => intro _; simp [rch, wsAt]
  | succ i ih =>
    intro hi
    have a := ih (by omega)
    obtain ⟨b1, b2, b3⟩ := h.2 i (by omega)
    simp only [rch, grown, wsAt, common]
    split
    · rename_i hm
      have := b3 hm
      dsimp only
      omega
    · dsimp only
      omega

theorem hist_reach {P : Prt} {l : List Us} {ws : List Int} (h : Hist P l ws) : reachN P l = l.length := by
  refine firstB_eq (Nat.le_refl _) (fun i hi => ?_) (fun h => by omega)
  have := hist_rch h (i + 1) (by omega)
  exact decide_eq_false (by omega)

theorem hist_bkd {P : Prt} {l : List Us} {ws : List Int} (h : Hist P l ws) : ∀ d, d < l.length → (bkd P l d).1 ≤ ws.getD (l.length - 1 - d) 0 ∧ ws.getD (l.length - 1 - d) 0 ≤ (bkd P l d).2 := by
  intro d
  induction d with
  | zero =>
    intro hd
    have a := hist_rch h (l.length - 1 + 1) (by omega)
    rw [show l.length - 1 + 1 = l.length by omega] at a
    rw [show l.length = (l.length - 1) + 1 by omega] at a
    simp only [wsAt] at a
    rw [show l.length - 1 + 1 = l.length by omega] at a
    simpa [bkd] using a
  | succ d ih =>
    intro hd
    have a := ih (by omega)
    have b := hist_rch h (l.length - 1 - d) (by omega)
    obtain ⟨c1, c2, _⟩ := h.2 (l.length - 1 - d) (by omega)
    rw [show l.length - 1 - d = (l.length - 1 - (d + 1)) + 1 by omega] at b c1 c2 a
    simp only [wsAt] at b c1 c2
    simp only [bkd, common]
    rw [show l.length - 1 - d = (l.length - 1 - (d + 1)) + 1 by omega]
    omega

theorem hist_wear {P : Prt} {l : List Us} {ws : List Int} (h : Hist P l ws) {i : Nat} (hi : i < l.length) : (wearAt P l i).1 ≤ ws.getD i 0 ∧ ws.getD i 0 ≤ (wearAt P l i).2 := by
  have := hist_bkd h (l.length - 1 - i) (by omega)
  rw [show l.length - 1 - (l.length - 1 - i) = i by omega] at this
  exact this

theorem spent_mono {P : Prt} {w w' t d : Int} (h : w ≤ w') (hs : spentM P w t d = true) : spentM P w' t d = true := by
  simp only [spentM, Bool.or_eq_true, decide_eq_true_eq] at hs ⊢
  omega

theorem spentM_false {P : Prt} {w t d : Int} : spentM P w t d = false ↔ w ≤ P.wo * 1000000 ∧ t ≤ P.tu ∧ d ≤ P.ag := by
  simp only [spentM, Bool.or_eq_false_iff, decide_eq_false_iff_not]
  omega

/-- Once it is beyond its life it is behind all later uses. -/
theorem worn_later {P : Prt} {l : List Us} {ws : List Int} (hP : POk P) (hl : UOks P l) (h : Hist P l ws) {i : Nat} : ∀ {k : Nat}, i ≤ k → k < l.length → wornM P l i (ws.getD i 0) = true → wornM P l k (ws.getD k 0) = true := by
  intro k
  induction k with
  | zero => intro h' _ hw; have : i = 0 := by omega
            subst this; exact hw
  | succ k ih =>
    intro h' hk hw
    rcases Nat.lt_or_ge k i with h2 | h2
    · have : i = k + 1 := by omega
      subst this; exact hw
    · have a := ih h2 (by omega) hw
      have b := (h.2 (k + 1) hk).1
      have c := (add_ok hP (hl (k + 1) hk)).1
      have d := day_mono hl (by omega : k ≤ k + 1) hk
      have e := turns_mono hl (by omega : k + 1 ≤ k + 1 + 1) (by omega : k + 1 + 1 ≤ l.length)
      simp only [wsAt] at b
      simp only [wornM, spentM, Bool.or_eq_true, decide_eq_true_eq] at a ⊢
      omega

theorem spentN_spec (P : Prt) (l : List Us) (g : Bool) : spentN P l g ≤ l.length ∧ (∀ i, i < spentN P l g → wornM P l i (endOf g (wearAt P l i)) = false) ∧ (spentN P l g < l.length → wornM P l (spentN P l g) (endOf g (wearAt P l (spentN P l g))) = true) := firstB_spec _ _

/-- Beyond is not behind Surely. -/
theorem spent_order {P : Prt} {l : List Us} {ws : List Int} (h : Hist P l ws) : spentN P l true ≤ spentN P l false := by
  obtain ⟨a1, a2, a3⟩ := spentN_spec P l true
  obtain ⟨b1, b2, b3⟩ := spentN_spec P l false
  rcases Nat.lt_or_ge (spentN P l false) (spentN P l true) with h1 | h1
  · have w := hist_wear h (i := spentN P l false) (by omega)
    have x := b3 (by omega)
    have y := a2 _ h1
    unfold wornM at x y
    rw [spent_mono (w' := endOf true (wearAt P l (spentN P l false))) (by simp only [endOf, if_true, Bool.false_eq_true, if_false]; omega) x] at y
    cases y
  · exact h1

/-- What is said of each use of a history. -/
theorem lives {P : Prt} {l : List Us} {ws : List Int} (hP : POk P) (hl : UOks P l) (h : Hist P l ws) {i : Nat} (hi : i < l.length) :
    (wornM P l i (ws.getD i 0) = true → spentN P l true ≤ i) ∧ (wornM P l i (ws.getD i 0) = false → i < spentN P l false) := by
  obtain ⟨a1, a2, a3⟩ := spentN_spec P l true
  obtain ⟨b1, b2, b3⟩ := spentN_spec P l false
  constructor
  · intro hw
    rcases Nat.lt_or_ge i (spentN P l true) with h1 | h1
    · have w := hist_wear h hi
      have y := a2 _ h1
      unfold wornM at hw y
      rw [spent_mono (w' := endOf true (wearAt P l i)) (by simp only [endOf, if_true]; omega) hw] at y
      cases y
    · exact h1
  · intro hw
    rcases Nat.lt_or_ge i (spentN P l false) with h1 | h1
    · exact h1
    · have w := hist_wear h (i := spentN P l false) (by omega)
      have x := b3 (by omega)
      unfold wornM at x
      have x' := spent_mono (w' := ws.getD (spentN P l false) 0) (by simp only [endOf, Bool.false_eq_true, if_false]; omega) x
      have := worn_later hP hl h h1 hi x'
      rw [hw] at this
      cases this

/-! ### What is not measured does not narrow -/
theorem bkd_tail {P : Prt} {a b : List Us} (hP : POk P) (hl : UOks P (a ++ b)) (hb : ∀ u ∈ b, u.m = false) : ∀ d, d ≤ b.length → bkd P (a ++ b) d = rch P (a ++ b) ((a ++ b).length - d) := by
  intro d
  induction d with
  | zero => intro _; rfl
  | succ d ih =>
    intro hd
    have e := ih (by omega)
    have hn : (a ++ b).length = a.length + b.length := List.length_append
    have hu : ((a ++ b).getD ((a ++ b).length - 1 - d) Us.zero).m = false := by
      rw [us_getD_right (by omega)]
      refine hb _ ?_
      rw [List.getD_eq_getElem?_getD, List.getElem?_eq_getElem (by omega)]
      exact List.getElem_mem _
    have ha := add_ok hP (hl ((a ++ b).length - 1 - d) (by omega))
    simp only [bkd]
    rw [e, show (a ++ b).length - d = ((a ++ b).length - 1 - d) + 1 by omega]
    simp only [rch, grown]
    rw [if_neg (by rw [hu]; decide)]
    rw [show (a ++ b).length - (d + 1) = (a ++ b).length - 1 - d by omega]
    generalize (a ++ b).length - 1 - d = k at *
    simp only [common]
    refine Prod.ext ?_ ?_ <;> dsimp only <;> omega

theorem bkd_left {P : Prt} {a b : List Us} (hP : POk P) (hl : UOks P (a ++ b)) (hb : ∀ u ∈ b, u.m = false) : ∀ d, d < a.length → bkd P (a ++ b) (b.length + d) = bkd P a d := by
  have hn : (a ++ b).length = a.length + b.length := List.length_append
  intro d
  induction d with
  | zero =>
    intro _
    rw [Nat.add_zero, bkd_tail hP hl hb _ (Nat.le_refl _), hn, Nat.add_sub_cancel, rch_append P a b _ (Nat.le_refl _)]
    rfl
  | succ d ih =>
    intro hd
    rw [← Nat.add_assoc]
    simp only [bkd]
    rw [ih (by omega), show (a ++ b).length - 1 - (b.length + d) = a.length - 1 - d by omega, rch_append P a b _ (by omega), us_getD_append (by omega)]

theorem wear_left {P : Prt} {a b : List Us} (hP : POk P) (hl : UOks P (a ++ b)) (hb : ∀ u ∈ b, u.m = false) {i : Nat} (hi : i < a.length) : wearAt P (a ++ b) i = wearAt P a i := by
  unfold wearAt
  rw [List.length_append, show a.length + b.length - 1 - i = b.length + (a.length - 1 - i) by omega]
  exact bkd_left hP hl hb _ (by omega)

theorem worn_left {P : Prt} {a b : List Us} {i : Nat} (hi : i < a.length) (x : Int) : wornM P (a ++ b) i x = wornM P a i x := by
  unfold wornM
  rw [turns_append a b _ (by omega), us_getD_append hi]

/-- The first use behind which it may be beyond its life, with more uses behind. -/
theorem spent_left {P : Prt} {a b : List Us} (hP : POk P) (hl : UOks P (a ++ b)) (hb : ∀ u ∈ b, u.m = false) (g : Bool) : spentN P a g = min (spentN P (a ++ b) g) a.length := by
  obtain ⟨h1, h2, h3⟩ := spentN_spec P (a ++ b) g
  have hn : (a ++ b).length = a.length + b.length := List.length_append
  refine firstB_eq (by omega) (fun i hi => ?_) (fun h => ?_)
  · have := h2 i (by omega)
    rw [wear_left hP hl hb (by omega), worn_left (by omega)] at this
    exact this
  · have e : min (spentN P (a ++ b) g) a.length = spentN P (a ++ b) g := by omega
    rw [e]
    have := h3 (by omega)
    rw [wear_left hP hl hb (by omega), worn_left (by omega)] at this
    exact this

theorem reach_left {P : Prt} {a b : List Us} (h : reachN P (a ++ b) = (a ++ b).length) : reachN P a = a.length := by
  refine firstB_eq (Nat.le_refl _) (fun i hi => ?_) (fun h => by omega)
  have hn : (a ++ b).length = a.length + b.length := List.length_append
  have := (firstB_spec (noneAt P (a ++ b)) (a ++ b).length).2.1 i (by unfold reachN at h; omega)
  unfold noneAt at this ⊢
  rw [rch_append P a b _ (by omega)] at this
  exact this

theorem reach_right {P : Prt} {a b : List Us} (hP : POk P) (hl : UOks P (a ++ b)) (hb : ∀ u ∈ b, u.m = false) (h : reachN P a = a.length) : reachN P (a ++ b) = (a ++ b).length := by
  have hn : (a ++ b).length = a.length + b.length := List.length_append
  have key : ∀ k, a.length ≤ k → k ≤ (a ++ b).length → (rch P (a ++ b) k).1 ≤ (rch P (a ++ b) k).2 := by
    intro k h1
    induction k with
    | zero => intro _; simp [rch]
    | succ k ih =>
      intro h2
      rcases Nat.lt_or_ge k a.length with h' | h'
      · have e : k + 1 = a.length := by omega
        rw [e, rch_append P a b _ (Nat.le_refl _)]
        exact reachN_some (by omega)
      · have r := ih h' (by omega)
        have hu : ((a ++ b).getD k Us.zero).m = false := by
          rw [us_getD_right h']
          refine hb _ ?_
          rw [List.getD_eq_getElem?_getD, List.getElem?_eq_getElem (by omega)]
          exact List.getElem_mem _
        have ha := add_ok hP (hl k (by omega))
        simp only [rch, grown]
        rw [if_neg (by rw [hu]; decide)]
        dsimp only
        omega
  refine firstB_eq (Nat.le_refl _) (fun i hi => decide_eq_false ?_) (fun h => by omega)
  rcases Nat.lt_or_ge i a.length with h' | h'
  · rw [rch_append P a b _ (by omega)]
    have := reachN_some (P := P) (l := a) (i := i + 1) (by omega)
    omega
  · have := key (i + 1) (by omega) (by omega)
    omega

/-! ### One measure more -/
/-- The uses l' are l with more of them measured. -/
structure Narrow (l l' : List Us) : Prop where
  len : l'.length = l.length
  t : ∀ i, i < l.length → (l'.getD i Us.zero).t = (l.getD i Us.zero).t
  c : ∀ i, i < l.length → (l'.getD i Us.zero).c = (l.getD i Us.zero).c
  m : ∀ i, i < l.length → (l.getD i Us.zero).m = true → (l'.getD i Us.zero).m = true ∧ (l'.getD i Us.zero).lo = (l.getD i Us.zero).lo ∧ (l'.getD i Us.zero).hi = (l.getD i Us.zero).hi

theorem Narrow.add {P : Prt} {l l' : List Us} (h : Narrow l l') {i : Nat} (hi : i < l.length) : addL P (l'.getD i Us.zero) = addL P (l.getD i Us.zero) ∧ addH P (l'.getD i Us.zero) = addH P (l.getD i Us.zero) := by
  unfold addL addH rateOf
  rw [h.t i hi, h.c i hi]
  exact ⟨rfl, rfl⟩

theorem narrow_rch {P : Prt} {l l' : List Us} (h : Narrow l l') : ∀ i, i ≤ l.length → (rch P l i).1 ≤ (rch P l' i).1 ∧ (rch P l' i).2 ≤ (rch P l i).2 := by
  intro i
  induction i with
  | zero => intro _; simp [rch]
  | succ i ih =>
    intro hi
    have a := ih (by omega)
    obtain ⟨e1, e2⟩ := h.add (P := P) (i := i) (by omega)
    have m := h.m i (by omega)
    simp only [rch, grown, common, e1, e2]
    by_cases hm : (l.getD i Us.zero).m = true
    · obtain ⟨m1, m2, m3⟩ := m hm
      rw [if_pos hm, if_pos m1, m2, m3]
      dsimp only
      omega
    · rw [if_neg hm]
      split <;> dsimp only <;> omega

theorem narrow_reach {P : Prt} {l l' : List Us} (h : Narrow l l') (hr : reachN P l' = l'.length) : reachN P l = l.length := by
  refine firstB_eq (Nat.le_refl _) (fun i hi => decide_eq_false ?_) (fun h => by omega)
  have a := narrow_rch (P := P) h (i + 1) (by omega)
  have b := reachN_some (P := P) (l := l') (i := i + 1) (by have := h.len; omega)
  omega

theorem narrow_bkd {P : Prt} {l l' : List Us} (h : Narrow l l') : ∀ d, d < l.length → (bkd P l d).1 ≤ (bkd P l' d).1 ∧ (bkd P l' d).2 ≤ (bkd P l d).2 := by
  intro d
  induction d with
  | zero => intro _; simp only [bkd]; rw [h.len]; exact narrow_rch h _ (Nat.le_refl _)
  | succ d ih =>
    intro hd
    have a := ih (by omega)
    have b := narrow_rch (P := P) h (l.length - 1 - d) (by omega)
    obtain ⟨e1, e2⟩ := h.add (P := P) (i := l.length - 1 - d) (by omega)
    simp only [bkd, common]
    rw [h.len, e1, e2]
    omega

theorem narrow_wear {P : Prt} {l l' : List Us} (h : Narrow l l') {i : Nat} (hi : i < l.length) : (wearAt P l i).1 ≤ (wearAt P l' i).1 ∧ (wearAt P l' i).2 ≤ (wearAt P l i).2 := by
  unfold wearAt
  rw [h.len]
  exact narrow_bkd h _ (by omega)

/-! ### Turns more -/
theorem bkd_top {P : Prt} {l : List Us} (hP : POk P) (hl : UOks P l) : ∀ d, d < l.length → (bkd P l d).2 ≤ (rch P l l.length).2 := by
  intro d
  induction d with
  | zero => intro _; exact Int.le_refl _
  | succ d ih =>
    intro hd
    have a := ih (by omega)
    have b := (add_ok hP (hl (l.length - 1 - d) (by omega))).1
    simp only [bkd, common]
    omega

end Go.Proofs.Ytkahhclmmlkpjaa
