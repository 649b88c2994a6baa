/- The plain mathematics of layer 1 (drive), fourth part: the speeds of a history, and when it comes to rest. Nothing here speaks of the program. -/
import Derived.Test.YtpoenjnpfodfpaaHm
namespace Go.Proofs.Ytpoenjnpfodfpaa
open Go.RowKit

theorem nextM_mono2 {E : Esc} (hE : E.Num) {v v' load f f' : Int} (hl : 0 ≤ load) (_hf : 0 ≤ f) (hff : f ≤ f') (hv : 0 < v) (h : v ≤ v') : nextM E v load f' ≤ nextM E v' load f := by
  have g1 := Int.mul_nonneg hE.pu1 hl
  obtain ⟨e1, e2, p1, p2, d1, d2, m1, m2⟩ := hE
  have a1 := @Int.ediv_le_ediv (E.pu * load - (E.dr + f')) (E.pu * load - (E.dr + f)) (E.em + load) (by omega) (by omega)
  have a2 := @Int.ediv_le_ediv (-(E.pu * load) - (E.dr + f')) (-(E.pu * load) - (E.dr + f)) (E.em + load) (by omega) (by omega)
  have hv' : 0 < v' := by omega
  obtain ⟨up, em, pu, dr, mo, bs⟩ := E
  dsimp only at *
  cases up <;> simp only [nextM, Bool.false_eq_true, if_true, if_false, Int.neg_neg, if_pos hv, if_pos hv'] <;> omega

theorem nextM_mono1 {E : Esc} (hE : E.Num) {v v' load f : Int} (hl : 0 ≤ load) (hf : 0 ≤ f) (h : v ≤ v') : nextM E v load f ≤ nextM E v' load f := by
  have g1 := Int.mul_nonneg hE.pu1 hl
  obtain ⟨e1, e2, p1, p2, d1, d2, m1, m2⟩ := hE
  have u := fun h => @Int.ediv_nonneg (E.pu * load - (E.dr + f)) (E.em + load) h (by omega)
  have n := fun h => @Int.ediv_nonneg (-(E.pu * load) - (E.dr + f)) (E.em + load) h (by omega)
  obtain ⟨up, em, pu, dr, mo, bs⟩ := E
  dsimp only at *
  cases up <;> simp only [nextM, Bool.false_eq_true, if_true, if_false, Int.neg_neg] <;> repeat' split
  all_goals first | omega | (have := u (by omega); omega) | (have := n (by omega); omega) | (have := u (by omega); have := n (by omega); omega)

theorem nextM_pos {E : Esc} {v load f : Int} (hv : 0 < v) : 0 ≤ nextM E v load f := by
  simp only [nextM, if_pos hv]
  omega

/-- At rest a band that is held stays at rest. -/
theorem nextM_rest {E : Esc} {load f : Int} (hp : 0 ≤ E.pu * load) (h : E.pu * load ≤ E.dr + f) : nextM E 0 load f = 0 := by
  simp only [nextM, Int.lt_irrefl, if_false]
  cases E.up <;> simp only [Bool.false_eq_true, if_true, if_false, Int.neg_neg]
  · rw [if_neg (by omega), if_neg (by omega)]
  · rw [if_neg (by omega), if_neg (by omega)]

theorem ext_max {E : Esc} {S : Stp} (hE : E.ok = true) {v tick load : Int} (h0 : 0 ≤ S.lo) (h1 : S.lo ≤ load) (h2 : load ≤ S.hi) :
    nextM E v load (gripM E S tick) ≤ (extM E S v tick true).2 ∧ (extM E S v tick false).2 ≤ nextM E v load (gripM E S tick) := by
  have f := (forceTo_bd3 hE (gripB E S tick)).1
  have hb := nextM_between (Esc.ok_num hE) (v := v) (f := gripM E S tick) h0 h1 h2 f
  have e1 : (extM E S v tick true).2 = max (nextM E v S.lo (gripM E S tick)) (nextM E v S.hi (gripM E S tick)) := by
    unfold extM
    dsimp only
    simp only [true_and, Bool.true_eq_false, false_and, or_false]
    split <;> omega
  have e2 : (extM E S v tick false).2 = min (nextM E v S.lo (gripM E S tick)) (nextM E v S.hi (gripM E S tick)) := by
    unfold extM
    dsimp only
    simp only [true_and, Bool.false_eq_true, false_and, false_or]
    split <;> omega
  omega

theorem ext_at {E : Esc} {S : Stp} {v tick : Int} (most : Bool) (h : S.lo ≤ S.hi) : S.lo ≤ (extM E S v tick most).1 ∧ (extM E S v tick most).1 ≤ S.hi ∧ (extM E S v tick most).2 = nextM E v (extM E S v tick most).1 (gripM E S tick) := by
  rcases extM_cases E S v tick most with e | e <;> rw [e] <;> dsimp only
  · exact ⟨h, Int.le_refl _, rfl⟩
  · exact ⟨Int.le_refl _, h, rfl⟩

/-- The speed behind t ticks of a history. -/
def playM (E : Esc) (S : Stp) (L : List Int) : Nat → Int
  | 0 => S.sp
  | t + 1 => nextM E (playM E S L t) (L.getD t 0) (gripM E S t)

def InSpan (S : Stp) (L : List Int) : Prop := ∀ t, t < L.length → S.lo ≤ L.getD t 0 ∧ L.getD t 0 ≤ S.hi

theorem play_between {E : Esc} {S : Stp} {L : List Int} (hE : E.ok = true) (hS : S.Num) (hL : InSpan S L) : ∀ t, t ≤ L.length → pathM E S false t ≤ playM E S L t ∧ playM E S L t ≤ pathM E S true t := by
  intro t
  induction t with
  | zero => intro _; exact ⟨Int.le_refl _, Int.le_refl _⟩
  | succ t ih =>
    intro ht
    obtain ⟨i1, i2⟩ := ih (by omega)
    obtain ⟨l1, l2⟩ := hL t (by omega)
    have h0 := hS.lo0
    have f := (forceTo_bd3 hE (gripB E S t)).1
    have x1 := (ext_max hE (v := pathM E S true t) (tick := t) h0 l1 l2).1
    have x2 := (ext_max hE (v := pathM E S false t) (tick := t) h0 l1 l2).2
    have m1 := nextM_mono1 (Esc.ok_num hE) (load := L.getD t 0) (f := gripM E S t) (by omega) f i1
    have m2 := nextM_mono1 (Esc.ok_num hE) (load := L.getD t 0) (f := gripM E S t) (by omega) f i2
    simp only [pathM, playM]
    omega

theorem play_bd {E : Esc} {S : Stp} {L : List Int} (hE : E.ok = true) (hS : S.Num) (hL : InSpan S L) (t : Nat) (ht : t ≤ L.length) : -(1000 + t * 100000000) ≤ playM E S L t ∧ playM E S L t ≤ 1000 + t * 100000000 := by
  have a := play_between hE hS hL t ht
  have b := pathM_bd hE hS true t
  have c := pathM_bd hE hS false t
  omega

/-- The first t up to n at which a sequence is 0; n if there is none. -/
def restG (u : Nat → Int) : Nat → Nat
  | 0 => 0
  | n + 1 => if u (restG u n) = 0 then restG u n else n + 1

theorem restG_spec (u : Nat → Int) : ∀ n, restG u n ≤ n ∧ (∀ i, i < restG u n → u i ≠ 0) ∧ (restG u n < n → u (restG u n) = 0) := by
  intro n
  induction n with
  | zero => simp [restG]
  | succ n ih =>
    obtain ⟨h1, h2, h3⟩ := ih
    simp only [restG]
    by_cases h : u (restG u n) = 0
    · rw [if_pos h]; exact ⟨by omega, h2, fun _ => h⟩
    · rw [if_neg h]
      have e : restG u n = n := by
        rcases Nat.lt_or_ge (restG u n) n with h' | h'
        · exact absurd (h3 h') h
        · omega
      refine ⟨Nat.le_refl _, fun i hi => ?_, fun h' => by omega⟩
      rcases Nat.lt_or_ge i n with h' | h'
      · exact h2 i (by omega)
      · have : i = restG u n := by omega
        rw [this]; exact h

theorem restG_eq {u : Nat → Int} {n r : Nat} (h1 : r ≤ n) (h2 : ∀ i, i < r → u i ≠ 0) (h3 : r < n → u r = 0) : restG u n = r := by
  obtain ⟨a1, a2, a3⟩ := restG_spec u n
  rcases Nat.lt_trichotomy (restG u n) r with h | h | h
  · exact absurd (a3 (by omega)) (h2 _ h)
  · exact h
  · exact absurd (h3 (by omega)) (a2 _ h)

theorem restG_congr {u v : Nat → Int} {n : Nat} (h : ∀ i, i ≤ n → u i = v i) : restG u n = restG v n := by
  obtain ⟨a1, a2, a3⟩ := restG_spec v n
  exact restG_eq a1 (fun i hi => by rw [h i (by omega)]; exact a2 i hi) (fun h' => by rw [h _ a1]; exact a3 h')

/-- The way of a sequence of speeds over n ticks. -/
def wayG (u : Nat → Int) : Nat → Int
  | 0 => 0
  | n + 1 => wayG u n + u (n + 1)

theorem wayG_congr {u v : Nat → Int} : ∀ n, (∀ i, i ≤ n → u i = v i) → wayG u n = wayG v n := by
  intro n
  induction n with
  | zero => intro _; rfl
  | succ n ih => intro h; simp only [wayG]; rw [ih (fun i hi => h i (by omega)), h (n + 1) (Nat.le_refl _)]

theorem wayG_le {u v : Nat → Int} : ∀ n, (∀ i, 0 < i → i ≤ n → u i ≤ v i) → wayG u n ≤ wayG v n := by
  intro n
  induction n with
  | zero => intro _; exact Int.le_refl _
  | succ n ih => intro h; simp only [wayG]; have := ih (fun i h0 hi => h i h0 (by omega)); have := h (n + 1) (by omega) (Nat.le_refl _); omega

theorem wayG_more {u : Nat → Int} {m : Nat} : ∀ n, m ≤ n → (∀ i, m < i → i ≤ n → 0 ≤ u i) → wayG u m ≤ wayG u n := by
  intro n
  induction n with
  | zero => intro h _; have : m = 0 := by omega
            subst this; exact Int.le_refl _
  | succ n ih =>
    intro h hu
    rcases Nat.lt_or_ge n m with h' | h'
    · have : m = n + 1 := by omega
      subst this; exact Int.le_refl _
    · have := ih h' (fun i h1 h2 => hu i h1 (by omega))
      have := hu (n + 1) (by omega) (Nat.le_refl _)
      simp only [wayG]
      omega

theorem wayG_bd {u : Nat → Int} {B : Int} : ∀ n : Nat, (∀ i, i ≤ n → -B ≤ u i ∧ u i ≤ B) → -(n * B) ≤ wayG u n ∧ wayG u n ≤ n * B := by
  intro n
  induction n with
  | zero => intro _; simp [wayG]
  | succ n ih =>
    intro h
    have a := ih (fun i hi => h i (by omega))
    have b := h (n + 1) (Nat.le_refl _)
    have e : ((n + 1 : Nat) : Int) * B = n * B + B := by rw [Int.natCast_add, Int.add_mul]; simp
    simp only [wayG]
    omega

/-- The run back of a sequence of speeds over n ticks. -/
def behG (u : Nat → Int) : Nat → Int
  | 0 => 0
  | n + 1 => behG u n + max 0 (-(u (n + 1)))

theorem behG_nonneg (u : Nat → Int) : ∀ n, 0 ≤ behG u n := by
  intro n
  induction n with
  | zero => simp [behG]
  | succ n ih => simp only [behG]; omega

theorem behG_le {u v : Nat → Int} : ∀ n, (∀ i, 0 < i → i ≤ n → v i ≤ u i) → behG u n ≤ behG v n := by
  intro n
  induction n with
  | zero => intro _; exact Int.le_refl _
  | succ n ih => intro h; simp only [behG]; have := ih (fun i h0 hi => h i h0 (by omega)); have := h (n + 1) (by omega) (Nat.le_refl _); omega

theorem behG_more {u : Nat → Int} {m : Nat} : ∀ n, m ≤ n → behG u m ≤ behG u n := by
  intro n
  induction n with
  | zero => intro h; have : m = 0 := by omega
            subst this; exact Int.le_refl _
  | succ n ih =>
    intro h
    rcases Nat.lt_or_ge n m with h' | h'
    · have : m = n + 1 := by omega
      subst this; exact Int.le_refl _
    · have := ih h'
      simp only [behG]
      omega

theorem behG_congr {u v : Nat → Int} : ∀ n, (∀ i, i ≤ n → u i = v i) → behG u n = behG v n := by
  intro n
  induction n with
  | zero => intro _; rfl
  | succ n ih => intro h; simp only [behG]; rw [ih (fun i hi => h i (by omega)), h (n + 1) (Nat.le_refl _)]

theorem behG_bd {u : Nat → Int} {B : Int} : ∀ n : Nat, (∀ i, i ≤ n → -B ≤ u i) → 0 ≤ B → behG u n ≤ n * B := by
  intro n
  induction n with
  | zero => intro _ _; simp [behG]
  | succ n ih =>
    intro h hB
    have a := ih (fun i hi => h i (by omega)) hB
    have b := h (n + 1) (Nat.le_refl _)
    have e : ((n + 1 : Nat) : Int) * B = n * B + B := by rw [Int.natCast_add, Int.add_mul]; simp
    simp only [behG]
    omega

theorem backTo_behG (E : Esc) (S : Stp) : ∀ n, backTo E S n = behG (pathM E S false) n := by
  intro n
  induction n with
  | zero => rfl
  | succ n ih => simp only [backTo, behG, ih]

/-- A list of speeds behind a first one, as a sequence. -/
def seqOf (sp : Int) (xs : List Int) (t : Nat) : Int := if t = 0 then sp else xs.getD (t - 1) 0

theorem seqOf_succ (sp : Int) (xs : List Int) (t : Nat) : seqOf sp xs (t + 1) = xs.getD t 0 := by
  unfold seqOf
  rw [if_neg (by omega), Nat.add_sub_cancel]

theorem seqOf_map {sp : Int} {u : Nat → Int} {n : Nat} (h0 : u 0 = sp) : ∀ i, i ≤ n → seqOf sp ((List.range n).map fun t => u (t + 1)) i = u i := by
  intro i hi
  unfold seqOf
  by_cases h : i = 0
  · rw [if_pos h, h, h0]
  · rw [if_neg h, List.getD_eq_getElem?_getD, List.getElem?_map, List.getElem?_range (by omega)]
    show u (i - 1 + 1) = _
    rw [Nat.sub_add_cancel (by omega)]

end Go.Proofs.Ytpoenjnpfodfpaa
