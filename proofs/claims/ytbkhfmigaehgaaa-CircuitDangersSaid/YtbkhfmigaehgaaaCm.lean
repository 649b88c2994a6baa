/- The plain mathematics of layer 3 (circuit): wires, sets, dangers, trials. Nothing here speaks of the program. -/
import Derived.WalkKit
namespace Go.Proofs.Ytbkhfmigaehgaaa

structure Wir where
  kind : Int
  of : List Int

def Wir.zero : Wir := ⟨0, []⟩

structure Cir where
  hz : Int
  sw : List Int
  ws : List Wir

/-- Hazards that are present, switches that are stuck closed, and open. -/
structure Sta where
  hz : Nat
  cl : Nat
  op : Nat

def letsM (c : Cir) (s : Sta) (k : Nat) : Bool := !s.op.testBit k && (s.cl.testBit k || decide ((c.sw.getD k 0).toNat &&& s.hz = 0))

/-- Whether a wire conducts; the first number bounds the wires still to come. -/
def cond (c : Cir) (s : Sta) : Nat → Int → Bool
  | 0, _ => false
  | f + 1, i =>
    let w := c.ws.getD i.toNat Wir.zero
    if w.kind = 1 then letsM c s (w.of.getD 0 0).toNat else if w.kind = 2 then w.of.all (cond c s f) else w.of.any (cond c s f)

theorem cond_succ (c : Cir) (s : Sta) (f : Nat) (i : Int) : cond c s (f + 1) i =
    if (c.ws.getD i.toNat Wir.zero).kind = 1 then letsM c s ((c.ws.getD i.toNat Wir.zero).of.getD 0 0).toNat else
      if (c.ws.getD i.toNat Wir.zero).kind = 2 then (c.ws.getD i.toNat Wir.zero).of.all (cond c s f) else (c.ws.getD i.toNat Wir.zero).of.any (cond c s f) := rfl

/-- From low to high, and strictly ascending. -/
def ascB (hi : Int) : Int → List Int → Bool
  | _, [] => true
  | lo, n :: l => decide (lo ≤ n ∧ n ≤ hi) && ascB hi (n + 1) l

theorem ascB_mem {hi : Int} : ∀ {l : List Int} {lo : Int}, ascB hi lo l = true → ∀ n ∈ l, lo ≤ n ∧ n ≤ hi
  | [], _, _, n, hn => by cases hn
  | x :: l, lo, h, n, hn => by
    unfold ascB at h
    simp only [Bool.and_eq_true, decide_eq_true_eq] at h
    rcases List.mem_cons.1 hn with rfl | hn
    · exact h.1
    · have := ascB_mem h.2 n hn
      omega

/-- A wire is as in the table: n switches, m wires. -/
def wireB (n m : Int) (i : Int) (w : Wir) : Bool :=
  if w.kind = 1 then decide (w.of.length = 1) && decide (0 ≤ w.of.getD 0 0 ∧ w.of.getD 0 0 ≤ n - 1) else
  if w.kind = 2 ∨ w.kind = 3 then decide (1 ≤ w.of.length ∧ w.of.length ≤ 8) && ascB (m - 1) (i + 1) w.of else false

/-- How often a wire is in the others, the first k of them. -/
def usedTo (ws : List Wir) (j : Nat) : Nat → Nat
  | 0 => 0
  | k + 1 => usedTo ws j k + (if (ws.getD k Wir.zero).kind = 1 then 0 else (ws.getD k Wir.zero).of.countP fun x => x == (j : Int))

def setB (n : Int) (many : Nat) : Bool := decide (0 ≤ n ∧ n ≤ 2 ^ many - 1)

def sizesB (c : Cir) : Bool := decide (1 ≤ c.hz ∧ c.hz ≤ 8) && decide (1 ≤ c.sw.length ∧ c.sw.length ≤ 12) && decide (1 ≤ c.ws.length ∧ c.ws.length ≤ 24)
def switchesB (c : Cir) : Bool := c.sw.all fun n => setB n c.hz.toNat
def wiresB (c : Cir) : Bool := (List.range c.ws.length).all fun i => wireB c.sw.length c.ws.length i (c.ws.getD i Wir.zero)
def joinedB (c : Cir) : Bool := (List.range c.ws.length).all fun i => decide (i = 0) || decide (usedTo c.ws i c.ws.length = 1)
def validB (c : Cir) : Bool := sizesB c && switchesB c && wiresB c && joinedB c
def chkC (c : Cir) : Int := if validB c = true then 0 else 30

/-- What a valid circuit is. -/
structure CVal (c : Cir) : Prop where
  h1 : 1 ≤ c.hz
  h2 : c.hz ≤ 8
  s1 : 1 ≤ c.sw.length
  s2 : c.sw.length ≤ 12
  w1 : 1 ≤ c.ws.length
  w2 : c.ws.length ≤ 24
  sw : ∀ k, k < c.sw.length → 0 ≤ c.sw.getD k 0 ∧ c.sw.getD k 0 ≤ 2 ^ c.hz.toNat - 1
  ws : ∀ i, i < c.ws.length → wireB c.sw.length c.ws.length i (c.ws.getD i Wir.zero) = true

theorem cval {c : Cir} (h : validB c = true) : CVal c := by
  unfold validB sizesB switchesB wiresB at h
  simp only [Bool.and_eq_true, decide_eq_true_eq, List.all_eq_true] at h
  obtain ⟨⟨⟨⟨⟨⟨h1, h2⟩, s1, s2⟩, w1, w2⟩, hs⟩, hw⟩, _⟩ := h
  refine ⟨h1, h2, s1, s2, w1, w2, fun k hk => ?_, fun i hi => hw i (List.mem_range.2 hi)⟩
  have := hs (c.sw.getD k 0) (by rw [List.getD_eq_getElem?_getD, List.getElem?_eq_getElem hk]; exact List.getElem_mem hk)
  unfold setB at this
  simpa using this

theorem wire_one {n m i : Int} {w : Wir} (h : wireB n m i w = true) (hk : w.kind = 1) : w.of.length = 1 ∧ 0 ≤ w.of.getD 0 0 ∧ w.of.getD 0 0 ≤ n - 1 := by
  unfold wireB at h
  rw [if_pos hk] at h
  simpa using h

theorem wire_more {n m i : Int} {w : Wir} (h : wireB n m i w = true) (hk : ¬ w.kind = 1) : (w.kind = 2 ∨ w.kind = 3) ∧ 1 ≤ w.of.length ∧ w.of.length ≤ 8 ∧ ∀ x ∈ w.of, i < x ∧ x < m := by
  unfold wireB at h
  rw [if_neg hk] at h
  split at h
  · rename_i hk2
    simp only [Bool.and_eq_true, decide_eq_true_eq] at h
    refine ⟨hk2, h.1.1, h.1.2, fun x hx => ?_⟩
    have := ascB_mem h.2 x hx
    omega
  · cases h

/-! ### with more switches stuck closed a wire never conducts less -/
structure Sta.Le (s t : Sta) : Prop where
  hz : ∀ i, t.hz.testBit i = true → s.hz.testBit i = true
  cl : ∀ i, s.cl.testBit i = true → t.cl.testBit i = true
  op : ∀ i, t.op.testBit i = true → s.op.testBit i = true

theorem lets_mono {c : Cir} {s t : Sta} (h : s.Le t) {k : Nat} (hl : letsM c s k = true) : letsM c t k = true := by
  unfold letsM at hl ⊢
  simp only [Bool.and_eq_true, Bool.not_eq_true', Bool.or_eq_true, decide_eq_true_eq] at hl ⊢
  refine ⟨?_, hl.2.imp (h.cl k) fun h0 => ?_⟩
  · cases ht : t.op.testBit k
    · rfl
    · rw [h.op k ht] at hl; cases hl.1
  · apply Nat.eq_of_testBit_eq
    intro i
    have := congrArg (Nat.testBit · i) h0
    simp only [Nat.testBit_and, Nat.zero_testBit, Bool.and_eq_false_iff] at this ⊢
    refine this.imp id fun h1 => ?_
    cases ht : t.hz.testBit i
    · rfl
    · rw [h.hz i ht] at h1; cases h1

theorem cond_mono {c : Cir} {s t : Sta} (h : s.Le t) : ∀ (f : Nat) (i : Int), cond c s f i = true → cond c t f i = true
  | 0, _, hc => by cases hc
  | f + 1, i, hc => by
    rw [cond_succ] at hc ⊢
    split at hc
    · rename_i h1; rw [if_pos h1]; exact lets_mono h hc
    · rename_i h1; rw [if_neg h1]
      split at hc
      · rename_i h2; rw [if_pos h2]
        rw [List.all_eq_true] at hc ⊢
        exact fun x hx => cond_mono h f x (hc x hx)
      · rename_i h2; rw [if_neg h2]
        rw [List.any_eq_true] at hc ⊢
        obtain ⟨x, hx, hc⟩ := hc
        exact ⟨x, hx, cond_mono h f x hc⟩

attribute [irreducible] cond

/-! ### dangers -/
def passM (c : Cir) (hz cl : Nat) : Bool := cond c ⟨hz, cl, 0⟩ 24 0
def weakM (c : Cir) (cl : Nat) : List Nat := (List.range c.hz.toNat).filter fun h => passM c (2 ^ h) cl
def dangB (c : Cir) (cl : Nat) : Bool := (List.range c.hz.toNat).any fun h => passM c (2 ^ h) cl
def critM (c : Cir) : List Nat := (List.range c.sw.length).filter fun k => dangB c (2 ^ k)
def pairB (c : Cir) (i k : Nat) : Bool := decide (i < k) && !dangB c (2 ^ i) && !dangB c (2 ^ k) && dangB c (2 ^ i ||| 2 ^ k)
/-- The pairs with i, up to k; all pairs up to i. -/
def pairRow (c : Cir) (i : Nat) (k : Nat) : List (Nat × Nat) := ((List.range k).filter (pairB c i)).map fun k => (i, k)
def pairTo (c : Cir) : Nat → List (Nat × Nat)
  | 0 => []
  | i + 1 => pairTo c i ++ pairRow c i c.sw.length
def pairsM (c : Cir) : List (Nat × Nat) := pairTo c c.sw.length

theorem weak_dang (c : Cir) (cl : Nat) : (weakM c cl = []) ↔ dangB c cl = false := by
  unfold weakM dangB
  rw [List.filter_eq_nil_iff, List.any_eq_false]

theorem mem_pairTo {c : Cir} {a b : Nat} : ∀ n, (a, b) ∈ pairTo c n ↔ a < n ∧ b < c.sw.length ∧ pairB c a b = true
  | 0 => by simp [pairTo]
  | n + 1 => by
    simp only [pairTo, List.mem_append, mem_pairTo n, pairRow, List.mem_map, List.mem_filter, List.mem_range, Prod.mk.injEq]
    constructor
    · rintro (⟨h1, h2⟩ | ⟨k, ⟨h1, h2⟩, rfl, rfl⟩)
      · exact ⟨by omega, h2⟩
      · exact ⟨by omega, h1, h2⟩
    · rintro ⟨h1, h2, h3⟩
      by_cases e : a = n
      · subst e; exact Or.inr ⟨b, ⟨h2, h3⟩, rfl, rfl⟩
      · exact Or.inl ⟨by omega, h2, h3⟩

theorem pass_mono {c : Cir} {hz cl hz' cl' : Nat} (h1 : ∀ i, hz'.testBit i = true → hz.testBit i = true) (h2 : ∀ i, cl.testBit i = true → cl'.testBit i = true) (h : passM c hz cl = true) : passM c hz' cl' = true :=
  cond_mono ⟨h1, h2, fun i hi => by simp at hi⟩ 24 0 h

theorem dang_mono {c : Cir} {cl cl' : Nat} (h2 : ∀ i, cl.testBit i = true → cl'.testBit i = true) (h : dangB c cl = true) : dangB c cl' = true := by
  unfold dangB at h ⊢
  rw [List.any_eq_true] at h ⊢
  obtain ⟨x, hx, h⟩ := h
  exact ⟨x, hx, pass_mono (fun i hi => hi) h2 h⟩

theorem or_left (a b i : Nat) (h : a.testBit i = true) : (a ||| b).testBit i = true := by rw [Nat.testBit_or, h]; rfl
theorem or_right (a b i : Nat) (h : b.testBit i = true) : (a ||| b).testBit i = true := by rw [Nat.testBit_or, h]; simp

/-- Two switches are dangerous together exactly if one of them is critical, or both are a pair. -/
theorem two_dang {c : Cir} {a b : Nat} (hab : a < b) (hb : b < c.sw.length) : dangB c (2 ^ a ||| 2 ^ b) = true ↔ ((a, b) ∈ pairsM c ∨ a ∈ critM c ∨ b ∈ critM c) := by
  unfold pairsM critM
  rw [mem_pairTo]
  simp only [List.mem_filter, List.mem_range, pairB, Bool.and_eq_true, decide_eq_true_eq, Bool.not_eq_true']
  constructor
  · intro h
    cases h1 : dangB c (2 ^ a)
    · cases h2 : dangB c (2 ^ b)
      · exact Or.inl ⟨by omega, hb, ⟨⟨hab, rfl⟩, rfl⟩, h⟩
      · exact Or.inr (Or.inr ⟨hb, rfl⟩)
    · exact Or.inr (Or.inl ⟨by omega, rfl⟩)
  · rintro (⟨_, _, _, h⟩ | ⟨_, h⟩ | ⟨_, h⟩)
    · exact h
    · exact dang_mono (or_left _ _) h
    · exact dang_mono (or_right _ _) h

/-- A switch that is not critical, stuck alone, lets the machine run with no hazards present, at least one, whatever is stuck open. -/
theorem single_stop {c : Cir} (hc : critM c = []) {k : Nat} (hk : k < c.sw.length) {hz : Nat} (h0 : hz ≠ 0) (hh : hz < 2 ^ c.hz.toNat) (op : Nat) : cond c ⟨hz, 2 ^ k, op⟩ 24 0 = false := by
  cases hr : cond c ⟨hz, 2 ^ k, op⟩ 24 0
  · rfl
  · exfalso
    obtain ⟨i, hi⟩ := Nat.exists_testBit_of_ne_zero h0
    have hlt : i < c.hz.toNat := by
      apply Nat.lt_of_not_le
      intro hle
      have := Nat.testBit_lt_two_pow (Nat.lt_of_lt_of_le hh (Nat.pow_le_pow_right (by omega) hle))
      rw [this] at hi; cases hi
    have h1 : passM c (2 ^ i) (2 ^ k) = true := by
      unfold passM
      refine cond_mono (s := ⟨hz, 2 ^ k, op⟩) (t := ⟨2 ^ i, 2 ^ k, 0⟩) ⟨fun j hj => ?_, fun j hj => hj, fun j hj => by exact absurd hj (by simp)⟩ 24 0 hr
      rw [Nat.testBit_two_pow] at hj
      obtain rfl : i = j := by simpa using hj
      exact hi
    have h2 : dangB c (2 ^ k) = true := List.any_eq_true.2 ⟨i, List.mem_range.2 hlt, h1⟩
    have h3 : k ∈ critM c := List.mem_filter.2 ⟨List.mem_range.2 hk, h2⟩
    rw [hc] at h3
    cases h3

end Go.Proofs.Ytbkhfmigaehgaaa
