/- The plain mathematics of layer 2 (chain), third part: parts and how they wear. Nothing here speaks of the program. -/
import Derived.Test.YtkahhclmmlkpjaaKn
namespace Go.Proofs.Ytkahhclmmlkpjaa

/-- A part: its rates, and its life by wear, turns and age. -/
structure Prt where
  rs : List (Int × Int)
  wo : Int
  tu : Int
  ag : Int

/-- A time of use. -/
structure Us where
  d : Int
  t : Int
  c : Int
  m : Bool
  lo : Int
  hi : Int

def Us.zero : Us := ⟨0, 0, 0, false, 0, 0⟩

def rateBad (r : Int × Int) : Bool := spanBad 1000000 r.1 r.2
def partOk (P : Prt) : Bool := decide (1 ≤ (P.rs.length : Int) ∧ (P.rs.length : Int) ≤ 4) && !P.rs.any rateBad && decide (0 ≤ P.wo ∧ P.wo ≤ 1000) && decide (0 ≤ P.tu ∧ P.tu ≤ 1000000) && decide (0 ≤ P.ag ∧ P.ag ≤ 100000)
def useOk (n : Int) (u : Us) (since : Int) : Bool := decide (since ≤ u.d ∧ u.d ≤ 100000) && decide (0 ≤ u.t ∧ u.t ≤ 1000000) && decide (0 ≤ u.c ∧ u.c ≤ n - 1) && !spanBad 2000000000 u.lo u.hi && (u.m || (decide (u.lo = 0) && decide (u.hi = 0)))
/-- The day before the use i. -/
def sinceAt (l : List Us) : Nat → Int
  | 0 => 0
  | i + 1 => (l.getD i Us.zero).d
def usesOk (P : Prt) (l : List Us) : Prop := ∀ i, i < l.length → useOk P.rs.length (l.getD i Us.zero) (sinceAt l i) = true
instance (P : Prt) (l : List Us) : Decidable (usesOk P l) := Nat.decidableBallLT _ _
def partM (P : Prt) (l : List Us) : Int := if partOk P = false then 22 else if 40 < l.length then 23 else if usesOk P l then 0 else 23

/-- A part that is as it should be. -/
structure POk (P : Prt) : Prop where
  n1 : 1 ≤ P.rs.length
  n4 : P.rs.length ≤ 4
  rate : ∀ r ∈ P.rs, 0 ≤ r.1 ∧ r.1 ≤ r.2 ∧ r.2 ≤ 1000000
  w0 : 0 ≤ P.wo
  w1 : P.wo ≤ 1000
  t0 : 0 ≤ P.tu
  t1 : P.tu ≤ 1000000
  a0 : 0 ≤ P.ag
  a1 : P.ag ≤ 100000

/-- A use that is as it should be. -/
structure UOk (n : Int) (u : Us) (since : Int) : Prop where
  d0 : since ≤ u.d
  d1 : u.d ≤ 100000
  t0 : 0 ≤ u.t
  t1 : u.t ≤ 1000000
  c0 : 0 ≤ u.c
  c1 : u.c ≤ n - 1
  h1 : u.hi ≤ 2000000000
  l0 : 0 ≤ u.lo
  lh : u.lo ≤ u.hi
  no : u.m = false → u.lo = 0 ∧ u.hi = 0

theorem rate_ok {r : Int × Int} (h : rateBad r = false) : 0 ≤ r.1 ∧ r.1 ≤ r.2 ∧ r.2 ≤ 1000000 := by
  simp [rateBad, spanBad] at h; omega

theorem rate_bad {r : Int × Int} (h : rateBad r = true) : r.1 < 0 ∨ r.2 < r.1 ∨ 1000000 < r.2 := by
  simp [rateBad, spanBad] at h; omega

theorem pok_of {P : Prt} (h : partOk P = true) : POk P := by
  simp [partOk] at h
  obtain ⟨⟨⟨⟨h1, h2⟩, h3⟩, h4⟩, h5⟩ := h
  exact ⟨by omega, by omega, fun r hr => rate_ok (h2 r.1 r.2 hr), by omega, by omega, by omega, by omega, by omega, by omega⟩

theorem uok_of {n : Int} {u : Us} {since : Int} (h : useOk n u since = true) : UOk n u since := by
  simp [useOk, spanBad] at h
  obtain ⟨⟨⟨⟨h1, h2⟩, h3⟩, h4⟩, h5⟩ := h
  refine ⟨by omega, by omega, by omega, by omega, by omega, by omega, by omega, by omega, by omega, fun hm => ?_⟩
  rw [hm] at h5
  simpa using h5

theorem partM_cases (P : Prt) (l : List Us) : (partM P l = 22 ∧ partOk P = false) ∨ (partM P l = 23 ∧ partOk P = true ∧ (40 < l.length ∨ (l.length ≤ 40 ∧ ¬ usesOk P l))) ∨ (partM P l = 0 ∧ partOk P = true ∧ l.length ≤ 40 ∧ usesOk P l) := by
  unfold partM
  cases h : partOk P
  · simp
  · by_cases h2 : 40 < l.length
    · simp [h2]
    · by_cases h3 : usesOk P l
      · simp [h2, h3]; omega
      · simp [h2, h3]; omega

theorem partM_ok {P : Prt} {l : List Us} (h : partM P l = 0) : POk P ∧ l.length ≤ 40 ∧ ∀ i, i < l.length → UOk P.rs.length (l.getD i Us.zero) (sinceAt l i) := by
  rcases partM_cases P l with ⟨h1, _⟩ | ⟨h1, _⟩ | ⟨_, h1, h2, h3⟩
  · omega
  · omega
  · exact ⟨pok_of h1, h2, fun i hi => uok_of (h3 i hi)⟩

/-! ### The first place of which p says so -/
def firstB (p : Nat → Bool) : Nat → Nat
  | 0 => 0
  | n + 1 => if p (firstB p n) = true then firstB p n else n + 1

theorem firstB_spec (p : Nat → Bool) : ∀ n, firstB p n ≤ n ∧ (∀ i, i < firstB p n → p i = false) ∧ (firstB p n < n → p (firstB p n) = true) := by
  intro n
  induction n with
  | zero => simp [firstB]
  | succ n ih =>
    obtain ⟨h1, h2, h3⟩ := ih
    simp only [firstB]
    by_cases h : p (firstB p n) = true
    · rw [if_pos h]; exact ⟨by omega, h2, fun _ => h⟩
    · rw [if_neg h]
      have e : firstB p n = n := by
        rcases Nat.lt_or_ge (firstB p n) n with h' | h'
        · exact absurd (h3 h') h
        · omega
      refine ⟨Nat.le_refl _, fun i hi => ?_, fun h' => by omega⟩
      rcases Nat.lt_or_ge i n with h' | h'
      · exact h2 i (by omega)
      · have : i = firstB p n := by omega
        rw [this]; simpa using h

theorem firstB_eq {p : Nat → Bool} {n r : Nat} (h1 : r ≤ n) (h2 : ∀ i, i < r → p i = false) (h3 : r < n → p r = true) : firstB p n = r := by
  obtain ⟨a1, a2, a3⟩ := firstB_spec p n
  rcases Nat.lt_trichotomy (firstB p n) r with h | h | h
  · have := a3 (by omega); rw [h2 _ h] at this; cases this
  · exact h
  · have := h3 (by omega); rw [a2 _ h] at this; cases this

/-! ### The wear behind each use -/
abbrev Spn := Int × Int
def rateOf (P : Prt) (u : Us) : Spn := P.rs.getD u.c.toNat (0, 0)
def addL (P : Prt) (u : Us) : Int := u.t * (rateOf P u).1
def addH (P : Prt) (u : Us) : Int := u.t * (rateOf P u).2
def common (a b : Spn) : Spn := (max a.1 b.1, min a.2 b.2)
def grown (P : Prt) (s : Spn) (u : Us) : Spn := if u.m = true then common (s.1 + addL P u, s.2 + addH P u) (u.lo, u.hi) else (s.1 + addL P u, s.2 + addH P u)
/-- The wear behind i uses by what was measured up to there. -/
def rch (P : Prt) (l : List Us) : Nat → Spn
  | 0 => (0, 0)
  | i + 1 => grown P (rch P l i) (l.getD i Us.zero)
def noneAt (P : Prt) (l : List Us) (i : Nat) : Bool := decide ((rch P l (i + 1)).2 < (rch P l (i + 1)).1)
/-- Behind how many uses some wear is possible. -/
def reachN (P : Prt) (l : List Us) : Nat := firstB (noneAt P l) l.length
/-- The wear behind the use that is d before the last one, by what was measured later, too. -/
def bkd (P : Prt) (l : List Us) : Nat → Spn
  | 0 => rch P l l.length
  | d + 1 => common (rch P l (l.length - 1 - d)) ((bkd P l d).1 - addH P (l.getD (l.length - 1 - d) Us.zero), (bkd P l d).2 - addL P (l.getD (l.length - 1 - d) Us.zero))
def wearAt (P : Prt) (l : List Us) (i : Nat) : Spn := bkd P l (l.length - 1 - i)

theorem mulc {t r : Int} (h1 : 0 ≤ t) (h2 : t ≤ 1000000) (h3 : 0 ≤ r) (h4 : r ≤ 1000000) : 0 ≤ t * r ∧ t * r ≤ 1000000000000 := by
  refine ⟨Int.mul_nonneg h1 h3, ?_⟩
  have := Int.mul_le_mul h2 h4 h3 (by omega)
  omega

theorem rateOf_ok {P : Prt} (hP : POk P) {u : Us} {s : Int} (hu : UOk P.rs.length u s) : 0 ≤ (rateOf P u).1 ∧ (rateOf P u).1 ≤ (rateOf P u).2 ∧ (rateOf P u).2 ≤ 1000000 := by
  have h : u.c.toNat < P.rs.length := by have := hu.c0; have := hu.c1; omega
  refine hP.rate _ ?_
  unfold rateOf
  rw [List.getD_eq_getElem?_getD, List.getElem?_eq_getElem h]
  exact List.getElem_mem h

theorem add_ok {P : Prt} (hP : POk P) {u : Us} {s : Int} (hu : UOk P.rs.length u s) : 0 ≤ addL P u ∧ addL P u ≤ addH P u ∧ addH P u ≤ 1000000000000 := by
  obtain ⟨r1, r2, r3⟩ := rateOf_ok hP hu
  have a := mulc hu.t0 hu.t1 r1 (by omega)
  have b := mulc hu.t0 hu.t1 (by omega : 0 ≤ (rateOf P u).2) r3
  have c := Int.mul_le_mul_of_nonneg_left r2 hu.t0
  unfold addL addH
  omega

theorem rch_bd {P : Prt} {l : List Us} (hP : POk P) (hl : ∀ i, i < l.length → UOk P.rs.length (l.getD i Us.zero) (sinceAt l i)) : ∀ i, i ≤ l.length → 0 ≤ (rch P l i).1 ∧ (rch P l i).1 ≤ i * 1000000000000 ∧ 0 ≤ (rch P l i).2 ∧ (rch P l i).2 ≤ i * 1000000000000 := by
  intro i
  induction i with
  | zero => intro _; simp [rch]
  | succ i ih =>
    intro hi
    have h := ih (by omega)
    have u := hl i (by omega)
    have a := add_ok hP u
    have h1 := u.h1
    have l0 := u.l0
    have lh := u.lh
    simp only [rch, grown, common]
    split <;> dsimp only <;> omega

theorem rch_bd40 {P : Prt} {l : List Us} (hP : POk P) (hn : l.length ≤ 40) (hl : ∀ i, i < l.length → UOk P.rs.length (l.getD i Us.zero) (sinceAt l i)) {i : Nat} (hi : i ≤ l.length) : 0 ≤ (rch P l i).1 ∧ (rch P l i).1 ≤ 40000000000000 ∧ 0 ≤ (rch P l i).2 ∧ (rch P l i).2 ≤ 40000000000000 := by
  have := rch_bd hP hl i hi
  omega

theorem bkd_bd {P : Prt} {l : List Us} (hP : POk P) (hn : l.length ≤ 40) (hl : ∀ i, i < l.length → UOk P.rs.length (l.getD i Us.zero) (sinceAt l i)) : ∀ d, d < l.length → 0 ≤ (bkd P l d).1 ∧ (bkd P l d).1 ≤ 40000000000000 ∧ (bkd P l d).2 ≤ 40000000000000 ∧ -(d * 1000000000000) ≤ (bkd P l d).2 := by
  intro d
  induction d with
  | zero => intro _; have := rch_bd40 hP hn hl (Nat.le_refl _); simp only [bkd]; omega
  | succ d ih =>
    intro hd
    have h := ih (by omega)
    have r := rch_bd40 hP hn hl (i := l.length - 1 - d) (by omega)
    have a := add_ok hP (hl (l.length - 1 - d) (by omega))
    simp only [bkd, common]
    omega

theorem reachN_le (P : Prt) (l : List Us) : reachN P l ≤ l.length := (firstB_spec _ _).1
theorem reachN_some {P : Prt} {l : List Us} {i : Nat} (h : i ≤ reachN P l) : (rch P l i).1 ≤ (rch P l i).2 := by
  cases i with
  | zero => simp [rch]
  | succ i =>
    have := (firstB_spec (noneAt P l) l.length).2.1 i (by unfold reachN at h; omega)
    simpa [noneAt] using this
theorem reachN_none {P : Prt} {l : List Us} (h : reachN P l < l.length) : (rch P l (reachN P l + 1)).2 < (rch P l (reachN P l + 1)).1 := by
  have := (firstB_spec (noneAt P l) l.length).2.2 h
  exact of_decide_eq_true this

/-! ### Lives -/
/-- All turns of the first n uses. -/
def turnsTo (l : List Us) : Nat → Int
  | 0 => 0
  | n + 1 => turnsTo l n + (l.getD n Us.zero).t
def spentM (P : Prt) (wear turns day : Int) : Bool := decide (P.wo * 1000000 < wear) || decide (P.tu < turns) || decide (P.ag < day)
def wornM (P : Prt) (l : List Us) (i : Nat) (wear : Int) : Bool := spentM P wear (turnsTo l (i + 1)) (l.getD i Us.zero).d

theorem turnsTo_bd {P : Prt} {l : List Us} (hl : ∀ i, i < l.length → UOk P.rs.length (l.getD i Us.zero) (sinceAt l i)) : ∀ n, n ≤ l.length → 0 ≤ turnsTo l n ∧ turnsTo l n ≤ n * 1000000 := by
  intro n
  induction n with
  | zero => intro _; simp [turnsTo]
  | succ n ih =>
    intro hn
    have := ih (by omega)
    have u := hl n (by omega)
    have := u.t0
    have := u.t1
    simp only [turnsTo]
    omega

/-- The first use behind which it is beyond its life, by the greatest wear or the least one; as the program says it: -1 if there is none. -/
def endOf (greatest : Bool) (s : Spn) : Int := if greatest = true then s.2 else s.1
def spentN (P : Prt) (l : List Us) (greatest : Bool) : Nat := firstB (fun i => wornM P l i (endOf greatest (wearAt P l i))) l.length
def firstM (P : Prt) (l : List Us) (greatest : Bool) : Int := if spentN P l greatest < l.length then (spentN P l greatest : Int) else -1

/-- The answers of both Beyond and Surely. -/
def lifeM (P : Prt) (l : List Us) (greatest : Bool) : Int × Int :=
  if partM P l = 0 then (if reachN P l < l.length then (0, 3) else (firstM P l greatest, 0)) else (0, partM P l)

def lastM (P : Prt) (l plan : List Us) : Int × Int :=
  if partM P (l ++ plan) = 0 then
    (if plan.any (fun u => u.m) = true then (0, 1)
     else if reachN P (l ++ plan) < (l ++ plan).length then (0, 3)
     else if firstM P (l ++ plan) true < 0 then ((plan.length : Int), 0) else (max (firstM P (l ++ plan) true - l.length) (-1), 0))
  else (0, partM P (l ++ plan))

/-- The wear at the end. -/
def dueM (P : Prt) (l : List Us) (class' day : Int) : Int × Int :=
  if partM P l = 0 then
    (if decide (0 ≤ class' ∧ class' ≤ (P.rs.length : Int) - 1) = false ∨ decide (sinceAt l l.length ≤ day ∧ day ≤ 100000) = false then (0, 1)
     else if reachN P l < l.length then (0, 3)
     else if spentM P (rch P l l.length).2 (turnsTo l l.length) day = true then (0, 3)
     else (if 0 < (P.rs.getD class'.toNat (0, 0)).2 then min (P.tu - turnsTo l l.length) ((P.wo * 1000000 - (rch P l l.length).2) / (P.rs.getD class'.toNat (0, 0)).2) else P.tu - turnsTo l l.length, 0))
  else (0, partM P l)

end Go.Proofs.Ytkahhclmmlkpjaa
