/- The plain mathematics of layer 3 (circuit), second part: the least set, trials, rotas, plays. Nothing here speaks of the program. -/
import Derived.Test.YtbkhfmigaehgaaaCm
namespace Go.Proofs.Ytbkhfmigaehgaaa

structure Tri where
  hz : Int
  wire : Int
def Tri.zero : Tri := ⟨0, 0⟩

/-- The number whose bits below n are as p says. -/
def bitsOf (p : Nat → Bool) : Nat → Nat
  | 0 => 0
  | k + 1 => if p k = true then bitsOf p k ||| 2 ^ k else bitsOf p k

theorem testBit_bitsOf {p : Nat → Bool} {i : Nat} : ∀ n, (bitsOf p n).testBit i = (decide (i < n) && p i)
  | 0 => by simp [bitsOf]
  | n + 1 => by
    unfold bitsOf
    split
    · rename_i h
      rw [Nat.testBit_or, testBit_bitsOf n, Nat.testBit_two_pow]
      by_cases e : n = i
      · subst e; simp [h]
      · have : decide (i < n + 1) = decide (i < n) := decide_eq_decide.2 (by omega)
        rw [this]; simp [e]
    · rename_i h
      rw [testBit_bitsOf n]
      by_cases e : n = i
      · subst e
        have : p n = false := by simpa using h
        simp [this]
      · have : decide (i < n + 1) = decide (i < n) := decide_eq_decide.2 (by omega)
        rw [this]

theorem bitsOf_lt (p : Nat → Bool) (n : Nat) : bitsOf p n < 2 ^ n := by
  apply Nat.lt_pow_two_of_testBit
  intro j hj
  rw [testBit_bitsOf]
  have h1 : ¬ j < n := by omega
  simp [h1]

def toldB (c : Cir) (t : Tri) (cl : Nat) : Bool := cond c ⟨t.hz.toNat, cl, 0⟩ 24 t.wire && !cond c ⟨t.hz.toNat, 0, 0⟩ 24 t.wire
def shownM (c : Cir) (t : Tri) : Nat := bitsOf (fun k => toldB c t (2 ^ k)) c.sw.length
def triB (c : Cir) (t : Tri) : Bool := setB t.hz c.hz.toNat && decide (0 ≤ t.wire ∧ t.wire ≤ (c.ws.length : Int) - 1)
def chkT (c : Cir) (l : List Tri) : Int := if validB c = false then 30 else if 12 < l.length then 2 else if l.all (triB c) = true then 0 else 31

/-- The union of the sets of a list whose numbers are listed. -/
def unionM (sets : List Nat) : List Int → Nat
  | [] => 0
  | k :: ks => sets.getD k.toNat 0 ||| unionM sets ks

theorem testBit_union {sets : List Nat} {i : Nat} : ∀ {ks : List Int}, (unionM sets ks).testBit i = ks.any fun k => (sets.getD k.toNat 0).testBit i
  | [] => by simp [unionM]
  | k :: ks => by rw [unionM, Nat.testBit_or, testBit_union, List.any_cons]

/-- The first number below n of which p says so; n, if there is none. -/
def fstB (p : Nat → Bool) : Nat → Nat
  | 0 => 0
  | n + 1 => if fstB p n < n then fstB p n else if p n = true then n else n + 1

theorem fstB_spec (p : Nat → Bool) : ∀ n, fstB p n ≤ n ∧ (∀ i, i < fstB p n → p i = false) ∧ (fstB p n < n → p (fstB p n) = true)
  | 0 => ⟨Nat.le_refl _, fun i hi => by simp [fstB] at hi, fun h => by simp [fstB] at h⟩
  | n + 1 => by
    obtain ⟨h1, h2, h3⟩ := fstB_spec p n
    unfold fstB
    split
    · rename_i h; exact ⟨by omega, h2, fun _ => h3 h⟩
    · rename_i h
      have e : fstB p n = n := by omega
      rw [e] at h2
      split
      · rename_i hp; exact ⟨by omega, h2, fun _ => hp⟩
      · rename_i hp
        refine ⟨Nat.le_refl _, fun i hi => ?_, fun h => by omega⟩
        by_cases hin : i = n
        · subst hin; simpa using hp
        · exact h2 i (by omega)

theorem fstB_eq {p : Nat → Bool} {n r : Nat} (h1 : r ≤ n) (h2 : ∀ i, i < r → p i = false) (h3 : r < n → p r = true) : fstB p n = r := by
  obtain ⟨g1, g2, g3⟩ := fstB_spec p n
  rcases Nat.lt_trichotomy (fstB p n) r with h | h | h
  · have := g3 (by omega); rw [h2 _ h] at this; cases this
  · exact h
  · have := h3 (by omega); rw [g2 _ h] at this; cases this

structure Rot where
  nights : List (List Int)
  gap : Int

def rotB (m : Int) (r : Rot) : Bool := decide (1 ≤ r.nights.length ∧ r.nights.length ≤ 60) && decide (1 ≤ r.gap ∧ r.gap ≤ 60) && r.nights.all (ascB (m - 1) 0)

def chkR (c : Cir) (l : List Tri) (r : Rot) : Int := if chkT c l = 0 then (if rotB l.length r = true then 0 else 32) else chkT c l

/-- A switch is tried from a night on, within so many nights of a round. -/
def triedB (round : List Nat) (gap sw from_ : Nat) : Bool := (List.range gap).any fun d => (round.getD ((from_ + d) % round.length) 0).testBit sw
/-- The first night from which on it is not; the first switch for which there is one. -/
def missN (round : List Nat) (gap sw : Nat) : Nat := fstB (fun n => !triedB round gap sw n) round.length
def missS (round : List Nat) (gap n : Nat) : Nat := fstB (fun k => decide (missN round gap k < round.length)) n

structure TrA where
  sw : Int
  night : Int
  ok : Bool
def triesM (round : List Nat) (gap n : Nat) : TrA := if missS round gap n < n then ⟨missS round gap n, missN round gap (missS round gap n), false⟩ else ⟨0, 0, true⟩

def setsM (c : Cir) (l : List Tri) : List Nat := l.map (shownM c)
def roundM (c : Cir) (l : List Tri) (r : Rot) : List Nat := r.nights.map (unionM (setsM c l))

theorem tries_ok {round : List Nat} {gap n : Nat} : (triesM round gap n).ok = true ↔ ∀ k, k < n → ∀ i, i < round.length → triedB round gap k i = true := by
  obtain ⟨h1, h2, h3⟩ := fstB_spec (fun k => decide (missN round gap k < round.length)) n
  unfold triesM
  constructor
  · intro h k hk i hi
    split at h
    · cases h
    · rename_i hm
      have e : missS round gap n = n := by have : missS round gap n ≤ n := h1; omega
      have hk2 := h2 k (by show k < missS round gap n; omega)
      obtain ⟨g1, g2, _⟩ := fstB_spec (fun n => !triedB round gap k n) round.length
      have hk3 : ¬ missN round gap k < round.length := by simpa using hk2
      have := g2 i (by show i < missN round gap k; omega)
      simpa using this
  · intro h
    rw [if_neg]
    intro hm
    have := h3 hm
    simp only [decide_eq_true_eq] at this
    obtain ⟨g1, g2, g3⟩ := fstB_spec (fun n => !triedB round gap (missS round gap n) n) round.length
    obtain ⟨f1, f2, f3⟩ := fstB_spec (fun m => !triedB round gap (missS round gap n) m) round.length
    have h5 := f3 this
    have h6 : triedB round gap (missS round gap n) (fstB (fun m => !triedB round gap (missS round gap n) m) round.length) = true := h _ hm _ this
    rw [h6] at h5
    cases h5

end Go.Proofs.Ytbkhfmigaehgaaa
