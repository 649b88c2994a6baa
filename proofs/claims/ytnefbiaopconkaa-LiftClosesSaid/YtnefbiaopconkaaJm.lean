/- Mathematics of layer 5 (lift): lifts that are valid, what hangs, slipping, counterweights. -/
import Derived.WalkKit
namespace Go.Proofs.Ytnefbiaopconkaa

structure Lif where
  car : Int
  cou : Int
  rat : Int
  rop : Int
  fl : List Int
  num : Int
  den : Int
  spd : Int
  acc : Int
  ovr : Int
  sti : Int
  lev : Int

def Lif.top (L : Lif) : Int := L.fl.getD (L.fl.length - 1) 0

def inB (n lo hi : Int) : Bool := decide (lo ≤ n ∧ n ≤ hi)

/-- The least value that the i-th of ascending numbers may have. -/
def lowA (l : List Int) (i : Nat) : Int := if i = 0 then 0 else l.getD (i - 1) 0 + 1
def ascTo (l : List Int) (most : Int) (k : Nat) : Bool := (List.range k).all fun i => inB (l.getD i 0) (lowA l i) most
def ascB (l : List Int) (most : Int) : Bool := ascTo l most l.length

def wtB (L : Lif) : Bool := inB L.car 1 100000 && inB L.cou 1 100000 && inB L.rat 0 100000 && inB L.rop 0 100
def flB (l : List Int) : Bool := inB (l.length : Int) 2 16 && (l.getD 0 0 == 0) && ascB l 1000
def grB (L : Lif) : Bool := inB L.num 1 100 && inB L.den 1 L.num
def moB (L : Lif) : Bool := inB L.spd 1 100 && inB L.acc 1 100
def stB (L : Lif) : Bool := inB L.ovr 0 1000 && inB L.sti 1 10000000 && inB L.lev 0 1000
def okB (L : Lif) : Bool := wtB L && flB L.fl && grB L && moB L && stB L

theorem inB_iff {n lo hi : Int} : inB n lo hi = true ↔ lo ≤ n ∧ n ≤ hi := by simp [inB]
theorem inB_no {n lo hi : Int} : inB n lo hi = false ↔ (n < lo ∨ hi < n) := by simp [inB]; omega

theorem ascTo_succ (l : List Int) (most : Int) (k : Nat) : ascTo l most (k + 1) = (ascTo l most k && inB (l.getD k 0) (lowA l k) most) := by
  simp [ascTo, List.range_succ, List.all_append]

theorem ascTo_all {l : List Int} {most : Int} {k : Nat} : ascTo l most k = true ↔ ∀ i, i < k → lowA l i ≤ l.getD i 0 ∧ l.getD i 0 ≤ most := by
  simp only [ascTo, List.all_eq_true, List.mem_range, inB_iff]

theorem ascTo_no {l : List Int} {most : Int} {k n : Nat} (hk : k < n) (h : inB (l.getD k 0) (lowA l k) most = false) : ascTo l most n = false := by
  cases hq : ascTo l most n
  · rfl
  · have := ascTo_all.1 hq k hk
    rw [← inB_iff, h] at this
    cases this

theorem asc_lt {l : List Int} {most : Int} {n : Nat} (h : ascTo l most n = true) : ∀ (d i : Nat), i + d < n → l.getD i 0 + d ≤ l.getD (i + d) 0 := by
  intro d
  induction d with
  | zero => intro i _; simp
  | succ d ih =>
    intro i hi
    have h1 := ih i (by omega)
    have h2 := (ascTo_all.1 h (i + (d + 1)) hi).1
    simp only [lowA] at h2
    rw [if_neg (by omega), show i + (d + 1) - 1 = i + d by omega] at h2
    omega

theorem asc_ge {l : List Int} {most : Int} {n : Nat} (h : ascTo l most n = true) (i : Nat) (hi : i < n) : (i : Int) ≤ l.getD i 0 := by
  have h1 := asc_lt h i 0 (by omega)
  have h2 := (ascTo_all.1 h 0 (by omega)).1
  simp only [lowA, if_true, Nat.zero_add] at h1 h2
  omega

/-- What is so of a valid lift. -/
structure LOk (L : Lif) : Prop where
  c1 : 1 ≤ L.car
  c2 : L.car ≤ 100000
  u1 : 1 ≤ L.cou
  u2 : L.cou ≤ 100000
  r1 : 0 ≤ L.rat
  r2 : L.rat ≤ 100000
  p1 : 0 ≤ L.rop
  p2 : L.rop ≤ 100
  f1 : 2 ≤ L.fl.length
  f2 : L.fl.length ≤ 16
  f0 : L.fl.getD 0 0 = 0
  fa : ascTo L.fl 1000 L.fl.length = true
  n1 : 1 ≤ L.num
  n2 : L.num ≤ 100
  d1 : 1 ≤ L.den
  d2 : L.den ≤ L.num
  s1 : 1 ≤ L.spd
  s2 : L.spd ≤ 100
  a1 : 1 ≤ L.acc
  a2 : L.acc ≤ 100
  o1 : 0 ≤ L.ovr
  o2 : L.ovr ≤ 1000
  t1 : 1 ≤ L.sti
  t2 : L.sti ≤ 10000000
  l1 : 0 ≤ L.lev
  l2 : L.lev ≤ 1000

theorem ok_of {L : Lif} (h : okB L = true) : LOk L := by
  simp only [okB, wtB, flB, grB, moB, stB, ascB, Bool.and_eq_true, inB_iff, beq_iff_eq] at h
  obtain ⟨⟨⟨⟨⟨⟨⟨hc, hu⟩, hr⟩, hp⟩, ⟨hf, hf0⟩, hfa⟩, hn, hd⟩, hs, ha⟩, ⟨ho, ht⟩, hl⟩ := h
  exact ⟨hc.1, hc.2, hu.1, hu.2, hr.1, hr.2, hp.1, hp.2, by omega, by omega, hf0, hfa, hn.1, hn.2, hd.1, hd.2, hs.1, hs.2, ha.1, ha.2, ho.1, ho.2, ht.1, ht.2, hl.1, hl.2⟩

theorem LOk.floor {L : Lif} (h : LOk L) {i : Nat} (hi : i < L.fl.length) : 0 ≤ L.fl.getD i 0 ∧ L.fl.getD i 0 ≤ L.top := by
  have h1 := asc_ge h.fa i hi
  have h2 := asc_lt h.fa (L.fl.length - 1 - i) i (by omega)
  rw [show i + (L.fl.length - 1 - i) = L.fl.length - 1 by omega] at h2
  unfold Lif.top
  omega

theorem LOk.top {L : Lif} (h : LOk L) : 1 ≤ L.top ∧ L.top ≤ 1000 := by
  have f1 := h.f1
  have h1 := asc_ge h.fa (L.fl.length - 1) (by omega)
  have h2 := (ascTo_all.1 h.fa (L.fl.length - 1) (by omega)).2
  unfold Lif.top
  omega

/-! ### what hangs -/
def Lif.carS (L : Lif) (h ld : Int) : Int := L.car + ld + L.rop * (L.top - h)
def Lif.couS (L : Lif) (h : Int) : Int := L.cou + L.rop * h

theorem mul_bd {a b A B : Int} (h1 : 0 ≤ a) (h2 : a ≤ A) (h3 : 0 ≤ b) (h4 : b ≤ B) : 0 ≤ a * b ∧ a * b ≤ A * B :=
  ⟨Int.mul_nonneg h1 h3, Int.mul_le_mul h2 h4 h3 (by omega)⟩

theorem LOk.car {L : Lif} (h : LOk L) {x ld : Int} (hx : 0 ≤ x) (hx2 : x ≤ L.top) (hl : 0 ≤ ld) (hl2 : ld ≤ L.rat) :
    0 ≤ L.rop * (L.top - x) ∧ L.rop * (L.top - x) ≤ 100000 ∧ 1 ≤ L.carS x ld ∧ L.carS x ld ≤ 300000 := by
  have ht := h.top
  have := mul_bd (A := 100) (B := 1000) h.p1 h.p2 (show 0 ≤ L.top - x by omega) (by omega)
  have := h.c1; have := h.c2; have := h.r2
  unfold Lif.carS
  omega

theorem LOk.cou {L : Lif} (h : LOk L) {x : Int} (hx : 0 ≤ x) (hx2 : x ≤ L.top) : 0 ≤ L.rop * x ∧ L.rop * x ≤ 100000 ∧ 1 ≤ L.couS x ∧ L.couS x ≤ 200000 := by
  have ht := h.top
  have := mul_bd (A := 100) (B := 1000) h.p1 h.p2 hx (by omega)
  have := h.u1; have := h.u2
  unfold Lif.couS
  omega

/-! ### slipping -/
def slipM (L : Lif) (h ld a : Int) : Bool :=
  decide (min (L.carS h ld) (L.couS h) * (1000 - a) * L.num < max (L.carS h ld) (L.couS h) * (1000 + a) * L.den)

/-- One side outweighs the other one too much. -/
def over (L : Lif) (x y a : Int) : Prop := y * ((1000 - a) * L.num) < x * ((1000 + a) * L.den)

theorem slip_iff {L : Lif} (hL : LOk L) {h ld a : Int} (hh : 0 ≤ h) (hh2 : h ≤ L.top) (hl : 0 ≤ ld) (hl2 : ld ≤ L.rat) (ha : 0 ≤ a) (ha2 : a ≤ 1000) :
    slipM L h ld a = true ↔ over L (L.carS h ld) (L.couS h) a ∨ over L (L.couS h) (L.carS h ld) a := by
  have c := (hL.car hh hh2 hl hl2).2.2.1
  have u := (hL.cou hh hh2).2.2.1
  unfold slipM over
  rw [decide_eq_true_eq, Int.mul_assoc, Int.mul_assoc]
  generalize L.carS h ld = x at *
  generalize L.couS h = y at *
  have p0 : 0 ≤ (1000 - a) * L.num := Int.mul_nonneg (by omega) (by have := hL.n1; omega)
  have q0 : 0 ≤ (1000 + a) * L.den := Int.mul_nonneg (by omega) (by have := hL.d1; omega)
  generalize (1000 - a) * L.num = p at *
  generalize (1000 + a) * L.den = q at *
  rcases Int.le_total x y with hxy | hxy
  · rw [Int.min_eq_left hxy, Int.max_eq_right hxy]
    refine ⟨fun h => .inr h, fun h => ?_⟩
    rcases h with h | h
    · have h1 := Int.mul_le_mul_of_nonneg_right hxy p0
      have h2 := Int.mul_le_mul_of_nonneg_right hxy q0
      omega
    · exact h
  · rw [Int.min_eq_right hxy, Int.max_eq_left hxy]
    refine ⟨fun h => .inl h, fun h => ?_⟩
    rcases h with h | h
    · exact h
    · have h1 := Int.mul_le_mul_of_nonneg_right hxy p0
      have h2 := Int.mul_le_mul_of_nonneg_right hxy q0
      omega

theorem over_mono {L : Lif} (hL : LOk L) {x y x' y' a a' : Int} (hx : x ≤ x') (hy : y' ≤ y) (hx0 : 0 ≤ x) (hy0 : 0 ≤ y') (ha : 0 ≤ a) (haa : a ≤ a') (ha2 : a' ≤ 1000) (h : over L x y a) : over L x' y' a' := by
  unfold over at *
  have n1 := hL.n1
  have d1 := hL.d1
  have e1 : (1000 - a') * L.num ≤ (1000 - a) * L.num := Int.mul_le_mul_of_nonneg_right (by omega) (by omega)
  have e2 : (1000 + a) * L.den ≤ (1000 + a') * L.den := Int.mul_le_mul_of_nonneg_right (by omega) (by omega)
  have p0 : 0 ≤ (1000 - a') * L.num := Int.mul_nonneg (by omega) (by omega)
  have q0 : 0 ≤ (1000 + a) * L.den := Int.mul_nonneg (by omega) (by omega)
  have h1 := Int.mul_le_mul hy e1 p0 (by omega)
  have h2 := Int.mul_le_mul hx e2 q0 (by omega)
  omega

theorem carS_mono {L : Lif} (hL : LOk L) {h h' ld ld' : Int} (hh : h' ≤ h) (hl : ld ≤ ld') : L.carS h ld ≤ L.carS h' ld' := by
  have := Int.mul_le_mul_of_nonneg_left (show L.top - h ≤ L.top - h' by omega) hL.p1
  unfold Lif.carS
  omega

theorem couS_mono {L : Lif} (hL : LOk L) {h h' : Int} (hh : h ≤ h') : L.couS h ≤ L.couS h' := by
  have := Int.mul_le_mul_of_nonneg_left hh hL.p1
  unfold Lif.couS
  omega

/-- Spans of heights and of loads. -/
structure Spn where
  lo : Int
  hi : Int

def spB (s : Spn) (most : Int) : Bool := decide (s.lo ≤ s.hi) && inB s.lo 0 most && inB s.hi 0 most

/-- Whether the rope slips at one of the two ends that count. -/
def swM (L : Lif) (s t : Spn) (a : Int) : Bool := slipM L s.lo t.hi a || slipM L s.hi t.lo a

theorem sp_of {s : Spn} {most : Int} (h : spB s most = true) : s.lo ≤ s.hi ∧ 0 ≤ s.lo ∧ s.hi ≤ most := by
  simp only [spB, Bool.and_eq_true, decide_eq_true_eq, inB_iff] at h
  omega

theorem sw_of {L : Lif} (hL : LOk L) {s t : Spn} (hs : spB s L.top = true) (ht : spB t L.rat = true) {h ld a a' : Int} (h1 : s.lo ≤ h) (h2 : h ≤ s.hi) (l1 : t.lo ≤ ld) (l2 : ld ≤ t.hi) (ha : 0 ≤ a) (haa : a ≤ a') (ha2 : a' ≤ 1000)
    (hp : slipM L h ld a = true) : swM L s t a' = true := by
  obtain ⟨s1, s2, s3⟩ := sp_of hs
  obtain ⟨t1, t2, t3⟩ := sp_of ht
  rw [slip_iff hL (by omega) (by omega) (by omega) (by omega) ha (by omega)] at hp
  unfold swM
  rw [Bool.or_eq_true, slip_iff hL (by omega) (by omega) (by omega) (by omega) (by omega) ha2, slip_iff hL (by omega) (by omega) (by omega) (by omega) (by omega) ha2]
  have c := (hL.car (x := h) (ld := ld) (by omega) (by omega) (by omega) (by omega)).2.2.1
  have u := (hL.cou (x := h) (by omega) (by omega)).2.2.1
  have cl := (hL.car (x := s.hi) (ld := t.lo) (by omega) (by omega) (by omega) (by omega)).2.2.1
  have ul := (hL.cou (x := s.lo) (by omega) (by omega)).2.2.1
  rcases hp with hp | hp
  · exact .inl (.inl (over_mono hL (carS_mono hL h1 l2) (couS_mono hL h1) (by omega) (by omega) ha haa ha2 hp))
  · exact .inr (.inr (over_mono hL (couS_mono hL h2) (carS_mono hL h2 l1) (by omega) (by omega) ha haa ha2 hp))

theorem sw_mono {L : Lif} (hL : LOk L) {s t : Spn} (hs : spB s L.top = true) (ht : spB t L.rat = true) {a a' : Int} (ha : 0 ≤ a) (haa : a ≤ a') (ha2 : a' ≤ 1000) (h : swM L s t a = true) : swM L s t a' = true := by
  obtain ⟨s1, s2, s3⟩ := sp_of hs
  obtain ⟨t1, t2, t3⟩ := sp_of ht
  unfold swM at h
  rw [Bool.or_eq_true] at h
  rcases h with h | h
  · exact sw_of hL hs ht (Int.le_refl _) s1 t1 (Int.le_refl _) ha haa ha2 h
  · exact sw_of hL hs ht s1 (Int.le_refl _) (Int.le_refl _) t1 ha haa ha2 h

/-- The four corners slip just if the two do. -/
theorem sw_four {L : Lif} (hL : LOk L) {s t : Spn} (hs : spB s L.top = true) (ht : spB t L.rat = true) {a : Int} (ha : 0 ≤ a) (ha2 : a ≤ 1000) :
    (!slipM L s.lo t.lo a && !slipM L s.lo t.hi a && !slipM L s.hi t.lo a && !slipM L s.hi t.hi a) = !swM L s t a := by
  obtain ⟨s1, s2, s3⟩ := sp_of hs
  obtain ⟨t1, t2, t3⟩ := sp_of ht
  have k1 := sw_of (a := a) hL hs ht (Int.le_refl _) s1 (Int.le_refl _) t1 ha (Int.le_refl _) ha2
  have k2 := sw_of (a := a) hL hs ht s1 (Int.le_refl _) t1 (Int.le_refl _) ha (Int.le_refl _) ha2
  cases hq : swM L s t a
  · have h1 : slipM L s.lo t.lo a = false := by
      cases h : slipM L s.lo t.lo a
      · rfl
      · rw [k1 h] at hq; cases hq
    have h2 : slipM L s.hi t.hi a = false := by
      cases h : slipM L s.hi t.hi a
      · rfl
      · rw [k2 h] at hq; cases hq
    unfold swM at hq
    rw [Bool.or_eq_false_iff] at hq
    rw [h1, h2, hq.1, hq.2]
    rfl
  · unfold swM at hq
    rw [Bool.or_eq_true] at hq
    rcases hq with h | h <;> rw [h] <;> simp

/-- The least acceleration with which the rope slips somewhere, up to n. -/
def lstN (p : Nat → Bool) (n : Nat) : Nat := ((List.range n).find? p).getD n

theorem lst_spec (p : Nat → Bool) (n : Nat) : lstN p n ≤ n ∧ (∀ k, k < lstN p n → p k = false) ∧ (lstN p n < n → p (lstN p n) = true) := by
  unfold lstN
  induction n with
  | zero => simp
  | succ n ih =>
    rw [List.range_succ, List.find?_append]
    cases h : (List.range n).find? p with
    | some x =>
      rw [h] at ih
      simp only [Option.getD_some, Option.some_or] at *
      have hx : x < n := by have := List.mem_of_find?_eq_some h; simpa using this
      exact ⟨by omega, ih.2.1, fun _ => ih.2.2 hx⟩
    | none =>
      rw [h] at ih
      simp only [Option.getD_none, Option.none_or] at *
      cases hp : p n
      · have : List.find? p [n] = none := by simp [hp]
        rw [this]
        simp only [Option.getD_none]
        refine ⟨Nat.le_refl _, fun k hk => ?_, fun h => by omega⟩
        by_cases hkn : k = n
        · rw [hkn]; exact hp
        · exact ih.2.1 k (by omega)
      · have : List.find? p [n] = some n := by simp [hp]
        rw [this]
        simp only [Option.getD_some]
        exact ⟨by omega, fun k hk => ih.2.1 k hk, fun _ => hp⟩

theorem lst_eq {p : Nat → Bool} {n k : Nat} (hk : k ≤ n) (h1 : ∀ i, i < k → p i = false) (h2 : k < n → p k = true) : lstN p n = k := by
  obtain ⟨a, b, c⟩ := lst_spec p n
  rcases Nat.lt_trichotomy (lstN p n) k with h | h | h
  · have := c (by omega)
    rw [h1 _ h] at this; cases this
  · exact h
  · have := b k h
    rw [h2 (by omega)] at this; cases this

def gripN (L : Lif) (s t : Spn) : Nat := lstN (fun a => swM L s t a) 1000

def fitE (q : Bool) : Int := if q = true then 0 else 1
def chkE (L : Lif) (x : Int) : Int := if okB L = true then x else 50
theorem chkE_ok {L : Lif} {x : Int} (h : okB L = true) : x = chkE L x := by unfold chkE; rw [if_pos h]
theorem chkE_no {L : Lif} {x : Int} (h : okB L = false) : 50 = chkE L x := by unfold chkE; rw [h]; rfl

theorem chk_zero {L : Lif} {q : Bool} : chkE L (fitE q) = 0 ↔ okB L = true ∧ q = true := by
  unfold chkE fitE
  cases okB L <;> cases q <;> simp

theorem chk_arg {L : Lif} {q : Bool} (h : okB L = true) (hq : q = false) : 1 = chkE L (fitE q) := by
  rw [← chkE_ok h, hq]; rfl

/-- What Grip answers. -/
def gripE (L : Lif) (s t : Spn) : Int := chkE L (fitE (spB s L.top && spB t L.rat))
def gripR (L : Lif) (s t : Spn) : Int × Int :=
  if gripE L s t = 0 then (if gripN L s t = 0 then (0, 3) else ((gripN L s t : Int) - 1, 0)) else (0, gripE L s t)

def sidE (L : Lif) (h ld : Int) : Int := chkE L (fitE (inB h 0 L.top && inB ld 0 L.rat))
def sidR (L : Lif) (h ld : Int) : Int × Int × Int :=
  if sidE L h ld = 0 then (L.carS h ld, L.couS h, 0) else (0, 0, sidE L h ld)

def slpE (L : Lif) (h ld a : Int) : Int := chkE L (fitE (inB h 0 L.top && inB ld 0 L.rat && inB a 0 999))
def slpR (L : Lif) (h ld a : Int) : Bool × Int :=
  if slpE L h ld a = 0 then (slipM L h ld a, 0) else (false, slpE L h ld a)

/-! ### counterweights -/
def balN (L : Lif) (t : Spn) : Int := min (L.car + (t.lo + t.hi).tdiv 2) 100000
def balW (L : Lif) (t : Spn) : Int := L.car + t.hi + L.rop * L.top - balN L t

def balE (L : Lif) (t : Spn) : Int := chkE L (fitE (spB t L.rat))
def balR (L : Lif) (t : Spn) : Int × Int × Int :=
  if balE L t = 0 then (balN L t, balW L t, 0) else (0, 0, balE L t)

def apaM (a b : Int) : Int := max (a - b) (b - a)
/-- The greatest difference of both sides at the four ends, with a counterweight n. -/
def worM (L : Lif) (t : Spn) (n : Int) : Int :=
  max (max (max (max 0 (apaM ({ L with cou := n }.carS 0 t.lo) ({ L with cou := n }.couS 0))) (apaM ({ L with cou := n }.carS L.top t.lo) ({ L with cou := n }.couS L.top))) (apaM ({ L with cou := n }.carS 0 t.hi) ({ L with cou := n }.couS 0))) (apaM ({ L with cou := n }.carS L.top t.hi) ({ L with cou := n }.couS L.top))

theorem wor_eq {L : Lif} (hL : LOk L) {t : Spn} (ht : spB t L.rat = true) (n : Int) :
    worM L t n = max (L.car + t.hi + L.rop * L.top - n) (n - (L.car + t.lo - L.rop * L.top)) := by
  obtain ⟨t1, t2, t3⟩ := sp_of ht
  have ht := hL.top
  have h0 : 0 ≤ L.rop * L.top := Int.mul_nonneg hL.p1 (by omega)
  unfold worM apaM Lif.carS Lif.couS
  simp only [Lif.top, Int.sub_zero, Int.sub_self, Int.mul_zero]
  rw [show L.fl.getD (L.fl.length - 1) 0 = L.top from rfl]
  generalize L.rop * L.top = m at *
  omega

theorem bal_wor {L : Lif} (hL : LOk L) {t : Spn} (ht : spB t L.rat = true) : worM L t (balN L t) = balW L t ∧ (∀ n, n < balN L t → balW L t < worM L t n) ∧ (∀ n, balN L t ≤ n → n ≤ 100000 → balW L t ≤ worM L t n) ∧ 1 ≤ balN L t ∧ balN L t ≤ 100000 := by
  obtain ⟨t1, t2, t3⟩ := sp_of ht
  have htp := hL.top
  have h0 : 0 ≤ L.rop * L.top := Int.mul_nonneg hL.p1 (by omega)
  have c1 := hL.c1
  have hd : (t.lo + t.hi).tdiv 2 = (t.lo + t.hi) / 2 := Int.tdiv_eq_ediv_of_nonneg (by omega)
  have hn : balN L t = min (L.car + (t.lo + t.hi) / 2) 100000 := by unfold balN; rw [hd]
  refine ⟨?_, fun n hn2 => ?_, fun n hn2 hn3 => ?_, by omega, by omega⟩
  all_goals
    rw [wor_eq hL ht]
    unfold balW
    generalize L.rop * L.top = m at *
    omega

end Go.Proofs.Ytnefbiaopconkaa
