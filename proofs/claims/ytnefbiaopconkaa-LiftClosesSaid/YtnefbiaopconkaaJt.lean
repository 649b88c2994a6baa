/- Mathematics of layer 5 (lift): trips. -/
import Derived.Test.YtnefbiaopconkaaJm
namespace Go.Proofs.Ytnefbiaopconkaa

def sumN (f : Nat → Int) : Nat → Int
  | 0 => 0
  | n + 1 => sumN f n + f n

theorem sumN_mono {f g : Nat → Int} : ∀ {n : Nat}, (∀ i, i < n → f i ≤ g i) → sumN f n ≤ sumN g n
  | 0, _ => Int.le_refl _
  | n + 1, h => by
    have h1 := sumN_mono (n := n) fun i hi => h i (by omega)
    have h2 := h n (by omega)
    simp only [sumN]; omega

theorem sumN_congr {f g : Nat → Int} : ∀ {n : Nat}, (∀ i, i < n → f i = g i) → sumN f n = sumN g n
  | 0, _ => rfl
  | n + 1, h => by
    have h1 := sumN_congr (n := n) fun i hi => h i (by omega)
    have h2 := h n (by omega)
    simp only [sumN]; omega

theorem sumN_shift (f : Nat → Int) : ∀ n, sumN f (n + 1) = f 0 + sumN (fun i => f (i + 1)) n
  | 0 => by simp [sumN]
  | n + 1 => by
    have h := sumN_shift f n
    rw [show sumN f (n + 1 + 1) = sumN f (n + 1) + f (n + 1) from rfl, h]
    simp only [sumN]; omega

theorem sumN_nonneg {f : Nat → Int} : ∀ {n : Nat}, (∀ i, i < n → 0 ≤ f i) → 0 ≤ sumN f n
  | 0, _ => Int.le_refl _
  | n + 1, h => by
    have h1 := sumN_nonneg (n := n) fun i hi => h i (by omega)
    have h2 := h n (by omega)
    simp only [sumN]; omega

theorem sumN_le {f : Nat → Int} {B : Int} : ∀ {n : Nat}, (∀ i, i < n → f i ≤ B) → sumN f n ≤ B * n
  | 0, _ => by simp [sumN]
  | n + 1, h => by
    have h1 := sumN_le (n := n) fun i hi => h i (by omega)
    have h2 := h n (by omega)
    have h3 : B * ((n + 1 : Nat) : Int) = B * n + B := by rw [Int.natCast_add, Int.mul_add]; simp
    simp only [sumN]; omega

/-- What is 0 from n on adds nothing. -/
theorem sumN_zero {f : Nat → Int} {n : Nat} (h : ∀ i, n ≤ i → f i = 0) : ∀ d, sumN f (n + d) = sumN f n
  | 0 => rfl
  | d + 1 => by
    rw [show sumN f (n + (d + 1)) = sumN f (n + d) + f (n + d) from rfl, sumN_zero h d, h _ (by omega)]; omega

theorem sumN_same {f : Nat → Int} {n m : Nat} (hn : ∀ i, n ≤ i → f i = 0) (hm : ∀ i, m ≤ i → f i = 0) : sumN f n = sumN f m := by
  rcases Nat.le_total n m with h | h
  · have := sumN_zero hn (m - n)
    rw [show n + (m - n) = m by omega] at this
    exact this.symm
  · have := sumN_zero hm (n - m)
    rw [show m + (n - m) = n by omega] at this
    exact this

/-- A sum into which one more was put. -/
theorem sumN_insert {a b : Nat → Int} {m : Nat} (h1 : ∀ i, i < m → a i = b i) : ∀ d, (∀ i, m ≤ i → i < m + d → a (i + 1) = b i) → sumN a (m + d + 1) = sumN b (m + d) + a m
  | 0, _ => by
    simp only [Nat.add_zero]
    rw [show sumN a (m + 1) = sumN a m + a m from rfl, sumN_congr h1]
  | d + 1, h2 => by
    have h := sumN_insert h1 d fun i hi hi2 => h2 i hi (by omega)
    have h3 := h2 (m + d) (by omega) (by omega)
    rw [show m + (d + 1) + 1 = m + d + 1 + 1 by omega, show sumN a (m + d + 1 + 1) = sumN a (m + d + 1) + a (m + d + 1) from rfl, h, h3, show m + (d + 1) = m + d + 1 by omega, show sumN b (m + d + 1) = sumN b (m + d) + b (m + d) from rfl]
    omega

/-! ### the bounds of what is left of a trip -/
def lstM (acc s : Int) (t : Nat) : Int := sumN (fun i => max 0 (s - acc * ((i : Int) + 1))) t
def mstM (spd acc s : Int) (t : Nat) : Int := sumN (fun i => min spd (min (s + acc * ((i : Int) + 1)) (acc * ((t : Int) - i)))) t
def reaM (spd acc : Int) (t : Nat) : Int := mstM spd acc 0 t
def stpM (acc v : Int) : Int := sumN (fun i => max 0 (v - acc * (i : Int))) 101

theorem acc_le {acc : Int} (ha : 1 ≤ acc) {a b : Int} (h : a ≤ b) : acc * a ≤ acc * b := Int.mul_le_mul_of_nonneg_left h (by omega)

theorem acc_ge {acc : Int} (ha : 1 ≤ acc) {a : Int} (h : 0 ≤ a) : a ≤ acc * a := by
  have := Int.mul_le_mul_of_nonneg_right ha h
  omega

theorem acc_succ (acc a : Int) : acc * (a + 1) = acc * a + acc := by rw [Int.mul_add, Int.mul_one]

theorem stp_eq {acc v : Int} (ha : 1 ≤ acc) (hv0 : 0 ≤ v) (hv : v ≤ 100) {t : Nat} (ht : v ≤ acc * ((t : Int) + 1)) : stpM acc v = v + lstM acc v t := by
  have h := sumN_same (f := fun i => max 0 (v - acc * (i : Int))) (n := 101) (m := t + 1)
    (fun i hi => by have := acc_ge ha (show (0 : Int) ≤ i by omega); show max 0 (v - acc * (i : Int)) = 0; omega)
    (fun i hi => by
      have := acc_le ha (show (t : Int) + 1 ≤ i by omega)
      show max 0 (v - acc * (i : Int)) = 0; omega)
  unfold stpM lstM
  rw [h, sumN_shift]
  have e : max 0 (v - acc * ((0 : Nat) : Int)) = v := by simp; omega
  rw [e]
  congr 1

theorem lst_stp {acc s : Int} (ha : 1 ≤ acc) (hs0 : 0 ≤ s) (hs : s ≤ 100) {t : Nat} (ht : s ≤ acc * ((t : Int) + 1)) : lstM acc s t = stpM acc (max 0 (s - acc)) := by
  have e1 : max 0 (s - acc) ≤ 100 := by omega
  have h := sumN_same (f := fun i => max 0 (s - acc * ((i : Int) + 1))) (n := 101) (m := t)
    (fun i hi => by have := acc_ge ha (show (0 : Int) ≤ i + 1 by omega); show max 0 (s - acc * ((i : Int) + 1)) = 0; omega)
    (fun i hi => by
      have := acc_le ha (show (t : Int) + 1 ≤ i + 1 by omega)
      show max 0 (s - acc * ((i : Int) + 1)) = 0; omega)
  unfold stpM lstM
  rw [← h]
  refine sumN_congr fun i _ => ?_
  show max 0 (s - acc * ((i : Int) + 1)) = max 0 (max 0 (s - acc) - acc * (i : Int))
  have := acc_succ acc i
  have h0 : 0 ≤ acc * (i : Int) := Int.mul_nonneg (by omega) (by omega)
  omega

/-! ### one tick of a trip -/
def capM (spd acc s : Int) (t : Nat) : Int := min (min (s + acc) spd) (acc * (t : Int))

/-- The greatest speed up to n from which the car can stop within w. -/
def pickM (acc w : Int) : Nat → Nat
  | 0 => 0
  | n + 1 => if stpM acc ((n + 1 : Nat) : Int) ≤ w then n + 1 else pickM acc w n

theorem pick_le (acc w : Int) : ∀ n, pickM acc w n ≤ n
  | 0 => Nat.le_refl _
  | n + 1 => by
    simp only [pickM]
    split
    · exact Nat.le_refl _
    · have := pick_le acc w n; omega

theorem pick_above {acc w : Int} : ∀ {n k : Nat}, k ≤ n → pickM acc w n < k → w < stpM acc (k : Int)
  | 0, k, h1, h2 => by omega
  | n + 1, k, h1, h2 => by
    simp only [pickM] at h2
    split at h2
    · omega
    · rename_i h
      by_cases hk : k = n + 1
      · subst hk; omega
      · exact pick_above (n := n) (by omega) h2

theorem stp_zero {acc : Int} (ha : 1 ≤ acc) : stpM acc 0 = 0 := by
  have h := stp_eq ha (v := 0) (by omega) (by omega) (t := 0) (by simp; omega)
  simpa [lstM, sumN] using h

theorem pick_ok {acc w : Int} (ha : 1 ≤ acc) (hw : 0 ≤ w) : ∀ n, stpM acc (pickM acc w n : Nat) ≤ w
  | 0 => by simp only [pickM]; rw [show ((0 : Nat) : Int) = 0 from rfl, stp_zero ha]; exact hw
  | n + 1 => by
    simp only [pickM]
    split
    · assumption
    · exact pick_ok ha hw n

theorem pick_ge {acc w : Int} {n k : Nat} (hk : k ≤ n) (h : stpM acc (k : Int) ≤ w) : k ≤ pickM acc w n := by
  rcases Nat.lt_or_ge (pickM acc w n) k with h1 | h1
  · have := pick_above hk h1; omega
  · exact h1

/-- What is so of a trip under way: at the speed s, with t ticks left, and the way w. -/
structure Feas (spd acc s : Int) (t : Nat) (w : Int) : Prop where
  s0 : 0 ≤ s
  s1 : s ≤ spd
  s2 : s ≤ acc * ((t : Int) + 1)
  lo : lstM acc s t ≤ w
  hi : w ≤ mstM spd acc s t

theorem lst_nonneg (acc s : Int) (t : Nat) : 0 ≤ lstM acc s t := sumN_nonneg fun i _ => by omega

theorem Feas.w0 {spd acc s w : Int} {t : Nat} (h : Feas spd acc s t w) : 0 ≤ w := by
  have := lst_nonneg acc s t
  have := h.lo
  omega

/-- The speed of the next tick. -/
def nxtM (spd acc s : Int) (t : Nat) (w : Int) : Nat := pickM acc w (capM spd acc s (t + 1)).toNat

theorem mst_step (spd acc s : Int) (t : Nat) : mstM spd acc s (t + 1) = capM spd acc s (t + 1) + sumN (fun i => min spd (min (s + acc + acc * ((i : Int) + 1)) (acc * ((t : Int) - i)))) t := by
  unfold mstM
  rw [sumN_shift]
  congr 1
  · simp [capM]; omega
  · refine sumN_congr fun i _ => ?_
    have e1 : acc * (((i + 1 : Nat) : Int) + 1) = acc + acc * ((i : Int) + 1) := by
      rw [show (((i + 1 : Nat) : Int) + 1) = ((i : Int) + 1) + 1 by omega, acc_succ]; omega
    have e2 : (((t + 1 : Nat) : Int) - ((i + 1 : Nat) : Int)) = (t : Int) - i := by omega
    show min spd (min (s + acc * (((i + 1 : Nat) : Int) + 1)) (acc * (((t + 1 : Nat) : Int) - ((i + 1 : Nat) : Int)))) = _
    rw [e1, e2]
    omega

theorem cap_bd {spd acc s : Int} {t : Nat} (ha : 1 ≤ acc) (hs : 0 ≤ s) (hp : 1 ≤ spd) : 1 ≤ capM spd acc s (t + 1) := by
  have := acc_ge ha (show (0 : Int) ≤ ((t + 1 : Nat) : Int) by omega)
  unfold capM
  omega

theorem Feas.step {spd acc s w : Int} {t : Nat} (ha : 1 ≤ acc) (hp : 1 ≤ spd) (hp2 : spd ≤ 100) (h : Feas spd acc s (t + 1) w) :
    let v : Int := (nxtM spd acc s t w : Nat)
    v ≤ s + acc ∧ s - acc ≤ v ∧ v ≤ w ∧ Feas spd acc v t (w - v) := by
  have hw := h.w0
  obtain ⟨s0, s1, s2, lo, hi⟩ := h
  intro v
  obtain ⟨c, hc⟩ : ∃ c, capM spd acc s (t + 1) = c := ⟨_, rfl⟩
  have c1 := cap_bd (t := t) ha s0 hp
  rw [hc] at c1
  have hcc : c ≤ s + acc ∧ c ≤ spd ∧ c ≤ acc * ((t : Int) + 1) ∧ (c = s + acc ∨ c = spd ∨ c = acc * ((t : Int) + 1)) := by
    unfold capM at hc
    rw [show ((t + 1 : Nat) : Int) = (t : Int) + 1 by omega] at hc
    omega
  obtain ⟨cc1, cc2, cc3, cc4⟩ := hcc
  have hv : v = (pickM acc w c.toNat : Nat) := by show ((nxtM spd acc s t w : Nat) : Int) = _; unfold nxtM; rw [hc]
  have v1 := pick_le acc w c.toNat
  have v2 := pick_ok ha hw c.toNat
  rw [← hv] at v2
  have v3 : 0 ≤ v := by omega
  have v4 : v ≤ c := by omega
  have hst := stp_eq ha v3 (by omega) (t := t) (by omega)
  have hl0 := lst_nonneg acc v t
  have s3 : max 0 (s - acc) ≤ v := by
    have hls := lst_stp ha s0 (by omega) (t := t + 1) s2
    obtain ⟨u, hu⟩ : ∃ u : Nat, max 0 (s - acc) = u := ⟨(max 0 (s - acc)).toNat, by omega⟩
    rw [hu] at hls
    have huc : u ≤ c.toNat := by
      rw [show (((t + 1 : Nat) : Int) + 1) = ((t : Int) + 1) + 1 by omega, acc_succ] at s2
      rcases cc4 with e | e | e
      · omega
      · omega
      · have := acc_ge ha (show (0 : Int) ≤ (t : Int) + 1 by omega); omega
    have := pick_ge (acc := acc) (w := w) huc (by omega)
    omega
  refine ⟨by omega, by omega, by omega, v3, by omega, by omega, by omega, ?_⟩
  by_cases hvc : v = c
  · rw [mst_step, hc] at hi
    have hm : sumN (fun i => min spd (min (s + acc + acc * ((i : Int) + 1)) (acc * ((t : Int) - i)))) t ≤ mstM spd acc v t := by
      unfold mstM
      refine sumN_mono fun i hi => ?_
      show min spd (min (s + acc + acc * ((i : Int) + 1)) (acc * ((t : Int) - i))) ≤ min spd (min (v + acc * ((i : Int) + 1)) (acc * ((t : Int) - i)))
      have h1 : 0 ≤ acc * ((i : Int) + 1) := Int.mul_nonneg (by omega) (by omega)
      have h2 : acc * ((t : Int) - i) ≤ acc * ((t : Int) + 1) := acc_le ha (by omega)
      rcases cc4 with e | e | e
      · rw [hvc, e]; omega
      · rw [hvc, e]; omega
      · rw [hvc, e]; omega
    omega
  · have hlt := pick_above (acc := acc) (w := w) (n := c.toNat) (k := pickM acc w c.toNat + 1) (by omega) (by omega)
    rw [show ((pickM acc w c.toNat + 1 : Nat) : Int) = v + 1 by omega] at hlt
    rw [stp_eq ha (v := v + 1) (by omega) (by omega) (t := t) (by omega)] at hlt
    have hm : lstM acc (v + 1) t ≤ mstM spd acc v t := by
      unfold lstM mstM
      refine sumN_mono fun i hi => ?_
      show max 0 (v + 1 - acc * ((i : Int) + 1)) ≤ min spd (min (v + acc * ((i : Int) + 1)) (acc * ((t : Int) - i)))
      have h1 := acc_ge ha (show (0 : Int) ≤ (i : Int) + 1 by omega)
      have h2 := acc_ge ha (show (0 : Int) ≤ (t : Int) - i by omega)
      have h3 : acc * ((t : Int) - i) = acc * ((t : Int) + 1) - acc * ((i : Int) + 1) := by rw [← Int.mul_sub, show (t : Int) + 1 - ((i : Int) + 1) = (t : Int) - i by omega]
      omega
    omega

theorem feas_end {spd acc s w : Int} (h : Feas spd acc s 0 w) : w = 0 := by
  have h1 := h.lo
  have h2 := h.hi
  simp only [lstM, mstM, sumN] at h1 h2
  omega

def tripL (spd acc : Int) : Nat → Int → Int → List Int
  | 0, _, _ => []
  | t + 1, s, w => (nxtM spd acc s t w : Nat) :: tripL spd acc t (nxtM spd acc s t w : Nat) (w - (nxtM spd acc s t w : Nat))

theorem tripL_len (spd acc : Int) : ∀ (t : Nat) (s w : Int), (tripL spd acc t s w).length = t
  | 0, _, _ => rfl
  | t + 1, s, w => by simp only [tripL, List.length_cons, tripL_len]

/-- The numbers of a list one after the other. -/
def atL (l : List Int) (i : Nat) : Int := l.getD i 0

def sumL (l : List Int) : Int := sumN (atL l) l.length

theorem sumL_cons (x : Int) (l : List Int) : sumL (x :: l) = x + sumL l := by
  unfold sumL
  rw [List.length_cons, sumN_shift]
  rfl

/-- What a trip is, from a speed on. -/
def IsTr (spd acc : Int) (s : Int) : List Int → Prop
  | [] => s ≤ acc
  | v :: l => 0 ≤ v ∧ v ≤ spd ∧ v - s ≤ acc ∧ s - v ≤ acc ∧ IsTr spd acc v l

theorem trip_is {spd acc : Int} (ha : 1 ≤ acc) (hp : 1 ≤ spd) (hp2 : spd ≤ 100) : ∀ (t : Nat) (s w : Int), Feas spd acc s t w → IsTr spd acc s (tripL spd acc t s w) ∧ sumL (tripL spd acc t s w) = w
  | 0, s, w, h => by
    have h2 := h.s2
    have h3 := feas_end h
    simp at h2
    exact ⟨h2, by rw [h3]; rfl⟩
  | t + 1, s, w, h => by
    obtain ⟨h1, h2, h3, h4⟩ := h.step ha hp hp2
    obtain ⟨i1, i2⟩ := trip_is ha hp hp2 t _ _ h4
    refine ⟨⟨by omega, h4.s1, by omega, by omega, i1⟩, ?_⟩
    rw [tripL, sumL_cons, i2]
    omega

/-! ### how far a trip leads -/
theorem rea_last {spd acc : Int} (ha : 1 ≤ acc) (hp : 1 ≤ spd) (t : Nat) : reaM spd acc t + 1 ≤ reaM spd acc (t + 1) := by
  unfold reaM mstM
  rw [show sumN (fun i => min spd (min (0 + acc * ((i : Int) + 1)) (acc * (((t + 1 : Nat) : Int) - i)))) (t + 1) = sumN (fun i => min spd (min (0 + acc * ((i : Int) + 1)) (acc * (((t + 1 : Nat) : Int) - i)))) t + min spd (min (0 + acc * ((t : Int) + 1)) (acc * (((t + 1 : Nat) : Int) - t))) from rfl]
  have h := sumN_mono (n := t) (f := fun i => min spd (min (0 + acc * ((i : Int) + 1)) (acc * ((t : Int) - i)))) (g := fun i => min spd (min (0 + acc * ((i : Int) + 1)) (acc * (((t + 1 : Nat) : Int) - i))))
    (fun i hi => by
      show min spd (min (0 + acc * ((i : Int) + 1)) (acc * ((t : Int) - i))) ≤ min spd (min (0 + acc * ((i : Int) + 1)) (acc * (((t + 1 : Nat) : Int) - i)))
      have := acc_le ha (show (t : Int) - i ≤ ((t + 1 : Nat) : Int) - i by omega)
      omega)
  have h1 := acc_ge ha (show (0 : Int) ≤ (t : Int) + 1 by omega)
  have h2 := acc_ge ha (show (0 : Int) ≤ ((t + 1 : Nat) : Int) - t by omega)
  omega

theorem rea_ge {spd acc : Int} (ha : 1 ≤ acc) (hp : 1 ≤ spd) : ∀ t : Nat, (t : Int) ≤ reaM spd acc t
  | 0 => by simp [reaM, mstM, sumN]
  | t + 1 => by have := rea_ge ha hp t; have := rea_last ha hp t; omega

theorem rea_mono {spd acc : Int} (ha : 1 ≤ acc) (hp : 1 ≤ spd) (a : Nat) : ∀ d : Nat, reaM spd acc a ≤ reaM spd acc (a + d)
  | 0 => Int.le_refl _
  | d + 1 => by have := rea_mono ha hp a d; have := rea_last ha hp (a + d); rw [show a + (d + 1) = a + d + 1 by omega]; omega

theorem rea_grow {spd acc : Int} (ha : 1 ≤ acc) (t : Nat) : reaM spd acc (t + 1) ≤ reaM spd acc t + spd := by
  obtain ⟨m, d, ht, h1, h2⟩ : ∃ m d : Nat, t = m + d ∧ m ≤ d + 1 ∧ d ≤ m := ⟨t - t / 2, t / 2, by omega, by omega, by omega⟩
  subst ht
  unfold reaM mstM
  rw [sumN_insert (m := m) (b := fun i => min spd (min (0 + acc * ((i : Int) + 1)) (acc * (((m + d : Nat) : Int) - i)))) (a := fun i => min spd (min (0 + acc * ((i : Int) + 1)) (acc * (((m + d + 1 : Nat) : Int) - i)))) ?_ d ?_]
  · have : min spd (min (0 + acc * ((m : Int) + 1)) (acc * (((m + d + 1 : Nat) : Int) - m))) ≤ spd := by omega
    omega
  · intro i hi
    have e1 := acc_le ha (show (i : Int) + 1 ≤ ((m + d : Nat) : Int) - i by omega)
    have e2 := acc_le ha (show (i : Int) + 1 ≤ ((m + d + 1 : Nat) : Int) - i by omega)
    show min spd (min (0 + acc * ((i : Int) + 1)) (acc * (((m + d + 1 : Nat) : Int) - i))) = min spd (min (0 + acc * ((i : Int) + 1)) (acc * (((m + d : Nat) : Int) - i)))
    omega
  · intro i hi hi2
    have e1 := acc_le ha (show ((m + d : Nat) : Int) - i ≤ (i : Int) + 1 by omega)
    have e2 := acc_le ha (show (i : Int) + 1 ≤ ((i + 1 : Nat) : Int) + 1 by omega)
    show min spd (min (0 + acc * (((i + 1 : Nat) : Int) + 1)) (acc * (((m + d + 1 : Nat) : Int) - ((i + 1 : Nat) : Int)))) = min spd (min (0 + acc * ((i : Int) + 1)) (acc * (((m + d : Nat) : Int) - i)))
    rw [show ((m + d + 1 : Nat) : Int) - ((i + 1 : Nat) : Int) = ((m + d : Nat) : Int) - i by omega]
    omega

theorem rea_bd {spd acc : Int} (t : Nat) : reaM spd acc t ≤ spd * t := sumN_le fun i _ => by
  show min spd _ ≤ spd
  omega

/-- A trip's speeds are below the ones that its beginning and its end allow. -/
theorem tr_bound {spd acc : Int} (ha : 1 ≤ acc) : ∀ (l : List Int) (s : Int), 0 ≤ s → IsTr spd acc s l → s ≤ acc * ((l.length : Int) + 1) ∧ sumL l ≤ mstM spd acc s l.length
  | [], s, h0, h => by
    have h' : s ≤ acc := h
    refine ⟨by simpa using h', ?_⟩
    simp [sumL, mstM, sumN]
  | v :: l, s, h0, h => by
    obtain ⟨v0, v1, v2, v3, hl⟩ := h
    obtain ⟨h1, h2⟩ := tr_bound ha l v v0 hl
    rw [List.length_cons]
    have e : acc * (((l.length + 1 : Nat) : Int) + 1) = acc * ((l.length : Int) + 1) + acc := by
      rw [show (((l.length + 1 : Nat) : Int) + 1) = ((l.length : Int) + 1) + 1 by omega, acc_succ]
    refine ⟨by omega, ?_⟩
    rw [sumL_cons, mst_step]
    have hc : v ≤ capM spd acc s (l.length + 1) := by
      unfold capM
      rw [show ((l.length + 1 : Nat) : Int) = (l.length : Int) + 1 by omega]
      omega
    have hm : mstM spd acc v l.length ≤ sumN (fun i => min spd (min (s + acc + acc * ((i : Int) + 1)) (acc * ((l.length : Int) - i)))) l.length := by
      unfold mstM
      refine sumN_mono fun i _ => ?_
      show min spd (min (v + acc * ((i : Int) + 1)) (acc * ((l.length : Int) - i))) ≤ min spd (min (s + acc + acc * ((i : Int) + 1)) (acc * ((l.length : Int) - i)))
      omega
    omega

/-! ### the fewest ticks -/
def fewM (spd acc w : Int) : Nat := lstN (fun t => decide (w ≤ reaM spd acc t)) 1000

theorem few_spec {spd acc w : Int} (ha : 1 ≤ acc) (hp : 1 ≤ spd) (hw2 : w ≤ 1000) :
    fewM spd acc w ≤ 1000 ∧ w ≤ reaM spd acc (fewM spd acc w) ∧ ∀ k, k < fewM spd acc w → reaM spd acc k < w := by
  obtain ⟨h1, h2, h3⟩ := lst_spec (fun t => decide (w ≤ reaM spd acc t)) 1000
  refine ⟨h1, ?_, fun k hk => by simpa using h2 k hk⟩
  by_cases h : fewM spd acc w < 1000
  · have := h3 h
    rw [decide_eq_true_eq] at this
    exact this
  · have : fewM spd acc w = 1000 := by unfold fewM at *; omega
    rw [this]
    have := rea_ge (spd := spd) ha hp 1000
    omega

theorem few_feas {spd acc w : Int} (ha : 1 ≤ acc) (hp : 1 ≤ spd) (hw : 0 ≤ w) (hw2 : w ≤ 1000) : Feas spd acc 0 (fewM spd acc w) w := by
  obtain ⟨h1, h2, h3⟩ := few_spec ha hp hw2
  refine ⟨Int.le_refl _, by omega, Int.mul_nonneg (by omega) (by omega), ?_, h2⟩
  have : lstM acc 0 (fewM spd acc w) = 0 := by
    rw [lst_stp ha (by omega) (by omega) (Int.mul_nonneg (by omega) (by omega)), show max 0 (0 - acc) = 0 by omega, stp_zero ha]
  omega

theorem few_le {spd acc w : Int} (ha : 1 ≤ acc) (hp : 1 ≤ spd) (hw2 : w ≤ 1000) {l : List Int} (hl : IsTr spd acc 0 l) (hs : sumL l = w) : fewM spd acc w ≤ l.length := by
  have h1 := (tr_bound ha l 0 (Int.le_refl _) hl).2
  rcases Nat.lt_or_ge l.length (fewM spd acc w) with h | h
  · have := (few_spec ha hp hw2).2.2 _ h
    unfold reaM at this
    omega
  · exact h

def wayM (L : Lif) (a b : Int) : Int := max (L.fl.getD b.toNat 0 - L.fl.getD a.toNat 0) (-(L.fl.getD b.toNat 0 - L.fl.getD a.toNat 0))

theorem way_bd {L : Lif} (h : LOk L) {a b : Int} (_ha : 0 ≤ a) (ha2 : a < L.fl.length) (_hb : 0 ≤ b) (hb2 : b < L.fl.length) : 0 ≤ wayM L a b ∧ wayM L a b ≤ 1000 := by
  have h1 := h.floor (i := a.toNat) (by omega)
  have h2 := h.floor (i := b.toNat) (by omega)
  have := h.top
  unfold wayM
  omega

def reaE (L : Lif) (t : Int) : Int := chkE L (fitE (inB t 0 1000))
def reaR (L : Lif) (t : Int) : Int × Int :=
  if reaE L t = 0 then (reaM L.spd L.acc t.toNat, 0) else (0, reaE L t)

def flrB (L : Lif) (a b : Int) : Bool := inB a 0 ((L.fl.length : Int) - 1) && inB b 0 ((L.fl.length : Int) - 1)

def triE (L : Lif) (a b : Int) : Int := chkE L (fitE (flrB L a b))
def triR (L : Lif) (a b : Int) : List Int × Int :=
  if triE L a b = 0 then (tripL L.spd L.acc (fewM L.spd L.acc (wayM L a b)) 0 (wayM L a b), 0) else ([], triE L a b)

end Go.Proofs.Ytnefbiaopconkaa
