import Derived.Test.YtbiihhokcmdlhaaZzL
/- Texts of one seat, merged: Ya Yb -/
/- The plain mathematics of layer 3 (circuit), fifth part: plays of upsets. Nothing here speaks of the program. -/
namespace Go.Proofs.Ytbiihhokcmdlhaa

structure Ups where
  ni : Int
  ki : Int
  nu : Int
def Ups.zero : Ups := ⟨0, 0, 0⟩

def isU (c : Cir) (x : Ups) : Bool := if x.ki = 1 then decide (0 ≤ x.nu ∧ x.nu ≤ (c.sw.length : Int) - 1) else if x.ki = 2 then decide (x.nu ≠ 0) && setB x.nu c.hz.toNat else false
def lateB (b x : Ups) : Bool := decide (x.ni = b.ni ∧ x.ki = 1 ∧ b.ki = 2)
def okU (c : Cir) (b x : Ups) : Bool := !lateB b x && decide (b.ni ≤ x.ni ∧ x.ni ≤ 1000) && isU c x
def prv (u : List Ups) : Nat → Ups
  | 0 => ⟨0, 1, 0⟩
  | k + 1 => u.getD k Ups.zero
def upsB (c : Cir) (u : List Ups) : Bool := decide (u.length ≤ 40) && (List.range u.length).all fun i => okU c (prv u i) (u.getD i Ups.zero)

/-- What upsets that are valid are. -/
structure UVal (c : Cir) (u : List Ups) : Prop where
  n : u.length ≤ 40
  ok : ∀ i, i < u.length → okU c (prv u i) (u.getD i Ups.zero) = true

theorem uval {c : Cir} {u : List Ups} (h : upsB c u = true) : UVal c u := by
  unfold upsB at h
  simp only [Bool.and_eq_true, decide_eq_true_eq, List.all_eq_true] at h
  exact ⟨h.1, fun i hi => h.2 i (List.mem_range.2 hi)⟩

theorem okU_out {c : Cir} {b x : Ups} (h : okU c b x = true) : ¬ (x.ni = b.ni ∧ x.ki = 1 ∧ b.ki = 2) ∧ b.ni ≤ x.ni ∧ x.ni ≤ 1000 ∧ isU c x = true := by
  unfold okU lateB at h
  simp only [Bool.and_eq_true, Bool.not_eq_true', decide_eq_true_eq, decide_eq_false_iff_not] at h
  exact ⟨h.1.1, h.1.2.1, h.1.2.2, h.2⟩

theorem isU_out {c : Cir} {x : Ups} (h : isU c x = true) : (x.ki = 1 ∧ 0 ≤ x.nu ∧ x.nu < c.sw.length) ∨ (x.ki = 2 ∧ x.nu ≠ 0 ∧ setB x.nu c.hz.toNat = true) := by
  unfold isU at h
  split at h
  · rename_i h1
    rw [decide_eq_true_eq] at h
    exact Or.inl ⟨h1, h.1, by omega⟩
  · split at h
    · rename_i h2
      simp only [Bool.and_eq_true, decide_eq_true_eq] at h
      exact Or.inr ⟨h2, h.1, h.2⟩
    · cases h

theorem UVal.ni0 {c : Cir} {u : List Ups} (h : UVal c u) : ∀ i, i < u.length → 0 ≤ (u.getD i Ups.zero).ni
  | 0, hi => by have := (okU_out (h.ok 0 hi)).2.1; exact this
  | i + 1, hi => by
    have h1 := (okU_out (h.ok (i + 1) hi)).2.1
    have h2 := h.ni0 i (by omega)
    exact Int.le_trans h2 h1

theorem UVal.mono {c : Cir} {u : List Ups} (h : UVal c u) {i : Nat} : ∀ d, i + d < u.length → (u.getD i Ups.zero).ni ≤ (u.getD (i + d) Ups.zero).ni
  | 0, _ => Int.le_refl _
  | d + 1, hi => Int.le_trans (h.mono d (by omega)) (okU_out (h.ok (i + d + 1) hi)).2.1

theorem UVal.le {c : Cir} {u : List Ups} (h : UVal c u) {i j : Nat} (hij : i ≤ j) (hj : j < u.length) : (u.getD i Ups.zero).ni ≤ (u.getD j Ups.zero).ni := by
  have := h.mono (i := i) (j - i) (by omega)
  rwa [show i + (j - i) = j by omega] at this

/-! ### a play -/
def todM (u : List Ups) (n : Nat) : List Nat := (List.range u.length).filter fun i => decide ((u.getD i Ups.zero).ni = n)
def stkL (u : List Ups) (cl : Nat) (T : List Nat) : Nat := T.foldl (fun a i => if (u.getD i Ups.zero).ki = 1 then a ||| 2 ^ (u.getD i Ups.zero).nu.toNat else a) cl
def behM (c : Cir) (l : List Tri) (ks : List Int) (cl : Nat) : Nat := if (ks.any fun k => toldB c (l.getD k.toNat Tri.zero) cl) = true then 0 else cl
def cloM (c : Cir) (l : List Tri) (r : Rot) (u : List Ups) : Nat → Nat
  | 0 => 0
  | n + 1 => behM c l (r.nights.getD (n % r.nights.length) []) (stkL u (cloM c l r u n) (todM u n))
def nN (u : List Ups) : Nat := if u.length = 0 then 0 else (u.getD (u.length - 1) Ups.zero).ni.toNat + 1
def stuckM (c : Cir) (l : List Tri) (r : Rot) (u : List Ups) : Nat → List Nat
  | 0 => []
  | n + 1 => if todM u n = [] then stuckM c l r u n else stuckM c l r u n ++ [cloM c l r u (n + 1)]
def pasL (c : Cir) (u : List Ups) (cl : Nat) (T : List Nat) : List Nat := T.filter fun i => decide ((u.getD i Ups.zero).ki = 2) && passM c (u.getD i Ups.zero).nu.toNat cl
def passedM (c : Cir) (l : List Tri) (r : Rot) (u : List Ups) : Nat → List Nat
  | 0 => []
  | n + 1 => passedM c l r u n ++ pasL c u (cloM c l r u (n + 1)) (todM u n)

theorem told_zero (c : Cir) (t : Tri) : toldB c t 0 = false := by unfold toldB; cases cond c ⟨t.hz.toNat, 0, 0⟩ 24 t.wire <;> rfl

theorem behM_take {c : Cir} {l : List Tri} {ks : List Int} {cl k : Nat} (h : k < ks.length) : behM c l (ks.take (k + 1)) cl = if toldB c (l.getD (ks.getD k 0).toNat Tri.zero) (behM c l (ks.take k) cl) = true then 0 else behM c l (ks.take k) cl := by
  have e : ks.take (k + 1) = ks.take k ++ [ks.getD k 0] := by
    rw [List.take_succ_eq_append_getElem h, List.getD_eq_getElem?_getD, List.getElem?_eq_getElem h]; rfl
  unfold behM
  rw [e, List.any_append]
  simp only [List.any_cons, List.any_nil, Bool.or_false]
  cases h1 : (ks.take k).any fun k => toldB c (l.getD k.toNat Tri.zero) cl
  · simp only [Bool.false_or, Bool.false_eq_true, if_false]
  · simp only [Bool.true_or, if_true, told_zero, Bool.false_eq_true, if_false]

theorem behM_le (c : Cir) (l : List Tri) (ks : List Int) (cl : Nat) : behM c l ks cl ≤ cl := by unfold behM; split <;> omega

theorem stkL_snoc (u : List Ups) (cl : Nat) (T : List Nat) (i : Nat) : stkL u cl (T ++ [i]) = if (u.getD i Ups.zero).ki = 1 then stkL u cl T ||| 2 ^ (u.getD i Ups.zero).nu.toNat else stkL u cl T := by
  unfold stkL; rw [List.foldl_append]; rfl

theorem stkL_lt {c : Cir} {u : List Ups} (hu : UVal c u) {B : Nat} (hB : c.sw.length ≤ B) {cl : Nat} (hcl : cl < 2 ^ B) : ∀ T : List Nat, (∀ i ∈ T, i < u.length) → stkL u cl T < 2 ^ B := by
  intro T
  induction T generalizing cl with
  | nil => intro _; exact hcl
  | cons i T ih =>
    intro h
    refine ih ?_ (fun j hj => h j (List.mem_cons_of_mem _ hj))
    show (if (u.getD i Ups.zero).ki = 1 then cl ||| 2 ^ (u.getD i Ups.zero).nu.toNat else cl) < 2 ^ B
    split
    · rename_i hk
      have hi := h i List.mem_cons_self
      rcases isU_out (okU_out (hu.ok i hi)).2.2.2 with ⟨_, h1, h2⟩ | ⟨h1, _⟩
      · exact Nat.or_lt_two_pow hcl (Nat.pow_lt_pow_right (by decide) (by omega))
      · omega
    · exact hcl

theorem tod_lt {u : List Ups} {n i : Nat} (h : i ∈ todM u n) : i < u.length := by unfold todM at h; exact List.mem_range.1 (List.mem_filter.1 h).1

theorem clo_lt {c : Cir} {l : List Tri} {r : Rot} {u : List Ups} (hu : UVal c u) (hc : c.sw.length ≤ 12) : ∀ n, cloM c l r u n < 4096
  | 0 => by unfold cloM; decide
  | n + 1 => by
    have h1 := stkL_lt hu (B := 12) hc (cl := cloM c l r u n) (clo_lt hu hc n) (todM u n) (fun i hi => tod_lt hi)
    have h2 := behM_le c l (r.nights.getD (n % r.nights.length) []) (stkL u (cloM c l r u n) (todM u n))
    unfold cloM
    omega

/-! ### the same by pointers -/
def seg (a b : Nat) : List Nat := List.range' a (b - a)
theorem seg_self (a : Nat) : seg a a = [] := by simp [seg]
theorem seg_snoc {a b : Nat} (h : a ≤ b) : seg a (b + 1) = seg a b ++ [b] := by
  unfold seg
  rw [show b + 1 - a = (b - a) + 1 by omega, List.range'_concat]
  congr 1
  simp; omega
theorem mem_seg {a b i : Nat} : i ∈ seg a b ↔ a ≤ i ∧ i < b := by unfold seg; rw [List.mem_range'_1]; omega
theorem seg_append {a b d : Nat} (h1 : a ≤ b) (h2 : b ≤ d) : seg a d = seg a b ++ seg b d := by
  unfold seg
  have := List.range'_append_1 (s := a) (m := b - a) (n := d - b)
  rw [show a + (b - a) = b by omega, show b - a + (d - b) = d - a by omega] at this
  exact this.symm

theorem tod_seg {u : List Ups} {n a d : Nat} (hd : d ≤ u.length) (had : a ≤ d) (h1 : ∀ i, i < a → (u.getD i Ups.zero).ni ≠ n) (h2 : ∀ i, a ≤ i → i < d → (u.getD i Ups.zero).ni = n) (h3 : ∀ i, d ≤ i → i < u.length → (u.getD i Ups.zero).ni ≠ n) : todM u n = seg a d := by
  unfold todM
  have e : List.range u.length = seg 0 a ++ (seg a d ++ seg d u.length) := by
    rw [← seg_append had hd, ← seg_append (by omega) (by omega)]
    unfold seg
    rw [List.range_eq_range']; rfl
  rw [e, List.filter_append, List.filter_append]
  have f1 : (seg 0 a).filter (fun i => decide ((u.getD i Ups.zero).ni = n)) = [] := List.filter_eq_nil_iff.2 fun i hi => by
    have := h1 i (mem_seg.1 hi).2; simpa using this
  have f2 : (seg a d).filter (fun i => decide ((u.getD i Ups.zero).ni = n)) = seg a d := List.filter_eq_self.2 fun i hi => by
    have := h2 i (mem_seg.1 hi).1 (mem_seg.1 hi).2; simpa using this
  have f3 : (seg d u.length).filter (fun i => decide ((u.getD i Ups.zero).ni = n)) = [] := List.filter_eq_nil_iff.2 fun i hi => by
    have := h3 i (mem_seg.1 hi).1 (mem_seg.1 hi).2; simpa using this
  rw [f1, f2, f3]; simp

theorem stk_same {u : List Ups} {cl : Nat} : ∀ (T : List Nat), (∀ i ∈ T, (u.getD i Ups.zero).ki ≠ 1) → stkL u cl T = cl := by
  intro T
  induction T generalizing cl with
  | nil => intro _; rfl
  | cons i T ih =>
    intro h
    show stkL u (if (u.getD i Ups.zero).ki = 1 then _ else cl) T = cl
    rw [if_neg (h i List.mem_cons_self)]
    exact ih (fun j hj => h j (List.mem_cons_of_mem _ hj))

theorem stk_seg {u : List Ups} {cl a b d : Nat} (h1 : a ≤ b) (h2 : b ≤ d) (h : ∀ i, b ≤ i → i < d → (u.getD i Ups.zero).ki ≠ 1) : stkL u cl (seg a d) = stkL u cl (seg a b) := by
  rw [seg_append h1 h2]
  unfold stkL
  rw [List.foldl_append]
  exact stk_same (seg b d) (fun i hi => h i (mem_seg.1 hi).1 (mem_seg.1 hi).2)

theorem pas_seg {c : Cir} {u : List Ups} {cl a b d : Nat} (h1 : a ≤ b) (h2 : b ≤ d) (h : ∀ i, a ≤ i → i < b → (u.getD i Ups.zero).ki ≠ 2) : pasL c u cl (seg a d) = pasL c u cl (seg b d) := by
  rw [seg_append h1 h2]
  unfold pasL
  rw [List.filter_append, List.filter_eq_nil_iff.2, List.nil_append]
  intro i hi
  have := h i (mem_seg.1 hi).1 (mem_seg.1 hi).2
  rw [decide_eq_false this]; simp

theorem pas_snoc {c : Cir} {u : List Ups} {cl b d : Nat} (h : b ≤ d) (hk : (u.getD d Ups.zero).ki = 2) : pasL c u cl (seg b (d + 1)) = if passM c (u.getD d Ups.zero).nu.toNat cl = true then pasL c u cl (seg b d) ++ [d] else pasL c u cl (seg b d) := by
  unfold pasL
  rw [seg_snoc h, List.filter_append, List.filter_cons, List.filter_nil, decide_eq_true hk, Bool.true_and]
  split
  · rfl
  · rw [List.append_nil]

/-- In a night, behind a hazard only hazards come. -/
theorem danger_on {c : Cir} {u : List Ups} (hu : UVal c u) {n b d : Nat} (hbd : b ≤ d) (hd : d < u.length) (hn : (u.getD d Ups.zero).ni = n) (hb : b < u.length → ¬ ((u.getD b Ups.zero).ni = n ∧ (u.getD b Ups.zero).ki = 1))
    (h : ∀ i, b ≤ i → i < d → (u.getD i Ups.zero).ni = n ∧ (u.getD i Ups.zero).ki = 2) : (u.getD d Ups.zero).ki = 2 := by
  have h0 := okU_out (hu.ok d hd)
  rcases isU_out h0.2.2.2 with ⟨h1, _⟩ | ⟨h1, _⟩
  · exfalso
    by_cases e : b = d
    · subst e; exact hb hd ⟨hn, h1⟩
    · obtain ⟨e1, e2⟩ := h (d - 1) (by omega) (by omega)
      obtain ⟨k, rfl⟩ : ∃ k, d = k + 1 := ⟨d - 1, by omega⟩
      rw [Nat.add_sub_cancel] at e1 e2
      exact h0.1 ⟨by rw [hn]; exact e1.symm, h1, e2⟩
  · exact h1

theorem tod_none {c : Cir} {u : List Ups} (hu : UVal c u) {n : Nat} (h : nN u ≤ n) : todM u n = [] := by
  unfold todM
  rw [List.filter_eq_nil_iff]
  intro i hi
  have hi := List.mem_range.1 hi
  have h1 := hu.le (i := i) (j := u.length - 1) (by omega) (by omega)
  have h2 := hu.ni0 (u.length - 1) (by omega)
  unfold nN at h
  rw [if_neg (by omega)] at h
  simp only [decide_eq_true_eq]
  omega

theorem stuck_stay {c : Cir} {l : List Tri} {r : Rot} {u : List Ups} (hu : UVal c u) : ∀ d, stuckM c l r u (nN u + d) = stuckM c l r u (nN u) ∧ passedM c l r u (nN u + d) = passedM c l r u (nN u)
  | 0 => ⟨rfl, rfl⟩
  | d + 1 => by
    obtain ⟨h1, h2⟩ := stuck_stay (l := l) (r := r) hu d
    have h3 := tod_none hu (n := nN u + d) (by omega)
    constructor
    · rw [← Nat.add_assoc, stuckM, if_pos h3, h1]
    · rw [← Nat.add_assoc, passedM, h3, h2]; simp [pasL]

end Go.Proofs.Ytbiihhokcmdlhaa

/- Walks of layer 3 (circuit): isUpset, areUpsets, nightsOf, behindTrials of the program. -/
namespace Go.Proofs.Ytbiihhokcmdlhaa
open Go.RowKit

abbrev upL (x : Ups) : List Value := [.int .i64 x.ni, .int .i64 x.ki, .int .i64 x.nu]
abbrev upV (x : Ups) : Value := .agg #[.int .i64 x.ni, .int .i64 x.ki, .int .i64 x.nu]
abbrev upO (x : Ups) : Obj := .cells #[.int .i64 x.ni, .int .i64 x.ki, .int .i64 x.nu] 79
abbrev UpAt (w : World) (v : Value) (u : List Ups) : Prop := ElAt 3 upL w v u

theorem up_at {w w' : World} {b off : Nat} {u : List Ups} {k : Nat} (hb : Below w.heap.size w w') (hbl : b < w.heap.size)
    (hc : ∀ i x, u[i]? = some x → ∀ j y, (upL x)[j]? = some y → w.cell? ⟨b, off + i * 3 + j, none⟩ = some y) (hk : k < u.length) :
    w'.cell? ⟨b, off + k * 3, none⟩ = some (.int .i64 (u.getD k Ups.zero).ni) ∧ w'.cell? ⟨b, off + k * 3 + 1, none⟩ = some (.int .i64 (u.getD k Ups.zero).ki) ∧ w'.cell? ⟨b, off + k * 3 + 2, none⟩ = some (.int .i64 (u.getD k Ups.zero).nu) := by
  have h := hc k _ (getD_get? hk Ups.zero)
  exact ⟨(hb.cell hbl).trans (h 0 _ rfl), (hb.cell hbl).trans (h 1 _ rfl), (hb.cell hbl).trans (h 2 _ rfl)⟩

theorem isU_one {c : Cir} {x : Ups} {q : Bool} (h : x.ki = 1) (hq : decide (0 ≤ x.nu ∧ x.nu ≤ (c.sw.length : Int) - 1) = q) : isU c x = q := by unfold isU; rw [if_pos h, hq]
theorem isU_two {c : Cir} {x : Ups} {q : Bool} (h : x.ki = 2) (hq : (decide (x.nu ≠ 0) && setB x.nu c.hz.toNat) = q) : isU c x = q := by unfold isU; rw [if_neg (by omega), if_pos h, hq]
theorem isU_no {c : Cir} {x : Ups} (h : x.ki ≠ 1) (h2 : x.ki ≠ 2) : isU c x = false := by unfold isU; rw [if_neg h, if_neg h2]

set_option maxRecDepth 100000 in
set_option maxHeartbeats 2000000 in
theorem cisU_any (c : Cir) (x : Ups) (sv wv : Value) (w : World) (hv : CirAt w sv wv c) (hc : CVal c) :
    Calls Try.prog 154 #[cirV c sv wv, upV x] w fun e w' => e = .returned (.bool (isU c x)) ∧ Below w.heap.size w w' := by
  have HB := Lib.hid (blw2 w (cirO c sv wv) (upO x))
  have HC := Lib.hid hc
  have s12 := hc.s2
  obtain ⟨⟨sa, scap, rfl, _⟩, _⟩ := hv
  obtain ⟨n, hn⟩ : ∃ n : Nat, c.hz = n := ⟨c.hz.toNat, by have := hc.h1; omega⟩
  have n8 : n ≤ 8 := by have := hc.h2; omega
  have HN := Lib.hid hn
  have HZ := Lib.hid (show c.hz.toNat = n by omega)
  have K0 := Lib.hid (two_od w (cirO c (.slice sa c.sw.length scap) wv) (upO x))
  have K1 := Lib.hid (two_nw w (cirO c (.slice sa c.sw.length scap) wv) (upO x))
  clear hc hn
  have hwr : wrap64 ((c.sw.length : Int) - 1) = (c.sw.length : Int) - 1 := IntWalk.wrap64_in _ (by omega)
  by_cases h1 : x.ki = 1
  · obtain ⟨q, hq⟩ : ∃ q, decide (0 ≤ x.nu ∧ x.nu ≤ (c.sw.length : Int) - 1) = q := ⟨_, rfl⟩
    have HQ := Lib.hid hq
    have HR := Lib.hid (isU_one (c := c) h1 hq)
    obtain ⟨xn, xk, xu⟩ := x
    dsimp only at h1
    subst h1
    clear hq
    go_enter Try.func154, Try.ntmps154
    go_wp2_with fail
    refine (cwithin_is q _ 0 _ _ HQ.out).mono ?_
    rintro e w1 ⟨rfl, rfl⟩
    go_wp2_with fail
    go_ret
    exact ⟨ret_bool HR.out.symm, HB.out⟩
  · by_cases h2 : x.ki = 2
    · by_cases h0 : x.nu = 0
      · have HR := Lib.hid (isU_two (c := c) (q := false) h2 (by rw [decide_eq_false (by simpa using h0)]; rfl))
        obtain ⟨xn, xk, xu⟩ := x
        dsimp only at h2 h0
        subst h2 h0
        go_enter Try.func154, Try.ntmps154
        go_wp2_with fail
        go_ret
        exact ⟨ret_bool HR.out.symm, HB.out⟩
      · obtain ⟨q, hq⟩ : ∃ q, setB x.nu n = q := ⟨_, rfl⟩
        have HQ := Lib.hid hq
        have HR := Lib.hid (isU_two (c := c) (q := q) h2 (by rw [decide_eq_true h0, HZ.out, hq]; rfl))
        obtain ⟨xn, xk, xu⟩ := x
        dsimp only at h2 h0
        subst h2
        have h0b : (xu == 0) = false := by simpa using h0
        have h0c : (xu != 0) = true := by simpa using h0
        clear hq
        rw [show (cirV c (.slice sa c.sw.length scap) wv) = .agg #[.int .i64 n, .slice sa c.sw.length scap, wv] by rw [← HN.out]]
        go_enter Try.func154, Try.ntmps154
        go_wp2_with fail
        refine (isSet_is _ _ _ _ (by omega) HQ.out).mono ?_
        rintro e w1 ⟨rfl, rfl⟩
        go_wp2_with fail
        go_ret
        refine ⟨ret_bool HR.out.symm, ?_⟩
        have := HB.out
        rw [show cirO c (.slice sa c.sw.length scap) wv = .cells #[.int .i64 n, .slice sa c.sw.length scap, wv] 25 by rw [← HN.out]] at this
        exact this
    · have HR := Lib.hid (isU_no (c := c) h1 h2)
      obtain ⟨xn, xk, xu⟩ := x
      dsimp only at h1 h2
      have h1b : (xk == 1) = false := by simpa using h1
      have h2b : (xk == 2) = false := by simpa using h2
      go_enter Try.func154, Try.ntmps154
      go_wp2_with fail
      go_ret
      exact ⟨ret_bool HR.out.symm, HB.out⟩

set_option maxRecDepth 100000 in
set_option maxHeartbeats 2000000 in
theorem nightsOf_any (c : Cir) (u : List Ups) (v : Value) (w : World) (hv : UpAt w v u) (hu : UVal c u) :
    Calls Try.prog 112 #[v] w fun e w' => e = .returned (.int .i64 (nN u : Nat)) ∧ w = w' := by
  obtain ⟨a, cap, rfl, n1, n2, hc⟩ := hv
  have hn := hu.n
  by_cases h0 : u.length = 0
  · have HR := Lib.hid (show nN u = 0 by unfold nN; rw [if_pos h0])
    have hz : ((u.length : Int) == 0) = true := by simp [h0]
    go_enter Try.func112, Try.ntmps112
    go_wp2_with fail
    go_ret
    exact ⟨ret_int (by rw [HR.out]; rfl), rfl⟩
  · have hz : ((u.length : Int) == 0) = false := by simp only [beq_eq_false_iff_ne, ne_eq]; omega
    obtain ⟨b, off, rfl, hbl, hcc⟩ := hc (by omega)
    obtain ⟨k, hk⟩ : ∃ k, u.length = k + 1 := ⟨u.length - 1, by omega⟩
    obtain ⟨g1, _, _⟩ := up_at (Below.refl _ _) hbl hcc (show k < u.length by omega)
    have h1 := hu.ni0 k (by omega)
    have h2 := (okU_out (hu.ok k (by omega))).2.2.1
    have HR := Lib.hid (show nN u = (u.getD k Ups.zero).ni.toNat + 1 by unfold nN; rw [if_neg h0, hk, Nat.add_sub_cancel])
    generalize (u.getD k Ups.zero).ni = q at *
    obtain ⟨m, hm⟩ : ∃ m : Nat, q = m := ⟨q.toNat, by omega⟩
    subst hm
    have HR2 := Lib.hid (show nN u = m + 1 by rw [HR.out, Int.toNat_natCast])
    have hidx : (u.length : Int) - 1 = k := by omega
    have k1 : (0 : Int) ≤ k := by omega
    have k2 : (k : Int) < u.length := by omega
    clear hcc hc hk h0
    go_enter Try.func112, Try.ntmps112
    go_wp2_with fail
    go_ret
    exact ⟨ret_int (by rw [HR2.out]; simp), rfl⟩

theorem beh_yes {c : Cir} {l : List Tri} {ks : List Int} {cl k : Nat} (h : k < ks.length) (ht : toldB c (l.getD (ks.getD k 0).toNat Tri.zero) cl = true) : behM c l ks cl = 0 := by
  unfold behM
  rw [if_pos]
  exact List.any_eq_true.2 ⟨_, getD_mem h 0, ht⟩
theorem beh_no {c : Cir} {l : List Tri} {ks : List Int} {cl : Nat} (h : ∀ k, k < ks.length → toldB c (l.getD (ks.getD k 0).toNat Tri.zero) cl = false) : behM c l ks cl = cl := by
  unfold behM
  rw [if_neg]
  intro ha
  obtain ⟨x, hx, hx2⟩ := List.any_eq_true.1 ha
  obtain ⟨i, hi, rfl⟩ := List.getElem_of_mem hx
  have key : ks.getD i 0 = ks[i] := by rw [List.getD_eq_getElem?_getD, List.getElem?_eq_getElem hi]; rfl
  have := h i hi
  rw [key, hx2] at this
  cases this

set_option maxRecDepth 100000 in
set_option maxHeartbeats 4000000 in
theorem behind_any (c : Cir) (l : List Tri) (ks : List Int) (cl : Nat) (sv wv v kv : Value) (w : World) (hv : CirAt w sv wv c) (hl : TrAt w v l) (hk : InAt w kv ks) (ht : TVal c l) (hks : ∀ k ∈ ks, 0 ≤ k ∧ k < l.length) (h2 : cl < 1048576) :
    Calls Try.prog 114 #[cirV c sv wv, v, kv, .int .i64 cl] w fun e w' => e = .returned (.int .i64 (behM c l ks cl : Nat)) ∧ Below w.heap.size w w' := by
  have hb0 := (Below.refl w.heap.size w).alloc (Nat.le_refl _) (cirO c sv wv)
  have HB := Lib.hid hb0
  have K0 := Lib.hid (block_new w (cirO c sv wv) w.heap.size rfl)
  have HV := Lib.hid (hv.below hb0 (Nat.le_refl _))
  have HT := Lib.hid (hl.below hb0 (Nat.le_refl _))
  have HK := Lib.hid (hk.below hb0 (Nat.le_refl _))
  have HTV := Lib.hid ht
  have HKS := Lib.hid hks
  have HY := Lib.hid (fun k h1 h2 => beh_yes (c := c) (l := l) (ks := ks) (cl := cl) (k := k) h1 h2)
  have HN := Lib.hid (fun h => beh_no (c := c) (l := l) (ks := ks) (cl := cl) h)
  obtain ⟨ta, tcap, rfl, _, m2, _⟩ := hl
  obtain ⟨ka, kcap, rfl, _, m4, _⟩ := hk
  clear hb0 hv ht hks
  go_enter Try.func114, Try.ntmps114
  go_wp2_with fail
  generalize w.alloc (cirO c sv wv) = wA at *
  go_loopw [13] (fun i wr => ∃ k : Nat, k ≤ ks.length ∧ i = .int .i64 k ∧ Hid (Below wA.heap.size wA wr) ∧ Hid (∀ j, j < k → toldB c (l.getD (ks.getD j 0).toNat Tri.zero) cl = false)) (fun i _ => ks.length - (intOf i).toNat)
  case atStart => exact ⟨0, Nat.zero_le _, rfl, Lib.hid (Below.refl _ _), Lib.hid (fun j hj => by omega)⟩
  case round =>
    obtain ⟨k, hk, rfl, hb, hP⟩ := hrel
    by_cases hlt : k < ks.length
    · obtain ⟨_, _, e1, _, _, hcc⟩ := HK.out
      injection e1 with e1 e2 e3
      subst e1
      obtain ⟨b, off, rfl, hbl, hcc⟩ := hcc (by omega)
      have g1 := (hb.out.cell (p := ⟨b, off + k, none⟩) hbl).trans (hcc k hlt)
      obtain ⟨p1, p2⟩ := HKS.out _ (getD_mem hlt 0)
      have HYK := Lib.hid (HY.out k hlt)
      obtain ⟨p, hp⟩ : ∃ p : Nat, ks.getD k 0 = p := ⟨(ks.getD k 0).toNat, by omega⟩
      have HPP := Lib.hid hp
      rw [hp] at g1 p1 p2 HYK
      rw [Int.toNat_natCast] at HYK
      have hpl : p < l.length := by omega
      obtain ⟨_, _, e4, _, _, tcc⟩ := HT.out
      injection e4 with e4 e5 e6
      subst e4
      obtain ⟨tb, toff, rfl, htl, tcc⟩ := tcc (by omega)
      obtain ⟨g2, g3⟩ := tr_at hb.out htl tcc hpl
      have htl2 := Nat.lt_of_lt_of_le htl hb.out.size
      have HTK := Lib.hid (HTV.out.t _ (getD_mem hpl Tri.zero))
      have HLG := Lib.hid (rfl : l.getD p Tri.zero = l.getD p Tri.zero)
      obtain ⟨t, hte⟩ : ∃ t, l.getD p Tri.zero = t := ⟨_, rfl⟩
      have HTE := Lib.hid hte
      rw [hte] at g2 g3 HTK HYK
      clear hte HLG hp
      have y1 := bw_cells (B := wr.heap.size) (keepZ K0.out hb.out) (lt_of_block (keepZ K0.out hb.out))
      have y2 := bw_cell (B := wr.heap.size) g2 htl2
      have y3 := bw_cell (B := wr.heap.size) g3 htl2
      have HVR := Lib.hid (HV.out.below hb.out (Nat.le_refl _))
      have hX : Hid (∀ x : BW wr.heap.size wr, CirAt x.w sv wv c) := fun x => HVR.out.below x.b (Nat.le_refl _)
      have k1 : (0 : Int) ≤ k := by omega
      have k2 : (k : Int) < ks.length := by omega
      clear hcc tcc e2 e3 e5 e6 g2 g3
      obtain ⟨q, hq⟩ : ∃ q, toldB c t cl = q := ⟨_, rfl⟩
      have HQ := Lib.hid hq
      clear hq
      go_wp2_with fail
      refine wp_region_below (by kernel_rfl) (by kernel_rfl) (Below.refl wr.heap.size wr) ?_
      repeat ((with_reducible refine wpQuiet_step (fun K hK => ?_)); go_simp; first | (refine hK _ ?_; clear hK K) | (apply Exists.intro; refine ⟨fun _ => ?_, hK _ ?_⟩; ((go_at_call 148; exact bw_call (Nat.le_refl _) (shows_is q c t sv wv cl _ (hX.out _) HTV.out.cv HTK.out h2 HQ.out))); clear hK K))
      refine wpQuiet_nil ?_
      intro wq hwq0
      have hwq := bw_out hwq0
      clear hwq0
      have HBQ := Lib.hid (hb.out.trans (hwq.mono hb.out.size))
      clear hwq y1 y2 y3
      cases q
      · go_wp2_with fail
        go_roundw
        case rel => exact ⟨k + 1, hlt, by go_num, HBQ, Lib.hid (fun j hj => by
          by_cases e : j = k
          · rw [e, HPP.out, Int.toNat_natCast, HTE.out]; exact HQ.out
          · exact hP.out j (by omega))⟩
        case measure => simp [intOf]; omega
      · have HR := Lib.hid (HYK.out HQ.out)
        go_wp2_with fail
        go_ret
        exact ⟨ret_int (by rw [HR.out]; rfl), HB.out.trans (HBQ.out.mono HB.out.size)⟩
    · obtain rfl : k = ks.length := by omega
      have HR := Lib.hid (HN.out hP.out)
      go_wp2_with fail
      go_ret
      exact ⟨ret_int (by rw [HR.out]), HB.out.trans (hb.out.mono HB.out.size)⟩

theorem ups_no {c : Cir} {u : List Ups} {k : Nat} (hk : k < u.length) (h : okU c (prv u k) (u.getD k Ups.zero) = false) : upsB c u = false := by
  unfold upsB
  rw [Bool.and_eq_false_iff]
  right
  rw [List.all_eq_false]
  exact ⟨k, List.mem_range.2 hk, by rw [h]; simp⟩
theorem ups_yes {c : Cir} {u : List Ups} (hn : u.length ≤ 40) (h : ∀ k, k < u.length → okU c (prv u k) (u.getD k Ups.zero) = true) : upsB c u = true := by
  unfold upsB
  rw [decide_eq_true hn, Bool.true_and, List.all_eq_true]
  exact fun k hk => h k (List.mem_range.1 hk)
theorem ups_many {c : Cir} {u : List Ups} (hn : 40 < u.length) : upsB c u = false := by
  unfold upsB
  rw [decide_eq_false (by omega), Bool.false_and]

theorem late_val (b x : Ups) : lateB b x = ((x.ni == b.ni) && (x.ki == 1) && (b.ki == 2)) := by
  unfold lateB
  rw [Bool.decide_and, Bool.decide_and, Bool.and_assoc]; rfl

set_option maxRecDepth 100000 in
set_option maxHeartbeats 4000000 in
theorem careU_any (c : Cir) (u : List Ups) (sv wv v : Value) (w : World) (hv : CirAt w sv wv c) (hu : UpAt w v u) (hc : CVal c) :
    Calls Try.prog 111 #[cirV c sv wv, v] w fun e w' => e = .returned (.bool (upsB c u)) ∧ Below w.heap.size w w' := by
  have HB0 := Lib.hid ((Below.refl w.heap.size w).alloc (Nat.le_refl _) (cirO c sv wv))
  have hb0 := blw2 w (cirO c sv wv) (upO ⟨0, 1, 0⟩)
  have HB := Lib.hid hb0
  have K0 := Lib.hid (two_od w (cirO c sv wv) (upO ⟨0, 1, 0⟩))
  have K1 := Lib.hid (two_nw w (cirO c sv wv) (upO ⟨0, 1, 0⟩))
  have HV := Lib.hid (hv.below hb0 (Nat.le_refl _))
  have HU := Lib.hid (hu.below hb0 (Nat.le_refl _))
  have HV0 := Lib.hid hv
  have HC := Lib.hid hc
  have HNO := Lib.hid (fun k => ups_no (c := c) (u := u) (k := k))
  have HYE := Lib.hid (fun h h2 => ups_yes (c := c) (u := u) h h2)
  have HSZ := Lib.hid (show ((w.alloc (cirO c sv wv)).alloc (upO ⟨0, 1, 0⟩)).heap.size = w.heap.size + 2 by simp only [size_alloc])
  have HU0 := Lib.hid hu
  obtain ⟨ua, ucap, rfl, n1, n2, _⟩ := hu
  clear hb0 hv hc HU
  by_cases h40 : (40 : Int) < u.length
  · have HR := Lib.hid (ups_many (c := c) (show 40 < u.length by omega))
    go_enter Try.func111, Try.ntmps111
    go_wp2_with fail
    go_ret
    exact ⟨ret_bool HR.out.symm, HB0.out⟩
  go_enter Try.func111, Try.ntmps111
  go_wp2_with fail
  generalize (w.alloc (cirO c sv wv)).alloc (upO ⟨0, 1, 0⟩) = wA at *
  go_loopw [15] (fun i wr => ∃ k : Nat, k ≤ u.length ∧ i = .int .i64 k ∧ Hid (Below (w.heap.size + 1) wA wr) ∧ Hid (wr.heap[w.heap.size + 1]? = some (upO (prv u k))) ∧ Hid (∀ j, j < k → okU c (prv u j) (u.getD j Ups.zero) = true)) (fun i _ => u.length - (intOf i).toNat)
  case atStart => exact ⟨0, Nat.zero_le _, rfl, Lib.hid (Below.refl _ _), K1, Lib.hid (fun j hj => by omega)⟩
  case round =>
    obtain ⟨k, hk, rfl, hb, hP, hall⟩ := hrel
    have hsz0 := HSZ.out
    have hszr := hb.out.size
    have HBW := Lib.hid (HB.out.trans (hb.out.mono (by omega)))
    by_cases hlt : k < u.length
    · obtain ⟨_, _, e1, _, _, hcc⟩ := HU0.out
      injection e1 with e1 e2 e3
      subst e1
      obtain ⟨b, off, rfl, hbl, hcc⟩ := hcc (by omega)
      obtain ⟨g1, g2, g3⟩ := up_at HBW.out hbl hcc hlt
      have hbl2 := Nat.lt_of_lt_of_le hbl HBW.out.size
      have hok0 : okU c (prv u k) (u.getD k Ups.zero) = (!lateB (prv u k) (u.getD k Ups.zero) && decide ((prv u k).ni ≤ (u.getD k Ups.zero).ni ∧ (u.getD k Ups.zero).ni ≤ 1000) && isU c (u.getD k Ups.zero)) := rfl
      have HNX := Lib.hid (fun h => HNO.out k hlt h)
      have HPS := Lib.hid (show prv u (k + 1) = u.getD k Ups.zero from rfl)
      generalize hxx : u.getD k Ups.zero = X at *
      generalize hbb : prv u k = B at *
      have HXX := Lib.hid hxx
      have HBB := Lib.hid hbb
      obtain ⟨xn, xk, xu⟩ := X
      obtain ⟨bn, bk, bu⟩ := B
      have HOK := Lib.hid hok0
      have k1 : (0 : Int) ≤ k := by omega
      have k2 : (k : Int) < u.length := by omega
      have kx := block_new wr (upO ⟨xn, xk, xu⟩) wr.heap.size rfl
      have kb := block_alloc hP.out (upO ⟨xn, xk, xu⟩)
      have kc := block_alloc ((hb.out.block w.heap.size (by omega)).trans K0.out) (upO ⟨xn, xk, xu⟩)
      have bX := (Below.refl wr.heap.size wr).alloc (Nat.le_refl _) (upO ⟨xn, xk, xu⟩)
      have HVX := Lib.hid ((HV0.out.below HBW.out (Nat.le_refl _)).below bX (Nat.le_refl _))
      clear hcc e2 e3 hxx hbb hok0 hP
      dsimp only at g1 g2 g3
      go_upto_region 7 with fail
      generalize wr.alloc (upO ⟨xn, xk, xu⟩) = wX at *
      have KX := Lib.hid kx
      have KB := Lib.hid kb
      have KC := Lib.hid kc
      have BX := Lib.hid (hb.out.trans (bX.mono (by omega)))
      have cx := block_cell kx
      have cb := block_cell kb
      have cc := block_cell kc
      clear kx kb kc bX g1 g2 g3
      go_cut [8] (fun s8 wx => s8 = .bool (lateB ⟨bn, bk, bu⟩ ⟨xn, xk, xu⟩) ∧ wx = wX)
      case first =>
        cases h1 : (xn == bn) <;> cases h2 : (xk == 1) <;> cases h3 : (bk == 2)
        all_goals
          go_wp2_with fail
          go_meet
          exact ⟨by rw [late_val]; dsimp only; rw [h1, h2, h3]; rfl, rfl⟩
      case rest =>
        obtain ⟨rfl, rfl⟩ := hcut
        have hokv : okU c ⟨bn, bk, bu⟩ ⟨xn, xk, xu⟩ = (!lateB ⟨bn, bk, bu⟩ ⟨xn, xk, xu⟩ && decide (bn ≤ xn ∧ xn ≤ 1000) && isU c ⟨xn, xk, xu⟩) := HOK.out
        cases hl : lateB ⟨bn, bk, bu⟩ ⟨xn, xk, xu⟩
        · cases hq : decide (bn ≤ xn ∧ xn ≤ 1000)
          · have HR := Lib.hid (HNX.out (by rw [hokv, hl, hq]; rfl))
            have HQ := Lib.hid hq
            clear hokv hl hq
            go_wp2_with (go_at_call 75; refine (cwithin_is _ _ _ _ _ HQ.out).mono ?_; rintro e w5 ⟨rfl, rfl⟩)
            go_ret
            exact ⟨ret_bool HR.out.symm, HB.out.trans (BX.out.mono (by omega))⟩
          · have HQ := Lib.hid hq
            obtain ⟨q2, hq2⟩ : ∃ q, isU c ⟨xn, xk, xu⟩ = q := ⟨_, rfl⟩
            have HQ2 := Lib.hid hq2
            have HOV := Lib.hid (show okU c ⟨bn, bk, bu⟩ ⟨xn, xk, xu⟩ = q2 by rw [hokv, hl, hq, hq2]; rfl)
            clear hokv hl hq hq2
            go_wp2_with (go_at_call 75; refine (cwithin_is _ _ _ _ _ HQ.out).mono ?_; rintro e w5 ⟨rfl, rfl⟩)
            refine (rcond_is HQ2.out (cisU_any c ⟨xn, xk, xu⟩ sv wv _ HVX.out HC.out)).mono ?_
            rintro e w5 ⟨rfl, hb5⟩
            have BX5 := Lib.hid (BX.out.trans (hb5.mono (by have := BX.out.size; omega)))
            have kb5 := keepZ KB.out hb5
            have kx5 := keepZ KX.out hb5
            clear hb5 cx cb cc
            cases q2
            · have HR := Lib.hid (HNX.out HOV.out)
              go_wp2_with fail
              go_ret
              exact ⟨ret_bool HR.out.symm, HB.out.trans (BX5.out.mono (by omega))⟩
            · have cx := block_cell kx5
              have cb := block_cell kb5
              have fb := block_free kb5
              have zb := lt_of_block kb5
              have KB5 := Lib.hid (block_set (block_set (block_set kb5 0 (.int .i64 xn)) 1 (.int .i64 xk)) 2 (.int .i64 xu))
              have BX6 := Lib.hid (((BX5.out.setCell (p := ⟨w.heap.size + 1, 0, none⟩) (Nat.le_refl _) (.int .i64 xn)).setCell (p := ⟨w.heap.size + 1, 1, none⟩) (Nat.le_refl _) (.int .i64 xk)).setCell (p := ⟨w.heap.size + 1, 2, none⟩) (Nat.le_refl _) (.int .i64 xu))
              clear kx5 kb5
              go_wp2_with fail
              go_roundw
              case rel => exact ⟨k + 1, hlt, by go_num, BX6, by rw [HPS.out]; exact Lib.hid KB5.out, Lib.hid (fun j hj => by
                by_cases e : j = k
                · rw [e, HXX.out, HBB.out]; exact HOV.out
                · exact hall.out j (by omega))⟩
              case measure => simp [intOf]; omega
        · have HR := Lib.hid (HNX.out (by rw [hokv, hl]; rfl))
          clear hokv hl
          go_wp2_with fail
          go_ret
          exact ⟨ret_bool HR.out.symm, HB.out.trans (BX.out.mono (by omega))⟩
    · obtain rfl : k = u.length := by omega
      have HR := Lib.hid (HYE.out (by omega) hall.out)
      go_wp2_with fail
      go_ret
      exact ⟨ret_bool HR.out.symm, HBW.out⟩

end Go.Proofs.Ytbiihhokcmdlhaa
