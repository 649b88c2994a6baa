/- The plain mathematics of layer 1 (drive): escalators, stops, the next speed; and how an escalator lies in memory. Nothing here speaks of the program. -/
import Derived.WalkKit
namespace Go.Proofs.Ytpoenjnpfodfpaa
open Go.RowKit

/-- An escalator: its brakes as (force, delay). -/
structure Esc where
  up : Bool
  em : Int
  pu : Int
  dr : Int
  mo : Int
  bs : List (Int × Int)

/-- A stop. -/
structure Stp where
  sp : Int
  lo : Int
  hi : Int
  fa : Int

/-- The brakes of a slice value lie in memory. -/
def BrAt (w : World) (v : Value) (bs : List (Int × Int)) : Prop :=
  ∃ a cap, v = .slice a bs.length cap ∧ bs.length ≤ cap ∧ cap ≤ 9223372036854775807 ∧
    (0 < bs.length → ∃ b off, a = some ⟨b, off, none⟩ ∧ b < w.heap.size ∧
      ∀ i, i < bs.length → w.cell? ⟨b, off + i * 2, none⟩ = some (.int .i64 (bs.getD i (0, 0)).1) ∧ w.cell? ⟨b, off + i * 2 + 1, none⟩ = some (.int .i64 (bs.getD i (0, 0)).2))

abbrev escV (E : Esc) (v : Value) : Value := .agg #[.bool E.up, .int .i64 E.em, .int .i64 E.pu, .int .i64 E.dr, .int .i64 E.mo, v]
abbrev stpV (S : Stp) : Value := .agg #[.int .i64 S.sp, .int .i64 S.lo, .int .i64 S.hi, .int .i64 S.fa]

theorem BrAt.below {w w' : World} {B : Nat} {v : Value} {bs : List (Int × Int)} (h : BrAt w v bs) (hb : Below B w w') (hB : w.heap.size ≤ B) : BrAt w' v bs := by
  obtain ⟨a, cap, rfl, h1, h2, h3⟩ := h
  refine ⟨a, cap, rfl, h1, h2, fun h => ?_⟩
  obtain ⟨b, off, rfl, hlt, hc⟩ := h3 h
  refine ⟨b, off, rfl, Nat.lt_of_lt_of_le hlt hb.size, fun i hi => ?_⟩
  obtain ⟨c1, c2⟩ := hc i hi
  exact ⟨(hb.cell (p := ⟨b, off + i * 2, none⟩) (by show b < B; omega)).trans c1, (hb.cell (p := ⟨b, off + i * 2 + 1, none⟩) (by show b < B; omega)).trans c2⟩

theorem tdiv_neg_step {n d : Int} (hd : 0 < d) (h : n.tmod d < 0) : n.tdiv d - 1 = n / d := by
  have h1 := Int.mul_tdiv_add_tmod n d
  have h2 := Int.lt_tmod_of_pos n hd
  have h3 : d * (n.tdiv d - 1) = d * n.tdiv d - d := by rw [Int.mul_sub, Int.mul_one]
  exact (((Int.ediv_emod_unique (a := n) (b := d) (r := n.tmod d + d) (q := n.tdiv d - 1) hd).2 ⟨by omega, by omega, by omega⟩).1).symm

theorem tdiv_pos_step {n d : Int} (hd : 0 < d) (h : 0 ≤ n.tmod d) : n.tdiv d = n / d := by
  have h1 := Int.mul_tdiv_add_tmod n d
  have h2 := Int.tmod_lt_of_pos n hd
  exact (((Int.ediv_emod_unique (a := n) (b := d) (r := n.tmod d) (q := n.tdiv d) hd).2 ⟨by omega, by omega, by omega⟩).1).symm

theorem div_bd {n d B : Int} (hd : 0 < d) (h1 : -B ≤ n) (h2 : n ≤ B) : -B ≤ n / d ∧ n / d ≤ B := by
  constructor
  · apply Int.le_ediv_of_mul_le hd
    have := Int.mul_le_mul_of_nonneg_left (a := 1) (b := d) (c := B) (by omega) (by omega)
    have e : -B * d = -(B * d) := by rw [Int.neg_mul]
    omega
  · apply Int.le_of_lt_add_one
    apply Int.ediv_lt_of_lt_mul hd
    have := Int.mul_le_mul_of_nonneg_left (a := 1) (b := d) (c := B + 1) (by omega) (by omega)
    omega

/-- The next speed (the document's 'How the band moves'). -/
def nextM (E : Esc) (v load f : Int) : Int :=
  let g := if E.up = true then -(E.pu * load) else E.pu * load
  let F := E.dr + f
  let m := E.em + load
  if 0 < v then max 0 (v + (g - F) / m) else if v < 0 then -max 0 (-v + (-g - F) / m) else if F < g then (g - F) / m else if F < -g then -((-g - F) / m) else 0

/-- The numbers of a valid escalator. -/
structure Esc.Num (E : Esc) : Prop where
  em1 : 1 ≤ E.em
  em2 : E.em ≤ 100000
  pu1 : 0 ≤ E.pu
  pu2 : E.pu ≤ 100
  dr1 : 0 ≤ E.dr
  dr2 : E.dr ≤ 10000000
  mo1 : 0 ≤ E.mo
  mo2 : E.mo ≤ 10000000

def brakeBad (b : Int × Int) : Bool := !(decide (0 ≤ b.1) && decide (b.1 ≤ 10000000)) || !(decide (0 ≤ b.2) && decide (b.2 ≤ 20))

/-- Is an escalator valid? -/
def Esc.ok (E : Esc) : Bool :=
  (decide (1 ≤ E.em) && decide (E.em ≤ 100000)) && (decide (0 ≤ E.pu) && decide (E.pu ≤ 100)) && (decide (0 ≤ E.dr) && decide (E.dr ≤ 10000000)) && (decide (0 ≤ E.mo) && decide (E.mo ≤ 10000000)) &&
    decide (E.bs.length ≤ 3) && !E.bs.any brakeBad

theorem Esc.ok_num {E : Esc} (h : E.ok = true) : E.Num := by
  simp only [Esc.ok, Bool.and_eq_true, decide_eq_true_eq] at h
  exact ⟨h.1.1.1.1.1.1, h.1.1.1.1.1.2, h.1.1.1.1.2.1, h.1.1.1.1.2.2, h.1.1.1.2.1, h.1.1.1.2.2, h.1.1.2.1, h.1.1.2.2⟩

theorem Esc.ok_len {E : Esc} (h : E.ok = true) : E.bs.length ≤ 3 := by
  simp only [Esc.ok, Bool.and_eq_true, decide_eq_true_eq] at h
  exact h.1.2

theorem Esc.ok_brake {E : Esc} (h : E.ok = true) {i : Nat} (hi : i < E.bs.length) : 0 ≤ (E.bs.getD i (0, 0)).1 ∧ (E.bs.getD i (0, 0)).1 ≤ 10000000 ∧ 0 ≤ (E.bs.getD i (0, 0)).2 ∧ (E.bs.getD i (0, 0)).2 ≤ 20 := by
  simp only [Esc.ok, Bool.and_eq_true, Bool.not_eq_true', List.any_eq_false] at h
  have := h.2 (E.bs.getD i (0, 0)) (by rw [List.getD_eq_getElem?_getD, List.getElem?_eq_getElem hi]; exact List.getElem_mem hi)
  simp only [brakeBad, Bool.or_eq_true, Bool.not_eq_true', Bool.and_eq_false_iff, decide_eq_false_iff_not] at this
  omega

def checkM (E : Esc) : Int := if E.ok = true then 0 else 10

theorem check_yes {E : Esc} (h1 : 1 ≤ E.em ∧ E.em ≤ 100000) (h2 : 0 ≤ E.pu ∧ E.pu ≤ 100) (h3 : 0 ≤ E.dr ∧ E.dr ≤ 10000000) (h4 : 0 ≤ E.mo ∧ E.mo ≤ 10000000) (h5 : (E.bs.length : Int) ≤ 3) (h6 : E.bs.any brakeBad = false) : 0 = checkM E := by
  have h5' : E.bs.length ≤ 3 := by omega
  unfold checkM
  rw [if_pos (by simp only [Esc.ok, h1, h2, h3, h4, h5', h6]; rfl)]

theorem check_no {E : Esc} (h : ¬(((1 ≤ E.em ∧ E.em ≤ 100000) ∧ (0 ≤ E.pu ∧ E.pu ≤ 100) ∧ (0 ≤ E.dr ∧ E.dr ≤ 10000000) ∧ (0 ≤ E.mo ∧ E.mo ≤ 10000000) ∧ (E.bs.length : Int) ≤ 3) ∧ E.bs.any brakeBad = false)) : 10 = checkM E := by
  unfold checkM
  rw [if_neg]
  intro hok
  have hl := Esc.ok_len hok
  obtain ⟨e1, e2, p1, p2, d1, d2, m1, m2⟩ := Esc.ok_num hok
  refine h ⟨⟨⟨e1, e2⟩, ⟨p1, p2⟩, ⟨d1, d2⟩, ⟨m1, m2⟩, by omega⟩, ?_⟩
  simp only [Esc.ok, Bool.and_eq_true, Bool.not_eq_true'] at hok
  exact hok.2

theorem Esc.Num.mul {E : Esc} (h : E.Num) {load : Int} (h1 : 0 ≤ load) (h2 : load ≤ 100000) : 0 ≤ E.pu * load ∧ E.pu * load ≤ 10000000 := by
  constructor
  · exact Int.mul_nonneg h.pu1 h1
  · have := Int.mul_le_mul h.pu2 h2 h1 (by omega)
    omega

/-- Does the brake k fail? -/
def failB (fa : Int) (k : Nat) : Bool := (fa / 2 ^ k) % 2 == 1

theorem bits_fail {fa : Int} {k : Nat} (hk : k ≤ 2) (h0 : 0 ≤ fa) (h7 : fa ≤ 7) : (bits BinOp.and IntKind.i64 (fa / 2 ^ k) 1 == 1) = failB fa k := by
  have hf : fa = 0 ∨ fa = 1 ∨ fa = 2 ∨ fa = 3 ∨ fa = 4 ∨ fa = 5 ∨ fa = 6 ∨ fa = 7 := by omega
  have hk : k = 0 ∨ k = 1 ∨ k = 2 := by omega
  rcases hf with rfl | rfl | rfl | rfl | rfl | rfl | rfl | rfl <;> rcases hk with rfl | rfl | rfl <;> decide

theorem bits_fail0 {fa : Int} {k : Nat} (hk : k ≤ 2) (h0 : 0 ≤ fa) (h7 : fa ≤ 7) : (bits BinOp.and IntKind.i64 (fa / 2 ^ k) 1 == 0) = !failB fa k := by
  have hf : fa = 0 ∨ fa = 1 ∨ fa = 2 ∨ fa = 3 ∨ fa = 4 ∨ fa = 5 ∨ fa = 6 ∨ fa = 7 := by omega
  have hk : k = 0 ∨ k = 1 ∨ k = 2 := by omega
  rcases hf with rfl | rfl | rfl | rfl | rfl | rfl | rfl | rfl <;> rcases hk with rfl | rfl | rfl <;> decide

/-- The force of those brakes below n together of which g says so. -/
def forceTo (bs : List (Int × Int)) (g : Nat → Bool) : Nat → Int
  | 0 => 0
  | n + 1 => forceTo bs g n + if g n = true then (bs.getD n (0, 0)).1 else 0

theorem forceTo_bd {E : Esc} (h : E.ok = true) (g : Nat → Bool) : ∀ n, n ≤ E.bs.length → 0 ≤ forceTo E.bs g n ∧ forceTo E.bs g n ≤ n * 10000000 := by
  intro n
  induction n with
  | zero => intro _; simp [forceTo]
  | succ n ih =>
    intro hn
    have i := ih (by omega)
    have b := Esc.ok_brake h (i := n) (by omega)
    simp only [forceTo]
    split <;> omega

theorem forceTo_bd3 {E : Esc} (h : E.ok = true) (g : Nat → Bool) : 0 ≤ forceTo E.bs g E.bs.length ∧ forceTo E.bs g E.bs.length ≤ 30000000 := by
  have := forceTo_bd h g E.bs.length (Nat.le_refl _)
  have := Esc.ok_len h
  omega

theorem forceTo_congr {bs : List (Int × Int)} {g h : Nat → Bool} : ∀ n, (∀ k, k < n → g k = h k) → forceTo bs g n = forceTo bs h n := by
  intro n
  induction n with
  | zero => intro _; rfl
  | succ n ih =>
    intro hn
    simp only [forceTo]
    rw [ih (fun k hk => hn k (by omega)), hn n (by omega)]

/-- Does the brake k grip at a tick? -/
def gripB (E : Esc) (S : Stp) (tick : Int) (k : Nat) : Bool := !failB S.fa k && decide ((E.bs.getD k (0, 0)).2 ≤ tick)
def gripM (E : Esc) (S : Stp) (tick : Int) : Int := forceTo E.bs (gripB E S tick) E.bs.length
def heldM (E : Esc) (S : Stp) : Int := forceTo E.bs (fun k => !failB S.fa k) E.bs.length

end Go.Proofs.Ytpoenjnpfodfpaa
