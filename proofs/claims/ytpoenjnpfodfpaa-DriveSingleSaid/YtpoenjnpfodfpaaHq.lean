/- The plain mathematics of layer 1 (drive), fifth part: better stops go no farther. Nothing here speaks of the program. -/
import Derived.Test.YtpoenjnpfodfpaaRd
namespace Go.Proofs.Ytpoenjnpfodfpaa
open Go.RowKit

theorem path_nonneg {E : Esc} {S : Stp} (hS : S.Num) (most : Bool) : ∀ t, t ≤ restN E S most → 0 ≤ pathM E S most t := by
  intro t
  induction t with
  | zero => intro _; exact hS.sp0
  | succ t ih =>
    intro ht
    have h0 := ih (by omega)
    have h1 := (restN_spec E S most).2.1 t (by omega)
    have h2 : 0 < pathM E S most t := by omega
    simp only [pathM]
    rw [(ext_at most hS.lohi).2.2]
    exact nextM_pos h2

/-- A better stop: the same band, brakes that grip at least as much, loads within, no greater speed. -/
structure Bett (E : Esc) (S : Stp) (E' : Esc) (S' : Stp) : Prop where
  up : E'.up = E.up
  em : E'.em = E.em
  pu : E'.pu = E.pu
  dr : E'.dr = E.dr
  lo : S.lo ≤ S'.lo
  hi : S'.hi ≤ S.hi
  sp : S'.sp ≤ S.sp
  grip : ∀ t : Nat, gripM E S t ≤ gripM E' S' t

theorem nextM_same {E E' : Esc} {v load f : Int} (h1 : E'.up = E.up) (h2 : E'.em = E.em) (h3 : E'.pu = E.pu) (h4 : E'.dr = E.dr) : nextM E' v load f = nextM E v load f := by
  unfold nextM
  rw [h1, h2, h3, h4]

theorem bett_path {E E' : Esc} {S S' : Stp} (hE : E.ok = true) (hS : S.Num) (hS' : S'.Num) (h : Bett E S E' S') : ∀ t, t ≤ restN E S true → t ≤ restN E' S' true → pathM E' S' true t ≤ pathM E S true t := by
  intro t
  induction t with
  | zero => intro _ _; exact h.sp
  | succ t ih =>
    intro h1 h2
    have i := ih (by omega) (by omega)
    have n0 := path_nonneg hS' true t (by omega : t ≤ restN E' S' true)
    have n1 := (restN_spec E' S' true).2.1 t (by omega)
    obtain ⟨a1, a2, a3⟩ := ext_at (E := E') (S := S') (v := pathM E' S' true t) (tick := t) true hS'.lohi
    have l0 := hS.lo0
    have f0 := (forceTo_bd3 hE (gripB E S t)).1
    have hlo := h.lo
    have hhi := h.hi
    have m1 := (ext_max hE (v := pathM E S true t) (tick := t) (load := (extM E' S' (pathM E' S' true t) t true).1) l0 (by omega) (by omega)).1
    have m2 := nextM_mono2 (Esc.ok_num hE) (v := pathM E' S' true t) (v' := pathM E S true t) (load := (extM E' S' (pathM E' S' true t) t true).1) (f := gripM E S t) (f' := gripM E' S' t) (by omega) f0 (h.grip t) (by omega) i
    simp only [pathM]
    rw [a3, nextM_same h.up h.em h.pu h.dr]
    omega

theorem bett_rest {E E' : Esc} {S S' : Stp} (hE : E.ok = true) (hS : S.Num) (hS' : S'.Num) (h : Bett E S E' S') (hr : pathM E S true (restN E S true) = 0) :
    pathM E' S' true (restN E' S' true) = 0 ∧ wayTo E' S' true (restN E' S' true) ≤ wayTo E S true (restN E S true) := by
  obtain ⟨r1, r2, r3⟩ := restN_spec E S true
  obtain ⟨s1, s2, s3⟩ := restN_spec E' S' true
  have hle : restN E' S' true ≤ restN E S true := by
    rcases Nat.lt_or_ge (restN E S true) (restN E' S' true) with hlt | hge
    · have a := bett_path hE hS hS' h (restN E S true) (Nat.le_refl _) (by omega)
      have b := path_nonneg hS' true (restN E S true) (by omega : restN E S true ≤ restN E' S' true)
      exact absurd (by omega) (s2 _ hlt)
    · exact hge
  have hz : pathM E' S' true (restN E' S' true) = 0 := by
    rcases Nat.lt_or_ge (restN E' S' true) 100 with hlt | hge
    · exact s3 hlt
    · have e : restN E' S' true = restN E S true := by omega
      have a := bett_path hE hS hS' h (restN E' S' true) hle (Nat.le_refl _)
      have b := path_nonneg hS' true (restN E' S' true) (Nat.le_refl _)
      rw [e] at a b
      rw [hr] at a
      rw [e]
      omega
  refine ⟨hz, ?_⟩
  rw [wayTo_wayG, wayTo_wayG]
  have a := wayG_le (u := pathM E' S' true) (v := pathM E S true) (restN E' S' true) (fun i _ hi => bett_path hE hS hS' h i (by omega) hi)
  have b := wayG_more (u := pathM E S true) (m := restN E' S' true) (restN E S true) hle (fun i _ hi => path_nonneg hS true i hi)
  omega

/-- Does the band stop within a limit, from each history? -/
def swB (E : Esc) (S : Stp) (limit : Int) : Bool := pathM E S true (restN E S true) == 0 && decide (wayTo E S true (restN E S true) ≤ limit)

abbrev Stp.at (S : Stp) (v : Int) : Stp := ⟨v, S.lo, S.hi, S.fa⟩

theorem at_num {S : Stp} (hS : S.Num) {v : Int} (h0 : 0 ≤ v) (h1 : v ≤ 1000) : (S.at v).Num := ⟨hS.lo0, hS.lohi, hS.hi1, h0, h1, hS.fa0, hS.fa7⟩

theorem sw_mono {E : Esc} {S : Stp} (hE : E.ok = true) (hS : S.Num) {v v' limit : Int} (h0 : 0 ≤ v') (h1 : v' ≤ v) (h2 : v ≤ 1000) (h : swB E (S.at v) limit = true) : swB E (S.at v') limit = true := by
  unfold swB at *
  simp only [Bool.and_eq_true, beq_iff_eq, decide_eq_true_eq] at h ⊢
  have b := bett_rest hE (at_num hS (by omega) h2) (at_num hS h0 (by omega)) (E' := E) (S' := S.at v') ⟨rfl, rfl, rfl, rfl, Int.le_refl _, Int.le_refl _, h1, fun t => Int.le_refl _⟩ h.1
  exact ⟨b.1, by omega⟩

/-- The greatest speed from which the band stops within a limit. -/
def fastN (E : Esc) (S : Stp) (limit : Int) : Nat := restG (fun i => if swB E (S.at (i + 1)) limit = true then 1 else 0) 1000

theorem fastN_eq {E : Esc} {S : Stp} {limit : Int} {r : Nat} (h1 : r ≤ 1000) (h2 : ∀ k : Nat, k < r → swB E (S.at (k + 1)) limit = true) (h3 : r < 1000 → swB E (S.at (r + 1)) limit = false) : fastN E S limit = r := by
  refine restG_eq h1 (fun i hi => ?_) (fun h => ?_)
  · rw [if_pos (h2 i hi)]; decide
  · rw [if_neg (by rw [h3 h]; decide)]

theorem fastN_spec (E : Esc) (S : Stp) (limit : Int) : fastN E S limit ≤ 1000 ∧ (∀ k : Nat, k < fastN E S limit → swB E (S.at (k + 1)) limit = true) ∧ (fastN E S limit < 1000 → swB E (S.at (fastN E S limit + 1)) limit = false) := by
  obtain ⟨a, b, c⟩ := restG_spec (fun i => if swB E (S.at (i + 1)) limit = true then 1 else 0) 1000
  refine ⟨a, fun k hk => ?_, fun h => ?_⟩
  · have := b k hk
    cases hq : swB E (S.at (k + 1)) limit
    · rw [hq] at this; simp at this
    · rfl
  · have := c h
    cases hq : swB E (S.at (fastN E S limit + 1)) limit
    · rfl
    · unfold fastN at hq; rw [hq] at this; simp at this

def fastR (E : Esc) (S : Stp) (limit : Int) : Pair := if checkStopM E S = 0 then (if 0 ≤ limit ∧ limit ≤ 10000000 then ⟨fastN E S limit, 0⟩ else ⟨0, 1⟩) else ⟨0, checkStopM E S⟩
theorem fastR_ok {E : Esc} {S : Stp} {limit : Int} (h : checkStopM E S = 0) (hl : 0 ≤ limit ∧ limit ≤ 10000000) : fastR E S limit = ⟨fastN E S limit, 0⟩ := by unfold fastR; rw [if_pos h, if_pos hl]
theorem fastR_arg {E : Esc} {S : Stp} {limit : Int} (h : checkStopM E S = 0) (hl : ¬(0 ≤ limit ∧ limit ≤ 10000000)) : fastR E S limit = ⟨0, 1⟩ := by unfold fastR; rw [if_pos h, if_neg hl]
theorem fastR_bad {E : Esc} {S : Stp} {limit : Int} (h : ¬checkStopM E S = 0) : fastR E S limit = ⟨0, checkStopM E S⟩ := by unfold fastR; rw [if_neg h]

theorem check_at {E : Esc} {S : Stp} (h : checkStopM E S = 0) {v : Int} (h0 : 0 ≤ v) (h1 : v ≤ 1000) : checkStopM E (S.at v) = 0 := by
  unfold checkStopM at *
  by_cases hE : E.ok = true
  · rw [if_pos hE] at *
    by_cases hS : S.ok E.bs.length = true
    · obtain ⟨a, b, c, d⟩ := ok_iff.1 hS
      rw [if_pos ((ok_iff (S := S.at v)).2 ⟨a, b, ⟨h0, h1⟩, d⟩)]
    · rw [if_neg hS] at h; omega
  · rw [if_neg hE] at h; omega

/-- What Distance says of a stop that is valid. -/
theorem dist_sw {E : Esc} {S : Stp} (h : checkStopM E S = 0) (limit : Int) : swB E S limit = ((distM E S).f == 0 && decide ((distM E S).b ≤ limit)) := by
  unfold swB distM
  rw [if_pos h]
  by_cases hr : pathM E S true (restN E S true) = 0
  · rw [if_pos hr, hr]
  · rw [if_neg hr]
    have : (pathM E S true (restN E S true) == 0) = false := by simpa using hr
    rw [this]
    rfl

end Go.Proofs.Ytpoenjnpfodfpaa
