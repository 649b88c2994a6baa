/- Walks of layer 1 (drive): Check, and the functions that take a function. -/
import Derived.Test.YtpoenjnpfodfpaaDw
namespace Go.Proofs.Ytpoenjnpfodfpaa
open Go.RowKit

set_option maxHeartbeats 400000 in
theorem bad_any (f d : Int) (w : World) :
    Calls Try.prog 52 #[.agg #[.int .i64 f, .int .i64 d]] w fun e w' => e = .returned (.bool (brakeBad (f, d))) ∧ Below w.heap.size w w' := by
  go_enter Try.func52, Try.ntmps52
  go_wp2_with (go_at_call 45; refine (within_any _ _ _ _).mono ?_; rintro e w' ⟨rfl, rfl⟩)
  all_goals
    go_ret
    refine ⟨ret_bool ?_, (Below.refl _ _).alloc (Nat.le_refl _) _⟩
    simp [brakeBad]
    try omega

theorem any_false_of {α : Type} {d : α} {p : α → Bool} {l : List α} (h : ∀ i, i < l.length → p (l.getD i d) = false) : l.any p = false := by
  rw [List.any_eq_false]
  intro x hx
  obtain ⟨i, hi, rfl⟩ := List.getElem_of_mem hx
  have := h i hi
  rw [List.getD_eq_getElem?_getD, List.getElem?_eq_getElem hi] at this
  simpa using this

theorem any_true_of {α : Type} {d : α} {p : α → Bool} {l : List α} {i : Nat} (hi : i < l.length) (h : p (l.getD i d) = true) : l.any p = true := by
  rw [List.any_eq_true]
  rw [List.getD_eq_getElem?_getD, List.getElem?_eq_getElem hi] at h
  exact ⟨l[i], List.getElem_mem hi, h⟩

/-- The answer of an index function: not below 0 just if there is one. -/
def IdxRes (P : Bool) (w : World) (e : Ending) (w' : World) : Prop := ∃ r : Int, e = .returned (.int .i64 r) ∧ decide (0 ≤ r) = P ∧ Below w.heap.size w w'

set_option maxHeartbeats 400000 in
theorem indexBrake_any (v : Value) (bs : List (Int × Int)) (w : World) (hv : BrAt w v bs) :
    Calls Try.prog 70 #[v, .func (.func 52) #[] #[]] w (IdxRes (bs.any brakeBad) w) := by
  obtain ⟨a, cap, rfl, hn, hcap, hc⟩ := hv
  have HC := Lib.hid hc
  clear hc
  go_enter Try.func70, Try.ntmps70
  go_wp2_with fail
  go_loopw [8] (fun i wr => ∃ k : Nat, k ≤ bs.length ∧ i = .int .i64 k ∧ Below w.heap.size w wr ∧ Hid (∀ i, i < k → brakeBad (bs.getD i (0, 0)) = false)) (fun i _ => bs.length - (intOf i).toNat)
  case atStart => exact ⟨0, Nat.zero_le _, rfl, Below.refl _ _, fun i hi => by omega⟩
  case round =>
    obtain ⟨k, hk, rfl, hb, hf⟩ := hrel
    by_cases hlt : k < bs.length
    · obtain ⟨b, off, rfl, hbl, hc⟩ := HC.out (by omega)
      obtain ⟨c1, c2⟩ := hc k hlt
      have g1 := (hb.cell (p := ⟨b, off + k * 2, none⟩) hbl).trans c1
      have g2 := (hb.cell (p := ⟨b, off + k * 2 + 1, none⟩) hbl).trans c2
      clear hc c1 c2
      generalize hq0 : bs.getD k (0, 0) = q at g1 g2
      obtain ⟨f, d⟩ := q
      have Hq := Lib.hid hq0
      clear hq0
      go_wp2_with fail
      refine (bad_any _ _ _).mono ?_
      rintro e w1 ⟨rfl, hb1⟩
      have hb2 := hb.trans (hb1.mono hb.size)
      clear hb hb1 g1 g2
      cases hq : brakeBad (f, d)
      · have HQ := Lib.hid hq
        clear hq
        go_wp2
        go_roundw
        case rel => exact ⟨k + 1, hlt, by go_num, hb2, fun i hi => by
          by_cases hik : i = k
          · rw [hik, Hq.out]; exact HQ.out
          · exact hf.out i (by omega)⟩
        case measure => simp [intOf]; omega
      · have HQ := Lib.hid hq
        clear hq
        go_wp2
        go_ret
        exact ⟨k, rfl, by rw [any_true_of (d := (0, 0)) hlt (by rw [Hq.out]; exact HQ.out)]; simp, hb2⟩
    · go_wp2
      go_ret
      exact ⟨-1, rfl, by rw [any_false_of (d := (0, 0)) (fun i hi => hf.out i (by omega))]; simp, hb⟩

set_option maxHeartbeats 400000 in
theorem containsBrake_any (v : Value) (bs : List (Int × Int)) (w : World) (hv : BrAt w v bs) :
    Calls Try.prog 53 #[v, .func (.func 52) #[] #[]] w fun e w' => e = .returned (.bool (bs.any brakeBad)) ∧ Below w.heap.size w w' := by
  go_enter Try.func53, Try.ntmps53
  go_wp2_with fail
  refine (indexBrake_any _ _ _ hv).mono ?_
  rintro e w1 ⟨r, rfl, hr, hb⟩
  have HR := Lib.hid hr
  clear hr
  go_wp2
  go_ret
  exact ⟨ret_bool HR.out, hb⟩

end Go.Proofs.Ytpoenjnpfodfpaa
