/- Walks of layer 1 (drive), the leaves. -/
import Derived.Test.YtpoenjnpfodfpaaRows
import Derived.WalkKit
import Derived.WalkSpells
import Derived.WalkLawsBesides
import Derived.Lib.Hide
import Derived.BigQuiet
import Derived.Deep.QuietTactic
import Derived.Deep.DeepFit
import Derived.Test.YtpoenjnpfodfpaaDm
namespace Go.Proofs.Ytpoenjnpfodfpaa
open Go.RowKit

theorem ret_int {k : IntKind} {a b : Int} (h : a = b) : Ending.returned (.int k a) = .returned (.int k b) := by rw [h]
theorem ret_bool {a b : Bool} (h : a = b) : Ending.returned (.bool a) = .returned (.bool b) := by rw [h]

set_option maxHeartbeats 400000 in
theorem within_any (n lo hi : Int) (w : World) :
    Calls Try.prog 45 #[.int .i64 n, .int .i64 lo, .int .i64 hi] w fun e w' => e = .returned (.bool (decide (lo ≤ n) && decide (n ≤ hi))) ∧ w = w' := by
  go_enter Try.func45, Try.ntmps45
  go_wp2
  all_goals (go_ret; exact ⟨ret_bool (by simp; omega), rfl⟩)

set_option maxHeartbeats 400000 in
theorem rwithin_any (n lo hi : Int) (w : World) :
    Calls Try.prog 47 #[.int .i64 n, .int .i64 lo, .int .i64 hi] w fun e w' => e = .returned (.bool (decide (lo ≤ n) && decide (n ≤ hi))) ∧ w = w' := by
  go_enter Try.func47, Try.ntmps47
  go_wp2
  all_goals (go_ret; exact ⟨ret_bool (by simp; omega), rfl⟩)

set_option maxHeartbeats 400000 in
theorem floor_any (n d : Int) (w : World) (h1 : -1000000000000 ≤ n) (h2 : n ≤ 1000000000000) (h3 : 0 < d) :
    Calls Try.prog 68 #[.int .i64 n, .int .i64 d] w fun e w' => e = .returned (.int .i64 (n / d)) ∧ w = w' := by
  by_cases ht : n.tmod d < 0
  · have e := tdiv_neg_step h3 ht
    have b := div_bd h3 h1 h2
    have H := Lib.hid e
    have b1 : -1000000000000 ≤ n.tdiv d - 1 := by omega
    have b2 : n.tdiv d - 1 ≤ 1000000000000 := by omega
    clear e b
    go_enter Try.func68, Try.ntmps68
    go_wp2
    go_ret
    exact ⟨ret_int H.out, rfl⟩
  · have e := tdiv_pos_step h3 (by omega : 0 ≤ n.tmod d)
    have H := Lib.hid e
    clear e
    go_enter Try.func68, Try.ntmps68
    go_wp2
    go_ret
    exact ⟨ret_int H.out, rfl⟩

theorem mul_tdiv_bd {n d : Int} (hd : 0 < d) (h1 : -1000000000000 ≤ n) (h2 : n ≤ 1000000000000) : -2000000000000 ≤ n.tdiv d * d ∧ n.tdiv d * d ≤ 2000000000000 ∧ (n < n.tdiv d * d → n.tdiv d - 1 = n / d) ∧ (n.tdiv d * d ≤ n → n.tdiv d = n / d) ∧ -1000000000001 ≤ n.tdiv d ∧ n.tdiv d ≤ 1000000000001 := by
  have e := Int.mul_tdiv_add_tmod n d
  have e2 : n.tdiv d * d = d * n.tdiv d := Int.mul_comm _ _
  have a1 := Int.lt_tmod_of_pos n hd
  have a2 := Int.tmod_lt_of_pos n hd
  have b := div_bd hd h1 h2
  by_cases ht : n.tmod d < 0
  · have h := tdiv_neg_step hd ht
    have hn : n < 0 := by
      by_cases hn : 0 ≤ n
      · have := Int.tmod_nonneg d hn; omega
      · omega
    have : n ≤ n.tmod d := by
      have := Int.tdiv_nonneg (a := -n) (b := d) (by omega) (by omega)
      rw [Int.neg_tdiv] at this
      have := Int.mul_nonpos_of_nonneg_of_nonpos (a := d) (b := n.tdiv d) (by omega) (by omega)
      omega
    refine ⟨by omega, by omega, fun _ => h, fun h' => by omega, by omega, by omega⟩
  · have h := tdiv_pos_step hd (by omega : 0 ≤ n.tmod d)
    have : n.tmod d ≤ n ∨ n.tmod d = 0 := by
      by_cases hn : 0 ≤ n
      · left
        have := Int.tdiv_nonneg (a := n) (b := d) hn (by omega)
        have := Int.mul_nonneg (a := d) (b := n.tdiv d) (by omega) this
        omega
      · right
        have := Int.tmod_nonneg (a := -n) d (by omega)
        rw [Int.neg_tmod] at this
        omega
    refine ⟨by omega, by omega, fun h' => by omega, fun _ => h, by omega, by omega⟩

set_option maxHeartbeats 400000 in
theorem down_any (n d : Int) (w : World) (h1 : -1000000000000 ≤ n) (h2 : n ≤ 1000000000000) (h3 : 0 < d) :
    Calls Try.prog 69 #[.int .i64 n, .int .i64 d] w fun e w' => e = .returned (.int .i64 (n / d)) ∧ w = w' := by
  obtain ⟨b1, b2, b3, b4, b5, b6⟩ := mul_tdiv_bd h3 h1 h2
  have H3 := Lib.hid b3
  have H4 := Lib.hid b4
  clear b3 b4
  go_enter Try.func69, Try.ntmps69
  go_wp2
  all_goals go_ret
  · exact ⟨ret_int (H3.out (by assumption)), rfl⟩
  · exact ⟨ret_int (H4.out (by assumption)), rfl⟩

set_option maxHeartbeats 1000000 in
theorem next_any (E : Esc) (bv : Value) (v load f : Int) (w : World) (hE : E.Num) (l1 : 0 ≤ load) (l2 : load ≤ 100000) (f1 : 0 ≤ f) (f2 : f ≤ 100000000) (v1 : -100000000000 ≤ v) (v2 : v ≤ 100000000000) :
    Calls Try.prog 46 #[escV E bv, .int .i64 v, .int .i64 load, .int .i64 f] w fun e w' => e = .returned (.int .i64 (nextM E v load f)) ∧ Below w.heap.size w w' := by
  obtain ⟨g1, g2⟩ := hE.mul l1 l2
  obtain ⟨e1, e2, p1, p2, d1, d2, m1, m2⟩ := hE
  obtain ⟨b11, b12⟩ := div_bd (n := E.pu * load - (E.dr + f)) (d := E.em + load) (B := 1000000000) (by omega) (by omega) (by omega)
  obtain ⟨b21, b22⟩ := div_bd (n := -(E.pu * load) - (E.dr + f)) (d := E.em + load) (B := 1000000000) (by omega) (by omega) (by omega)
  obtain ⟨up, em, pu, dr, mo, bs⟩ := E
  dsimp only at *
  cases up
  all_goals
    go_enter Try.func46, Try.ntmps46
    go_wp2_with (go_at_call 68; refine (floor_any _ _ _ (by omega) (by omega) (by omega)).mono ?_; rintro e w' ⟨rfl, rfl⟩)
    all_goals
      go_ret
      refine ⟨ret_int ?_, (Below.refl _ _).alloc (Nat.le_refl _) _⟩
      simp only [nextM, Bool.false_eq_true, if_true, if_false, Int.neg_neg]
      repeat' split
      all_goals omega

set_option maxHeartbeats 1000000 in
theorem rnext_any (E : Esc) (bv : Value) (v load f : Int) (w : World) (hE : E.Num) (l1 : 0 ≤ load) (l2 : load ≤ 100000) (f1 : 0 ≤ f) (f2 : f ≤ 100000000) (v1 : -100000000000 ≤ v) (v2 : v ≤ 100000000000) :
    Calls Try.prog 48 #[escV E bv, .int .i64 v, .int .i64 load, .int .i64 f] w fun e w' => e = .returned (.int .i64 (nextM E v load f)) ∧ Below w.heap.size w w' := by
  obtain ⟨g1, g2⟩ := hE.mul l1 l2
  obtain ⟨e1, e2, p1, p2, d1, d2, m1, m2⟩ := hE
  obtain ⟨b11, b12⟩ := div_bd (n := E.pu * load - (E.dr + f)) (d := E.em + load) (B := 1000000000) (by omega) (by omega) (by omega)
  obtain ⟨b21, b22⟩ := div_bd (n := -(E.pu * load) - (E.dr + f)) (d := E.em + load) (B := 1000000000) (by omega) (by omega) (by omega)
  obtain ⟨up, em, pu, dr, mo, bs⟩ := E
  dsimp only at *
  cases up
  all_goals
    go_enter Try.func48, Try.ntmps48
    go_wp2_with fail
    go_quiet (fail)
    go_wp2_with (go_at_call 69; refine (down_any _ _ _ (by omega) (by omega) (by omega)).mono ?_; rintro e w' ⟨rfl, rfl⟩)
    all_goals
      go_ret
      refine ⟨ret_int ?_, below_drewN ((Below.refl _ _).alloc (Nat.le_refl _) _) _⟩
      simp only [nextM, Bool.false_eq_true, if_true, if_false, Int.neg_neg]
      repeat' split
      all_goals omega

end Go.Proofs.Ytpoenjnpfodfpaa
