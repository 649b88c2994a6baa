/- Walks of layer 3 (circuit): how many elements a set has, of both. -/
import Derived.Test.YtbkhfmigaehgaaaCw
import Derived.Test.YtbkhfmigaehgaaaMg
namespace Go.Proofs.Ytbkhfmigaehgaaa
open Go.RowKit

theorem of_all {f : Nat → Bool} {m : Nat} (h : (List.range m).all f = true) : ∀ n, n < m → f n = true := fun n hn => List.all_eq_true.1 h n (List.mem_range.2 hn)

set_option maxRecDepth 100000 in
set_option maxHeartbeats 2000000 in
theorem rones_any (n : Nat) (w : World) (hn : n < 1048576) :
    Calls Try.prog 50 #[.int .i64 n] w fun e w' => e = .returned (.int .i64 (ones n : Nat)) ∧ w = w' := by
  go_enter Try.func50, Try.ntmps50
  go_wp2_with fail
  go_loop [0, 3] (fun x y => ∃ k m : Nat, k < 1048576 ∧ m ≤ 100 ∧ x = .int .i64 k ∧ y = .int .i64 m ∧ Hid (ones n = m + ones k)) (fun x _ => (intOf x).toNat)
  case atStart => exact ⟨n, 0, hn, by omega, rfl, rfl, Lib.hid (by omega)⟩
  case round =>
    obtain ⟨k, m, hk, hm, rfl, rfl, hS⟩ := hrel
    by_cases h0 : 0 < k
    · have HS := Lib.hid (ones_step hk (by omega))
      have h1 := i64_and_nat k 1 (by omega) (by omega)
      rw [Nat.and_one_is_mod] at h1
      have h2 : bits .and .i64 (k : Int) 1 = ((k % 2 : Nat) : Int) := h1
      have HD := Lib.hid (show (k : Int) / 2 = ((k / 2 : Nat) : Int) by simp)
      have hm2 : k % 2 ≤ 1 := by omega
      have hol := (ones_le 20 k (by omega) (by omega)).1
      have HOL := Lib.hid (show m + k % 2 ≤ 100 by
        have h3 := (ones_le 20 n (by omega) (by omega)).1
        rw [hS.out, HS.out] at h3
        omega)
      clear h1
      generalize k % 2 = r at *
      go_wp2_with fail
      go_round
      case rel => exact ⟨k / 2, m + r, by omega, HOL.out, by rw [← HD.out], by go_num, Lib.hid (by rw [hS.out, HS.out]; omega)⟩
      case measure => simp [intOf]; omega
    · obtain rfl : k = 0 := by omega
      have HS := Lib.hid (show ones n = m by rw [hS.out, ones_zero]; omega)
      go_wp2_with fail
      go_ret
      exact ⟨ret_int (by rw [HS.out]), rfl⟩

set_option maxRecDepth 100000 in
set_option maxHeartbeats 2000000 in
theorem ocount64_any (n : Nat) (w : World) (hn : n < 4096) :
    Calls Try.prog 144 #[.int .u64 n] w fun e w' => e = .returned (.int .i64 (ones n : Nat)) ∧ w = w' := by
  go_enter Try.func144, Try.ntmps144
  go_wp2_with fail
  go_ret
  refine ⟨ret_int ?_, rfl⟩
  apply of_decide_eq_true
  clear w
  revert n
  exact of_all (by kernel_rfl)

end Go.Proofs.Ytbkhfmigaehgaaa
