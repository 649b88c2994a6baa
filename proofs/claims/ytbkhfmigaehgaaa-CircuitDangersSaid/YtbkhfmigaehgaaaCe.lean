/- Walks of layer 3 (circuit): isSet, ascend, isWire, areJoined of the program. -/
import Derived.Test.YtbkhfmigaehgaaaCd
import Derived.StillTailTactics
import Derived.Deep.WholeRow
namespace Go.Proofs.Ytbkhfmigaehgaaa
open Go.RowKit

set_option maxHeartbeats 400000 in
theorem isSet_any (n : Int) (many : Nat) (w : World) (hm : many ≤ 60) :
    Calls Try.prog 72 #[.int .i64 n, .int .i64 many] w fun e w' => e = .returned (.bool (setB n many)) ∧ w = w' := by
  have h0 : (0 : Int) ≤ many := by omega
  have hp := wrap64_pow hm
  have hs := pow_small hm
  have HR := Lib.hid (show decide (0 ≤ n ∧ n ≤ ((2 ^ many : Nat) : Int) - 1) = setB n many by unfold setB; simp)
  have hp1 := Nat.one_le_two_pow (n := many)
  generalize (2 ^ many : Nat) = m at *
  go_enter Try.func72, Try.ntmps72
  go_wp2_with fail
  refine (cwithin_is _ _ _ _ _ HR.out).mono ?_
  rintro e w1 ⟨rfl, rfl⟩
  go_wp2
  go_ret
  exact ⟨rfl, rfl⟩

theorem isSet_is (q : Bool) (n : Int) (many : Nat) (w : World) (hm : many ≤ 60) (hq : setB n many = q) :
    Calls Try.prog 72 #[.int .i64 n, .int .i64 many] w fun e w' => e = .returned (.bool q) ∧ w = w' := by
  subst hq
  exact isSet_any n many w hm

set_option maxHeartbeats 400000 in
theorem chk1_any (n : Int) (many g : Nat) (w : World) (hm : many ≤ 60) (hc : w.cell? ⟨g, 0, none⟩ = some (.int .i64 many)) :
    Calls Try.prog 77 #[.int .i64 n, .pointer (some ⟨g, 0, none⟩)] w fun e w' => e = .returned (.bool (!setB n many)) ∧ w = w' := by
  go_enter Try.func77, Try.ntmps77
  go_wp2_with fail
  refine (isSet_any _ _ _ hm).mono ?_
  rintro e w1 ⟨rfl, rfl⟩
  go_wp2
  go_ret
  exact ⟨rfl, rfl⟩

theorem ascB_none {hi lo : Int} {l : List Int} {k : Nat} (h : l.length ≤ k) : ascB hi lo (l.drop k) = true := by
  rw [List.drop_eq_nil_of_le h]; rfl
theorem ascB_some {hi lo : Int} {l : List Int} {k : Nat} (h : k < l.length) : ascB hi lo (l.drop k) = (decide (lo ≤ l.getD k 0 ∧ l.getD k 0 ≤ hi) && ascB hi (l.getD k 0 + 1) (l.drop (k + 1))) := by
  rw [List.drop_eq_getElem_cons h, List.getD_eq_getElem?_getD, List.getElem?_eq_getElem h]; rfl

set_option maxRecDepth 100000 in
set_option maxHeartbeats 1000000 in
theorem ascend_any (l : List Int) (lo hi : Int) (v : Value) (w : World) (hv : InAt w v l) (h1 : -1000000 ≤ lo) (h2 : lo ≤ 1000000) (h3 : -1000000 ≤ hi) (h4 : hi ≤ 1000000) :
    Calls Try.prog 139 #[v, .int .i64 lo, .int .i64 hi] w fun e w' => e = .returned (.bool (ascB hi lo l)) ∧ w = w' := by
  obtain ⟨a, cap, rfl, hn, hcap, hc⟩ := hv
  have HC := Lib.hid hc
  clear hc
  go_enter Try.func139, Try.ntmps139
  go_wp2_with fail
  go_loop [1, 11] (fun x i => ∃ k : Nat, k ≤ l.length ∧ i = .int .i64 k ∧ ∃ lo' : Int, -1000000 ≤ lo' ∧ lo' ≤ 1000001 ∧ x = .int .i64 lo' ∧ Hid (ascB hi lo l = ascB hi lo' (l.drop k))) (fun _ i => l.length - (intOf i).toNat)
  case atStart => exact ⟨0, Nat.zero_le _, rfl, lo, h1, by omega, rfl, Lib.hid (by rw [List.drop_zero])⟩
  case round =>
    obtain ⟨k, hk, rfl, lo', b1, b2, rfl, hf⟩ := hrel
    by_cases hlt : k < l.length
    · obtain ⟨b, off, rfl, hbl, hc⟩ := HC.out (by omega)
      have g1 := hc k hlt
      have hf2 := hf.out
      rw [ascB_some hlt] at hf2
      generalize l.getD k 0 = q at g1 hf2
      have HF := Lib.hid hf2
      clear hc hf2
      cases hq : decide (lo' ≤ q ∧ q ≤ hi)
      · have HQ := Lib.hid hq
        have HR := Lib.hid (show false = ascB hi lo l by rw [HF.out, hq]; rfl)
        clear hq
        go_wp2_with fail
        refine (cwithin_is _ _ _ _ _ HQ.out).mono ?_
        rintro e w1 ⟨rfl, rfl⟩
        go_wp2
        go_ret
        exact ⟨ret_bool HR.out, rfl⟩
      · have HQ := Lib.hid hq
        have HR := Lib.hid (show ascB hi lo l = ascB hi (q + 1) (l.drop (k + 1)) by rw [HF.out, hq]; rfl)
        simp only [decide_eq_true_eq] at hq
        obtain ⟨q1, q2⟩ := hq
        go_wp2_with fail
        refine (cwithin_is _ _ _ _ _ HQ.out).mono ?_
        rintro e w1 ⟨rfl, rfl⟩
        go_wp2
        go_round
        case rel => exact ⟨k + 1, hlt, by go_num, q + 1, by omega, by omega, rfl, HR⟩
        case measure => simp [intOf]; omega
    · have HR := Lib.hid (show true = ascB hi lo l by rw [hf.out, ascB_none (by omega)])
      go_wp2
      go_ret
      exact ⟨ret_bool HR.out, rfl⟩

theorem ascend_is (q : Bool) (l : List Int) (lo hi : Int) (v : Value) (w : World) (hv : InAt w v l) (h1 : -1000000 ≤ lo) (h2 : lo ≤ 1000000) (h3 : -1000000 ≤ hi) (h4 : hi ≤ 1000000) (hq : ascB hi lo l = q) :
    Calls Try.prog 139 #[v, .int .i64 lo, .int .i64 hi] w fun e w' => e = .returned (.bool q) ∧ w = w' := by
  subst hq
  exact ascend_any l lo hi v w hv h1 h2 h3 h4

abbrev cirO (c : Cir) (sv wv : Value) : Obj := .cells #[.int .i64 c.hz, sv, wv] 25

theorem wire_is1 {n m i : Int} {w : Wir} (h : w.kind = 1) : wireB n m i w = (decide (w.of.length = 1) && decide (0 ≤ w.of.getD 0 0 ∧ w.of.getD 0 0 ≤ n - 1)) := by unfold wireB; rw [if_pos h]
theorem wire_is2 {n m i : Int} {w : Wir} (h1 : ¬ w.kind = 1) (h2 : w.kind = 2 ∨ w.kind = 3) : wireB n m i w = (decide (1 ≤ (w.of.length : Int) ∧ (w.of.length : Int) ≤ 8) && ascB (m - 1) (i + 1) w.of) := by
  unfold wireB; rw [if_neg h1, if_pos h2]
  congr 1
  exact decide_eq_decide.2 (by omega)
theorem wire_is3 {n m i : Int} {w : Wir} (h1 : ¬ w.kind = 1) (h2 : ¬ (w.kind = 2 ∨ w.kind = 3)) : wireB n m i w = false := by unfold wireB; rw [if_neg h1, if_neg h2]

end Go.Proofs.Ytbkhfmigaehgaaa
