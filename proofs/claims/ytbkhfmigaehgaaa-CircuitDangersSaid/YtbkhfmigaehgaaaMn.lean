/- Walks of layer 3 (circuit): sameInts, samePairs. -/
import Derived.Test.YtbkhfmigaehgaaaMm
import Derived.Test.YtbkhfmigaehgaaaMf
namespace Go.Proofs.Ytbkhfmigaehgaaa
open Go.RowKit

set_option maxRecDepth 100000 in
set_option maxHeartbeats 1000000 in
theorem sameInts_any (v v2 : Value) (l : List Int) (w : World) (hv : InAt w v l) (hv2 : InAt w v2 l) :
    Calls Try.prog 26 #[v, v2] w fun e w' => e = .returned (.bool true) ∧ Below w.heap.size w w' := by
  obtain ⟨a, cap, rfl, hn, hcap, hc⟩ := hv
  obtain ⟨a2, cap2, rfl, hn2, hcap2, hc2⟩ := hv2
  have HC := Lib.hid hc
  have HC2 := Lib.hid hc2
  clear hc hc2
  go_enter Try.func26, Try.ntmps26
  go_wp2_with fail
  go_loopw [5] (fun i wr => ∃ k : Nat, k ≤ l.length ∧ i = .int .i64 k ∧ Hid (Below w.heap.size w wr)) (fun i _ => l.length - (intOf i).toNat)
  case atStart => exact ⟨0, Nat.zero_le _, rfl, Lib.hid (Below.refl _ _)⟩
  case round =>
    obtain ⟨k, hk, rfl, hb⟩ := hrel
    by_cases hlt : k < l.length
    · obtain ⟨b, off, rfl, hbl, hc⟩ := HC.out (by omega)
      obtain ⟨b2, off2, rfl, hbl2, hc2⟩ := HC2.out (by omega)
      have g1 := (hb.out.cell (p := ⟨b, off + k, none⟩) hbl).trans (hc k hlt)
      have g2 := (hb.out.cell (p := ⟨b2, off2 + k, none⟩) hbl2).trans (hc2 k hlt)
      have k1 : (0 : Int) ≤ k := by omega
      have k2 : (k : Int) < l.length := by omega
      clear hc hc2
      generalize l.getD k 0 = q at g1 g2
      go_wp2_with fail
      go_quiet (fail)
      go_wp2
      go_roundw
      case rel => exact ⟨k + 1, hlt, by go_num, Lib.hid (below_drewN hb.out _)⟩
      case measure => simp [intOf]; omega
    · go_wp2_with fail
      go_ret
      exact ⟨rfl, hb.out⟩

set_option maxRecDepth 100000 in
set_option maxHeartbeats 1000000 in
theorem samePairs_any (v v2 : Value) (l : List (Nat × Nat)) (w : World) (hv : PrAt w v l) (hv2 : PrAt w v2 l) :
    Calls Try.prog 33 #[v, v2] w fun e w' => e = .returned (.bool true) ∧ Below w.heap.size w w' := by
  obtain ⟨a, cap, rfl, hn, hcap, hc⟩ := hv
  obtain ⟨a2, cap2, rfl, hn2, hcap2, hc2⟩ := hv2
  have HC := Lib.hid hc
  have HC2 := Lib.hid hc2
  have p3 : (l.length : Int) ≤ 9223372036854775807 := by omega
  clear hc hc2
  go_enter Try.func33, Try.ntmps33
  go_wp2_with fail
  go_loopw [5] (fun i wr => ∃ k : Nat, k ≤ l.length ∧ i = .int .i64 k ∧ Hid (Below w.heap.size w wr)) (fun i _ => l.length - (intOf i).toNat)
  case atStart => exact ⟨0, Nat.zero_le _, rfl, Lib.hid (Below.refl _ _)⟩
  case round =>
    obtain ⟨k, hk, rfl, hb⟩ := hrel
    by_cases hlt : k < l.length
    · obtain ⟨b, off, rfl, hbl, hc⟩ := HC.out (by omega)
      obtain ⟨b2, off2, rfl, hbl2, hc2⟩ := HC2.out (by omega)
      obtain ⟨g1, g2⟩ := pr_at hb.out hbl hc hlt
      obtain ⟨g3, g4⟩ := pr_at hb.out hbl2 hc2 hlt
      have k1 : (0 : Int) ≤ k := by omega
      have k2 : (k : Int) < l.length := by omega
      generalize l.getD k (0, 0) = P at *
      obtain ⟨P1, P2⟩ := P
      have heq : ∀ W : World, (Op.equalIn 10000 71 (.agg #[.int .i64 P1, .int .i64 P2]) (.agg #[.int .i64 P1, .int .i64 P2])).run Try.prog W = .ok true W := fun W => by
        rw [run_eqPair]; simp
      clear hc hc2
      go_wp2_with fail
      go_quiet (fail)
      go_wp2
      go_roundw
      case rel => exact ⟨k + 1, hlt, by go_num, Lib.hid (below_drewN hb.out _)⟩
      case measure => simp [intOf]; omega
    · go_wp2_with fail
      go_ret
      exact ⟨rfl, hb.out⟩

end Go.Proofs.Ytbkhfmigaehgaaa
