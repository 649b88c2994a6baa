/- Walks of layer 3 (circuit): union, tries of the program. -/
import Derived.Test.YtbkhfmigaehgaaaCl
namespace Go.Proofs.Ytbkhfmigaehgaaa
open Go.RowKit

theorem union_snoc (sets : List Nat) (ks : List Int) (k : Int) : unionM sets (ks ++ [k]) = unionM sets ks ||| sets.getD k.toNat 0 := by
  apply Nat.eq_of_testBit_eq
  intro i
  rw [testBit_union, Nat.testBit_or, testBit_union, List.any_append]
  simp

theorem natL_getD (l : List Nat) (k : Nat) : (natL l).getD k 0 = ((l.getD k 0 : Nat) : Int) := by
  unfold natL
  rw [List.getD_eq_getElem?_getD, List.getD_eq_getElem?_getD, List.getElem?_map]
  cases l[k]? <;> rfl

theorem union_lt {sets : List Nat} (h : ∀ s ∈ sets, s < 1048576) (ks : List Int) : unionM sets ks < 1048576 := by
  induction ks with
  | nil => unfold unionM; decide
  | cons k ks ih =>
    unfold unionM
    refine Nat.or_lt_two_pow (n := 20) ?_ ih
    rw [List.getD_eq_getElem?_getD]
    cases hk : sets[k.toNat]? with
    | none => decide
    | some s => exact h s (List.mem_of_getElem? hk)

set_option maxRecDepth 100000 in
set_option maxHeartbeats 2000000 in
theorem union_any (sets : List Nat) (ks : List Int) (sv kv : Value) (w : World) (hs : InAt w sv (natL sets)) (hk : InAt w kv ks) (hb : ∀ s ∈ sets, s < 1048576) (hks : ∀ k ∈ ks, 0 ≤ k ∧ k < sets.length) :
    Calls Try.prog 95 #[sv, kv] w fun e w' => e = .returned (.int .i64 (unionM sets ks : Nat)) ∧ w = w' := by
  obtain ⟨sa, scap, rfl, n1, n2, hsc⟩ := hs
  obtain ⟨ka, kcap, rfl, n3, n4, hkc⟩ := hk
  have HSC := Lib.hid hsc
  have HKC := Lib.hid hkc
  have HB := Lib.hid (fun j => union_lt hb (ks.take j))
  have HS := Lib.hid hb
  have HK := Lib.hid hks
  have HU := Lib.hid (union_snoc sets)
  clear hsc hkc hb hks
  go_enter Try.func95, Try.ntmps95
  go_wp2_with fail
  go_loop [5, 10] (fun x i => ∃ j : Nat, j ≤ ks.length ∧ i = .int .i64 j ∧ x = .int .i64 (unionM sets (ks.take j) : Nat)) (fun _ i => ks.length - (intOf i).toNat)
  case atStart => exact ⟨0, Nat.zero_le _, rfl, rfl⟩
  case round =>
    obtain ⟨j, hj, rfl, rfl⟩ := hrel
    by_cases hlt : j < ks.length
    · obtain ⟨b, off, rfl, hbl, hc⟩ := HKC.out (by omega)
      have g1 := hc j hlt
      obtain ⟨k1, k2⟩ := HK.out _ (getD_mem hlt 0)
      obtain ⟨k, hk⟩ : ∃ k : Nat, ks.getD j 0 = k := ⟨(ks.getD j 0).toNat, by omega⟩
      rw [hk] at g1 k1 k2
      have k3 : k < sets.length := by omega
      obtain ⟨b2, off2, rfl, hbl2, hc2⟩ := HSC.out (by rw [natL_len]; omega)
      have g2 := hc2 k (by rw [natL_len]; exact k3)
      rw [natL_getD] at g2
      have hx := HB.out j
      have hy := HS.out _ (getD_mem k3 0)
      have HT := Lib.hid (show unionM sets (ks.take (j + 1)) = unionM sets (ks.take j) ||| sets.getD k 0 by
        rw [List.take_succ_eq_append_getElem hlt, HU.out]
        rw [List.getD_eq_getElem?_getD, List.getElem?_eq_getElem hlt] at hk
        simp only [Option.getD_some] at hk
        rw [hk, Int.toNat_natCast])
      have k2b : (k : Int) < (natL sets).length := by rw [natL_len]; exact k2
      generalize unionM sets (ks.take j) = x at *
      generalize sets.getD k 0 = y at *
      have hor := i64_or_nat x y (by omega) (by omega)
      clear hc hc2 hk
      go_wp2_with fail
      go_round
      case rel => exact ⟨j + 1, hlt, by go_num, by rw [HT.out]⟩
      case measure => simp [intOf]; omega
    · have HT := Lib.hid (show unionM sets (ks.take j) = unionM sets ks by rw [List.take_of_length_le (by omega)])
      go_wp2_with fail
      go_ret
      exact ⟨ret_int (by rw [HT.out]), rfl⟩

theorem tmod_nat (a b : Nat) : ((a : Int)).tmod (b : Int) = ((a % b : Nat) : Int) := by
  rw [Int.tmod_eq_emod_of_nonneg (by omega)]
  simp

set_option maxRecDepth 100000 in
set_option maxHeartbeats 4000000 in
theorem tries1_any (round : List Nat) (rv : Value) (d gr gn gs night sw : Nat) (w : World) (hr : InAt w rv (natL round)) (h1 : 1 ≤ round.length) (h60 : round.length ≤ 100) (hn : night ≤ 100) (hd : d ≤ 100) (hs : sw ≤ 12) (hb : ∀ s ∈ round, s < 1048576)
    (k1 : w.heap[gr]? = some (.cells #[rv] 22)) (k2 : w.heap[gn]? = some (.cells #[.int .i64 night] 3)) (k3 : w.heap[gs]? = some (.cells #[.int .i64 sw] 3)) :
    Calls Try.prog 153 #[.int .i64 d, .pointer (some ⟨gr, 0, none⟩), .pointer (some ⟨gn, 0, none⟩), .pointer (some ⟨gs, 0, none⟩)] w fun e w' => e = .returned (.bool ((round.getD ((night + d) % round.length) 0).testBit sw)) ∧ Below w.heap.size w w' := by
  obtain ⟨ra, rcap, rfl, n1, n2, hc⟩ := hr
  obtain ⟨b, off, rfl, hbl, hc⟩ := hc (by rw [natL_len]; omega)
  have hm : (night + d) % round.length < round.length := Nat.mod_lt _ (by omega)
  have g1 := hc ((night + d) % round.length) (by rw [natL_len]; exact hm)
  rw [natL_getD] at g1
  have hy := hb _ (getD_mem hm 0)
  have hmod : ((night : Int) + d).tmod (round.length : Int) = (((night + d) % round.length : Nat) : Int) := by have := tmod_nat (night + d) round.length; rwa [Int.natCast_add] at this
  have hlen : (natL round).length = round.length := natL_len round
  rw [hlen] at k1
  have b1 := bw_cells (B := w.heap.size) k1 (lt_of_block k1)
  have b2 := bw_cells (B := w.heap.size) k2 (lt_of_block k2)
  have b3 := bw_cells (B := w.heap.size) k3 (lt_of_block k3)
  have b4 := bw_cell (B := w.heap.size) g1 hbl
  have hwr : IntKind.i64.wrap ((night : Int) + d) = (night : Int) + d := IntWalk.i64_in _ (by omega)
  have hl0 : ¬ round = [] := fun h => by rw [h] at h1; simp at h1
  generalize (night + d) % round.length = m at *
  generalize round.getD m 0 = y at *
  have hy2 : y < 4611686018427387904 := by omega
  have m1 : (0 : Int) ≤ m := by omega
  have m2 : (m : Int) < round.length := by omega
  clear hc g1 k1 k2 k3 hb hlen
  go_enter Try.func153, Try.ntmps153
  go_wp2_with fail
  refine wp_region_below (by kernel_rfl) (by kernel_rfl) (Below.refl w.heap.size w) ?_
  repeat ((with_reducible refine wpQuiet_step (fun K hK => ?_)); go_simp; first | (refine hK _ ?_; clear hK K) | (apply Exists.intro; refine ⟨fun _ => ?_, hK _ ?_⟩; ((go_at_call 99; exact bw_same (chas_any y sw _ hy2 (by omega)))); clear hK K))
  refine wpQuiet_nil ?_
  intro wq hwq0
  have hwq := bw_out hwq0
  clear hwq0
  go_wp2
  go_ret
  exact ⟨rfl, hwq⟩

theorem enters_tries1 : Enters 153 := fun _ _ => by kernel_rfl

end Go.Proofs.Ytbkhfmigaehgaaa
