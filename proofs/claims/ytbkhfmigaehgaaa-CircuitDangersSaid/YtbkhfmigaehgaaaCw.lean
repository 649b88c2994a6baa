/- Walks of layer 3 (circuit), the leaves: within, has, alone, isSet, those. -/
import Derived.Test.YtbkhfmigaehgaaaGw
import Derived.Test.YtbkhfmigaehgaaaCn
namespace Go.Proofs.Ytbkhfmigaehgaaa
open Go.RowKit

/-! ### bits of ints -/
theorem wrap_i64_in {n : Int} (h1 : -9223372036854775808 ≤ n) (h2 : n ≤ 9223372036854775807) : IntKind.i64.wrap n = n := by
  simp [IntKind.wrap, IntKind.bits, IntKind.signed]; omega

theorem ofInt_i64 (a : Nat) (ha : a < 18446744073709551616) : (BitVec.ofInt 64 (a : Int)).toNat = a := by
  rw [BitVec.ofInt_natCast, BitVec.toNat_ofNat]; exact Nat.mod_eq_of_lt (by omega)

theorem i64_and_nat (a b : Nat) (ha : a < 4611686018427387904) (hb : b < 4611686018427387904) : bits .and .i64 (a : Int) (b : Int) = ((a &&& b : Nat) : Int) := by
  have hx : a &&& b < 2 ^ 62 := Nat.and_lt_two_pow _ (by omega)
  show IntKind.i64.wrap ((BitVec.ofInt 64 (a : Int) &&& BitVec.ofInt 64 (b : Int)).toNat : Int) = _
  rw [BitVec.toNat_and, ofInt_i64 a (by omega), ofInt_i64 b (by omega)]
  exact wrap_i64_in (by omega) (by omega)

theorem i64_or_nat (a b : Nat) (ha : a < 4611686018427387904) (hb : b < 4611686018427387904) : bits .or .i64 (a : Int) (b : Int) = ((a ||| b : Nat) : Int) := by
  have hx : a ||| b < 2 ^ 62 := Nat.or_lt_two_pow (by omega) (by omega)
  show IntKind.i64.wrap ((BitVec.ofInt 64 (a : Int) ||| BitVec.ofInt 64 (b : Int)).toNat : Int) = _
  rw [BitVec.toNat_or, ofInt_i64 a (by omega), ofInt_i64 b (by omega)]
  exact wrap_i64_in (by omega) (by omega)

theorem bit_of_shift (s k : Nat) : ((s / 2 ^ k) &&& 1 = 1) ↔ s.testBit k = true := by
  rw [Nat.testBit_eq_decide_div_mod_eq, decide_eq_true_eq, Nat.and_one_is_mod]

theorem shr_nat (s k : Nat) : (s : Int) / 2 ^ k = ((s / 2 ^ k : Nat) : Int) := by simp

theorem and_one_bit {s k : Nat} (hs : s < 4611686018427387904) : (bits .and .i64 ((s : Int) / 2 ^ k) 1 == 1) = s.testBit k := by
  have h1 : s / 2 ^ k ≤ s := Nat.div_le_self _ _
  rw [shr_nat]
  have h2 := i64_and_nat (s / 2 ^ k) 1 (by omega) (by omega)
  rw [show ((1 : Nat) : Int) = 1 from rfl] at h2
  rw [h2]
  have h3 := bit_of_shift s k
  cases ht : s.testBit k
  · rw [ht] at h3
    simp only [Bool.false_eq_true, iff_false] at h3
    simp only [beq_eq_false_iff_ne, ne_eq]
    omega
  · rw [ht] at h3
    rw [h3.2 rfl]
    rfl

theorem pow_small {k : Nat} (h : k ≤ 60) : (2 : Nat) ^ k ≤ 1152921504606846976 := by
  have := Nat.pow_le_pow_right (show 0 < 2 by omega) h
  omega

theorem wrap64_pow {k : Nat} (h : k ≤ 60) : wrap64 ((2 : Int) ^ k) = ((2 ^ k : Nat) : Int) := by
  have := pow_small h
  rw [show ((2 : Int) ^ k) = ((2 ^ k : Nat) : Int) by simp]
  generalize (2 ^ k : Nat) = m at *
  exact IntWalk.wrap64_in _ ⟨by omega, by omega⟩

set_option maxHeartbeats 400000 in
theorem cwithin_any (n lo hi : Int) (w : World) :
    Calls Try.prog 75 #[.int .i64 n, .int .i64 lo, .int .i64 hi] w fun e w' => e = .returned (.bool (decide (lo ≤ n ∧ n ≤ hi))) ∧ w = w' := by
  go_enter Try.func75, Try.ntmps75
  go_wp2
  all_goals (go_ret; exact ⟨ret_bool (by simp; omega), rfl⟩)

theorem cwithin_is (q : Bool) (n lo hi : Int) (w : World) (h : decide (lo ≤ n ∧ n ≤ hi) = q) :
    Calls Try.prog 75 #[.int .i64 n, .int .i64 lo, .int .i64 hi] w fun e w' => e = .returned (.bool q) ∧ w = w' := by
  subst h
  exact cwithin_any n lo hi w

set_option maxHeartbeats 400000 in
theorem rwithin_any (n lo hi : Int) (w : World) :
    Calls Try.prog 80 #[.int .i64 n, .int .i64 lo, .int .i64 hi] w fun e w' => e = .returned (.bool (decide (lo ≤ n ∧ n ≤ hi))) ∧ w = w' := by
  go_enter Try.func80, Try.ntmps80
  go_wp2
  all_goals (go_ret; exact ⟨ret_bool (by simp; omega), rfl⟩)

theorem rwithin_is (q : Bool) (n lo hi : Int) (w : World) (h : decide (lo ≤ n ∧ n ≤ hi) = q) :
    Calls Try.prog 80 #[.int .i64 n, .int .i64 lo, .int .i64 hi] w fun e w' => e = .returned (.bool q) ∧ w = w' := by
  subst h
  exact rwithin_any n lo hi w

set_option maxHeartbeats 400000 in
theorem calone_any (k : Nat) (w : World) (hk : k ≤ 60) :
    Calls Try.prog 86 #[.int .i64 k] w fun e w' => e = .returned (.int .i64 ((2 ^ k : Nat) : Int)) ∧ w = w' := by
  have h0 : (0 : Int) ≤ k := by omega
  go_enter Try.func86, Try.ntmps86
  go_wp2
  go_ret
  exact ⟨ret_int (wrap64_pow hk), rfl⟩

set_option maxHeartbeats 400000 in
theorem chas_any (s k : Nat) (w : World) (hs : s < 4611686018427387904) (hk : k ≤ 60) :
    Calls Try.prog 99 #[.int .i64 s, .int .i64 k] w fun e w' => e = .returned (.bool (s.testBit k)) ∧ w = w' := by
  have h0 : (0 : Int) ≤ k := by omega
  go_enter Try.func99, Try.ntmps99
  go_wp2
  go_ret
  exact ⟨ret_bool (and_one_bit hs), rfl⟩

/-- The numbers of a list of natural ones. -/
def natL (l : List Nat) : List Int := l.map Int.ofNat

/-- A call of K enters it. -/
def Enters (K : Nat) : Prop := ∀ (args : Array Value) (w : World), (callFunc K args).run Try.prog w = .ok (.enter K args) w

/-- A list of numbers in new memory. -/
def ListRes (l : List Int) (w : World) (e : Ending) (w' : World) : Prop := ∃ v, e = .returned v ∧ InAt w' v l ∧ Below w.heap.size w w'

theorem infoInt : (Try.prog.info? 3).map (fun i => (i.zero, i.size, i.bytes)) = some (some (.int .i64 0), 1, 8) := by kernel_rfl

theorem one_cell (w : World) (x : Value) (t : TypeId) {g : Nat} (hg : g = w.heap.size) : ∀ j u, [x][j]? = some u → (w.alloc (.cells #[x] t)).cell? ((⟨g, 0, none⟩ : Addr).add j) = some u := by
  subst hg
  intro j u hj
  have h := cell_alloc_new w #[x] t (0, 0) w.heap.size j rfl
  have e9 : (⟨w.heap.size, 0, none⟩ : Addr).add j = ⟨w.heap.size, j, none⟩ := by unfold Addr.add; split <;> simp_all
  rw [e9, h]
  simpa using hj

theorem filter_no {p : Nat → Bool} {k : Nat} (h : p k = false) : (List.range (k + 1)).filter p = (List.range k).filter p := by
  rw [List.range_succ, List.filter_append]; simp [h]
theorem filter_yes {p : Nat → Bool} {k : Nat} (h : p k = true) : (List.range (k + 1)).filter p = (List.range k).filter p ++ [k] := by
  rw [List.range_succ, List.filter_append]; simp [h]
theorem filter_len (p : Nat → Bool) (k : Nat) : ((List.range k).filter p).length ≤ k := by
  have := List.length_filter_le p (List.range k)
  simpa using this

set_option maxRecDepth 100000 in
set_option maxHeartbeats 1000000 in
theorem those_any (K : Nat) (bs cs : Array Value) (n : Nat) (p : Nat → Bool) (w : World) (hn : n ≤ 100000) (hK : Enters K)
    (hg : ∀ (k : Nat) (w1 : World), k < n → Below w.heap.size w w1 → Calls Try.prog K (bs.push (.int .i64 k) ++ cs) w1 fun e w' => e = .returned (.bool (p k)) ∧ Below w1.heap.size w1 w') :
    Calls Try.prog 83 #[.int .i64 n, .func (.func K) bs cs] w (ListRes (natL ((List.range n).filter p)) w) := by
  have HG := Lib.hid hg
  have hk1 := hK
  unfold Enters at hk1
  clear hg hK
  go_enter Try.func83, Try.ntmps83
  go_wp2_with fail
  obtain ⟨i0, hi0, hz0, hz1, hz2⟩ := info_parts infoInt
  go_loopw [5, 8] (fun v x wr => ∃ k : Nat, k ≤ n ∧ x = .int .i64 k ∧ Below w.heap.size w wr ∧ Hid (wr.ownsRow w.heap.size 3 1 v ((List.range k).filter p).length ((natL ((List.range k).filter p)).map (Value.int .i64)))) (fun _ x _ => n - (intOf x).toNat)
  case atStart => exact ⟨0, Nat.zero_le _, rfl, Below.refl _ _, Lib.hid ⟨by simp [natL], Or.inl ⟨rfl, by simp⟩⟩⟩
  case round =>
    obtain ⟨k, hk, rfl, hb, ho⟩ := hrel
    by_cases hlt : k < n
    · go_wp2_with fail
      refine (HG.out k wr hlt hb).mono ?_
      rintro e w1 ⟨rfl, hb1⟩
      have hb2 := hb.trans (hb1.mono hb.size)
      have HO := Lib.hid (ownsRow_below ho.out hb1)
      obtain ⟨a, c, rfl, hown⟩ := ownsRow_shape ho.out
      have HOWN := Lib.hid hown
      clear hb hb1 ho hown
      have hsz := hb2.size
      cases hq : p k
      · have HQ := Lib.hid (filter_no hq)
        clear hq
        go_wp2_with fail
        go_roundw
        case rel => exact ⟨k + 1, hlt, by go_num, hb2, by rw [HQ.out]; exact HO⟩
        case measure => simp [intOf]; omega
      · have HQ := Lib.hid (filter_yes hq)
        clear hq
        have hle := filter_len p k
        generalize hL : (List.range k).filter p = L at *
        have HL := Lib.hid hL
        clear hL
        have hln : (natL L).length = L.length := by simp [natL]
        go_wp2_with (at_builtin; refine wpList_append_own _ rfl (.tmp 14) (.tmp 16) 22 rfl w.heap.size 3 i0 (.int .i64 0) 1 8 Try.underlying22 hi0 hz0 hz1 hz2 rfl (by decide) _ L.length ((natL L).map (Value.int .i64)) rfl ?c0 _ _ _ [.int .i64 k] rfl rfl ?c1 ?c2 ?c3 ?c4 ?c5 ?_)
        case c0 => exact World.ownsRow.alloc HO.out _
        case c1 => exact one_cell _ _ _ rfl
        case c2 => intro u hu; simp only [List.mem_cons, List.not_mem_nil, or_false] at hu; subst hu; rfl
        case c3 => unfold maxLen; omega
        case c4 => omega
        case c5 => exact Nat.le_trans hsz (by rw [size_alloc]; omega)
        intro v2 w4 hown2 hgrow _
        have hbX := below_grown hgrow HOWN.out (Nat.le_trans hsz (by rw [size_alloc]; omega))
        have HBX := Lib.hid (hb2.trans (((Below.refl _ _).alloc hsz _).trans hbX))
        have HN : Hid (w4.ownsRow w.heap.size 3 1 v2 (L ++ [k]).length ((natL (L ++ [k])).map (Value.int .i64))) := by
          have e1 : (L ++ [k]).length = L.length + 1 := by simp
          have e2 : (natL (L ++ [k])).map (Value.int .i64) = (natL L).map (Value.int .i64) ++ [.int .i64 k] := by simp [natL]
          rw [e1, e2]; exact hown2
        obtain ⟨r2, c2, rfl, _⟩ := ownsRow_shape hown2
        clear hown2 hgrow hbX hb2
        go_wp2
        go_roundw
        case rel => exact ⟨k + 1, hlt, by go_num, HBX.out, by rw [HQ.out]; exact HN⟩
        case measure => simp [intOf]; omega
    · obtain rfl : k = n := by omega
      have HO := ho
      obtain ⟨a, c, rfl, _⟩ := ownsRow_shape ho.out
      go_wp2_with fail
      go_ret
      exact ⟨_, rfl, InAt.of_own HO.out, hb⟩

end Go.Proofs.Ytbkhfmigaehgaaa
