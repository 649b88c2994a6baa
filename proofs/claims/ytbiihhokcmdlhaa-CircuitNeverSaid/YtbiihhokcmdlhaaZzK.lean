import Derived.Test.YtbiihhokcmdlhaaZzJ
import Derived.Deep.RegionHeld3
import Derived.Deep.DeepCutAuto
/- Texts of one seat, merged: Na Nb Nc Nd -/
/- The plain mathematics of layer 3 (circuit), third part: unions night by night, members of sets, the fewest trials. Nothing here speaks of the program. -/
namespace Go.Proofs.Ytbiihhokcmdlhaa

/-- The union of the sets of the first d nights from a night on. -/
def orTo (round : List Nat) (f : Nat) : Nat → Nat
  | 0 => 0
  | d + 1 => orTo round f d ||| round.getD ((f + d) % round.length) 0

theorem orTo_bit (round : List Nat) (f s : Nat) : ∀ d, (orTo round f d).testBit s = triedB round d s f
  | 0 => by simp [orTo, triedB]
  | d + 1 => by
    unfold orTo
    rw [Nat.testBit_or, orTo_bit round f s d]
    unfold triedB
    rw [List.range_succ, List.any_append]
    simp

theorem getD_lt {l : List Nat} {B : Nat} (h : ∀ s ∈ l, s < B) (h0 : 0 < B) (k : Nat) : l.getD k 0 < B := by
  rw [List.getD_eq_getElem?_getD]
  cases hk : l[k]? with
  | none => exact h0
  | some s => exact h s (List.mem_of_getElem? hk)

theorem orTo_lt {round : List Nat} (h : ∀ s ∈ round, s < 1048576) (f : Nat) : ∀ d, orTo round f d < 1048576
  | 0 => by unfold orTo; decide
  | d + 1 => by
    unfold orTo
    exact Nat.or_lt_two_pow (n := 20) (orTo_lt h f d) (getD_lt h (by decide) _)

/-! ### members -/
/-- The elements of a set below n. -/
def memM (s n : Nat) : List Nat := (List.range n).filter fun k => s.testBit k

theorem memM_no {s n : Nat} (h : s.testBit n = false) : memM s (n + 1) = memM s n := by
  unfold memM; rw [List.range_succ, List.filter_append]; simp [h]
theorem memM_yes {s n : Nat} (h : s.testBit n = true) : memM s (n + 1) = memM s n ++ [n] := by
  unfold memM; rw [List.range_succ, List.filter_append]; simp [h]
theorem memM_len (s n : Nat) : (memM s n).length ≤ n := by
  have := List.length_filter_le (fun k => s.testBit k) (List.range n)
  unfold memM
  simpa using this
theorem mem_memM {s n k : Nat} : k ∈ memM s n ↔ k < n ∧ s.testBit k = true := by unfold memM; rw [List.mem_filter, List.mem_range]

theorem memM_all (n : Nat) : memM (2 ^ n - 1) n = List.range n := by
  unfold memM
  rw [List.filter_eq_self]
  intro k hk
  rw [List.mem_range] at hk
  rw [Nat.testBit_two_pow_sub_one]
  simpa using hk

/-- The set without those of another one. -/
theorem sub_bit {s n k : Nat} (hs : s < 2 ^ n) (hk : k < n) : (2 ^ n - 1 - s).testBit k = !s.testBit k := by
  have h := Nat.testBit_two_pow_sub_succ hs k
  rw [show 2 ^ n - (s + 1) = 2 ^ n - 1 - s by omega] at h
  rw [h, decide_eq_true hk, Bool.true_and]

theorem mem_sub {s n : Nat} (hs : s < 2 ^ n) : memM (2 ^ n - 1 - s) n = (List.range n).filter fun k => !s.testBit k := by
  unfold memM
  apply List.filter_congr
  intro k hk
  exact sub_bit hs (List.mem_range.1 hk)

/-- How many elements a set has. -/
theorem ones_mem : ∀ n s, n ≤ 20 → s < 2 ^ n → ones s = (memM s n).length
  | 0, s, _, hs => by
    have : s = 0 := by simpa using hs
    subst this; rfl
  | n + 1, s, hn, hs => by
    have hp := Nat.pow_le_pow_right (show 0 < 2 by omega) hn
    have e : memM s (n + 1) = (if s % 2 = 1 then [0] else []) ++ (memM (s / 2) n).map (· + 1) := by
      unfold memM
      rw [List.range_succ_eq_map, List.filter_cons]
      have h0 : s.testBit 0 = decide (s % 2 = 1) := by simp [Nat.testBit_zero]
      have h1 : (List.map Nat.succ (List.range n)).filter (fun k => s.testBit k) = ((List.range n).filter fun k => (s / 2).testBit k).map (· + 1) := by
        rw [List.filter_map]
        congr 1
        apply List.filter_congr
        intro k _
        show s.testBit (k + 1) = (s / 2).testBit k
        rw [Nat.testBit_succ]
      rw [h1, h0]
      by_cases h : s % 2 = 1 <;> simp [h]
    rw [e, List.length_append, List.length_map]
    by_cases h0 : s = 0
    · subst h0
      rw [ones_zero]
      have : memM (0 / 2) n = [] := by
        unfold memM; rw [List.filter_eq_nil_iff]; intro k _; simp
      rw [this]; simp
    · rw [ones_step (by omega) h0, ones_mem n (s / 2) (by omega) (by rw [Nat.pow_succ] at hs; omega)]
      by_cases h : s % 2 = 1
      · rw [if_pos h, h]; rfl
      · rw [if_neg h]
        have : s % 2 = 0 := by omega
        rw [this]; rfl

/-! ### the union of the sets whose numbers are in a set -/
def unionTo (sets : List Nat) (s : Nat) : Nat → Nat
  | 0 => 0
  | k + 1 => if s.testBit k = true then unionTo sets s k ||| sets.getD k 0 else unionTo sets s k

theorem unionTo_bit (sets : List Nat) (s i : Nat) : ∀ n, (unionTo sets s n).testBit i = (List.range n).any fun k => s.testBit k && (sets.getD k 0).testBit i
  | 0 => by simp [unionTo]
  | n + 1 => by
    rw [List.range_succ, List.any_append]
    unfold unionTo
    split
    · rename_i h
      rw [Nat.testBit_or, unionTo_bit sets s i n, List.any_cons, List.any_nil, h]; simp
    · rename_i h
      rw [unionTo_bit sets s i n, List.any_cons, List.any_nil]
      have : s.testBit n = false := by simpa using h
      rw [this]; simp

theorem unionTo_lt {sets : List Nat} (h : ∀ s ∈ sets, s < 1048576) (s : Nat) : ∀ n, unionTo sets s n < 1048576
  | 0 => by unfold unionTo; decide
  | n + 1 => by
    unfold unionTo
    split
    · exact Nat.or_lt_two_pow (n := 20) (unionTo_lt h s n) (getD_lt h (by decide) _)
    · exact unionTo_lt h s n

theorem union_mem (sets : List Nat) (s n : Nat) : unionM sets ((memM s n).map Int.ofNat) = unionTo sets s n := by
  apply Nat.eq_of_testBit_eq
  intro i
  rw [testBit_union, unionTo_bit, List.any_map, memM, List.any_filter]
  apply List.any_congr rfl
  intro k
  simp

/-! ### the order of lists of numbers -/
def cmpL : List Nat → List Nat → Int
  | [], [] => 0
  | [], _ :: _ => -1
  | _ :: _, [] => 1
  | a :: aa, b :: bs => if a < b then -1 else if b < a then 1 else cmpL aa bs

/-- Fewer, or as many and before. -/
def befB (a b : List Nat) : Bool := decide (a.length < b.length) || (decide (a.length = b.length) && decide (cmpL a b < 0))

def lessL : List Nat → List Nat → Bool
  | a :: aa, b :: bs => if a = b then lessL aa bs else decide (a < b)
  | _, _ => false

theorem less_cmp : ∀ (a b : List Nat), a.length = b.length → lessL a b = decide (cmpL a b < 0)
  | [], [], _ => rfl
  | [], _ :: _, h => by simp at h
  | _ :: _, [], h => by simp at h
  | a :: aa, b :: bs, h => by
    unfold lessL cmpL
    by_cases h1 : a < b
    · rw [if_neg (by omega), if_pos h1, decide_eq_true h1]; rfl
    · by_cases h2 : b < a
      · rw [if_neg (by omega), if_neg h1, if_pos h2, decide_eq_false h1]; rfl
      · rw [if_pos (by omega), if_neg h1, if_neg h2]
        exact less_cmp aa bs (by simpa using h)

/-- The best of the first k sets of trials, beginning with all. -/
def fewM (sets : List Nat) (n : Nat) : Nat → Nat
  | 0 => 2 ^ n - 1
  | k + 1 => if (decide (unionTo sets k n = unionTo sets (2 ^ n - 1) n) && befB (memM k n) (memM (fewM sets n k) n)) = true then k else fewM sets n k

theorem fewM_lt (sets : List Nat) (n : Nat) : ∀ k, k ≤ 2 ^ n → fewM sets n k < 2 ^ n
  | 0, _ => by have := Nat.one_le_two_pow (n := n); show 2 ^ n - 1 < 2 ^ n; omega
  | k + 1, h => by
    unfold fewM
    split
    · omega
    · exact fewM_lt sets n k (by omega)

theorem fewM_spec (sets : List Nat) (n : Nat) : ∀ k, unionTo sets (fewM sets n k) n = unionTo sets (2 ^ n - 1) n ∧ ∀ j, j < k → unionTo sets j n = unionTo sets (2 ^ n - 1) n → (memM (fewM sets n k) n).length ≤ (memM j n).length
  | 0 => ⟨rfl, fun j hj => by omega⟩
  | k + 1 => by
    obtain ⟨h1, h2⟩ := fewM_spec sets n k
    rw [show fewM sets n (k + 1) = if (decide (unionTo sets k n = unionTo sets (2 ^ n - 1) n) && befB (memM k n) (memM (fewM sets n k) n)) = true then k else fewM sets n k from rfl]
    split
    · rename_i h
      simp only [Bool.and_eq_true, decide_eq_true_eq] at h
      refine ⟨h.1, fun j hj hu => ?_⟩
      by_cases e : j = k
      · rw [e]; exact Nat.le_refl _
      · have h3 := h2 j (by omega) hu
        have h4 := h.2
        unfold befB at h4
        simp only [Bool.or_eq_true, Bool.and_eq_true, decide_eq_true_eq] at h4
        omega
    · rename_i h
      simp only [Bool.and_eq_true, decide_eq_true_eq] at h
      refine ⟨h1, fun j hj hu => ?_⟩
      by_cases e : j = k
      · subst e
        apply Nat.le_of_not_lt
        intro hlt
        apply h
        refine ⟨hu, ?_⟩
        unfold befB
        rw [decide_eq_true hlt]; rfl
      · exact h2 j (by omega) hu

end Go.Proofs.Ytbiihhokcmdlhaa

/- Walks of layer 3 (circuit): every of the specification; append of one number as a step of a region that draws. -/
namespace Go.Proofs.Ytbiihhokcmdlhaa
open Go.RowKit

theorem step_app_int {w : World} {ops : Array Oper} {o : Oper} {a : Act} {K : Act → World → Prop} {Q : Exit → Act → World → Prop} {E : Prop} (hgd : o.guard = none) (s x : Operand)
    (ho : o.op = .call { callee := .builtin .append, args := #[s, x], argTypes := #[22, 22] })
    (base : Nat) (v : Value) (L : List Nat) (hs : a.eval s = v) (hown : w.ownsRow base 3 1 v L.length ((natL L).map (Value.int .i64))) (g k : Nat) (t : TypeId) (hx : a.eval x = .slice (some ⟨g, 0, none⟩) 1 1)
    (hy : w.heap[g]? = some (.cells #[.int .i64 k] t (0, 0)))
    (h63 : L.length ≤ 1000000) (hbase : base ≤ w.heap.size)
    (h : ∀ v' w', Hid (w'.ownsRow base 3 1 v' (L ++ [k]).length ((natL (L ++ [k])).map (Value.int .i64))) → Hid (Below base w w') → K (a.put o.dst v') w') :
    if Region.wanted o (yielded ops a.tmps) = true then Oper.wp Try.prog o a w K Q else E := by
  obtain ⟨i0, hi0, hz0, hz1, hz2⟩ := info_parts infoInt
  have hw : Region.wanted o (yielded ops a.tmps) = true := by simp [Region.wanted, hgd]
  rw [if_pos hw]
  refine wp_append_own w s x 22 ho base 3 i0 (.int .i64 0) 1 8 Try.underlying22 hi0 hz0 hz1 hz2 rfl (by decide) v L.length _ hs hown ⟨g, 0, none⟩ 1 1 [.int .i64 k] hx rfl ?_ ?_ ?_ ?_ hbase
    (fun v' w' o g _ => h v' w' (Lib.hid (own_snoc o)) (Lib.hid (below_grown g (own_base hown) hbase)))
  · intro j u hj
    have h9 := block_cell hy j
    have e9 : (⟨g, 0, none⟩ : Addr).add j = ⟨g, j, none⟩ := by unfold Addr.add; split <;> simp_all
    rw [e9, h9]
    simpa using hj
  · intro u hu; simp only [List.mem_cons, List.not_mem_nil, or_false] at hu; subst hu; rfl
  · unfold maxLen; omega
  · omega

set_option maxRecDepth 100000 in
set_option maxHeartbeats 4000000 in
theorem revery_any (c : Cir) (l : List Tri) (sv wv v : Value) (w : World) (hv : CirAt w sv wv c) (hl : TrAt w v l) (ht : TVal c l) :
    Calls Try.prog 102 #[cirV c sv wv, v] w (ListRes (natL (setsM c l)) w) := by
  have HB := Lib.hid ((Below.refl w.heap.size w).alloc (Nat.le_refl _) (cirO c sv wv))
  have K0 := Lib.hid (block_new w (cirO c sv wv) w.heap.size rfl)
  have HV := Lib.hid (hv.below HB.out (Nat.le_refl _))
  have HT := Lib.hid (hl.below HB.out (Nat.le_refl _))
  have HTV := Lib.hid ht
  have l12 := ht.n
  obtain ⟨ta, tcap, rfl, m1, m2, _⟩ := hl
  obtain ⟨_, _⟩ := hv
  clear ht
  go_enter Try.func102, Try.ntmps102
  go_wp2_with fail
  generalize w.alloc (cirO c sv wv) = wA at *
  go_loopw [5, 6] (fun x i wr => ∃ k : Nat, k ≤ l.length ∧ i = .int .i64 k ∧ Hid (Below wA.heap.size wA wr) ∧ Hid (wr.ownsRow wA.heap.size 3 1 x (everyTo c l k).length ((natL (everyTo c l k)).map (Value.int .i64)))) (fun _ i _ => l.length - (intOf i).toNat)
  case atStart => exact ⟨0, Nat.zero_le _, rfl, Lib.hid (Below.refl _ _), Lib.hid ⟨by simp [natL], Or.inl ⟨rfl, by simp [everyTo]⟩⟩⟩
  case round =>
    obtain ⟨k, hk, rfl, hb, ho⟩ := hrel
    by_cases hlt : k < l.length
    · obtain ⟨_, _, e1, _, _, hcc⟩ := HT.out
      injection e1 with e1 e2 e3
      subst e1
      obtain ⟨tb, toff, rfl, hbl, hcc⟩ := hcc (by omega)
      obtain ⟨g1, g2⟩ := tr_at (Below.refl _ _) hbl hcc hlt
      have hbl2 := Nat.lt_of_lt_of_le hbl hb.out.size
      have k1 : (0 : Int) ≤ k := by omega
      have k2 : (k : Int) < l.length := by omega
      have HN := Lib.hid (everyTo_succ (c := c) hlt)
      have HLN := Lib.hid (everyTo_len (c := c) hk)
      have HTK := Lib.hid (HTV.out.t _ (getD_mem hlt Tri.zero))
      generalize hx : l.getD k Tri.zero = t at *
      have KR := Lib.hid (keepZ K0.out hb.out)
      have HVR := Lib.hid (HV.out.below hb.out (Nat.le_refl _))
      have HBR := Lib.hid hb.out
      have HO := Lib.hid ho.out
      have hll : (everyTo c l k).length ≤ 1000 := by rw [HLN.out]; omega
      have hszr := hb.out.size
      clear hcc e2 e3 hx hb ho
      generalize everyTo c l k = L at *
      have D : ∀ w', Below wA.heap.size wA w' → ((w'.cell? ⟨w.heap.size, 0, none⟩ = some (.int .i64 c.hz) ∧ w'.cell? ⟨w.heap.size, 1, none⟩ = some sv ∧ w'.cell? ⟨w.heap.size, 2, none⟩ = some wv) ∧ (w'.cell? ⟨tb, toff + k * 2, none⟩ = some (.int .i64 t.hz) ∧ w'.cell? ⟨tb, toff + k * 2 + 1, none⟩ = some (.int .i64 t.wire))) ∧ Below wA.heap.size wA w' := by
        intro w' h
        have c1 := block_cell ((h.block _ (lt_of_block K0.out)).trans K0.out)
        exact ⟨⟨⟨c1 0, c1 1, c1 2⟩, (h.cell hbl).trans g1, (h.cell hbl).trans g2⟩, h⟩
      clear g1 g2
      go_wp2_with fail
      go_region_held3 (fun w' => ((w'.cell? ⟨w.heap.size, 0, none⟩ = some (.int .i64 c.hz) ∧ w'.cell? ⟨w.heap.size, 1, none⟩ = some sv ∧ w'.cell? ⟨w.heap.size, 2, none⟩ = some wv) ∧ (w'.cell? ⟨tb, toff + k * 2, none⟩ = some (.int .i64 t.hz) ∧ w'.cell? ⟨tb, toff + k * 2 + 1, none⟩ = some (.int .i64 t.wire))) ∧ Below wA.heap.size wA w')
        (first | (with_reducible exact D _ (Below.drew HBR.out)) | (with_reducible exact D _ hB3) | (with_reducible exact D _ hB2.out) | (refine D _ ?_; repeat' (first | (with_reducible exact hB3) | (with_reducible refine Below.drew ?_) | (with_reducible refine Below.alloc ?_ ?_ _) | exact hB3.size)) | fail)
        (first | (go_at_call 94; have hB0 := Below.drew (Below.refl wr.heap.size wr); refine (rshown_any c t sv wv _ (HVR.out.below hB0 (Nat.le_refl _)) HTV.out.cv HTK.out).mono ?_; rintro e w3 ⟨rfl, hb3⟩; have hB1 := hB0.trans (hb3.mono hB0.size); have hB1z := hB1.size; have hB3 := HBR.out.trans (hB1.mono hszr); have HO3 := Lib.hid (ownsRow_below HO.out hB1)) | (refine step_app_int rfl (.tmp 13) (.tmp 20) rfl wA.heap.size _ L rfl (World.ownsRow.alloc HO3.out _) w3.heap.size (shownM c t) _ rfl (block_new _ _ _ rfl) (by omega) (by first | exact Nat.le_trans (Nat.le_trans hszr hB1z) (al_le _ _)) ?_; intro v4 w4 ho4 hb4; have hB2 : Hid (Below wA.heap.size wA w4) := Lib.hid ((HBR.out.trans ((hB1.alloc hB1z _).mono hszr)).trans hb4.out)))
      all_goals
        go_wp2_with fail
        go_roundw
        case rel => exact ⟨k + 1, hlt, by go_num, hB2, by rw [HN.out]; exact ho4⟩
        case measure => simp [intOf]; omega
    · obtain rfl : k = l.length := by omega
      have HI := Lib.hid (InAt.of_own ho.out)
      have HA := Lib.hid (everyTo_all c l)
      obtain ⟨oa, oc, rfl, _⟩ := ownsRow_shape ho.out
      go_wp2_with fail
      go_ret
      exact ⟨_, rfl, by rw [← HA.out]; exact HI.out, HB.out.trans (hb.out.mono HB.out.size)⟩

end Go.Proofs.Ytbiihhokcmdlhaa

/- Walks of layer 3 (circuit): gap, CheckRota of the specification. -/
namespace Go.Proofs.Ytbiihhokcmdlhaa
open Go.RowKit

theorem fillW_own (xs : List Nat) {k : Nat} (h : k < xs.length) : (fillW xs k).set k 0 = fillW xs k := by
  unfold fillW
  obtain ⟨d, hd⟩ : ∃ d, xs.length - k = d + 1 := ⟨xs.length - k - 1, by omega⟩
  have hn : (natL (xs.take k)).length = k := by unfold natL; simp; omega
  rw [hd, List.set_append_right _ _ (by omega), hn, Nat.sub_self, List.replicate_succ, List.set_cons_zero]

theorem set_getD (xs : List Int) {k : Nat} (h : k < xs.length) (v : Int) : (xs.set k v).getD k 0 = v := by
  rw [List.getD_eq_getElem?_getD, List.getElem?_set_self h]; rfl

theorem union_take {sets : List Nat} {ks : List Int} {j k : Nat} (hj : j < ks.length) (hk : ks.getD j 0 = k) : unionM sets (ks.take (j + 1)) = unionM sets (ks.take j) ||| sets.getD k 0 := by
  rw [List.take_succ_eq_append_getElem hj, union_snoc]
  rw [List.getD_eq_getElem?_getD, List.getElem?_eq_getElem hj] at hk
  simp only [Option.getD_some] at hk
  rw [hk, Int.toNat_natCast]

theorem and_zero_bit {s k : Nat} (hs : s < 4611686018427387904) : (bits .and .i64 ((s : Int) / 2 ^ k) 1 == 0) = !s.testBit k := by
  have h1 : s / 2 ^ k ≤ s := Nat.div_le_self _ _
  rw [shr_nat]
  have h2 := i64_and_nat (s / 2 ^ k) 1 (by omega) (by omega)
  rw [show ((1 : Nat) : Int) = 1 from rfl] at h2
  rw [h2]
  have h3 := bit_of_shift s k
  have h4 : s / 2 ^ k &&& 1 ≤ 1 := Nat.and_le_right
  cases ht : s.testBit k
  · rw [ht] at h3
    simp only [Bool.false_eq_true, iff_false] at h3
    have : s / 2 ^ k &&& 1 = 0 := by omega
    rw [this]; rfl
  · rw [ht] at h3
    rw [h3.2 rfl]
    rfl

set_option maxRecDepth 100000 in
set_option maxHeartbeats 8000000 in
theorem rgap_any (c : Cir) (sets : List Nat) (r : Rot) (sv wv kv nv : Value) (w : World) (hv : CirAt w sv wv c) (hs : InAt w kv (natL sets)) (hr : NsAt w nv r.nights) (s12 : c.sw.length ≤ 12)
    (n1 : 1 ≤ r.nights.length) (n2 : r.nights.length ≤ 60) (g1 : 1 ≤ r.gap) (g2 : r.gap ≤ 60) (hb : ∀ s ∈ sets, s < 1048576) (hks : ∀ ks ∈ r.nights, ∀ k ∈ ks, 0 ≤ k ∧ k < sets.length) :
    Calls Try.prog 106 #[cirV c sv wv, kv, rotV r nv] w fun e w' => e = .returned (trV (triesM (r.nights.map (unionM sets)) r.gap.toNat c.sw.length)) ∧ Below w.heap.size w w' := by
  have hb0 := blw2 w (cirO c sv wv) (rotO r nv)
  have HB := Lib.hid hb0
  have K0 := Lib.hid (two_od w (cirO c sv wv) (rotO r nv))
  have K1 := Lib.hid (two_nw w (cirO c sv wv) (rotO r nv))
  have HN := Lib.hid (hr.below hb0 (Nat.le_refl _))
  have HI := Lib.hid (hs.below hb0 (Nat.le_refl _))
  have HST := Lib.hid hb
  have HKS := Lib.hid hks
  obtain ⟨⟨sa, scap, rfl, _⟩, _⟩ := hv
  obtain ⟨na, ncap, rfl, m3, m4, _⟩ := hr
  obtain ⟨ka, kcap, rfl, m5, m6, _⟩ := hs
  obtain ⟨gp, hgp⟩ : ∃ g : Nat, r.gap = g := ⟨r.gap.toNat, by omega⟩
  have HG := Lib.hid hgp
  obtain ⟨R, hR⟩ : ∃ R, r.nights.map (unionM sets) = R := ⟨_, rfl⟩
  have HRL := Lib.hid (show R.length = r.nights.length by rw [← hR]; simp)
  have HRA := Lib.hid (fun k (h : k < r.nights.length) => show R.getD k 0 = unionM sets (r.nights.getD k []) by
    rw [← hR, List.getD_eq_getElem?_getD, List.getElem?_map, List.getD_eq_getElem?_getD, List.getElem?_eq_getElem h]; rfl)
  have HRT := Lib.hid (show ∀ s ∈ R, s < 1048576 by
    intro s hs; rw [← hR] at hs
    obtain ⟨t, _, rfl⟩ := List.mem_map.1 hs
    exact union_lt hb t)
  rw [hR, hgp, Int.toNat_natCast]
  have HF := Lib.hid (fun k i => tries_fail (round := R) (gap := gp) (n := c.sw.length) (k := k) (i := i))
  have HD := Lib.hid (tries_done (round := R) (gap := gp) (n := c.sw.length))
  have HM := Lib.hid (fun k => miss_all (round := R) (gap := gp) (k := k))
  obtain ⟨i0, hi, hz0, hz1, hz2⟩ := info_parts infoInt
  clear hb hks hR hb0 hgp
  go_enter Try.func106, Try.ntmps106
  go_upto_region 2 with fail
  generalize (w.alloc (cirO c (.slice sa c.sw.length scap) wv)).alloc (rotO r (.slice na r.nights.length ncap)) = wA at *
  have c1 := block_cell K1.out
  go_wp2_with (refine wpList_make_full _ rfl (.tmp 20) (.tmp 20) 22 rfl wA.heap.size 3 i0 (.int .i64 0) 1 Try.underlying22 hi hz0 hz1 .i64 .i64 _ _ r.nights.length rfl rfl rfl rfl ?m1 ?m2 (Nat.le_refl _) ?_)
  case m1 => rw [hz2]; omega
  case m2 => unfold maxLen; omega
  intro w3 hown hgrow
  have hb3 : Below wA.heap.size wA w3 := (Below.refl _ _).grown hgrow (Nat.le_refl _) (fun k h => by cases h)
  have hrow := (IntRow.of_own (xs := List.replicate r.nights.length 0) (by rw [← made1]; exact hown)).1
  rw [← HRL.out, ← fillW_zero] at hrow
  have R0 := Lib.hid hrow
  have HB3 := Lib.hid hb3
  clear hown hgrow hb3 hrow hi hz0 hz1 hz2 c1
  have z1 := lt_of_block K1.out
  have z0 := lt_of_block K0.out
  generalize hGG : wA.heap.size = G at *
  have HG0 := Lib.hid hGG
  clear hGG
  go_wp2_with fail
  go_loopw [11] (fun i wr => ∃ k : Nat, k ≤ r.nights.length ∧ i = .int .i64 k ∧ Hid (Below G wA wr) ∧ Hid (IntRow wr G (fillW R k))) (fun i _ => r.nights.length - (intOf i).toNat)
  case atStart => exact ⟨0, Nat.zero_le _, rfl, HB3, R0⟩
  case round =>
    obtain ⟨k, hk, rfl, hb, hRW⟩ := hrel
    obtain ⟨wo, rfl⟩ : ∃ wo : World, wo = wr := ⟨_, rfl⟩
    by_cases hlt : k < r.nights.length
    · obtain ⟨na', ncap', e1, _, _, hcc⟩ := HN.out
      injection e1 with e1 e2 e3
      subst e1
      obtain ⟨b, off, rfl, hbl, hcc⟩ := hcc (by omega)
      obtain ⟨u, q1, q2⟩ := hcc k hlt
      rw [HG0.out] at hbl
      have HKK := Lib.hid (HKS.out _ (getD_mem hlt []))
      have HSET := Lib.hid (fillW_set R (k := k) (by rw [HRL.out]; exact hlt))
      rw [HRA.out k hlt] at HSET
      have HLEN := Lib.hid (show (fillW R k).length = r.nights.length by rw [fillW_len _ (by rw [HRL.out]; exact hk), HRL.out])
      have HOWN := Lib.hid (fillW_own R (k := k) (by rw [HRL.out]; exact hlt))
      obtain ⟨ua, ucap, rfl, u1, u2, uc⟩ := q2
      have UC := Lib.hid uc
      have Q1 := Lib.hid q1
      generalize hkk : r.nights.getD k [] = ks at *
      clear hcc e2 e3 uc q1 hkk
      have k1 : (0 : Int) ≤ k := by omega
      have k2 : (k : Int) < r.nights.length := by omega
      go_wp2_with fail
      go_loopw [12] (fun i wr => ∃ j : Nat, j ≤ ks.length ∧ i = .int .i64 j ∧ Hid (Below G wA wr) ∧ Hid (IntRow wr G ((fillW R k).set k (unionM sets (ks.take j) : Nat)))) (fun i _ => ks.length - (intOf i).toNat)
      case atStart => exact ⟨0, Nat.zero_le _, rfl, hb, Lib.hid (by rw [List.take_zero]; show IntRow _ G ((fillW R k).set k 0); rw [HOWN.out]; exact hRW.out)⟩
      case round =>
        obtain ⟨j, hj, rfl, hbj, hRJ⟩ := hrel
        have c1 := block_cell ((hbj.out.block _ z1).trans K1.out)
        have zz1 := Nat.lt_of_lt_of_le z1 (Nat.le_trans (Nat.le_of_eq HG0.out.symm) (Nat.le_trans (Nat.le_of_eq HG0.out) (by have := hbj.out.size; rw [HG0.out] at this; exact this)))
        have g3 := (hbj.out.cell (p := ⟨b, off + k, none⟩) hbl).trans Q1.out
        have zb := Nat.lt_of_lt_of_le hbl (by have := hbj.out.size; rw [HG0.out] at this; exact this)
        by_cases hlj : j < ks.length
        · obtain ⟨ub, uoff, rfl, hubl, ucc⟩ := UC.out (by omega)
          rw [HG0.out] at hubl
          have g4 := (hbj.out.cell (p := ⟨ub, uoff + j, none⟩) hubl).trans (ucc j hlj)
          have zu := Nat.lt_of_lt_of_le hubl (by have := hbj.out.size; rw [HG0.out] at this; exact this)
          obtain ⟨p1, p2⟩ := HKK.out _ (getD_mem hlj 0)
          obtain ⟨p, hp⟩ : ∃ p : Nat, ks.getD j 0 = p := ⟨(ks.getD j 0).toNat, by omega⟩
          have HT := Lib.hid (union_take (sets := sets) hlj hp)
          rw [hp] at g4 p1 p2
          have p3 : p < sets.length := by omega
          obtain ⟨ka', kcap', e1, _, _, kcc⟩ := HI.out
          injection e1 with e1 e2 e3
          subst e1
          obtain ⟨kb, koff, rfl, kbl, kcc⟩ := kcc (by rw [natL_len]; omega)
          rw [HG0.out] at kbl
          have g5 := (hbj.out.cell (p := ⟨kb, koff + p, none⟩) kbl).trans (kcc p (by rw [natL_len]; exact p3))
          rw [natL_getD] at g5
          have zk := Nat.lt_of_lt_of_le kbl (by have := hbj.out.size; rw [HG0.out] at this; exact this)
          have hx := union_lt HST.out (ks.take j)
          have hy := HST.out _ (getD_mem p3 0)
          have p2b : (p : Int) < (natL sets).length := by rw [natL_len]; exact p2
          have g6 := hRJ.out.cell (i := k) (by rw [List.length_set, HLEN.out]; exact hlt)
          rw [set_getD _ (by rw [HLEN.out]; exact hlt)] at g6
          have f6 := hRJ.out.free k
          have z6 := hRJ.out.lt
          have HNX := Lib.hid (fun (U : Nat) (hU : U = unionM sets (ks.take (j + 1))) => show IntRow (wr.setCell ⟨G, k, none⟩ (.int .i64 U)).drew G ((fillW R k).set k (unionM sets (ks.take (j + 1)) : Nat)) from by
            have := hRJ.out.set (i := k) (by rw [List.length_set, HLEN.out]; exact hlt) U
            rw [List.set_set, hU] at this
            rw [hU]
            obtain ⟨cur, h1, h2⟩ := this
            exact ⟨cur, h1, h2⟩)
          have HBX := Lib.hid (fun (U : Nat) => (hbj.out.setCell (p := ⟨G, k, none⟩) (Nat.le_refl _) (.int .i64 U)).drew)
          rw [HT.out] at HNX
          generalize unionM sets (ks.take j) = x at *
          generalize sets.getD p 0 = y at *
          have hor := i64_or_nat x y (by omega) (by omega)
          have j1 : (0 : Int) ≤ j := by omega
          have j2 : (j : Int) < ks.length := by omega
          have HT2 := Lib.hid HT.out
          clear ucc kcc e2 e3 hp HT
          go_wp2_with fail
          refine wp_region_still_tail 17 (by kernel_rfl) (by kernel_rfl) ?_
          change wpStill _ _ (World.drew _) (fun a' => wpList _ _ _ _ a' (World.drew _)) _ _
          simp only [List.take_succ_cons, List.take_zero, List.drop_succ_cons, List.drop_zero]
          repeat still_step
          refine wpStill_nil ?_
          go_wp2
          all_goals
            go_roundw
            case rel => exact ⟨j + 1, hlj, by go_num, HBX.out _, by rw [HT2.out]; exact HNX.out _ rfl⟩
            case measure => simp [intOf]; omega
        · obtain rfl : j = ks.length := by omega
          have HNX := Lib.hid (show IntRow wr G (fillW R (k + 1)) from by
            have := hRJ.out
            rw [List.take_length, HSET.out] at this
            exact this)
          go_wp2_with fail
          go_roundw
          case rel => exact ⟨k + 1, hlt, by go_num, hbj, HNX⟩
          case measure => simp [intOf]; omega
    · obtain rfl : k = r.nights.length := by omega
      have HROW := Lib.hid (show IntRow wo G (natL R) from by have := hRW.out; rwa [← HRL.out, fillW_all] at this)
      have c1 := block_cell ((hb.out.block _ z1).trans K1.out)
      have c0 := block_cell ((hb.out.block _ z0).trans K0.out)
      rw [HG.out] at c1
      have hRlen : (natL R).length = r.nights.length := by rw [natL_len, HRL.out]
      have HRLEN := Lib.hid hRlen
      clear hRlen
      go_wp2_with fail
      go_loop [13] (fun i => ∃ k : Nat, k ≤ c.sw.length ∧ i = .int .i64 k ∧ Hid (∀ j, j < k → missN R gp j = R.length)) (fun i => c.sw.length - (intOf i).toNat)
      case atStart => exact ⟨0, Nat.zero_le _, rfl, Lib.hid (fun j hj => by omega)⟩
      case round =>
        obtain ⟨s, hs, rfl, hP⟩ := hrel
        by_cases hls : s < c.sw.length
        · go_wp2_with fail
          go_loop [14] (fun i => ∃ f : Nat, f ≤ r.nights.length ∧ i = .int .i64 f ∧ Hid (∀ i, i < f → triedB R gp s i = true)) (fun i => r.nights.length - (intOf i).toNat)
          case atStart => exact ⟨0, Nat.zero_le _, rfl, Lib.hid (fun j hj => by omega)⟩
          case round =>
            obtain ⟨f, hf, rfl, hQ⟩ := hrel
            by_cases hlf : f < r.nights.length
            · go_wp2_with fail
              go_loop [15, 16] (fun y i => ∃ d : Nat, d ≤ gp ∧ i = .int .i64 d ∧ y = .int .i64 (orTo R f d : Nat)) (fun _ i => gp - (intOf i).toNat)
              case atStart => exact ⟨0, Nat.zero_le _, rfl, rfl⟩
              case round =>
                obtain ⟨d, hd, rfl, rfl⟩ := hrel
                have hx := orTo_lt HRT.out f d
                by_cases hld : d < gp
                · have hm : (f + d) % R.length < R.length := Nat.mod_lt _ (by rw [HRL.out]; omega)
                  have hmod : ((f : Int) + d).tmod (r.nights.length : Int) = (((f + d) % R.length : Nat) : Int) := by have := tmod_nat (f + d) R.length; rw [Int.natCast_add] at this; rw [← HRL.out]; exact this
                  have hy := HRT.out _ (getD_mem hm 0)
                  have g6 := HROW.out.cell (i := (f + d) % R.length) (by rw [natL_len]; exact hm)
                  rw [natL_getD] at g6
                  have HT := Lib.hid (show orTo R f (d + 1) = orTo R f d ||| R.getD ((f + d) % R.length) 0 from rfl)
                  have hm2 : (f + d) % R.length < r.nights.length := Nat.lt_of_lt_of_eq hm HRL.out
                  generalize (f + d) % R.length = m at *
                  generalize R.getD m 0 = y at *
                  generalize orTo R f d = x at *
                  have hor := i64_or_nat x y (by omega) (by omega)
                  have m1 : (0 : Int) ≤ m := by omega
                  have m2 : (m : Int) < r.nights.length := by omega
                  have hgp60 : gp ≤ 60 := by have := HG.out; omega
                  go_wp2_with fail
                  go_round
                  case rel => exact ⟨d + 1, hld, by go_num, by rw [HT.out]⟩
                  case measure => simp [intOf]; omega
                · obtain rfl : gp = d := by omega
                  have hbit := and_zero_bit (s := orTo R f gp) (k := s) (by omega)
                  have HBIT := Lib.hid (orTo_bit R f s gp)
                  have s0 : (0 : Int) ≤ s := by omega
                  generalize orTo R f gp = x at *
                  rw [HBIT.out] at hbit
                  cases hq : triedB R gp s f
                  · have HFA := Lib.hid (HF.out s f hls hP.out (by rw [HRL.out]; exact hlf) hQ.out hq)
                    go_wp2_with fail
                    go_ret3
                    exact ⟨ret_tr HFA.out.symm, HB.out.trans (hb.out.mono (by rw [← HG0.out]; exact HB.out.size))⟩
                  · have HQ := Lib.hid hq
                    go_wp2_with fail
                    go_round
                    case rel => exact ⟨f + 1, hlf, by go_num, Lib.hid (fun i hi => by
                      by_cases e : i = f
                      · rw [e]; exact HQ.out
                      · exact hQ.out i (by omega))⟩
                    case measure => simp [intOf]; omega
            · obtain rfl : f = r.nights.length := by omega
              have HMM := Lib.hid (HM.out s (by rw [HRL.out]; exact hQ.out))
              go_wp2_with fail
              go_round
              case rel => exact ⟨s + 1, hls, by go_num, Lib.hid (fun i hi => by
                by_cases e : i = s
                · rw [e]; exact HMM.out
                · exact hP.out i (by omega))⟩
              case measure => simp [intOf]; omega
        · obtain rfl : s = c.sw.length := by omega
          have HDD := Lib.hid (HD.out hP.out)
          go_wp2_with fail
          go_ret3
          exact ⟨ret_tr HDD.out.symm, HB.out.trans (hb.out.mono (by rw [← HG0.out]; exact HB.out.size))⟩

end Go.Proofs.Ytbiihhokcmdlhaa

/- Walks of layer 3 (circuit): CheckRota of the specification. -/
namespace Go.Proofs.Ytbiihhokcmdlhaa
open Go.RowKit

set_option maxRecDepth 100000 in
set_option maxHeartbeats 4000000 in
theorem rcrota_any (c : Cir) (l : List Tri) (r : Rot) (sv wv v nv : Value) (w : World) (hv : CirAt w sv wv c) (hl : TrAt w v l) (hr : NsAt w nv r.nights) :
    Calls Try.prog 42 #[cirV c sv wv, v, rotV r nv] w fun e w' => e = .returned (rotaV (rotaM c l r) (chkR c l r)) ∧ Below w.heap.size w w' := by
  have hb0 := blw2 w (cirO c sv wv) (rotO r nv)
  have HB := Lib.hid hb0
  have K0 := Lib.hid (two_od w (cirO c sv wv) (rotO r nv))
  have K1 := Lib.hid (two_nw w (cirO c sv wv) (rotO r nv))
  have HV := Lib.hid (hv.below hb0 (Nat.le_refl _))
  have HT := Lib.hid (hl.below hb0 (Nat.le_refl _))
  have HN := Lib.hid (hr.below hb0 (Nat.le_refl _))
  obtain ⟨ta, tcap, rfl, _, m2, _⟩ := hl
  have m3 : (l.length : Int) ≤ 9223372036854775807 := by omega
  clear hb0 hv hr
  by_cases ht : chkT c l = 0
  · have l12 := (tval ht).n
    cases hrb : rotB l.length r
    · have HC := Lib.hid ht
      have HQ := Lib.hid (chkR_bad ht hrb)
      have HR := Lib.hid (rota_bad (c := c) (l := l) (r := r) (by rw [← HQ.out]; decide))
      have HRB := Lib.hid hrb
      clear ht hrb
      go_enter Try.func42, Try.ntmps42
      go_wp2_with fail
      generalize (w.alloc (cirO c sv wv)).alloc (rotO r nv) = wA at *
      refine (rcheckT_any c l _ _ _ _ HV.out HT.out).mono ?_
      rintro e w1 ⟨rfl, hb1⟩
      rw [HC.out]
      have c1 := block_cell (keepZ K1.out hb1)
      have HB1 := Lib.hid hb1
      clear hb1
      go_wp2_with fail
      refine (rvalidR_any r l.length nv _ (HN.out.below HB1.out (Nat.le_refl _)) l12).mono ?_
      rintro e w2 ⟨rfl, hb2⟩
      rw [HRB.out]
      clear c1
      go_wp2_with fail
      exact bodyPost_ret (v := .tuple #[.int .i64 0, .int .i64 0, .bool false, .int .i64 32]) (by simp [results, Try.results42, go_sem]) rfl ⟨by rw [HR.out, ← HQ.out], HB.out.trans ((HB1.out.trans (hb2.mono HB1.out.size)).mono HB.out.size)⟩
    · have HC := Lib.hid ht
      have HQ := Lib.hid (chkR_ok ht hrb)
      have HR := Lib.hid (rota_ok HQ.out.symm)
      have HRV := Lib.hid (rval HQ.out.symm)
      have HRB := Lib.hid hrb
      have HRR := Lib.hid (show triesM (r.nights.map (unionM (setsM c l))) r.gap.toNat c.sw.length = rotaM c l r from HR.out.symm)
      have HST := Lib.hid (sets_lt (l := l) HRV.out.t.cv)
      have HSL := Lib.hid (show (setsM c l).length = l.length by simp [setsM])
      clear ht hrb
      go_enter Try.func42, Try.ntmps42
      go_wp2_with fail
      generalize (w.alloc (cirO c sv wv)).alloc (rotO r nv) = wA at *
      refine (rcheckT_any c l _ _ _ _ HV.out HT.out).mono ?_
      rintro e w1 ⟨rfl, hb1⟩
      rw [HC.out]
      have c1 := block_cell (keepZ K1.out hb1)
      have HB1 := Lib.hid hb1
      clear hb1
      go_wp2_with fail
      refine (rvalidR_any r l.length nv _ (HN.out.below HB1.out (Nat.le_refl _)) l12).mono ?_
      rintro e w2 ⟨rfl, hb2⟩
      rw [HRB.out]
      have HB2 := Lib.hid (HB1.out.trans (hb2.mono HB1.out.size))
      clear hb2 c1
      have D : ∀ w', Below wA.heap.size wA w' → ((w'.cell? ⟨w.heap.size, 0, none⟩ = some (.int .i64 c.hz) ∧ w'.cell? ⟨w.heap.size, 1, none⟩ = some sv ∧ w'.cell? ⟨w.heap.size, 2, none⟩ = some wv) ∧ (w'.cell? ⟨w.heap.size + 1, 0, none⟩ = some nv ∧ w'.cell? ⟨w.heap.size + 1, 1, none⟩ = some (.int .i64 r.gap))) ∧ Below wA.heap.size wA w' := by
        intro w' h
        have c0 := block_cell (keepZ K0.out h)
        have c1 := block_cell (keepZ K1.out h)
        exact ⟨⟨⟨c0 0, c0 1, c0 2⟩, c1 0, c1 1⟩, h⟩
      obtain ⟨t1, t2, t3, hT⟩ : ∃ t1 t2 t3, rotaM c l r = ⟨t1, t2, t3⟩ := ⟨_, _, _, rfl⟩
      rw [hT] at HRR
      have HTT := Lib.hid hT
      clear hT
      go_upto_region 6 with fail
      go_cut [6, 7, 8] (fun s6 s7 s8 wx => s6 = .int .i64 t1 ∧ s7 = .int .i64 t2 ∧ s8 = .bool t3 ∧ Hid (Below wA.heap.size wA wx))
      case first =>
        go_region_held3 (fun w' => ((w'.cell? ⟨w.heap.size, 0, none⟩ = some (.int .i64 c.hz) ∧ w'.cell? ⟨w.heap.size, 1, none⟩ = some sv ∧ w'.cell? ⟨w.heap.size, 2, none⟩ = some wv) ∧ (w'.cell? ⟨w.heap.size + 1, 0, none⟩ = some nv ∧ w'.cell? ⟨w.heap.size + 1, 1, none⟩ = some (.int .i64 r.gap))) ∧ Below wA.heap.size wA w')
          (first | (with_reducible exact D _ (Below.drew HB2.out)) | (with_reducible exact D _ hB2) | (with_reducible exact D _ hB1) | fail)
          (first | (go_at_call 102; have hB0 := And.right ‹_ ∧ Below wA.heap.size wA _›; refine (revery_any c l sv wv _ _ (HV.out.below hB0 (Nat.le_refl _)) (HT.out.below hB0 (Nat.le_refl _)) HRV.out.t).mono ?_; rintro e w3 ⟨v3, rfl, hin3, hb3⟩; have hB1 := hB0.trans (hb3.mono hB0.size)) | (go_at_call 106; refine (rgap_any c (setsM c l) r sv wv _ nv _ (HV.out.below hB1 (Nat.le_refl _)) hin3 (HN.out.below hB1 (Nat.le_refl _)) HRV.out.t.cv.s2 HRV.out.n1 HRV.out.n2 HRV.out.g1 HRV.out.g2 HST.out (fun ks h k hk => by rw [HSL.out]; exact HRV.out.a ks h k hk)).mono ?_; rintro e w4 ⟨rfl, hb4⟩; rw [HRR.out]; have hB2 := hB1.trans (hb4.mono hB1.size)))
        all_goals
          go_wp2_with fail
          go_meet
          exact ⟨rfl, rfl, rfl, And.right ‹_ ∧ Below wA.heap.size wA _›⟩
      case rest =>
        obtain ⟨rfl, rfl, rfl, HN1⟩ := hcut
        clear D
        go_wp2_with fail
        exact bodyPost_ret (v := .tuple #[.int .i64 t1, .int .i64 t2, .bool t3, .int .i64 0]) (by simp [results, Try.results42, go_sem]) rfl ⟨by rw [HTT.out, ← HQ.out], HB.out.trans (HN1.out.mono HB.out.size)⟩
  · have HQ := Lib.hid (chkR_trial r ht)
    have HR := Lib.hid (rota_bad (c := c) (l := l) (r := r) (by rw [← HQ.out]; exact ht))
    have hqb : (chkT c l == 0) = false := by simpa using ht
    have hqc : (chkT c l != 0) = true := by simpa using ht
    clear ht
    go_enter Try.func42, Try.ntmps42
    go_wp2_with fail
    generalize (w.alloc (cirO c sv wv)).alloc (rotO r nv) = wA at *
    refine (rcheckT_any c l _ _ _ _ HV.out HT.out).mono ?_
    rintro e w1 ⟨rfl, hb1⟩
    generalize chkT c l = m at *
    go_wp2
    exact bodyPost_ret (v := .tuple #[.int .i64 0, .int .i64 0, .bool false, .int .i64 m]) (by simp [results, Try.results42, go_sem]) rfl ⟨by rw [HR.out, HQ.out], HB.out.trans (hb1.mono HB.out.size)⟩

end Go.Proofs.Ytbiihhokcmdlhaa
