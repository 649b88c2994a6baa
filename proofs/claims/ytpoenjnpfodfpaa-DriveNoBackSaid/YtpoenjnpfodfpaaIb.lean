/- Walks of layer 1 (drive): sameInts, Rest, Behind, History. -/
import Derived.Test.YtpoenjnpfodfpaaDw
import Derived.Test.YtpoenjnpfodfpaaDn
import Derived.Test.YtpoenjnpfodfpaaHp
import Derived.Test.YtpoenjnpfodfpaaIa
import Derived.Test.YtpoenjnpfodfpaaBq
namespace Go.Proofs.Ytpoenjnpfodfpaa
open Go.RowKit

theorem ints_eq {xs ys : List Int} (hl : xs.length = ys.length) (h : ∀ i, i < xs.length → xs.getD i 0 = ys.getD i 0) : xs = ys := by
  apply List.ext_getElem hl
  intro i h1 h2
  have := h i h1
  rwa [List.getD_eq_getElem?_getD, List.getD_eq_getElem?_getD, List.getElem?_eq_getElem h1, List.getElem?_eq_getElem h2] at this

set_option maxHeartbeats 1000000 in
theorem sameInts_any (v1 v2 : Value) (xs ys : List Int) (w : World) (h1 : InAt w v1 xs) (h2 : InAt w v2 ys) :
    Calls Try.prog 25 #[v1, v2] w fun e w' => e = .returned (.bool (decide (xs = ys))) ∧ Below w.heap.size w w' := by
  obtain ⟨a1, c1, rfl, n1, m1, hc1⟩ := h1
  obtain ⟨a2, c2, rfl, n2, m2, hc2⟩ := h2
  have HC1 := Lib.hid hc1
  have HC2 := Lib.hid hc2
  clear hc1 hc2
  by_cases hl : xs.length = ys.length
  · have hb : ((xs.length : Int) != (ys.length : Int)) = false := by simp; omega
    have HL := Lib.hid hl
    have hl1 : xs.length ≤ ys.length := by omega
    have hl2 : ys.length ≤ xs.length := by omega
    clear hl
    go_enter Try.func25, Try.ntmps25
    go_wp2_with fail
    go_loopw [5] (fun i wr => ∃ k : Nat, k ≤ xs.length ∧ i = .int .i64 k ∧ Below w.heap.size w wr ∧ Hid (∀ i, i < k → xs.getD i 0 = ys.getD i 0)) (fun i _ => xs.length - (intOf i).toNat)
    case atStart => exact ⟨0, Nat.zero_le _, rfl, Below.refl _ _, fun i hi => by omega⟩
    case round =>
      obtain ⟨k, hk, rfl, hbl, hf⟩ := hrel
      by_cases hlt : k < xs.length
      · obtain ⟨b1, o1, rfl, l1, hc1⟩ := HC1.out (by omega)
        obtain ⟨b2, o2, rfl, l2, hc2⟩ := HC2.out (by omega)
        have g1 := (hbl.cell (p := ⟨b1, o1 + k, none⟩) l1).trans (hc1 k hlt)
        have g2 := (hbl.cell (p := ⟨b2, o2 + k, none⟩) l2).trans (hc2 k (by omega))
        clear hc1 hc2
        generalize hp : xs.getD k 0 = p at g1
        generalize hq : ys.getD k 0 = q at g2
        have HP := Lib.hid hp
        have HQ := Lib.hid hq
        clear hp hq
        have i1 : (0 : Int) ≤ (k : Int) := by omega
        have i2 : (k : Int) < xs.length := by omega
        have i3 : (k : Int) < ys.length := by omega
        by_cases hpq : p = q
        · subst hpq
          have hpb : (p != p) = false := by simp
          go_wp2_with fail
          go_quiet (fail)
          go_wp2
          go_roundw
          case rel => exact ⟨k + 1, hlt, by go_num, below_drewN hbl _, fun i hi => by
            by_cases hik : i = k
            · rw [hik, HP.out, HQ.out]
            · exact hf.out i (by omega)⟩
          case measure => simp [intOf]; omega
        · have hpb : (p != q) = true := by simpa using hpq
          have HN := Lib.hid hpq
          clear hpq
          go_wp2_with fail
          go_quiet (fail)
          go_wp2
          go_ret
          exact ⟨ret_bool (by
            symm
            rw [decide_eq_false_iff_not]
            intro h
            exact HN.out (by rw [← HP.out, ← HQ.out, h])), below_drewN hbl _⟩
      · go_wp2
        go_ret
        exact ⟨ret_bool (by
          symm
          rw [decide_eq_true_eq]
          exact ints_eq HL.out (fun i hi => hf.out i (by omega))), hbl⟩
  · have hb : ((xs.length : Int) != (ys.length : Int)) = true := by simp; omega
    have HL := Lib.hid hl
    clear hl
    go_enter Try.func25, Try.ntmps25
    go_wp2
    go_ret
    exact ⟨ret_bool (by
      symm
      rw [decide_eq_false_iff_not]
      intro h
      exact HL.out (by rw [h])), Below.refl _ _⟩

/-- Are numbers within bounds that no sum of theirs leaves 64 bits? -/
def Small (xs : List Int) : Prop := ∀ i, i < xs.length → -20000000000 ≤ xs.getD i 0 ∧ xs.getD i 0 ≤ 20000000000

theorem way_small {sp : Int} {xs : List Int} (h : Small xs) : ∀ k, k ≤ xs.length → -(k * 20000000000) ≤ wayG (seqOf sp xs) k ∧ wayG (seqOf sp xs) k ≤ k * 20000000000 := by
  intro k
  induction k with
  | zero => intro _; simp [wayG]
  | succ k ih =>
    intro hk
    have := ih (by omega)
    have := h k (by omega)
    simp only [wayG, seqOf_succ]
    omega

theorem beh_small {sp : Int} {xs : List Int} (h : Small xs) : ∀ k, k ≤ xs.length → 0 ≤ behG (seqOf sp xs) k ∧ behG (seqOf sp xs) k ≤ k * 20000000000 := by
  intro k
  induction k with
  | zero => intro _; simp [behG]
  | succ k ih =>
    intro hk
    have := ih (by omega)
    have := h k (by omega)
    simp only [behG, seqOf_succ]
    omega

abbrev restV (w t : Int) (q : Bool) : Value := .tuple #[.int .i64 w, .int .i64 t, .bool q]

theorem restV_eq {w w' t t' : Int} {q q' : Bool} (h1 : w = w') (h2 : t = t') (h3 : q = q') : Ending.returned (restV w t q) = .returned (restV w' t' q') := by rw [h1, h2, h3]

set_option maxHeartbeats 1000000 in
theorem rest_any (sp : Int) (v : Value) (xs : List Int) (w : World) (h : InAt w v xs) (hs : Small xs) (hn : xs.length ≤ 100) :
    Calls Try.prog 42 #[.int .i64 sp, v] w fun e w' => e = .returned (restV (wayG (seqOf sp xs) (restG (seqOf sp xs) xs.length)) (restG (seqOf sp xs) xs.length) (seqOf sp xs (restG (seqOf sp xs) xs.length) == 0)) ∧ w = w' := by
  obtain ⟨a, c, rfl, n1, m1, hc⟩ := h
  have HC := Lib.hid hc
  have HW := Lib.hid (@way_small sp xs hs)
  have HS := Lib.hid hs
  have HR := Lib.hid (fun (r : Nat) => @restG_eq (seqOf sp xs) xs.length r)
  clear hc hs
  by_cases h0 : sp = 0
  · have h0b : (sp == 0) = true := by simpa using h0
    have Hz := Lib.hid (show restG (seqOf sp xs) xs.length = 0 from HR.out _ (Nat.zero_le _) (fun i hi => by omega) (fun _ => h0))
    have H0 := Lib.hid h0
    clear h0
    go_enter Try.func42, Try.ntmps42
    go_wp2
    go_ret3
    exact ⟨restV_eq (by rw [Hz.out]; rfl) (by rw [Hz.out]; rfl) (by rw [Hz.out]; simp [seqOf, H0.out]), rfl⟩
  · have h0b : (sp == 0) = false := by simpa using h0
    have H0 := Lib.hid h0
    clear h0
    go_enter Try.func42, Try.ntmps42
    go_wp2_with fail
    go_loop [4, 7] (fun t i => ∃ k : Nat, k ≤ xs.length ∧ i = .int .i64 k ∧ t = .int .i64 (wayG (seqOf sp xs) k) ∧ Hid (∀ i, i ≤ k → seqOf sp xs i ≠ 0)) (fun _ i => xs.length - (intOf i).toNat)
    case atStart => exact ⟨0, Nat.zero_le _, rfl, rfl, fun i hi => by
      have : i = 0 := by omega
      subst this; exact H0.out⟩
    case round =>
      obtain ⟨k, hk, rfl, rfl, hf⟩ := hrel
      obtain ⟨w1, w2⟩ := HW.out k hk
      have hkn : (k : Int) * 20000000000 ≤ 2000000000000 := by omega
      by_cases hlt : k < xs.length
      · obtain ⟨b, o, rfl, l1, hc⟩ := HC.out (by omega)
        obtain ⟨s1, s2⟩ := HS.out k hlt
        have g := hc k hlt
        clear hc
        have Hn := Lib.hid (seqOf_succ sp xs k)
        generalize hp : xs.getD k 0 = p at *
        have HP := Lib.hid hp
        clear hp
        by_cases hz : p = 0
        · subst hz
          have Hr := Lib.hid (show restG (seqOf sp xs) xs.length = k + 1 from HR.out _ (by omega) (fun i hi => hf.out i (by omega)) (fun _ => by rw [Hn.out]))
          go_wp2
          go_ret3
          exact ⟨restV_eq (by rw [Hr.out]; simp only [wayG]; rw [Hn.out, Int.add_zero]) (by rw [Hr.out]; rfl) (by rw [Hr.out, Hn.out]; rfl), rfl⟩
        · have hzb : (p == 0) = false := by simpa using hz
          have HZ := Lib.hid hz
          clear hz
          go_wp2
          go_round
          case rel => exact ⟨k + 1, hlt, by go_num, congrArg (Value.int .i64) (by simp only [wayG]; rw [Hn.out]), fun i hi => by
            by_cases hik : i = k + 1
            · rw [hik, Hn.out]; exact HZ.out
            · exact hf.out i (by omega)⟩
          case measure => simp [intOf]; omega
      · have hkn' : k = xs.length := by omega
        have Hk := Lib.hid hkn'
        have Hr := Lib.hid (show restG (seqOf sp xs) xs.length = k from HR.out _ hk (fun i hi => hf.out i (by omega)) (fun h => by omega))
        have Hn := Lib.hid (hf.out k (Nat.le_refl _))
        clear hkn'
        go_wp2
        go_ret3
        exact ⟨restV_eq (by rw [Hr.out]) (by rw [Hr.out, Hk.out]) (by rw [Hr.out]; simpa using Hn.out), rfl⟩

set_option maxHeartbeats 1000000 in
theorem behind_any (v : Value) (xs : List Int) (w : World) (h : InAt w v xs) (hs : Small xs) (hn : xs.length ≤ 100) :
    Calls Try.prog 43 #[v] w fun e w' => e = .returned (.int .i64 (behG (seqOf 0 xs) xs.length)) ∧ w = w' := by
  obtain ⟨a, c, rfl, n1, m1, hc⟩ := h
  have HC := Lib.hid hc
  have HW := Lib.hid (@beh_small 0 xs hs)
  have HS := Lib.hid hs
  clear hc hs
  go_enter Try.func43, Try.ntmps43
  go_wp2_with fail
  go_loop [3, 4] (fun t i => ∃ k : Nat, k ≤ xs.length ∧ i = .int .i64 k ∧ t = .int .i64 (behG (seqOf 0 xs) k)) (fun _ i => xs.length - (intOf i).toNat)
  case atStart => exact ⟨0, Nat.zero_le _, rfl, rfl⟩
  case round =>
    obtain ⟨k, hk, rfl, rfl⟩ := hrel
    obtain ⟨w1, w2⟩ := HW.out k hk
    have hkn : (k : Int) * 20000000000 ≤ 2000000000000 := by omega
    by_cases hlt : k < xs.length
    · obtain ⟨b, o, rfl, l1, hc⟩ := HC.out (by omega)
      obtain ⟨s1, s2⟩ := HS.out k hlt
      have g := hc k hlt
      clear hc
      have Hn := Lib.hid (seqOf_succ 0 xs k)
      generalize hp : xs.getD k 0 = p at *
      have HP := Lib.hid hp
      clear hp
      go_wp2
      all_goals
        go_round
        case rel => exact ⟨k + 1, hlt, by go_num, congrArg (Value.int .i64) (by simp only [behG]; rw [Hn.out]; omega)⟩
        case measure => simp [intOf]; omega
    · have hkn' : k = xs.length := by omega
      have Hk := Lib.hid hkn'
      clear hkn'
      go_wp2
      go_ret
      exact ⟨ret_int (by rw [Hk.out]), rfl⟩

theorem rwithq (q : Bool) (n lo hi : Int) (w : World) (h : (decide (lo ≤ n) && decide (n ≤ hi)) = q) :
    Calls Try.prog 47 #[.int .i64 n, .int .i64 lo, .int .i64 hi] w fun e w' => e = .returned (.bool q) ∧ w' = w := by
  subst h
  exact (rwithin_any n lo hi w).mono fun _ _ ⟨h1, h2⟩ => ⟨h1, h2.symm⟩

def inB (S : Stp) (l : Int) : Bool := decide (S.lo ≤ l) && decide (l ≤ S.hi)
def histB (S : Stp) (xs : List Int) : Bool := xs.all (inB S) && decide (xs.length ≤ 100)

theorem all_of {α : Type} {d : α} {p : α → Bool} {l : List α} (h : ∀ i, i < l.length → p (l.getD i d) = true) : l.all p = true := by
  rw [List.all_eq_true]
  intro x hx
  obtain ⟨i, hi, rfl⟩ := List.getElem_of_mem hx
  have := h i hi
  rw [List.getD_eq_getElem?_getD, List.getElem?_eq_getElem hi] at this
  simpa using this

theorem all_not {α : Type} {d : α} {p : α → Bool} {l : List α} {i : Nat} (hi : i < l.length) (h : p (l.getD i d) = false) : l.all p = false := by
  rw [List.all_eq_false]
  rw [List.getD_eq_getElem?_getD, List.getElem?_eq_getElem hi] at h
  exact ⟨l[i], List.getElem_mem hi, by rw [show p l[i] = false from h]; decide⟩

theorem histB_span {S : Stp} {xs : List Int} (h : histB S xs = true) : InSpan S xs ∧ xs.length ≤ 100 := by
  unfold histB at h
  rw [Bool.and_eq_true, decide_eq_true_eq, List.all_eq_true] at h
  refine ⟨fun t ht => ?_, h.2⟩
  have := h.1 (xs.getD t 0) (by rw [List.getD_eq_getElem?_getD, List.getElem?_eq_getElem ht]; exact List.getElem_mem ht)
  simpa [inB] using this

set_option maxHeartbeats 1000000 in
theorem history_any (S : Stp) (v : Value) (xs : List Int) (w : World) (h : InAt w v xs) :
    Calls Try.prog 41 #[stpV S, v] w fun e w' => e = .returned (.bool (histB S xs)) ∧ Below w.heap.size w w' := by
  have hb0 := (Below.refl w.heap.size w).alloc (Nat.le_refl _) (Obj.cells #[.int .i64 S.sp, .int .i64 S.lo, .int .i64 S.hi, .int .i64 S.fa] 38)
  have k0 := block_new w (Obj.cells #[.int .i64 S.sp, .int .i64 S.lo, .int .i64 S.hi, .int .i64 S.fa] 38) w.heap.size rfl
  have hsz := size_alloc w (Obj.cells #[.int .i64 S.sp, .int .i64 S.lo, .int .i64 S.hi, .int .i64 S.fa] 38)
  obtain ⟨a, c, rfl, n1, m1, hc⟩ := h
  have HC := Lib.hid hc
  clear hc
  go_enter Try.func41, Try.ntmps41
  go_wp2_with fail
  generalize w.alloc (Obj.cells #[.int .i64 S.sp, .int .i64 S.lo, .int .i64 S.hi, .int .i64 S.fa] 38) = wA at *
  have HK := Lib.hid k0
  have HSZ := Lib.hid hsz
  clear k0 hsz
  go_loopw [5] (fun i wr => ∃ k : Nat, k ≤ xs.length ∧ i = .int .i64 k ∧ Below (w.heap.size + 1) wA wr ∧ Hid (∀ i, i < k → inB S (xs.getD i 0) = true)) (fun i _ => xs.length - (intOf i).toNat)
  case atStart => exact ⟨0, Nat.zero_le _, rfl, Below.refl _ _, fun i hi => by omega⟩
  case round =>
    obtain ⟨k, hk, rfl, hbl, hf⟩ := hrel
    have hbw : Below w.heap.size w wr := hb0.trans (hbl.mono (by omega))
    by_cases hlt : k < xs.length
    · obtain ⟨b, o, rfl, l1, hc⟩ := HC.out (by omega)
      have g := (hbw.cell (p := ⟨b, o + k, none⟩) l1).trans (hc k hlt)
      have hcs := block_cell ((hbl.block w.heap.size (by omega)).trans HK.out)
      clear hc
      generalize hp : xs.getD k 0 = p at *
      have HP := Lib.hid hp
      clear hp
      have i1 : (0 : Int) ≤ (k : Int) := by omega
      have i2 : (k : Int) < xs.length := by omega
      cases hq : inB S p
      · have HQ := Lib.hid hq
        clear hq
        go_wp2_with fail
        go_quiet ((go_at_call 47; exact Calls.quiet_of_same (rwithq false _ _ _ _ HQ.out)))
        go_wp2
        go_ret
        exact ⟨ret_bool (by unfold histB; rw [all_not (d := 0) hlt (by rw [HP.out]; exact HQ.out)]; rfl), below_drewN hbw _⟩
      · have HQ := Lib.hid hq
        clear hq
        go_wp2_with fail
        go_quiet ((go_at_call 47; exact Calls.quiet_of_same (rwithq true _ _ _ _ HQ.out)))
        go_wp2
        go_roundw
        case rel => exact ⟨k + 1, hlt, by go_num, below_drewN hbl _, fun i hi => by
          by_cases hik : i = k
          · rw [hik, HP.out]; exact HQ.out
          · exact hf.out i (by omega)⟩
        case measure => simp [intOf]; omega
    · have Ha := Lib.hid (all_of (d := 0) (p := inB S) (l := xs) (fun i hi => hf.out i (by omega)))
      go_wp2
      go_ret
      exact ⟨ret_bool (by unfold histB; rw [Ha.out]; simp; omega), hbw⟩

end Go.Proofs.Ytpoenjnpfodfpaa
