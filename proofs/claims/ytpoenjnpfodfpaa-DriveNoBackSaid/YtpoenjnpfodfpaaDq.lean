/- Walks: sort.Search, Capacity of both. -/
import Derived.Test.YtpoenjnpfodfpaaDp
import Derived.Laws.EntriesVeiled
namespace Go.Proofs.Ytpoenjnpfodfpaa
open Go.RowKit

/-- The answer of a search: the first number at which p holds, up to n. -/
def SearchRes (n : Nat) (p : Nat → Bool) (w : World) (e : Ending) (w' : World) : Prop := ∃ r : Nat, r ≤ n ∧ e = .returned (.int .i64 r) ∧ (∀ k, k < r → p k = false) ∧ (∀ k, r ≤ k → k < n → p k = true) ∧ Below w.heap.size w w'

theorem mid_eq (i j : Nat) : ((i : Int) + (j : Int)) / 2 = (((i + j) / 2 : Nat) : Int) := by omega

set_option maxHeartbeats 1000000 in
theorem search_cap (pc : Nat) (n : Nat) (ni : Int) (hni : ni = n) (p : Nat → Bool) (w : World) (hn : n ≤ 100000)
    (hp : ∀ (k : Nat) (w1 : World), k < n → Below w.heap.size w w1 → Calls Try.prog 50 #[.int .i64 k, .pointer (some ⟨pc, 0, none⟩)] w1 fun e w' => e = .returned (.bool (p k)) ∧ Below w1.heap.size w1 w')
    (mono : ∀ a b : Nat, a ≤ b → p a = true → p b = true) :
    Calls Try.prog 51 #[.int .i64 ni, .func (.func 50) #[] #[.pointer (some ⟨pc, 0, none⟩)]] w (SearchRes n p w) := by
  subst hni
  have HP := Lib.hid hp
  have HM := Lib.hid mono
  clear hp mono
  go_enter Try.func51, Try.ntmps51
  go_wp2_with fail
  go_loopw [5, 6] (fun x y wr => ∃ i j : Nat, i ≤ j ∧ j ≤ n ∧ x = .int .i64 i ∧ y = .int .i64 j ∧ Below w.heap.size w wr ∧ Hid (∀ k, k < i → p k = false) ∧ Hid (∀ k, j ≤ k → k < n → p k = true)) (fun x y _ => (intOf y).toNat - (intOf x).toNat)
  case atStart => exact ⟨0, n, Nat.zero_le _, Nat.le_refl _, rfl, rfl, Below.refl _ _, fun k hk => by omega, fun k h1 h2 => by omega⟩
  case round =>
    obtain ⟨i, j, hij, hj, rfl, rfl, hb, h1, h2⟩ := hrel
    by_cases hlt : i < j
    · have Hm := Lib.hid (mid_eq i j)
      go_wp2_with fail
      rw [Hm.out]
      refine (HP.out ((i + j) / 2) wr (by omega) hb).mono ?_
      rintro e w1 ⟨rfl, hb1⟩
      have hb2 := hb.trans (hb1.mono hb.size)
      clear hb hb1
      have m1 : i ≤ (i + j) / 2 := by omega
      have m2 : (i + j) / 2 < j := by omega
      generalize (i + j) / 2 = m at *
      cases hq : p m
      · have HQ := Lib.hid hq
        clear hq
        go_wp2
        go_roundw
        case rel => exact ⟨m + 1, j, by omega, hj, by go_num, rfl, hb2, (fun k hk => by
          cases hk' : p k
          · rfl
          · have := HM.out k m (by omega) hk'
            rw [HQ.out] at this; cases this), h2⟩
        case measure => simp [intOf]; omega
      · have HQ := Lib.hid hq
        clear hq
        go_wp2
        go_roundw
        case rel => exact ⟨i, m, m1, by omega, rfl, rfl, hb2, h1, fun k hk _ => HM.out m k hk HQ.out⟩
        case measure => simp [intOf]; omega
    · obtain rfl : i = j := by omega
      go_wp2
      go_ret
      exact ⟨i, hj, rfl, h1.out, h2.out, hb⟩


def spareM (E : Esc) : Int := if E.up = true then E.mo - E.dr else E.mo + E.dr
def capM (E : Esc) : Pair :=
  if E.ok = true then (if spareM E < 0 then ⟨0, 1⟩ else if E.pu = 0 then ⟨100000, 0⟩ else ⟨min 100000 (spareM E / E.pu), 0⟩) else ⟨0, 10⟩

theorem spareM_bd {E : Esc} (h : E.Num) : -10000000 ≤ spareM E ∧ spareM E ≤ 20000000 := by
  obtain ⟨e1, e2, p1, p2, d1, d2, m1, m2⟩ := h
  unfold spareM
  split <;> omega

theorem cap_of {pu s : Int} {r : Nat} (hp : 0 ≤ pu) (hs : 0 ≤ s) (hr : r ≤ 100000) (h1 : ∀ k : Nat, k < r → pu * (k + 1) ≤ s) (h2 : ∀ k : Nat, r ≤ k → k < 100000 → ¬ pu * (k + 1) ≤ s) :
    (r : Int) = if pu = 0 then 100000 else min 100000 (s / pu) := by
  by_cases h0 : pu = 0
  · rw [if_pos h0]
    subst h0
    by_cases hlt : r < 100000
    · exact absurd (by rw [Int.zero_mul]; exact hs) (h2 r (Nat.le_refl _) hlt)
    · omega
  · rw [if_neg h0]
    have hpos : 0 < pu := by omega
    have hle : (r : Int) ≤ s / pu := by
      by_cases hz : r = 0
      · subst hz; exact Int.ediv_nonneg hs (by omega)
      · have := h1 (r - 1) (by omega)
        have e : ((r - 1 : Nat) : Int) + 1 = r := by omega
        rw [e] at this
        exact Int.le_ediv_of_mul_le hpos (by rw [Int.mul_comm]; exact this)
    by_cases hlt : r < 100000
    · have := h2 r (Nat.le_refl _) hlt
      have : s / pu < r + 1 := Int.ediv_lt_of_lt_mul hpos (by rw [Int.mul_comm]; omega)
      omega
    · omega

set_option maxHeartbeats 1000000 in
theorem cap1_any (E : Esc) (v : Value) (pe : Nat) (ld : Int) (w : World) (hE : E.Num) (l1 : 0 ≤ ld) (l2 : ld ≤ 100000) (k : w.heap[pe]? = some (.cells #[.bool E.up, .int .i64 E.em, .int .i64 E.pu, .int .i64 E.dr, .int .i64 E.mo, v] 24 (0, 0))) :
    Calls Try.prog 49 #[.int .i64 ld, .pointer (some ⟨pe, 0, none⟩)] w fun e w' => e = .returned (.bool (decide (E.pu * ld ≤ spareM E))) ∧ Below w.heap.size w w' := by
  obtain ⟨g1, g2⟩ := hE.mul l1 l2
  obtain ⟨e1, e2, p1, p2, d1, d2, m1, m2⟩ := hE
  have c0 := block_cell k
  clear k
  obtain ⟨up, em, pu, dr, mo, bs⟩ := E
  dsimp only at *
  cases up
  all_goals
    go_enter Try.func49, Try.ntmps49
    go_wp2
    go_ret
    exact ⟨ret_bool (by simp [spareM]; omega), Below.refl _ _⟩

set_option maxHeartbeats 1000000 in
theorem cap2_any (E : Esc) (v : Value) (pe pc : Nat) (i : Nat) (w : World) (hE : E.Num) (l2 : i < 100000) (k : w.heap[pe]? = some (.cells #[.bool E.up, .int .i64 E.em, .int .i64 E.pu, .int .i64 E.dr, .int .i64 E.mo, v] 24 (0, 0)))
    (kc : w.heap[pc]? = some (.cells #[.func (.func 49) #[] #[.pointer (some ⟨pe, 0, none⟩)]] 78 (0, 0))) :
    Calls Try.prog 50 #[.int .i64 i, .pointer (some ⟨pc, 0, none⟩)] w fun e w' => e = .returned (.bool (!decide (E.pu * (i + 1) ≤ spareM E))) ∧ Below w.heap.size w w' := by
  have c0 := block_cell kc
  clear kc
  go_enter Try.func50, Try.ntmps50
  go_wp2_with fail
  refine (cap1_any E v pe _ _ hE (by omega) (by omega) k).mono ?_
  rintro e w1 ⟨rfl, hb⟩
  go_wp2
  go_ret
  exact ⟨ret_bool rfl, hb⟩

set_option maxHeartbeats 2000000 in
theorem capacity_any (E : Esc) (v : Value) (w : World) (hv : BrAt w v E.bs) :
    Calls Try.prog 19 #[escV E v] w fun e w' => e = .returned (pairV (capM E)) ∧ Below w.heap.size w w' := by
  have hb0 := (Below.refl w.heap.size w).alloc (Nat.le_refl _) (Obj.cells #[.bool E.up, .int .i64 E.em, .int .i64 E.pu, .int .i64 E.dr, .int .i64 E.mo, v] 24)
  have k0 := block_new w (Obj.cells #[.bool E.up, .int .i64 E.em, .int .i64 E.pu, .int .i64 E.dr, .int .i64 E.mo, v] 24) w.heap.size rfl
  have hv1 := hv.below hb0 (Nat.le_refl _)
  obtain ⟨a, cap, rfl, hn, hcap, hc⟩ := hv
  clear hc
  have K0 := Lib.hid k0
  clear k0
  by_cases hE : E.ok = true
  · have hck : checkM E = 0 := by simp [checkM, hE]
    have Hck := Lib.hid hck
    have HE := Lib.hid hE
    have hN := Esc.ok_num hE
    clear hck hE
    obtain ⟨sb1, sb2⟩ := spareM_bd hN
    cases hs : decide (E.pu * 0 ≤ spareM E)
    all_goals
      have Hs := Lib.hid hs
      clear hs
      go_enter Try.func19, Try.ntmps19
      go_wp2_with fail
      refine (check_any _ _ _ hv1).mono ?_
      rintro e w1 ⟨rfl, hb1⟩
      rw [Hck.out]
      have k1 := (hb1.block w.heap.size (by rw [size_alloc]; omega)).trans K0.out
      have k2 := block_alloc k1 (Obj.cells #[.func (.func 49) #[] #[.pointer (some ⟨w.heap.size, 0, none⟩)]] 78)
      have kc := block_new w1 (Obj.cells #[.func (.func 49) #[] #[.pointer (some ⟨w.heap.size, 0, none⟩)]] 78) w1.heap.size rfl
      have K2 := Lib.hid k2
      have KC := Lib.hid kc
      have hbA := hb1.trans ((Below.refl w1.heap.size w1).alloc (Nat.le_refl _) (Obj.cells #[.func (.func 49) #[] #[.pointer (some ⟨w.heap.size, 0, none⟩)]] 78) |>.mono hb1.size)
      clear k1 k2 kc
      go_wp2_with fail
      refine (cap1_any E _ _ 0 _ hN (by omega) (by omega) K2.out).mono ?_
      rintro e w2 ⟨rfl, hb2⟩
      rw [Hs.out]
      have hbB := hbA.trans (hb2.mono hbA.size)
      have K2' := Lib.hid ((hb2.block w.heap.size (lt_of_block K2.out)).trans K2.out)
      have KC' := Lib.hid ((hb2.block w1.heap.size (lt_of_block KC.out)).trans KC.out)
      have kc0 := block_cell KC'.out
    · go_wp2
      go_ret2
      refine ⟨?_, hb0.trans (hbB.mono hb0.size)⟩
      have h := Hs.out
      rw [Int.mul_zero, decide_eq_false_iff_not] at h
      unfold capM
      rw [if_pos HE.out, if_pos (by omega)]
      rfl
    · go_wp2_with fail
      refine (search_cap w1.heap.size 100000 100000 rfl (fun k => !decide (E.pu * (k + 1) ≤ spareM E)) _ (Nat.le_refl _) (fun k w3 hk hb => cap2_any E _ w.heap.size w1.heap.size k w3 hN hk ((hb.block w.heap.size (lt_of_block K2'.out)).trans K2'.out) ((hb.block w1.heap.size (lt_of_block KC'.out)).trans KC'.out)) (fun a b hab h => ?_)).mono ?_
      · simp only [Bool.not_eq_true', decide_eq_false_iff_not] at h ⊢
        have := Int.mul_le_mul_of_nonneg_left (a := (a : Int) + 1) (b := (b : Int) + 1) (c := E.pu) (by omega) hN.pu1
        omega
      rintro e w3 ⟨r, hr, rfl, h1, h2, hb3⟩
      have h := Hs.out
      rw [Int.mul_zero, decide_eq_true_eq] at h
      have HR := Lib.hid (cap_of (r := r) hN.pu1 h hr (fun k hk => by simpa using h1 k hk) (fun k hk hk' => by have := h2 k hk hk'; simpa using this))
      clear h h1 h2
      go_wp2
      go_ret2
      refine ⟨?_, hb0.trans ((hbB.trans (hb3.mono hbB.size)).mono hb0.size)⟩
      have h := Hs.out
      rw [Int.mul_zero, decide_eq_true_eq] at h
      unfold capM
      rw [if_pos HE.out, if_neg (by omega)]
      have hr' := HR.out
      by_cases hp : E.pu = 0
      · rw [if_pos hp] at hr' ⊢; rw [hr']; rfl
      · rw [if_neg hp] at hr' ⊢; rw [hr']; rfl
  · have hck : checkM E = 10 := by simp [checkM, hE]
    have Hck := Lib.hid hck
    have HE := Lib.hid hE
    clear hck hE
    go_enter Try.func19, Try.ntmps19
    go_wp2_with fail
    refine (check_any _ _ _ hv1).mono ?_
    rintro e w1 ⟨rfl, hb1⟩
    rw [Hck.out]
    go_wp2
    go_ret2
    refine ⟨?_, hb0.trans (hb1.mono hb0.size)⟩
    unfold capM
    rw [if_neg HE.out]
    rfl

theorem capM_lt {E : Esc} (hE : E.ok = true) (h : spareM E < 0) : capM E = ⟨0, 1⟩ := by
  unfold capM; rw [if_pos hE, if_pos h]
theorem capM_zero {E : Esc} (hE : E.ok = true) (h : 0 ≤ spareM E) (hp : E.pu = 0) : capM E = ⟨100000, 0⟩ := by
  unfold capM; rw [if_pos hE, if_neg (by omega), if_pos hp]
theorem capM_pos {E : Esc} (hE : E.ok = true) (h : 0 ≤ spareM E) (hp : 0 < E.pu) : capM E = ⟨min 100000 ((spareM E).tdiv E.pu), 0⟩ := by
  unfold capM; rw [if_pos hE, if_neg (by omega), if_neg (by omega), Int.tdiv_eq_ediv_of_nonneg h]
theorem tdiv_le (s pu : Int) (h : 0 ≤ s) (hp : 0 < pu) : 0 ≤ s.tdiv pu ∧ s.tdiv pu ≤ s := by
  rw [Int.tdiv_eq_ediv_of_nonneg h]
  exact ⟨Int.ediv_nonneg h (by omega), Int.ediv_le_self _ h⟩
theorem tup2 {x y f : Int} (h : x = y) : Ending.returned (Value.tuple #[.int .i64 x, .int .i64 f]) = Ending.returned (Value.tuple #[.int .i64 y, .int .i64 f]) := by rw [h]

set_option maxHeartbeats 2000000 in
theorem rcapacity_any (E : Esc) (v : Value) (w : World) (hv : BrAt w v E.bs) :
    Calls Try.prog 20 #[escV E v] w fun e w' => e = .returned (pairV (capM E)) ∧ Below w.heap.size w w' := by
  have hb0 := (Below.refl w.heap.size w).alloc (Nat.le_refl _) (Obj.cells #[.bool E.up, .int .i64 E.em, .int .i64 E.pu, .int .i64 E.dr, .int .i64 E.mo, v] 24)
  have hv1 := hv.below hb0 (Nat.le_refl _)
  obtain ⟨a, cap, rfl, hn, hcap, hc⟩ := hv
  clear hc
  by_cases hE : E.ok = true
  · have hck : checkM E = 0 := by simp [checkM, hE]
    have Hck := Lib.hid hck
    have HE := Lib.hid hE
    have hN := Esc.ok_num hE
    clear hck hE
    obtain ⟨e1, e2, p1, p2, d1, d2, m1, m2⟩ := hN
    obtain ⟨up, em, pu, dr, mo, bs⟩ := E
    dsimp only at *
    cases up
    · by_cases hs : mo + dr < 0
      · exfalso; omega
      · by_cases hp : pu = 0
        · subst hp
          have HF : Hid (capM ⟨false, em, 0, dr, mo, bs⟩ = ⟨100000, 0⟩) := capM_zero HE.out (by show 0 ≤ mo + dr; omega) rfl
          clear HE
          go_enter Try.func20, Try.ntmps20
          go_wp2_with fail
          refine (rcheck_any ⟨false, em, 0, dr, mo, bs⟩ _ _ hv1).mono ?_
          rintro e w1 ⟨rfl, hb1⟩
          rw [Hck.out]
          obtain ⟨hcl, hfz⟩ := bcell hb1
          go_wp2
          all_goals
            go_ret2
            refine ⟨?_, hb0.trans (hb1.mono hb0.size)⟩
            rw [HF.out]
            rfl
        · have hp1 : 0 < pu := by omega
          have hpb : (pu == 0) = false := by simpa using hp
          have HF : Hid (capM ⟨false, em, pu, dr, mo, bs⟩ = ⟨min 100000 ((mo + dr).tdiv pu), 0⟩) := capM_pos HE.out (by show 0 ≤ mo + dr; omega) hp1
          obtain ⟨t1, t2⟩ := tdiv_le (mo + dr) pu (by omega) hp1
          clear HE
          go_enter Try.func20, Try.ntmps20
          go_wp2_with fail
          refine (rcheck_any ⟨false, em, pu, dr, mo, bs⟩ _ _ hv1).mono ?_
          rintro e w1 ⟨rfl, hb1⟩
          rw [Hck.out]
          obtain ⟨hcl, hfz⟩ := bcell hb1
          go_wp2
          all_goals
            go_ret2
            refine ⟨?_, hb0.trans (hb1.mono hb0.size)⟩
            rw [HF.out]
            exact tup2 (by dsimp only; omega)
    · by_cases hs : mo - dr < 0
      · have HF : Hid (capM ⟨true, em, pu, dr, mo, bs⟩ = ⟨0, 1⟩) := capM_lt HE.out hs
        clear HE
        go_enter Try.func20, Try.ntmps20
        go_wp2_with fail
        refine (rcheck_any ⟨true, em, pu, dr, mo, bs⟩ _ _ hv1).mono ?_
        rintro e w1 ⟨rfl, hb1⟩
        rw [Hck.out]
        obtain ⟨hcl, hfz⟩ := bcell hb1
        go_wp2
        all_goals
          go_ret2
          refine ⟨?_, hb0.trans (hb1.mono hb0.size)⟩
          rw [HF.out]
          rfl
      · by_cases hp : pu = 0
        · subst hp
          have HF : Hid (capM ⟨true, em, 0, dr, mo, bs⟩ = ⟨100000, 0⟩) := capM_zero HE.out (by show 0 ≤ mo - dr; omega) rfl
          clear HE
          go_enter Try.func20, Try.ntmps20
          go_wp2_with fail
          refine (rcheck_any ⟨true, em, 0, dr, mo, bs⟩ _ _ hv1).mono ?_
          rintro e w1 ⟨rfl, hb1⟩
          rw [Hck.out]
          obtain ⟨hcl, hfz⟩ := bcell hb1
          go_wp2
          all_goals
            go_ret2
            refine ⟨?_, hb0.trans (hb1.mono hb0.size)⟩
            rw [HF.out]
            rfl
        · have hp1 : 0 < pu := by omega
          have hpb : (pu == 0) = false := by simpa using hp
          have HF : Hid (capM ⟨true, em, pu, dr, mo, bs⟩ = ⟨min 100000 ((mo - dr).tdiv pu), 0⟩) := capM_pos HE.out (by show 0 ≤ mo - dr; omega) hp1
          obtain ⟨t1, t2⟩ := tdiv_le (mo - dr) pu (by omega) hp1
          clear HE
          go_enter Try.func20, Try.ntmps20
          go_wp2_with fail
          refine (rcheck_any ⟨true, em, pu, dr, mo, bs⟩ _ _ hv1).mono ?_
          rintro e w1 ⟨rfl, hb1⟩
          rw [Hck.out]
          obtain ⟨hcl, hfz⟩ := bcell hb1
          go_wp2
          all_goals
            go_ret2
            refine ⟨?_, hb0.trans (hb1.mono hb0.size)⟩
            rw [HF.out]
            exact tup2 (by dsimp only; omega)
  · have hck : checkM E = 10 := by simp [checkM, hE]
    have Hck := Lib.hid hck
    have HE := Lib.hid hE
    clear hck hE
    go_enter Try.func20, Try.ntmps20
    go_wp2_with fail
    refine (rcheck_any _ _ _ hv1).mono ?_
    rintro e w1 ⟨rfl, hb1⟩
    rw [Hck.out]
    go_wp2
    go_ret2
    refine ⟨?_, hb0.trans (hb1.mono hb0.size)⟩
    unfold capM
    rw [if_neg HE.out]
    rfl


end Go.Proofs.Ytpoenjnpfodfpaa
