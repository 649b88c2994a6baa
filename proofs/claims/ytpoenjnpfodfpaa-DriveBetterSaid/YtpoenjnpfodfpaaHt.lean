/- The plain mathematics of DriveBetter: what is better; how its brakes lie in memory. -/
import Derived.Test.YtpoenjnpfodfpaaHq
import Derived.Test.YtpoenjnpfodfpaaGe
import Derived.Laws.OwnMore
namespace Go.Proofs.Ytpoenjnpfodfpaa
open Go.RowKit

structure Bet where
  br : Int
  fo : Int
  de : Int
  me : Int
  sl : Int
  lo : Int
  hi : Int
abbrev betV (X : Bet) : Value := .agg #[.int .i64 X.br, .int .i64 X.fo, .int .i64 X.de, .int .i64 X.me, .int .i64 X.sl, .int .i64 X.lo, .int .i64 X.hi]

/-- The cells of brakes. -/
def brL : List (Int × Int) → List Value
  | [] => []
  | b :: bs => .int .i64 b.1 :: .int .i64 b.2 :: brL bs

theorem brL_len : ∀ bs, (brL bs).length = bs.length * 2 := by
  intro bs
  induction bs with
  | nil => rfl
  | cons b bs ih => simp only [brL, List.length_cons, ih]; omega

theorem brL_even : ∀ (bs : List (Int × Int)) (i : Nat), i < bs.length → (brL bs)[i * 2]? = some (.int .i64 (bs.getD i (0, 0)).1) := by
  intro bs
  induction bs with
  | nil => intro i hi; simp at hi
  | cons b bs ih =>
    intro i hi
    cases i with
    | zero => rfl
    | succ i =>
      have := ih i (by simpa using hi)
      rw [show (i + 1) * 2 = i * 2 + 1 + 1 from by omega]
      simpa [brL] using this

theorem brL_odd : ∀ (bs : List (Int × Int)) (i : Nat), i < bs.length → (brL bs)[i * 2 + 1]? = some (.int .i64 (bs.getD i (0, 0)).2) := by
  intro bs
  induction bs with
  | nil => intro i hi; simp at hi
  | cons b bs ih =>
    intro i hi
    cases i with
    | zero => rfl
    | succ i =>
      have := ih i (by simpa using hi)
      rw [show (i + 1) * 2 + 1 = i * 2 + 1 + 1 + 1 from by omega]
      simpa [brL] using this

theorem brL_set : ∀ (bs : List (Int × Int)) (i : Nat) (b : Int × Int), i < bs.length → ((brL bs).set (i * 2) (.int .i64 b.1)).set (i * 2 + 1) (.int .i64 b.2) = brL (bs.set i b) := by
  intro bs
  induction bs with
  | nil => intro i b hi; simp at hi
  | cons c bs ih =>
    intro i b hi
    cases i with
    | zero => rfl
    | succ i =>
      have := ih i b (by simpa using hi)
      rw [show (i + 1) * 2 = i * 2 + 1 + 1 from by omega]
      simpa [brL] using this

/-- Brakes of a row of the call's own lie in memory. -/
theorem BrAt.of_own {w : World} {base : Nat} {e : TypeId} {v : Value} {bs : List (Int × Int)} (h : w.ownsRow base e 2 v bs.length (brL bs)) : BrAt w v bs := by
  obtain ⟨hl, h2⟩ := h
  rcases h2 with ⟨rfl, h0⟩ | ⟨g, cap, cur, rfl, hb, hg, hn, hcap, hcs, htake⟩
  · have : bs = [] := List.eq_nil_of_length_eq_zero h0
    subst this
    exact ⟨none, 0, rfl, Nat.le_refl _, by decide, fun h => by simp at h⟩
  · refine ⟨_, cap, rfl, hn, by unfold maxLen at hcap; omega, fun _ => ⟨g, 0, rfl, lt_of_block hg, fun i hi => ?_⟩⟩
    have e1 := brL_even bs i hi
    have e2 := brL_odd bs i hi
    rw [← htake, List.getElem?_take_of_lt (by omega), Array.getElem?_toList] at e1 e2
    rw [Nat.zero_add, block_cell hg, block_cell hg]
    exact ⟨e1, e2⟩

def betF (X : Bet) (b : Int × Int) : Int := if b.1 ≤ X.fo ∧ X.fo ≤ 10000000 then X.fo else b.1
def betD (X : Bet) (b : Int × Int) : Int := if 0 ≤ X.de ∧ X.de ≤ b.2 then X.de else b.2
def betIn (E : Esc) (X : Bet) : Bool := decide (0 ≤ X.br) && decide (X.br < E.bs.length)
def betBs (E : Esc) (X : Bet) : List (Int × Int) := if betIn E X = true then E.bs.set X.br.toNat (betF X (E.bs.getD X.br.toNat (0, 0)), betD X (E.bs.getD X.br.toNat (0, 0))) else E.bs
def betE (E : Esc) (X : Bet) : Esc := ⟨E.up, E.em, E.pu, E.dr, E.mo, betBs E X⟩
def betSp (S : Stp) (X : Bet) : Int := if 0 ≤ X.sl ∧ X.sl ≤ S.sp then X.sl else S.sp
def betOk (S : Stp) (X : Bet) : Bool := decide (S.lo ≤ X.lo) && decide (X.lo ≤ X.hi) && decide (X.hi ≤ S.hi)
def betS (S : Stp) (X : Bet) : Stp := ⟨betSp S X, if betOk S X = true then X.lo else S.lo, if betOk S X = true then X.hi else S.hi, bits BinOp.andNot IntKind.i64 S.fa X.me⟩

theorem betBs_len (E : Esc) (X : Bet) : (betBs E X).length = E.bs.length := by
  unfold betBs
  split <;> simp

theorem andNot_nat (a : Nat) (m : Int) (ha : a < 9223372036854775808) : bits .andNot .i64 (a : Int) m = ((a &&& (~~~(BitVec.ofInt 64 m)).toNat : Nat) : Int) := by
  have hx : a &&& (~~~(BitVec.ofInt 64 m)).toNat ≤ a := Nat.and_le_left
  have e : (BitVec.ofInt 64 (a : Int)).toNat = a := by rw [BitVec.ofInt_natCast, BitVec.toNat_ofNat]; exact Nat.mod_eq_of_lt (by omega)
  show IntKind.i64.wrap ((BitVec.ofInt 64 (a : Int) &&& ~~~(BitVec.ofInt 64 m)).toNat : Int) = _
  rw [BitVec.toNat_and, e, IntKind.wrap_i64]
  omega

theorem fail_bit (a k : Nat) : failB (a : Int) k = a.testBit k := by
  unfold failB
  rw [Nat.testBit_eq_decide_div_mod_eq]
  have e : ((a : Int) / 2 ^ k) % 2 = ((a / 2 ^ k % 2 : Nat) : Int) := by
    rw [Int.natCast_emod, Int.natCast_ediv, Int.natCast_pow]
    rfl
  rw [e]
  by_cases h : a / 2 ^ k % 2 = 1
  · rw [h]; rfl
  · have : decide (a / 2 ^ k % 2 = 1) = false := by simpa using h
    rw [this]
    simp
    omega

theorem andNot_says {fa : Int} (m : Int) (h0 : 0 ≤ fa) (h7 : fa ≤ 7) : 0 ≤ bits BinOp.andNot IntKind.i64 fa m ∧ bits BinOp.andNot IntKind.i64 fa m ≤ fa ∧ ∀ k, failB (bits BinOp.andNot IntKind.i64 fa m) k = true → failB fa k = true := by
  obtain ⟨a, rfl⟩ := Int.eq_ofNat_of_zero_le h0
  rw [andNot_nat a m (by omega)]
  have hx : a &&& (~~~(BitVec.ofInt 64 m)).toNat ≤ a := Nat.and_le_left
  refine ⟨by omega, by omega, fun k hk => ?_⟩
  rw [fail_bit, Nat.testBit_and] at hk
  rw [fail_bit]
  simp only [Bool.and_eq_true] at hk
  exact hk.1

theorem set_getD (bs : List (Int × Int)) (i k : Nat) (b : Int × Int) (hi : i < bs.length) : (bs.set i b).getD k (0, 0) = if k = i then b else bs.getD k (0, 0) := by
  rw [List.getD_eq_getElem?_getD, List.getD_eq_getElem?_getD, List.getElem?_set]
  by_cases h : i = k
  · subst h; rw [if_pos rfl, if_pos hi, if_pos rfl]; rfl
  · rw [if_neg h, if_neg (fun h' => h h'.symm)]

/-- Of each brake: no less force, no more delay, and within the bounds. -/
theorem betBs_at {E : Esc} (hE : E.ok = true) (X : Bet) (k : Nat) (hk : k < E.bs.length) :
    (E.bs.getD k (0, 0)).1 ≤ ((betBs E X).getD k (0, 0)).1 ∧ ((betBs E X).getD k (0, 0)).2 ≤ (E.bs.getD k (0, 0)).2 ∧
    0 ≤ ((betBs E X).getD k (0, 0)).1 ∧ ((betBs E X).getD k (0, 0)).1 ≤ 10000000 ∧ 0 ≤ ((betBs E X).getD k (0, 0)).2 ∧ ((betBs E X).getD k (0, 0)).2 ≤ 20 := by
  have b := Esc.ok_brake hE hk
  unfold betBs
  cases hin : betIn E X
  · rw [if_neg (by decide)]
    omega
  · rw [if_pos rfl]
    unfold betIn at hin
    simp only [Bool.and_eq_true, decide_eq_true_eq] at hin
    rw [set_getD _ _ _ _ (by omega)]
    by_cases h : k = X.br.toNat
    · subst h
      rw [if_pos rfl]
      dsimp only
      unfold betF betD
      constructor
      · split <;> omega
      constructor
      · split <;> omega
      constructor
      · split <;> omega
      constructor
      · split <;> omega
      constructor
      · split <;> omega
      · split <;> omega
    · rw [if_neg h]
      omega

theorem betE_ok {E : Esc} (hE : E.ok = true) (X : Bet) : (betE E X).ok = true := by
  have hb : (betBs E X).any brakeBad = false := by
    rw [List.any_eq_false]
    intro x hx
    obtain ⟨i, hi, rfl⟩ := List.getElem_of_mem hx
    have := betBs_at hE X i (by rw [betBs_len] at hi; exact hi)
    rw [List.getD_eq_getElem?_getD, List.getD_eq_getElem?_getD, List.getElem?_eq_getElem hi] at this
    simp only [Option.getD_some] at this
    simp [brakeBad]
    omega
  have hE' := hE
  simp only [Esc.ok, Bool.and_eq_true, Bool.not_eq_true'] at hE ⊢
  unfold betE
  dsimp only
  rw [betBs_len]
  exact ⟨hE.1, hb⟩

theorem bett_of {E : Esc} {S : Stp} (hE : E.ok = true) (hS : S.Num) (hSo : S.ok E.bs.length = true) (X : Bet) : (betS S X).ok (betE E X).bs.length = true ∧ Bett E S (betE E X) (betS S X) := by
  obtain ⟨a1, a2, a3⟩ := andNot_says X.me hS.fa0 hS.fa7
  obtain ⟨o1, o2, o3, o4⟩ := ok_iff.1 hSo
  have hl : (betE E X).bs.length = E.bs.length := betBs_len E X
  have hsp : 0 ≤ betSp S X ∧ betSp S X ≤ S.sp := by
    have := hS.sp0
    unfold betSp
    split <;> omega
  have hlo : S.lo ≤ (betS S X).lo ∧ (betS S X).lo ≤ (betS S X).hi ∧ (betS S X).hi ≤ S.hi := by
    unfold betS
    dsimp only
    cases hq : betOk S X
    · simp only [Bool.false_eq_true, if_false]
      omega
    · unfold betOk at hq
      simp only [Bool.and_eq_true, decide_eq_true_eq] at hq
      simp only [if_true]
      omega
  refine ⟨?_, rfl, rfl, rfl, rfl, hlo.1, hlo.2.2, hsp.2, fun t => ?_⟩
  · rw [hl]
    refine (ok_iff (S := betS S X)).2 ⟨⟨by omega, by omega⟩, ⟨by omega, hlo.2.1⟩, ⟨hsp.1, ?_⟩, ⟨a1, ?_⟩⟩
    · show betSp S X ≤ 1000
      omega
    · show bits BinOp.andNot IntKind.i64 S.fa X.me ≤ _
      omega
  · unfold gripM
    rw [hl]
    have : ∀ n, n ≤ E.bs.length → forceTo E.bs (gripB E S t) n ≤ forceTo (betE E X).bs (gripB (betE E X) (betS S X) t) n := by
      intro n
      induction n with
      | zero => intro _; exact Int.le_refl _
      | succ n ih =>
        intro hn
        have i := ih (by omega)
        have b := betBs_at hE X n (by omega)
        have e1 : ((betE E X).bs.getD n (0, 0)) = (betBs E X).getD n (0, 0) := rfl
        simp only [forceTo]
        rw [e1]
        by_cases hg : gripB E S t n = true
        · have hg' : gripB (betE E X) (betS S X) t n = true := by
            unfold gripB at hg ⊢
            rw [e1]
            simp only [Bool.and_eq_true, Bool.not_eq_true', decide_eq_true_eq] at hg ⊢
            refine ⟨?_, by omega⟩
            cases hq : failB (betS S X).fa n
            · rfl
            · have := a3 n hq
              rw [this] at hg
              cases hg.1
          rw [if_pos hg, if_pos hg']
          omega
        · rw [if_neg hg]
          split <;> omega
    exact this _ (Nat.le_refl _)

/-- BETTER: the better stop ends within the way. -/
theorem better_says {E : Esc} {S : Stp} (hf : checkStopM E S = 0) (hr : pathM E S true (restN E S true) = 0) (X : Bet) : ∃ A B C D, distM (betE E X) (betS S X) = ⟨A, B, C, D, 0⟩ ∧ B ≤ wayTo E S true (restN E S true) := by
  obtain ⟨hE, hS⟩ := checkStopM_num hf
  have hSo : S.ok E.bs.length = true := by
    unfold checkStopM at hf
    rw [if_pos hE] at hf
    by_cases h : S.ok E.bs.length = true
    · exact h
    · rw [if_neg h] at hf; omega
  obtain ⟨h1, h2⟩ := bett_of hE hS hSo X
  have hE' := betE_ok hE X
  have hf' : checkStopM (betE E X) (betS S X) = 0 := by unfold checkStopM; rw [if_pos hE', if_pos h1]
  obtain ⟨_, hS'⟩ := checkStopM_num hf'
  obtain ⟨r1, r2⟩ := bett_rest hE hS hS' h2 hr
  unfold distM
  rw [if_pos hf', if_pos r1]
  exact ⟨_, _, _, _, rfl, r2⟩

end Go.Proofs.Ytpoenjnpfodfpaa
