import Derived.Test.YtbiihhokcmdlhaaZzH
/- Texts of one seat, merged: Ml Mg Mh Mi Mj -/
/- Walks of layer 3 (circuit): weak, Weak, Critical of the specification. -/
namespace Go.Proofs.Ytbiihhokcmdlhaa
open Go.RowKit

theorem weakTo_no {c : Cir} {cl k : Nat} (h : passM c (2 ^ k) cl = false) : (List.range (k + 1)).filter (fun h => passM c (2 ^ h) cl) = (List.range k).filter (fun h => passM c (2 ^ h) cl) := filter_no (p := fun h => passM c (2 ^ h) cl) h
theorem weakTo_yes {c : Cir} {cl k : Nat} (h : passM c (2 ^ k) cl = true) : (List.range (k + 1)).filter (fun h => passM c (2 ^ h) cl) = (List.range k).filter (fun h => passM c (2 ^ h) cl) ++ [k] := filter_yes (p := fun h => passM c (2 ^ h) cl) h

/-- One number more in a list of new memory. -/
theorem own_snoc {w : World} {base : Nat} {v : Value} {L : List Nat} {k : Nat} (h : w.ownsRow base 3 1 v (L.length + 1) ((natL L).map (Value.int .i64) ++ [.int .i64 k])) : w.ownsRow base 3 1 v (L ++ [k]).length ((natL (L ++ [k])).map (Value.int .i64)) := by
  have e1 : (L ++ [k]).length = L.length + 1 := by simp
  have e2 : (natL (L ++ [k])).map (Value.int .i64) = (natL L).map (Value.int .i64) ++ [.int .i64 k] := by simp [natL]
  rw [e1, e2]; exact h

set_option maxRecDepth 100000 in
set_option maxHeartbeats 4000000 in
theorem rweak_any (c : Cir) (sv wv : Value) (cl : Nat) (w : World) (hv : CirAt w sv wv c) (hc : CVal c) (h2 : cl < 1048576) :
    Calls Try.prog 82 #[cirV c sv wv, .int .i64 cl] w (ListRes (natL (weakM c cl)) w) := by
  have HB := Lib.hid ((Below.refl w.heap.size w).alloc (Nat.le_refl _) (cirO c sv wv))
  have K0 := Lib.hid (block_new w (cirO c sv wv) w.heap.size rfl)
  have HV := Lib.hid (hv.below HB.out (Nat.le_refl _))
  have HC := Lib.hid hc
  obtain ⟨n, hn⟩ : ∃ n : Nat, c.hz = n := ⟨c.hz.toNat, by have := hc.h1; omega⟩
  have n8 : n ≤ 8 := by have := hc.h2; omega
  have ww1 := hc.w1
  have ww2 := hc.w2
  have HFIN := Lib.hid (show weakM c cl = (List.range n).filter (fun h => passM c (2 ^ h) cl) by unfold weakM; rw [show c.hz.toNat = n by omega])
  have HZ := Lib.hid hn
  obtain ⟨i0, hi0, hz0, hz1, hz2⟩ := info_parts infoInt
  clear hv hc hn
  go_enter Try.func82, Try.ntmps82
  go_wp2_with fail
  generalize w.alloc (cirO c sv wv) = wA at *
  go_loopw [5, 6] (fun v x wr => ∃ k : Nat, k ≤ n ∧ x = .int .i64 k ∧ Hid (Below wA.heap.size wA wr) ∧ Hid (wr.ownsRow wA.heap.size 3 1 v ((List.range k).filter (fun h => passM c (2 ^ h) cl)).length ((natL ((List.range k).filter (fun h => passM c (2 ^ h) cl))).map (Value.int .i64)))) (fun _ x _ => n - (intOf x).toNat)
  case atStart => exact ⟨0, Nat.zero_le _, rfl, Lib.hid (Below.refl _ _), Lib.hid ⟨by simp [natL], Or.inl ⟨rfl, by simp⟩⟩⟩
  case round =>
    obtain ⟨k, hk, rfl, hb, ho⟩ := hrel
    have c0 := block_cell (keepZ K0.out hb.out)
    rw [HZ.out] at c0
    obtain ⟨a, ac, rfl, hown⟩ := ownsRow_shape ho.out
    have HOWN := Lib.hid hown
    clear hown
    by_cases hlt : k < n
    · have hpw := wrap64_pow (k := k) (by omega)
      have k0 : (0 : Int) ≤ k := by omega
      obtain ⟨A, hA⟩ : ∃ A, 2 ^ k = A := ⟨_, rfl⟩
      have hA20 : A < 1048576 := by rw [← hA]; exact pow_set (by omega)
      have HOK := Lib.hid (sta_ok hA20 h2)
      have HNO := Lib.hid (weakTo_no (c := c) (cl := cl) (k := k))
      have HYES := Lib.hid (weakTo_yes (c := c) (cl := cl) (k := k))
      have HPM := Lib.hid (show passM c A cl = cond c ⟨A, cl, 0⟩ 24 0 from rfl)
      rw [hA] at hpw HNO HYES
      have hle := filter_len (fun h => passM c (2 ^ h) cl) k
      generalize hL : (List.range k).filter (fun h => passM c (2 ^ h) cl) = L at *
      have HL := Lib.hid hL
      clear hL hA
      go_wp2_with fail
      rw [← HZ.out]
      refine (rconducts_any c ⟨A, cl, 0⟩ sv wv HC.out HOK.out 24 0 _ (by omega) (by omega) (HV.out.below hb.out (Nat.le_refl _))).mono ?_
      rintro e w1 ⟨rfl, hb1⟩
      have HB1 := Lib.hid (hb.out.trans (hb1.mono hb.out.size))
      have HO1 := Lib.hid (ownsRow_below ho.out hb1)
      have hsz := HB1.out.size
      clear hb1 c0
      have c0 := block_cell (keepZ K0.out HB1.out)
      rw [HZ.out] at *
      cases hq : cond c ⟨A, cl, 0⟩ 24 0
      · have HN := Lib.hid (HNO.out (HPM.out.trans hq))
        clear hq
        go_wp2_with fail
        go_roundw
        case rel => exact ⟨k + 1, hlt, by go_num, HB1, by rw [HN.out]; exact HO1⟩
        case measure => simp [intOf]; omega
      · have HN := Lib.hid (HYES.out (HPM.out.trans hq))
        clear hq
        go_wp2_with (at_builtin; refine wpList_append_own _ rfl (.tmp 19) (.tmp 21) 22 rfl wA.heap.size 3 i0 (.int .i64 0) 1 8 Try.underlying22 hi0 hz0 hz1 hz2 rfl (by decide) _ L.length ((natL L).map (Value.int .i64)) rfl ?c0 _ _ _ [.int .i64 k] rfl rfl ?c1 ?c2 ?c3 ?c4 ?c5 ?_)
        case c0 => exact World.ownsRow.alloc HO1.out _
        case c1 => exact one_cell _ _ _ rfl
        case c2 => intro u hu; simp only [List.mem_cons, List.not_mem_nil, or_false] at hu; subst hu; rfl
        case c3 => unfold maxLen; omega
        case c4 => omega
        case c5 => exact Nat.le_trans hsz (al_le _ _)
        intro v2 w4 hown2 hgrow _
        have hbX := below_grown hgrow HOWN.out (Nat.le_trans hsz (al_le _ _))
        have HBX := Lib.hid (HB1.out.trans (((Below.refl _ _).alloc hsz _).trans hbX))
        have HO4 := Lib.hid (own_snoc hown2)
        obtain ⟨r2, rc2, rfl, _⟩ := ownsRow_shape hown2
        clear hown2 hgrow hbX c0
        go_wp2
        go_roundw
        case rel => exact ⟨k + 1, hlt, by go_num, HBX, by rw [HN.out]; exact HO4⟩
        case measure => simp [intOf]; omega
    · obtain rfl : n = k := by omega
      have HI := Lib.hid (InAt.of_own ho.out)
      go_wp2_with fail
      go_ret
      exact ⟨_, rfl, by rw [HFIN.out]; exact HI.out, HB.out.trans (hb.out.mono HB.out.size)⟩

end Go.Proofs.Ytbiihhokcmdlhaa

/- The plain mathematics of layer 3 (circuit): how many elements a set has; the least set. Nothing here speaks of the program. -/
namespace Go.Proofs.Ytbiihhokcmdlhaa

def onesF : Nat → Nat → Nat
  | 0, _ => 0
  | f + 1, n => if n = 0 then 0 else n % 2 + onesF f (n / 2)

theorem onesF_succ (f n : Nat) : onesF (f + 1) n = if n = 0 then 0 else n % 2 + onesF f (n / 2) := rfl

theorem onesF_more : ∀ (f n : Nat), n < 2 ^ f → onesF (f + 1) n = onesF f n
  | 0, n, h => by
    have : n = 0 := by simpa using h
    subst this; rfl
  | f + 1, n, h => by
    rw [onesF_succ (f + 1) n, onesF_succ f n]
    split
    · rfl
    · rw [onesF_more f (n / 2) (by rw [Nat.pow_succ] at h; omega)]

/-- How many elements a set of less than 20 numbers has. -/
def ones (n : Nat) : Nat := onesF 20 n

theorem ones_zero : ones 0 = 0 := rfl
theorem ones_step {n : Nat} (h : n < 1048576) (h0 : n ≠ 0) : ones n = n % 2 + ones (n / 2) := by
  unfold ones
  rw [← onesF_more 20 n h, onesF_succ, if_neg h0]

theorem ones_le : ∀ (m n : Nat), m ≤ 20 → n < 2 ^ m → ones n ≤ m ∧ (n < 2 ^ m - 1 → ones n < m)
  | 0, n, _, h => by
    have : n = 0 := by simpa using h
    subst this
    exact ⟨by rw [ones_zero]; exact Nat.le_refl _, fun h => by simp at h⟩
  | m + 1, n, hm, h => by
    have hp := Nat.pow_le_pow_right (show 0 < 2 by omega) hm
    rw [Nat.pow_succ] at h
    by_cases h0 : n = 0
    · subst h0
      rw [ones_zero]
      exact ⟨Nat.zero_le _, fun _ => Nat.succ_pos _⟩
    · have h1 := ones_le m (n / 2) (by omega) (by omega)
      rw [ones_step (by omega) h0]
      refine ⟨by omega, fun h2 => ?_⟩
      rw [Nat.pow_succ] at h2
      by_cases h3 : n / 2 < 2 ^ m - 1
      · have := h1.2 h3; omega
      · have : n % 2 = 0 := by omega
        omega

theorem ones_all (m : Nat) : m ≤ 20 → ones (2 ^ m - 1) = m := by
  induction m with
  | zero => intro _; rfl
  | succ m ih =>
    intro hm
    have hp := Nat.pow_le_pow_right (show 0 < 2 by omega) hm
    have hp1 := Nat.one_le_two_pow (n := m)
    rw [Nat.pow_succ] at hp ⊢
    rw [ones_step (by omega) (by omega), show (2 ^ m * 2 - 1) / 2 = 2 ^ m - 1 by omega, ih (by omega)]
    omega

/-- The program's search: of the first k sets, beginning with all of them. -/
def bestP (p : Nat → Bool) (all : Nat) : Nat → Nat
  | 0 => all
  | k + 1 => if (decide (ones k < ones (bestP p all k)) && p k) = true then k else bestP p all k
/-- The specification's search. -/
def bestS (p : Nat → Bool) : Nat → Option Nat
  | 0 => none
  | k + 1 => match bestS p k with
    | none => if p k = true then some k else none
    | some b => if (decide (ones k < ones b) && p k) = true then some k else some b

theorem bestS_none {p : Nat → Bool} : ∀ {k : Nat}, (∀ j, j < k → p j = false) → bestS p k = none
  | 0, _ => rfl
  | k + 1, h => by
    unfold bestS
    rw [bestS_none (fun j hj => h j (by omega)), h k (by omega)]
    rfl

theorem best_same {p : Nat → Bool} {m : Nat} (hm : m ≤ 12) : ∀ k, k ≤ 2 ^ m - 1 → (bestS p k = none ∧ bestP p (2 ^ m - 1) k = 2 ^ m - 1) ∨ bestS p k = some (bestP p (2 ^ m - 1) k)
  | 0, _ => Or.inl ⟨rfl, rfl⟩
  | k + 1, hk => by
    have h1 := (ones_le m k (by omega) (by omega)).2 (by omega)
    rcases best_same hm k (by omega) with ⟨h2, h3⟩ | h2
    · rw [show bestS p (k + 1) = (match bestS p k with | none => if p k = true then some k else none | some b => if (decide (ones k < ones b) && p k) = true then some k else some b) from rfl, h2]
      rw [show bestP p (2 ^ m - 1) (k + 1) = if (decide (ones k < ones (bestP p (2 ^ m - 1) k)) && p k) = true then k else bestP p (2 ^ m - 1) k from rfl, h3, ones_all m (by omega), decide_eq_true h1, Bool.true_and]
      cases hp : p k
      · exact Or.inl ⟨rfl, rfl⟩
      · exact Or.inr rfl
    · rw [show bestS p (k + 1) = (match bestS p k with | none => if p k = true then some k else none | some b => if (decide (ones k < ones b) && p k) = true then some k else some b) from rfl, h2]
      rw [show bestP p (2 ^ m - 1) (k + 1) = if (decide (ones k < ones (bestP p (2 ^ m - 1) k)) && p k) = true then k else bestP p (2 ^ m - 1) k from rfl]
      right
      dsimp only
      split <;> rfl

theorem best_final {p : Nat → Bool} {m : Nat} (hm : m ≤ 12) (ha : p (2 ^ m - 1) = true) : bestS p (2 ^ m) = some (bestP p (2 ^ m - 1) (2 ^ m - 1)) := by
  have hp1 := Nat.one_le_two_pow (n := m)
  have h := best_same (p := p) hm (2 ^ m - 1) (Nat.le_refl _)
  have e : 2 ^ m = (2 ^ m - 1) + 1 := by omega
  have hs : bestS p ((2 ^ m - 1) + 1) = (match bestS p (2 ^ m - 1) with | none => if p (2 ^ m - 1) = true then some (2 ^ m - 1) else none | some b => if (decide (ones (2 ^ m - 1) < ones b) && p (2 ^ m - 1)) = true then some (2 ^ m - 1) else some b) := rfl
  rw [← e] at hs
  rw [hs]
  rcases h with ⟨h2, h3⟩ | h2
  · rw [h2, h3, ha]; rfl
  · rw [h2]
    dsimp only
    have hb : bestP p (2 ^ m - 1) (2 ^ m - 1) < 2 ^ m := by
      have : ∀ k, k ≤ 2 ^ m - 1 → bestP p (2 ^ m - 1) k < 2 ^ m := by
        intro k
        induction k with
        | zero => intro _; show 2 ^ m - 1 < 2 ^ m; omega
        | succ k ih =>
          intro hk
          rw [show bestP p (2 ^ m - 1) (k + 1) = if (decide (ones k < ones (bestP p (2 ^ m - 1) k)) && p k) = true then k else bestP p (2 ^ m - 1) k from rfl]
          split
          · omega
          · exact ih (by omega)
      exact this _ (Nat.le_refl _)
    have := (ones_le m _ (by omega) hb).1
    rw [ones_all m (by omega), decide_eq_false (by omega)]
    rfl

theorem bestP_spec {p : Nat → Bool} {all : Nat} (ha : p all = true) : ∀ k, p (bestP p all k) = true ∧ ∀ j, j < k → p j = true → ones (bestP p all k) ≤ ones j
  | 0 => ⟨ha, fun j hj => by omega⟩
  | k + 1 => by
    obtain ⟨h1, h2⟩ := bestP_spec (p := p) (all := all) ha k
    rw [show bestP p all (k + 1) = if (decide (ones k < ones (bestP p all k)) && p k) = true then k else bestP p all k from rfl]
    split
    · rename_i h
      simp only [Bool.and_eq_true, decide_eq_true_eq] at h
      refine ⟨h.2, fun j hj hp => ?_⟩
      by_cases e : j = k
      · rw [e]; exact Nat.le_refl _
      · have := h2 j (by omega) hp; omega
    · rename_i h
      simp only [Bool.and_eq_true, decide_eq_true_eq] at h
      refine ⟨h1, fun j hj hp => ?_⟩
      by_cases e : j = k
      · subst e
        have : ¬ ones j < ones (bestP p all j) := fun hlt => h ⟨hlt, hp⟩
        omega
      · exact h2 j (by omega) hp

end Go.Proofs.Ytbiihhokcmdlhaa

/- Walks of layer 3 (circuit): how many elements a set has, of both. -/
namespace Go.Proofs.Ytbiihhokcmdlhaa
open Go.RowKit

theorem of_all {f : Nat → Bool} {m : Nat} (h : (List.range m).all f = true) : ∀ n, n < m → f n = true := fun n hn => List.all_eq_true.1 h n (List.mem_range.2 hn)

set_option maxRecDepth 100000 in
set_option maxHeartbeats 2000000 in
theorem rones_any (n : Nat) (w : World) (hn : n < 1048576) :
    Calls Try.prog 50 #[.int .i64 n] w fun e w' => e = .returned (.int .i64 (ones n : Nat)) ∧ w = w' := by
  go_enter Try.func50, Try.ntmps50
  go_wp2_with fail
  go_loop [0, 3] (fun x y => ∃ k m : Nat, k < 1048576 ∧ m ≤ 100 ∧ x = .int .i64 k ∧ y = .int .i64 m ∧ Hid (ones n = m + ones k)) (fun x _ => (intOf x).toNat)
  case atStart => exact ⟨n, 0, hn, by omega, rfl, rfl, Lib.hid (by omega)⟩
  case round =>
    obtain ⟨k, m, hk, hm, rfl, rfl, hS⟩ := hrel
    by_cases h0 : 0 < k
    · have HS := Lib.hid (ones_step hk (by omega))
      have h1 := i64_and_nat k 1 (by omega) (by omega)
      rw [Nat.and_one_is_mod] at h1
      have h2 : bits .and .i64 (k : Int) 1 = ((k % 2 : Nat) : Int) := h1
      have HD := Lib.hid (show (k : Int) / 2 = ((k / 2 : Nat) : Int) by simp)
      have hm2 : k % 2 ≤ 1 := by omega
      have hol := (ones_le 20 k (by omega) (by omega)).1
      have HOL := Lib.hid (show m + k % 2 ≤ 100 by
        have h3 := (ones_le 20 n (by omega) (by omega)).1
        rw [hS.out, HS.out] at h3
        omega)
      clear h1
      generalize k % 2 = r at *
      go_wp2_with fail
      go_round
      case rel => exact ⟨k / 2, m + r, by omega, HOL.out, by rw [← HD.out], by go_num, Lib.hid (by rw [hS.out, HS.out]; omega)⟩
      case measure => simp [intOf]; omega
    · obtain rfl : k = 0 := by omega
      have HS := Lib.hid (show ones n = m by rw [hS.out, ones_zero]; omega)
      go_wp2_with fail
      go_ret
      exact ⟨ret_int (by rw [HS.out]), rfl⟩

set_option maxRecDepth 100000 in
set_option maxHeartbeats 2000000 in
theorem ocount64_any (n : Nat) (w : World) (hn : n < 4096) :
    Calls Try.prog 144 #[.int .u64 n] w fun e w' => e = .returned (.int .i64 (ones n : Nat)) ∧ w = w' := by
  go_enter Try.func144, Try.ntmps144
  go_wp2_with fail
  go_ret
  refine ⟨ret_int ?_, rfl⟩
  apply of_decide_eq_true
  clear w
  revert n
  exact of_all (by kernel_rfl)

end Go.Proofs.Ytbiihhokcmdlhaa

/- Walks of layer 3 (circuit): Least of both. -/
namespace Go.Proofs.Ytbiihhokcmdlhaa
open Go.RowKit

set_option maxHeartbeats 400000 in
theorem ocount_is (q n : Nat) (w : World) (hn : n < 4096) (hq : ones n = q) :
    Calls Try.prog 89 #[.int .u64 n] w fun e w' => e = .returned (.int .i64 (q : Nat)) ∧ w = w' := by
  subst hq
  go_enter Try.func89, Try.ntmps89
  go_wp2_with fail
  refine (ocount64_any n _ hn).mono ?_
  rintro e w1 ⟨rfl, rfl⟩
  go_wp2
  go_ret
  exact ⟨rfl, rfl⟩

theorem rones_is (q n : Nat) (w : World) (hn : n < 1048576) (hq : ones n = q) :
    Calls Try.prog 50 #[.int .i64 n] w fun e w' => e = .returned (.int .i64 (q : Nat)) ∧ w = w' := by
  subst hq
  exact rones_any n w hn

structure LstA where
  v : Int
  e : Int
def lstP (c : Cir) (h : Nat) : Nat → Bool := fun s => passM c (2 ^ h) s
def lstAll (c : Cir) : Nat := 2 ^ c.sw.length - 1
def lstR (c : Cir) (h : Int) : LstA := if validB c = true then (if decide (0 ≤ h ∧ h ≤ c.hz - 1) = true then (if lstP c h.toNat (lstAll c) = true then ⟨(bestP (lstP c h.toNat) (lstAll c) (lstAll c) : Nat), 0⟩ else ⟨0, 3⟩) else ⟨0, 1⟩) else ⟨0, 30⟩
abbrev lstV (r : LstA) : Value := .tuple #[.int .i64 r.v, .int .i64 r.e]

theorem lst_bad {c : Cir} (h : Int) (hv : validB c = false) : lstR c h = ⟨0, 30⟩ := by unfold lstR; rw [hv]; rfl
theorem lst_arg {c : Cir} {h : Int} (hv : validB c = true) (h2 : decide (0 ≤ h ∧ h ≤ c.hz - 1) = false) : lstR c h = ⟨0, 1⟩ := by unfold lstR; rw [hv, h2]; rfl
theorem lst_none {c : Cir} {h : Int} (hv : validB c = true) (h2 : decide (0 ≤ h ∧ h ≤ c.hz - 1) = true) (h3 : lstP c h.toNat (lstAll c) = false) : lstR c h = ⟨0, 3⟩ := by unfold lstR; rw [hv, h2, h3]; rfl
theorem lst_some {c : Cir} {h : Int} (hv : validB c = true) (h2 : decide (0 ≤ h ∧ h ≤ c.hz - 1) = true) (h3 : lstP c h.toNat (lstAll c) = true) : lstR c h = ⟨(bestP (lstP c h.toNat) (lstAll c) (lstAll c) : Nat), 0⟩ := by unfold lstR; rw [hv, h2, h3]; rfl

theorem all_lt {c : Cir} (hc : CVal c) : lstAll c < 4096 := by
  have := Nat.pow_le_pow_right (show 0 < 2 by omega) hc.s2
  have h1 := Nat.one_le_two_pow (n := c.sw.length)
  unfold lstAll
  omega

theorem bestP_le {p : Nat → Bool} {all : Nat} : ∀ k, k ≤ all → bestP p all k ≤ all
  | 0, _ => Nat.le_refl _
  | k + 1, hk => by
    rw [show bestP p all (k + 1) = if (decide (ones k < ones (bestP p all k)) && p k) = true then k else bestP p all k from rfl]
    split
    · omega
    · exact bestP_le k (by omega)

theorem bestP_no {p : Nat → Bool} {all k : Nat} (h : (decide (ones k < ones (bestP p all k)) && p k) = false) : bestP p all (k + 1) = bestP p all k := by
  rw [show bestP p all (k + 1) = if (decide (ones k < ones (bestP p all k)) && p k) = true then k else bestP p all k from rfl, h]; rfl
theorem bestP_yes {p : Nat → Bool} {all k : Nat} (h : (decide (ones k < ones (bestP p all k)) && p k) = true) : bestP p all (k + 1) = k := by
  rw [show bestP p all (k + 1) = if (decide (ones k < ones (bestP p all k)) && p k) = true then k else bestP p all k from rfl, h]; rfl

set_option maxRecDepth 100000 in
set_option maxHeartbeats 8000000 in
theorem cleast_any (c : Cir) (sv wv : Value) (h : Int) (w : World) (hv : CirAt w sv wv c) :
    Calls Try.prog 31 #[cirV c sv wv, .int .i64 h] w fun e w' => e = .returned (lstV (lstR c h)) ∧ Below w.heap.size w w' := by
  have HB := Lib.hid ((Below.refl w.heap.size w).alloc (Nat.le_refl _) (cirO c sv wv))
  have K0 := Lib.hid (block_new w (cirO c sv wv) w.heap.size rfl)
  have HV := Lib.hid (hv.below HB.out (Nat.le_refl _))
  obtain ⟨⟨sa, scap, rfl, _, m2, _⟩, _⟩ := hv
  cases hq : validB c
  · have HR0 := Lib.hid (chkC_bad hq)
    have HR := Lib.hid (lst_bad h hq)
    clear hq
    go_enter Try.func31, Try.ntmps31
    go_wp2_with fail
    generalize w.alloc (cirO c (.slice sa c.sw.length scap) wv) = wA at *
    refine (ccheck_any c _ _ _ HV.out).mono ?_
    rintro e w1 ⟨rfl, hb1⟩
    rw [← HR0.out]
    go_wp2
    go_ret2
    exact ⟨by rw [HR.out]; rfl, HB.out.trans (hb1.mono HB.out.size)⟩
  · have HR0 := Lib.hid (chkC_ok hq)
    have HC := Lib.hid (cval hq)
    have s12 := (cval hq).s2
    have s1 := (cval hq).s1
    have z1 := (cval hq).h1
    have z8 := (cval hq).h2
    cases hh : decide (0 ≤ h ∧ h ≤ c.hz - 1)
    · have HR := Lib.hid (lst_arg hq hh)
      have HH := Lib.hid hh
      clear hq hh
      go_enter Try.func31, Try.ntmps31
      go_wp2_with fail
      generalize w.alloc (cirO c (.slice sa c.sw.length scap) wv) = wA at *
      refine (ccheck_any c _ _ _ HV.out).mono ?_
      rintro e w1 ⟨rfl, hb1⟩
      rw [← HR0.out]
      have c0 := block_cell (keepZ K0.out hb1)
      have HB1 := Lib.hid hb1
      clear hb1
      go_wp2_with (go_at_call 75; refine (cwithin_is _ _ _ _ _ HH.out).mono ?_; rintro e w2 ⟨rfl, rfl⟩)
      go_ret2
      exact ⟨by rw [HR.out]; rfl, HB.out.trans (HB1.out.mono HB.out.size)⟩
    · have HH := Lib.hid hh
      have HRN := Lib.hid (lst_none hq hh)
      have HRS := Lib.hid (lst_some hq hh)
      simp only [decide_eq_true_eq] at hh
      obtain ⟨n, rfl⟩ : ∃ n : Nat, h = n := ⟨h.toNat, by omega⟩
      have n8 : n ≤ 8 := by omega
      rw [Int.toNat_natCast] at HRN HRS
      have hpw := wrap64_pow (k := c.sw.length) (by omega)
      have hp1 := Nat.one_le_two_pow (n := c.sw.length)
      have hal := all_lt (cval hq)
      have HAL := Lib.hid (show ((2 ^ c.sw.length : Nat) : Int) - 1 = (lstAll c : Nat) by unfold lstAll; omega)
      have hpl := pow_set (k := c.sw.length) (by omega)
      obtain ⟨A, hA⟩ : ∃ A, 2 ^ n = A := ⟨_, rfl⟩
      have hA20 : A < 1048576 := by rw [← hA]; exact pow_set (by omega)
      have HA := Lib.hid hA
      have HP := Lib.hid (fun s => show lstP c n s = passM c A s by unfold lstP; rw [hA])
      generalize (2 ^ c.sw.length : Nat) = M at *
      clear hq hh hA
      go_enter Try.func31, Try.ntmps31
      go_wp2_with fail
      generalize w.alloc (cirO c (.slice sa c.sw.length scap) wv) = wA at *
      refine (ccheck_any c _ _ _ HV.out).mono ?_
      rintro e w1 ⟨rfl, hb1⟩
      rw [← HR0.out]
      have c0 := block_cell (keepZ K0.out hb1)
      have HB1 := Lib.hid hb1
      clear hb1
      go_wp2_with (go_at_call 75; refine (cwithin_is _ _ _ _ _ HH.out).mono ?_; rintro e w2 ⟨rfl, rfl⟩)
      rw [HAL.out]
      have kk := keepZ K0.out HB1.out
      have b1 := bw_cells (B := w1.heap.size) kk (lt_of_block kk)
      have HV1 := Lib.hid (HV.out.below HB1.out (Nat.le_refl _))
      have HALL := Lib.hid (show lstAll c = lstAll c from rfl)
      generalize hall : lstAll c = all at *
      clear c0 kk hpw hp1 hpl
      cases hp : passM c A all
      · have HPP := Lib.hid hp
        have HR := Lib.hid (HRN.out (by rw [HP.out, hp]))
        clear hp
        refine wp_region_below (by kernel_rfl) (by kernel_rfl) (Below.refl w1.heap.size w1) ?_
        repeat ((with_reducible refine wpQuiet_step (fun K hK => ?_)); go_simp; first | (refine hK _ ?_; clear hK K) | (apply Exists.intro; refine ⟨fun _ => ?_, hK _ ?_⟩; (first | (go_at_call 86; with_reducible exact bw_same (calone_is A n _ (by omega) HA.out)) | (go_at_call 88; exact bw_call (Nat.le_refl _) (rcond_is HPP.out (passes_any c _ wv A all _ (HV1.out.below (BW.b _) (Nat.le_refl _)) HC.out hA20 (by omega))))); clear hK K))
        refine wpQuiet_nil ?_
        intro wq hwq0
        have hwq := bw_out hwq0
        clear hwq0
        go_wp2_with fail
        go_ret2
        exact ⟨by rw [HR.out]; rfl, HB.out.trans ((HB1.out.trans (hwq.mono HB1.out.size)).mono HB.out.size)⟩
      · have HPP := Lib.hid hp
        have HR := Lib.hid (HRS.out (by rw [HP.out, hp]))
        clear hp
        refine wp_region_below (by kernel_rfl) (by kernel_rfl) (Below.refl w1.heap.size w1) ?_
        repeat ((with_reducible refine wpQuiet_step (fun K hK => ?_)); go_simp; first | (refine hK _ ?_; clear hK K) | (apply Exists.intro; refine ⟨fun _ => ?_, hK _ ?_⟩; (first | (go_at_call 86; with_reducible exact bw_same (calone_is A n _ (by omega) HA.out)) | (go_at_call 88; exact bw_call (Nat.le_refl _) (rcond_is HPP.out (passes_any c _ wv A all _ (HV1.out.below (BW.b _) (Nat.le_refl _)) HC.out hA20 (by omega))))); clear hK K))
        refine wpQuiet_nil ?_
        intro wq hwq0
        have hwq := bw_out hwq0
        clear hwq0
        have HB2 := Lib.hid (HB1.out.trans (hwq.mono HB1.out.size))
        clear hwq b1 hall
        go_wp2_with fail
        go_loopw [7, 33] (fun x i wr => ∃ k : Nat, k ≤ all ∧ i = .int .i64 k ∧ x = .int .i64 (bestP (lstP c n) all k : Nat) ∧ Hid (Below wA.heap.size wA wr)) (fun _ i _ => all - (intOf i).toNat)
        case atStart => exact ⟨0, Nat.zero_le _, rfl, rfl, HB2⟩
        case round =>
          obtain ⟨k, hk, rfl, rfl, hb⟩ := hrel
          by_cases hlt : k < all
          · have hbl := bestP_le (p := lstP c n) (all := all) k hk
            have kk := keepZ K0.out hb.out
            have b1 := bw_cells (B := wr.heap.size) kk (lt_of_block kk)
            have HV2 := Lib.hid (HV.out.below hb.out (Nat.le_refl _))
            have HNO := Lib.hid (bestP_no (p := lstP c n) (all := all) (k := k))
            have HYES := Lib.hid (bestP_yes (p := lstP c n) (all := all) (k := k))
            have HPK := Lib.hid (HP.out k)
            generalize bestP (lstP c n) all k = L at *
            obtain ⟨o1, ho1⟩ : ∃ o, ones k = o := ⟨_, rfl⟩
            obtain ⟨o2, ho2⟩ : ∃ o, ones L = o := ⟨_, rfl⟩
            have HO1 := Lib.hid ho1
            have HO2 := Lib.hid ho2
            rw [ho1, ho2] at HNO HYES
            have ob1 := (ones_le 12 k (by omega) (by omega)).1
            have ob2 := (ones_le 12 L (by omega) (by omega)).1
            rw [ho1] at ob1
            rw [ho2] at ob2
            clear ho1 ho2 kk
            by_cases hf : o1 < o2
            · cases hp : passM c A k
              · have HPP2 := Lib.hid hp
                have HN := Lib.hid (HNO.out (by rw [HPK.out, hp]; simp))
                clear hp
                go_wp2_with (go_at_call 89; (first | (with_reducible refine (ocount_is o1 k _ (by omega) HO1.out).mono ?_) | (with_reducible refine (ocount_is o2 L _ (by omega) HO2.out).mono ?_)); rintro e w4 ⟨rfl, rfl⟩)
                refine wp_region_below (by kernel_rfl) (by kernel_rfl) (Below.refl wr.heap.size wr) ?_
                repeat ((with_reducible refine wpQuiet_step (fun K hK => ?_)); go_simp; first | (refine hK _ ?_; clear hK K) | (apply Exists.intro; refine ⟨fun _ => ?_, hK _ ?_⟩; (first | (go_at_call 86; with_reducible exact bw_same (calone_is A n _ (by omega) HA.out)) | (go_at_call 88; exact bw_call (Nat.le_refl _) (rcond_is HPP2.out (passes_any c _ wv A k _ (HV2.out.below (BW.b _) (Nat.le_refl _)) HC.out hA20 (by omega))))); clear hK K))
                refine wpQuiet_nil ?_
                intro wq hwq0
                have hwq := bw_out hwq0
                clear hwq0
                have HB3 := Lib.hid (hb.out.trans (hwq.mono hb.out.size))
                clear hwq b1
                go_wp2_with fail
                go_roundw
                case rel => exact ⟨k + 1, hlt, by go_num, by rw [HN.out], HB3⟩
                case measure => simp [intOf]; omega
              · have HPP2 := Lib.hid hp
                have HN := Lib.hid (HYES.out (by rw [HPK.out, hp]; simpa using hf))
                clear hp
                go_wp2_with (go_at_call 89; (first | (with_reducible refine (ocount_is o1 k _ (by omega) HO1.out).mono ?_) | (with_reducible refine (ocount_is o2 L _ (by omega) HO2.out).mono ?_)); rintro e w4 ⟨rfl, rfl⟩)
                refine wp_region_below (by kernel_rfl) (by kernel_rfl) (Below.refl wr.heap.size wr) ?_
                repeat ((with_reducible refine wpQuiet_step (fun K hK => ?_)); go_simp; first | (refine hK _ ?_; clear hK K) | (apply Exists.intro; refine ⟨fun _ => ?_, hK _ ?_⟩; (first | (go_at_call 86; with_reducible exact bw_same (calone_is A n _ (by omega) HA.out)) | (go_at_call 88; exact bw_call (Nat.le_refl _) (rcond_is HPP2.out (passes_any c _ wv A k _ (HV2.out.below (BW.b _) (Nat.le_refl _)) HC.out hA20 (by omega))))); clear hK K))
                refine wpQuiet_nil ?_
                intro wq hwq0
                have hwq := bw_out hwq0
                clear hwq0
                have HB3 := Lib.hid (hb.out.trans (hwq.mono hb.out.size))
                clear hwq b1
                go_wp2_with fail
                go_roundw
                case rel => exact ⟨k + 1, hlt, by go_num, by rw [HN.out], HB3⟩
                case measure => simp [intOf]; omega
            · have HN := Lib.hid (HNO.out (by rw [decide_eq_false hf]; rfl))
              go_wp2_with (go_at_call 89; (first | (with_reducible refine (ocount_is o1 k _ (by omega) HO1.out).mono ?_) | (with_reducible refine (ocount_is o2 L _ (by omega) HO2.out).mono ?_)); rintro e w4 ⟨rfl, rfl⟩)
              refine wp_region_below (by kernel_rfl) (by kernel_rfl) (Below.refl wr.heap.size wr) ?_
              repeat ((with_reducible refine wpQuiet_step (fun K hK => ?_)); go_simp; first | (refine hK _ ?_; clear hK K) | (apply Exists.intro; refine ⟨fun _ => ?_, hK _ ?_⟩; (fail); clear hK K))
              refine wpQuiet_nil ?_
              intro wq hwq0
              have hwq := bw_out hwq0
              clear hwq0
              have HB3 := Lib.hid (hb.out.trans (hwq.mono hb.out.size))
              clear hwq b1
              go_wp2_with fail
              go_roundw
              case rel => exact ⟨k + 1, hlt, by go_num, by rw [HN.out], HB3⟩
              case measure => simp [intOf]; omega
          · obtain rfl : k = all := by omega
            go_wp2_with fail
            go_ret2
            exact ⟨by rw [HR.out]; rfl, HB.out.trans (hb.out.mono HB.out.size)⟩

end Go.Proofs.Ytbiihhokcmdlhaa

/- Walks of layer 3 (circuit): Least of the specification; CircuitLeast walked. -/
namespace Go.Proofs.Ytbiihhokcmdlhaa
open Go.RowKit

def bestI : Option Nat → Int
  | none => -1
  | some b => b

theorem bestS_lt {p : Nat → Bool} : ∀ {k b : Nat}, bestS p k = some b → b < k
  | 0, b, h => by cases h
  | k + 1, b, h => by
    rw [show bestS p (k + 1) = (match bestS p k with | none => if p k = true then some k else none | some b => if (decide (ones k < ones b) && p k) = true then some k else some b) from rfl] at h
    cases hk : bestS p k with
    | none =>
      rw [hk] at h
      dsimp only at h
      split at h
      · injection h with h; omega
      · cases h
    | some b' =>
      have := bestS_lt hk
      rw [hk] at h
      dsimp only at h
      split at h
      · injection h with h; omega
      · injection h with h; omega

theorem bestS_at {p : Nat → Bool} (k : Nat) : bestS p (k + 1) = (match bestS p k with | none => if p k = true then some k else none | some b => if (decide (ones k < ones b) && p k) = true then some k else some b) := rfl

theorem sub_all {m k : Nat} (h : k < 2 ^ m) : ∀ i, k.testBit i = true → (2 ^ m - 1).testBit i = true := by
  intro i hi
  rw [Nat.testBit_two_pow_sub_one, decide_eq_true_eq]
  apply Nat.lt_of_not_le
  intro hle
  have := Nat.testBit_lt_two_pow (Nat.lt_of_lt_of_le h (Nat.pow_le_pow_right (by omega) hle))
  rw [this] at hi; cases hi

theorem lst_spec {c : Cir} {h : Int} (hv : validB c = true) (h2 : decide (0 ≤ h ∧ h ≤ c.hz - 1) = true) :
    (bestI (bestS (lstP c h.toNat) (2 ^ c.sw.length)) < 0 → lstR c h = ⟨0, 3⟩) ∧ (¬ bestI (bestS (lstP c h.toNat) (2 ^ c.sw.length)) < 0 → lstR c h = ⟨bestI (bestS (lstP c h.toNat) (2 ^ c.sw.length)), 0⟩) := by
  have hs := (cval hv).s2
  cases h3 : lstP c h.toNat (lstAll c)
  · have hn : bestS (lstP c h.toNat) (2 ^ c.sw.length) = none := bestS_none (fun j hj => by
      cases hj2 : lstP c h.toNat j
      · rfl
      · have : lstP c h.toNat (lstAll c) = true := pass_mono (fun i hi => hi) (sub_all hj) hj2
        rw [h3] at this; cases this)
    rw [hn]
    exact ⟨fun _ => lst_none hv h2 h3, fun hh => absurd (show bestI none < 0 by decide) hh⟩
  · have hf := best_final (p := lstP c h.toNat) hs h3
    rw [hf]
    refine ⟨fun hh => ?_, fun _ => lst_some hv h2 h3⟩
    exact absurd hh (by show ¬ ((_ : Nat) : Int) < 0; omega)

set_option maxRecDepth 100000 in
set_option maxHeartbeats 8000000 in
theorem rleast_any (c : Cir) (sv wv : Value) (h : Int) (w : World) (hv : CirAt w sv wv c) :
    Calls Try.prog 32 #[cirV c sv wv, .int .i64 h] w fun e w' => e = .returned (lstV (lstR c h)) ∧ Below w.heap.size w w' := by
  have HB := Lib.hid ((Below.refl w.heap.size w).alloc (Nat.le_refl _) (cirO c sv wv))
  have K0 := Lib.hid (block_new w (cirO c sv wv) w.heap.size rfl)
  have HV := Lib.hid (hv.below HB.out (Nat.le_refl _))
  obtain ⟨⟨sa, scap, rfl, _, m2, _⟩, _⟩ := hv
  cases hq : validB c
  · have HR0 := Lib.hid (chkC_bad hq)
    have HR := Lib.hid (lst_bad h hq)
    clear hq
    go_enter Try.func32, Try.ntmps32
    go_wp2_with fail
    generalize w.alloc (cirO c (.slice sa c.sw.length scap) wv) = wA at *
    refine (rcheck_any c _ _ _ HV.out).mono ?_
    rintro e w1 ⟨rfl, hb1⟩
    rw [← HR0.out]
    go_wp2
    go_ret2
    exact ⟨by rw [HR.out]; rfl, HB.out.trans (hb1.mono HB.out.size)⟩
  · have HR0 := Lib.hid (chkC_ok hq)
    have HC := Lib.hid (cval hq)
    have s12 := (cval hq).s2
    have z1 := (cval hq).h1
    have z8 := (cval hq).h2
    have ww1 := (cval hq).w1
    have ww2 := (cval hq).w2
    cases hh : decide (0 ≤ h ∧ h ≤ c.hz - 1)
    · have HR := Lib.hid (lst_arg hq hh)
      have HH := Lib.hid hh
      clear hq hh
      go_enter Try.func32, Try.ntmps32
      go_wp2_with fail
      generalize w.alloc (cirO c (.slice sa c.sw.length scap) wv) = wA at *
      refine (rcheck_any c _ _ _ HV.out).mono ?_
      rintro e w1 ⟨rfl, hb1⟩
      rw [← HR0.out]
      have c0 := block_cell (keepZ K0.out hb1)
      have HB1 := Lib.hid hb1
      clear hb1
      go_wp2_with (go_at_call 80; refine (rwithin_is _ _ _ _ _ HH.out).mono ?_; rintro e w2 ⟨rfl, rfl⟩)
      go_ret2
      exact ⟨by rw [HR.out]; rfl, HB.out.trans (HB1.out.mono HB.out.size)⟩
    · have HH := Lib.hid hh
      have HRS := Lib.hid (lst_spec hq hh)
      simp only [decide_eq_true_eq] at hh
      obtain ⟨n, rfl⟩ : ∃ n : Nat, h = n := ⟨h.toNat, by omega⟩
      have n8 : n ≤ 8 := by omega
      rw [Int.toNat_natCast] at HRS
      have hpw := wrap64_pow (k := c.sw.length) (by omega)
      have hpl := pow_set (k := c.sw.length) (by omega)
      have HM4 := Lib.hid (show 2 ^ c.sw.length ≤ 4096 from Nat.pow_le_pow_right (show 0 < 2 by omega) s12)
      have hpn := wrap64_pow (k := n) (by omega)
      obtain ⟨A, hA⟩ : ∃ A, 2 ^ n = A := ⟨_, rfl⟩
      have hA20 : A < 1048576 := by rw [← hA]; exact pow_set (by omega)
      have HP := Lib.hid (fun s => show lstP c n s = cond c ⟨A, s, 0⟩ 24 0 by unfold lstP passM; rw [hA])
      have n0 : (0 : Int) ≤ n := by omega
      rw [hA] at hpn
      generalize (2 ^ c.sw.length : Nat) = M at *
      clear hq hh hA
      go_enter Try.func32, Try.ntmps32
      go_wp2_with fail
      generalize w.alloc (cirO c (.slice sa c.sw.length scap) wv) = wA at *
      refine (rcheck_any c _ _ _ HV.out).mono ?_
      rintro e w1 ⟨rfl, hb1⟩
      rw [← HR0.out]
      have c0 := block_cell (keepZ K0.out hb1)
      have HB1 := Lib.hid hb1
      clear hb1
      go_wp2_with (go_at_call 80; refine (rwithin_is _ _ _ _ _ HH.out).mono ?_; rintro e w2 ⟨rfl, rfl⟩)
      clear c0
      have hm4 := HM4.out
      go_loopw [6, 7] (fun x i wr => ∃ k : Nat, k ≤ M ∧ i = .int .i64 k ∧ x = .int .i64 (bestI (bestS (lstP c n) k)) ∧ Hid (Below wA.heap.size wA wr)) (fun _ i _ => M - (intOf i).toNat)
      case atStart => exact ⟨0, Nat.zero_le _, rfl, rfl, HB1⟩
      case round =>
        obtain ⟨k, hk, rfl, rfl, hb⟩ := hrel
        have c0 := block_cell (keepZ K0.out hb.out)
        by_cases hlt : k < M
        · have HAT := Lib.hid (bestS_at (p := lstP c n) k)
          have HPK := Lib.hid (HP.out k)
          have hOK := sta_ok hA20 (show k < 1048576 by omega)
          have HOK := Lib.hid hOK
          cases hbs : bestS (lstP c n) k with
          | none =>
            rw [hbs] at HAT
            have hneg : bestI none < 0 := by decide
            have HAT2 := Lib.hid (show bestS (lstP c n) (k + 1) = if cond c ⟨A, k, 0⟩ 24 0 = true then some k else none by rw [HAT.out, HPK.out])
            have hbi : bestI none = -1 := rfl
            rw [hbi]
            clear hbs hneg hbi hOK
            go_wp2_with fail
            refine (rconducts_any c ⟨A, k, 0⟩ _ wv HC.out HOK.out 24 0 _ (by omega) (by omega) (HV.out.below hb.out (Nat.le_refl _))).mono ?_
            rintro e w4 ⟨rfl, hb4⟩
            have HB4 := Lib.hid (hb.out.trans (hb4.mono hb.out.size))
            clear c0 hb4
            cases hcq : cond c ⟨A, k, 0⟩ 24 0
            · rw [hcq] at HAT2
              clear hcq
              go_wp2_with fail
              go_roundw
              case rel => exact ⟨k + 1, hlt, by go_num, by rw [HAT2.out]; rfl, HB4⟩
              case measure => simp [intOf]; omega
            · rw [hcq] at HAT2
              clear hcq
              go_wp2_with fail
              go_roundw
              case rel => exact ⟨k + 1, hlt, by go_num, by rw [HAT2.out]; rfl, HB4⟩
              case measure => simp [intOf]; omega
          | some b =>
            have hbk := bestS_lt hbs
            rw [hbs] at HAT
            have hbi : bestI (some b) = (b : Int) := rfl
            rw [hbi]
            obtain ⟨o1, ho1⟩ : ∃ o, ones k = o := ⟨_, rfl⟩
            obtain ⟨o2, ho2⟩ : ∃ o, ones b = o := ⟨_, rfl⟩
            have HO1 := Lib.hid ho1
            have HO2 := Lib.hid ho2
            have HAT2 := Lib.hid (show bestS (lstP c n) (k + 1) = if (decide (o1 < o2) && cond c ⟨A, k, 0⟩ 24 0) = true then some k else some b by rw [HAT.out, ← ho1, ← ho2, HPK.out])
            have ob1 := (ones_le 12 k (by omega) (by omega)).1
            have ob2 := (ones_le 12 b (by omega) (by omega)).1
            rw [ho1] at ob1
            rw [ho2] at ob2
            clear hbs hbi hOK ho1 ho2
            by_cases hf : o1 < o2
            · rw [decide_eq_true hf, Bool.true_and] at HAT2
              go_wp2_with (go_at_call 50; (first | (with_reducible refine (rones_is o1 k _ (by omega) HO1.out).mono ?_) | (with_reducible refine (rones_is o2 b _ (by omega) HO2.out).mono ?_)); rintro e w4 ⟨rfl, rfl⟩)
              refine (rconducts_any c ⟨A, k, 0⟩ _ wv HC.out HOK.out 24 0 _ (by omega) (by omega) (HV.out.below hb.out (Nat.le_refl _))).mono ?_
              rintro e w4 ⟨rfl, hb4⟩
              have HB4 := Lib.hid (hb.out.trans (hb4.mono hb.out.size))
              clear c0 hb4
              cases hcq : cond c ⟨A, k, 0⟩ 24 0
              · rw [hcq] at HAT2
                clear hcq
                go_wp2_with fail
                go_roundw
                case rel => exact ⟨k + 1, hlt, by go_num, by rw [HAT2.out]; rfl, HB4⟩
                case measure => simp [intOf]; omega
              · rw [hcq] at HAT2
                clear hcq
                go_wp2_with fail
                go_roundw
                case rel => exact ⟨k + 1, hlt, by go_num, by rw [HAT2.out]; rfl, HB4⟩
                case measure => simp [intOf]; omega
            · rw [decide_eq_false hf, Bool.false_and] at HAT2
              go_wp2_with (go_at_call 50; (first | (with_reducible refine (rones_is o1 k _ (by omega) HO1.out).mono ?_) | (with_reducible refine (rones_is o2 b _ (by omega) HO2.out).mono ?_)); rintro e w4 ⟨rfl, rfl⟩)
              clear c0
              go_roundw
              case rel => exact ⟨k + 1, hlt, by go_num, by rw [HAT2.out]; rfl, hb⟩
              case measure => simp [intOf]; omega
        · obtain rfl : k = M := by omega
          by_cases hneg0 : bestI (bestS (lstP c n) k) < 0
          · have HR := Lib.hid (HRS.out.1 hneg0)
            generalize bestI (bestS (lstP c n) k) = B at *
            go_wp2_with fail
            go_ret2
            exact ⟨by rw [HR.out]; rfl, HB.out.trans (hb.out.mono HB.out.size)⟩
          · have HR := Lib.hid (HRS.out.2 (by omega))
            generalize bestI (bestS (lstP c n) k) = B at *
            go_wp2_with fail
            go_ret2
            exact ⟨by rw [HR.out]; rfl, HB.out.trans (hb.out.mono HB.out.size)⟩

end Go.Proofs.Ytbiihhokcmdlhaa
