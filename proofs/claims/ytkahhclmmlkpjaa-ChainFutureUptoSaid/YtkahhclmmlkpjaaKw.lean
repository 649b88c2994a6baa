/- Walks of layer 2 (chain), the leaves: within, isSpan, Check of both. -/
import Derived.Test.YtkahhclmmlkpjaaGw
import Derived.Test.YtkahhclmmlkpjaaKp
namespace Go.Proofs.Ytkahhclmmlkpjaa
open Go.RowKit

abbrev chnV (c : Chn) : Value := .agg #[.int .i64 c.n, .int .i64 c.pi, .int .i64 c.li]
abbrev gauL (g : Gau) : List Value := [.int .i64 g.a, .int .i64 g.b, .int .i64 g.lo, .int .i64 g.hi]
abbrev gauV (g : Gau) : Value := .agg #[.int .i64 g.a, .int .i64 g.b, .int .i64 g.lo, .int .i64 g.hi]
abbrev GaAt (w : World) (v : Value) (l : List Gau) : Prop := ElAt 4 gauL w v l



theorem ga_at {w w' : World} {b off : Nat} {l : List Gau} {k : Nat} (hb : Below w.heap.size w w') (hbl : b < w.heap.size)
    (hc : ∀ i x, l[i]? = some x → ∀ j u, (gauL x)[j]? = some u → w.cell? ⟨b, off + i * 4 + j, none⟩ = some u) (hk : k < l.length) :
    w'.cell? ⟨b, off + k * 4, none⟩ = some (.int .i64 (l.getD k Gau.zero).a) ∧ w'.cell? ⟨b, off + k * 4 + 1, none⟩ = some (.int .i64 (l.getD k Gau.zero).b) ∧
      w'.cell? ⟨b, off + k * 4 + 2, none⟩ = some (.int .i64 (l.getD k Gau.zero).lo) ∧ w'.cell? ⟨b, off + k * 4 + 3, none⟩ = some (.int .i64 (l.getD k Gau.zero).hi) := by
  have h := hc k _ (getD_get? hk Gau.zero)
  exact ⟨(hb.cell hbl).trans (h 0 _ rfl), (hb.cell hbl).trans (h 1 _ rfl), (hb.cell hbl).trans (h 2 _ rfl), (hb.cell hbl).trans (h 3 _ rfl)⟩

set_option maxHeartbeats 400000 in
theorem kwithin_any (n lo hi : Int) (w : World) :
    Calls Try.prog 60 #[.int .i64 n, .int .i64 lo, .int .i64 hi] w fun e w' => e = .returned (.bool (decide (lo ≤ n ∧ n ≤ hi))) ∧ w = w' := by
  go_enter Try.func60, Try.ntmps60
  go_wp2
  all_goals (go_ret; exact ⟨ret_bool (by simp; omega), rfl⟩)

theorem kwithin_is (q : Bool) (n lo hi : Int) (w : World) (h : decide (lo ≤ n ∧ n ≤ hi) = q) :
    Calls Try.prog 60 #[.int .i64 n, .int .i64 lo, .int .i64 hi] w fun e w' => e = .returned (.bool q) ∧ w = w' := by
  subst h
  exact kwithin_any n lo hi w

set_option maxHeartbeats 400000 in
theorem rfrom_any (n lo hi : Int) (w : World) :
    Calls Try.prog 65 #[.int .i64 n, .int .i64 lo, .int .i64 hi] w fun e w' => e = .returned (.bool (decide (lo ≤ n ∧ n ≤ hi))) ∧ w = w' := by
  go_enter Try.func65, Try.ntmps65
  go_wp2
  all_goals (go_ret; exact ⟨ret_bool (by simp; omega), rfl⟩)

theorem rfrom_is (q : Bool) (n lo hi : Int) (w : World) (h : decide (lo ≤ n ∧ n ≤ hi) = q) :
    Calls Try.prog 65 #[.int .i64 n, .int .i64 lo, .int .i64 hi] w fun e w' => e = .returned (.bool q) ∧ w = w' := by
  subst h
  exact rfrom_any n lo hi w

set_option maxHeartbeats 400000 in
theorem isSpan_any (lo hi m : Int) (w : World) :
    Calls Try.prog 62 #[.agg #[.int .i64 lo, .int .i64 hi], .int .i64 m] w fun e w' => e = .returned (.bool (!spanBad m lo hi)) ∧ Below w.heap.size w w' := by
  go_enter Try.func62, Try.ntmps62
  go_wp2_with (go_at_call 60; refine (kwithin_any _ _ _ _).mono ?_; rintro e w' ⟨rfl, rfl⟩)
  all_goals
    go_ret
    refine ⟨ret_bool ?_, (Below.refl _ _).alloc (Nat.le_refl _) _⟩
    simp [spanBad]
    try omega

theorem isSpan_is (q : Bool) (lo hi m : Int) (w : World) (h : spanBad m lo hi = !q) :
    Calls Try.prog 62 #[.agg #[.int .i64 lo, .int .i64 hi], .int .i64 m] w fun e w' => e = .returned (.bool q) ∧ Below w.heap.size w w' := by
  have h' : q = !spanBad m lo hi := by rw [h]; simp
  subst h'
  exact isSpan_any lo hi m w

set_option maxHeartbeats 1000000 in
theorem gbad_any (g : Gau) (N : Int) (be : Nat) (w : World) (hn : w.cell? ⟨be, 0, none⟩ = some (.int .i64 N)) (hb : be < w.heap.size) (hN : N ≤ 24) :
    Calls Try.prog 61 #[gauV g, .pointer (some ⟨be, 0, none⟩)] w fun e w' => e = .returned (.bool (gauBad N g)) ∧ Below w.heap.size w w' := by
  go_enter Try.func61, Try.ntmps61
  go_wp2_with (first | (go_at_call 60; refine (kwithin_any _ _ _ _).mono ?_; rintro e w' ⟨rfl, rfl⟩) | (go_at_call 62; refine (isSpan_any _ _ _ _).mono ?_; rintro e w' ⟨rfl, hb1⟩))
  all_goals go_ret
  · refine ⟨ret_bool ?_, ((Below.refl _ _).alloc (Nat.le_refl _) _).trans (hb1.mono (by simp))⟩
    simp [gauBad]
    omega
  all_goals
    refine ⟨ret_bool ?_, (Below.refl _ _).alloc (Nat.le_refl _) _⟩
    simp [gauBad]
    try omega

set_option maxHeartbeats 1000000 in
theorem indexGau_any {be : Nat} (v : Value) (l : List Gau) (p : Gau → Bool) (w : World) (hv : GaAt w v l)
    (hg : ∀ (x : Gau) (w1 : World), x ∈ l → Below w.heap.size w w1 → Calls Try.prog 61 #[gauV x, .pointer (some ⟨be, 0, none⟩)] w1 fun e w' => e = .returned (.bool (p x)) ∧ Below w1.heap.size w1 w') :
    Calls Try.prog 93 #[v, .func (.func 61) #[] #[.pointer (some ⟨be, 0, none⟩)]] w (IdxRes (l.any p) w) := by
  obtain ⟨a, cap, rfl, hn, hcap, hc⟩ := hv
  have HC := Lib.hid hc
  have HG := Lib.hid hg
  clear hc hg
  go_enter Try.func93, Try.ntmps93
  go_wp2_with fail
  go_loopw [8] (fun i wr => ∃ k : Nat, k ≤ l.length ∧ i = .int .i64 k ∧ Below w.heap.size w wr ∧ Hid (∀ i, i < k → p (l.getD i Gau.zero) = false)) (fun i _ => l.length - (intOf i).toNat)
  case atStart => exact ⟨0, Nat.zero_le _, rfl, Below.refl _ _, fun i hi => by omega⟩
  case round =>
    obtain ⟨k, hk, rfl, hb, hf⟩ := hrel
    by_cases hlt : k < l.length
    · obtain ⟨b, off, rfl, hbl, hc⟩ := HC.out (by omega)
      have g1 := ga_at hb hbl hc hlt
      clear hc
      have hm := getD_mem hlt Gau.zero
      generalize hq0 : l.getD k Gau.zero = q at g1 hm
      have Hq := Lib.hid hq0
      have HM := Lib.hid hm
      clear hq0 hm
      go_wp2_with fail
      refine (HG.out q wr HM.out hb).mono ?_
      rintro e w1 ⟨rfl, hb1⟩
      have hb2 := hb.trans (hb1.mono hb.size)
      clear hb hb1 g1
      cases hq : p q
      · have HQ := Lib.hid hq
        clear hq
        go_wp2
        go_roundw
        case rel => exact ⟨k + 1, hlt, by go_num, hb2, fun i hi => by
          by_cases hik : i = k
          · rw [hik, Hq.out]; exact HQ.out
          · exact hf.out i (by omega)⟩
        case measure => simp [intOf]; omega
      · have HQ := Lib.hid hq
        clear hq
        go_wp2
        go_ret
        exact ⟨k, rfl, by rw [any_true_of (d := Gau.zero) hlt (by rw [Hq.out]; exact HQ.out)]; simp, hb2⟩
    · go_wp2
      go_ret
      exact ⟨-1, rfl, by rw [any_false_of (d := Gau.zero) (fun i hi => hf.out i (by omega))]; simp, hb⟩

set_option maxHeartbeats 400000 in
theorem containsGau_any {be : Nat} (v : Value) (l : List Gau) (p : Gau → Bool) (q : Bool) (w : World) (hv : GaAt w v l) (hq : l.any p = q)
    (hg : ∀ (x : Gau) (w1 : World), x ∈ l → Below w.heap.size w w1 → Calls Try.prog 61 #[gauV x, .pointer (some ⟨be, 0, none⟩)] w1 fun e w' => e = .returned (.bool (p x)) ∧ Below w1.heap.size w1 w') :
    Calls Try.prog 63 #[v, .func (.func 61) #[] #[.pointer (some ⟨be, 0, none⟩)]] w fun e w' => e = .returned (.bool q) ∧ Below w.heap.size w w' := by
  subst hq
  have HG := Lib.hid hg
  clear hg
  go_enter Try.func63, Try.ntmps63
  go_wp2_with fail
  refine (indexGau_any _ _ p _ hv HG.out).mono ?_
  rintro e w1 ⟨r, rfl, hr, hb⟩
  have HR := Lib.hid hr
  clear hr
  go_wp2
  go_ret
  exact ⟨ret_bool HR.out, hb⟩

end Go.Proofs.Ytkahhclmmlkpjaa
