/- Walks of layer 2 (chain), parts: isPart, isUse. -/
import Derived.Test.YtkahhclmmlkpjaaKw
import Derived.Test.YtkahhclmmlkpjaaQn
namespace Go.Proofs.Ytkahhclmmlkpjaa
open Go.RowKit

def Spn.zero : Spn := (0, 0)
abbrev spnL (r : Spn) : List Value := [.int .i64 r.1, .int .i64 r.2]
abbrev spnV (r : Spn) : Value := .agg #[.int .i64 r.1, .int .i64 r.2]
abbrev SpAt (w : World) (v : Value) (l : List Spn) : Prop := ElAt 2 spnL w v l
abbrev prtV (P : Prt) (bv : Value) : Value := .agg #[bv, .int .i64 P.wo, .int .i64 P.tu, .int .i64 P.ag]
abbrev usL (u : Us) : List Value := [.int .i64 u.d, .int .i64 u.t, .int .i64 u.c, .bool u.m, .int .i64 u.lo, .int .i64 u.hi]
abbrev usV (u : Us) : Value := .agg #[.int .i64 u.d, .int .i64 u.t, .int .i64 u.c, .bool u.m, .int .i64 u.lo, .int .i64 u.hi]
abbrev UsAt (w : World) (v : Value) (l : List Us) : Prop := ElAt 6 usL w v l

theorem sp_at {w w' : World} {b off : Nat} {l : List Spn} {k : Nat} (hb : Below w.heap.size w w') (hbl : b < w.heap.size)
    (hc : ∀ i x, l[i]? = some x → ∀ j u, (spnL x)[j]? = some u → w.cell? ⟨b, off + i * 2 + j, none⟩ = some u) (hk : k < l.length) :
    w'.cell? ⟨b, off + k * 2, none⟩ = some (.int .i64 (l.getD k Spn.zero).1) ∧ w'.cell? ⟨b, off + k * 2 + 1, none⟩ = some (.int .i64 (l.getD k Spn.zero).2) := by
  have h := hc k _ (getD_get? hk Spn.zero)
  exact ⟨(hb.cell hbl).trans (h 0 _ rfl), (hb.cell hbl).trans (h 1 _ rfl)⟩

theorem us_at {w w' : World} {b off : Nat} {l : List Us} {k : Nat} (hb : Below w.heap.size w w') (hbl : b < w.heap.size)
    (hc : ∀ i x, l[i]? = some x → ∀ j u, (usL x)[j]? = some u → w.cell? ⟨b, off + i * 6 + j, none⟩ = some u) (hk : k < l.length) :
    w'.cell? ⟨b, off + k * 6, none⟩ = some (.int .i64 (l.getD k Us.zero).d) ∧ w'.cell? ⟨b, off + k * 6 + 1, none⟩ = some (.int .i64 (l.getD k Us.zero).t) ∧
      w'.cell? ⟨b, off + k * 6 + 2, none⟩ = some (.int .i64 (l.getD k Us.zero).c) ∧ w'.cell? ⟨b, off + k * 6 + 3, none⟩ = some (.bool (l.getD k Us.zero).m) ∧
      w'.cell? ⟨b, off + k * 6 + 4, none⟩ = some (.int .i64 (l.getD k Us.zero).lo) ∧ w'.cell? ⟨b, off + k * 6 + 5, none⟩ = some (.int .i64 (l.getD k Us.zero).hi) := by
  have h := hc k _ (getD_get? hk Us.zero)
  exact ⟨(hb.cell hbl).trans (h 0 _ rfl), (hb.cell hbl).trans (h 1 _ rfl), (hb.cell hbl).trans (h 2 _ rfl), (hb.cell hbl).trans (h 3 _ rfl), (hb.cell hbl).trans (h 4 _ rfl), (hb.cell hbl).trans (h 5 _ rfl)⟩

set_option maxHeartbeats 400000 in
theorem rbad_any (r : Spn) (w : World) : Calls Try.prog 100 #[spnV r] w fun e w' => e = .returned (.bool (rateBad r)) ∧ Below w.heap.size w w' := by
  go_enter Try.func100, Try.ntmps100
  go_wp2_with (go_at_call 62; refine (isSpan_any _ _ _ _).mono ?_; rintro e w' ⟨rfl, hb1⟩)
  go_ret
  exact ⟨ret_bool (by simp [rateBad]), ((Below.refl _ _).alloc (Nat.le_refl _) _).trans (hb1.mono (by simp))⟩

set_option maxHeartbeats 1000000 in
theorem indexSpn_any  (v : Value) (l : List Spn) (p : Spn → Bool) (w : World) (hv : SpAt w v l)
    (hg : ∀ (x : Spn) (w1 : World), x ∈ l → Below w.heap.size w w1 → Calls Try.prog 100 #[spnV x, ] w1 fun e w' => e = .returned (.bool (p x)) ∧ Below w1.heap.size w1 w') :
    Calls Try.prog 107 #[v, .func (.func 100) #[] #[]] w (IdxRes (l.any p) w) := by
  obtain ⟨a, cap, rfl, hn, hcap, hc⟩ := hv
  have HC := Lib.hid hc
  have HG := Lib.hid hg
  clear hc hg
  go_enter Try.func107, Try.ntmps107
  go_wp2_with fail
  go_loopw [8] (fun i wr => ∃ k : Nat, k ≤ l.length ∧ i = .int .i64 k ∧ Below w.heap.size w wr ∧ Hid (∀ i, i < k → p (l.getD i Spn.zero) = false)) (fun i _ => l.length - (intOf i).toNat)
  case atStart => exact ⟨0, Nat.zero_le _, rfl, Below.refl _ _, fun i hi => by omega⟩
  case round =>
    obtain ⟨k, hk, rfl, hb, hf⟩ := hrel
    by_cases hlt : k < l.length
    · obtain ⟨b, off, rfl, hbl, hc⟩ := HC.out (by omega)
      have g1 := sp_at hb hbl hc hlt
      clear hc
      have hm := getD_mem hlt Spn.zero
      generalize hq0 : l.getD k Spn.zero = q at g1 hm
      have Hq := Lib.hid hq0
      have HM := Lib.hid hm
      clear hq0 hm
      go_wp2_with fail
      refine (HG.out q wr HM.out hb).mono ?_
      rintro e w1 ⟨rfl, hb1⟩
      have hb2 := hb.trans (hb1.mono hb.size)
      clear hb hb1 g1
      cases hq : p q
      · have HQ := Lib.hid hq
        clear hq
        go_wp2
        go_roundw
        case rel => exact ⟨k + 1, hlt, by go_num, hb2, fun i hi => by
          by_cases hik : i = k
          · rw [hik, Hq.out]; exact HQ.out
          · exact hf.out i (by omega)⟩
        case measure => simp [intOf]; omega
      · have HQ := Lib.hid hq
        clear hq
        go_wp2
        go_ret
        exact ⟨k, rfl, by rw [any_true_of (d := Spn.zero) hlt (by rw [Hq.out]; exact HQ.out)]; simp, hb2⟩
    · go_wp2
      go_ret
      exact ⟨-1, rfl, by rw [any_false_of (d := Spn.zero) (fun i hi => hf.out i (by omega))]; simp, hb⟩

set_option maxHeartbeats 400000 in
theorem containsSpn_any  (v : Value) (l : List Spn) (p : Spn → Bool) (q : Bool) (w : World) (hv : SpAt w v l) (hq : l.any p = q)
    (hg : ∀ (x : Spn) (w1 : World), x ∈ l → Below w.heap.size w w1 → Calls Try.prog 100 #[spnV x, ] w1 fun e w' => e = .returned (.bool (p x)) ∧ Below w1.heap.size w1 w') :
    Calls Try.prog 101 #[v, .func (.func 100) #[] #[]] w fun e w' => e = .returned (.bool q) ∧ Below w.heap.size w w' := by
  subst hq
  have HG := Lib.hid hg
  clear hg
  go_enter Try.func101, Try.ntmps101
  go_wp2_with fail
  refine (indexSpn_any _ _ p _ hv HG.out).mono ?_
  rintro e w1 ⟨r, rfl, hr, hb⟩
  have HR := Lib.hid hr
  clear hr
  go_wp2
  go_ret
  exact ⟨ret_bool HR.out, hb⟩

set_option maxHeartbeats 2000000 in
theorem isPart_any (P : Prt) (bv : Value) (w : World) (hv : SpAt w bv P.rs) :
    Calls Try.prog 79 #[prtV P bv] w fun e w' => e = .returned (.bool (partOk P)) ∧ Below w.heap.size w w' := by
  have hb0 := (Below.refl w.heap.size w).alloc (Nat.le_refl _) (Obj.cells #[bv, .int .i64 P.wo, .int .i64 P.tu, .int .i64 P.ag] 54)
  have k0 := block_new w (Obj.cells #[bv, .int .i64 P.wo, .int .i64 P.tu, .int .i64 P.ag] 54) w.heap.size rfl
  have HV := Lib.hid (hv.below hb0 (Nat.le_refl _))
  obtain ⟨a, cap, rfl, hn, hcap, hc⟩ := hv
  clear hc
  have HB := Lib.hid hb0
  have K0 := Lib.hid k0
  clear hb0 k0
  obtain ⟨b1, h1⟩ : ∃ b, decide (1 ≤ (P.rs.length : Int) ∧ (P.rs.length : Int) ≤ 4) = b := ⟨_, rfl⟩
  obtain ⟨b2, h2⟩ : ∃ b, P.rs.any rateBad = b := ⟨_, rfl⟩
  obtain ⟨b3, h3⟩ : ∃ b, decide (0 ≤ P.wo ∧ P.wo ≤ 1000) = b := ⟨_, rfl⟩
  obtain ⟨b4, h4⟩ : ∃ b, decide (0 ≤ P.tu ∧ P.tu ≤ 1000000) = b := ⟨_, rfl⟩
  obtain ⟨b5, h5⟩ : ∃ b, decide (0 ≤ P.ag ∧ P.ag ≤ 100000) = b := ⟨_, rfl⟩
  have HR := Lib.hid (show partOk P = (b1 && !b2 && b3 && b4 && b5) by unfold partOk; rw [h1, h2, h3, h4, h5])
  have H1 := Lib.hid h1
  have H2 := Lib.hid h2
  have H3 := Lib.hid h3
  have H4 := Lib.hid h4
  have H5 := Lib.hid h5
  clear h1 h2 h3 h4 h5
  cases b1
  · go_enter Try.func79, Try.ntmps79
    go_wp2_with fail
    generalize w.alloc (Obj.cells #[Value.slice a P.rs.length cap, .int .i64 P.wo, .int .i64 P.tu, .int .i64 P.ag] 54) = wA at *
    have hce := block_cell K0.out
    go_wp2_with (first | (go_at_call 60; (first | with_reducible refine (kwithin_is _ (P.rs.length : Int) 1 4 _ H1.out).mono ?_ | with_reducible refine (kwithin_is _ P.wo 0 1000 _ H3.out).mono ?_ | with_reducible refine (kwithin_is _ P.tu 0 1000000 _ H4.out).mono ?_ | with_reducible refine (kwithin_is _ P.ag 0 100000 _ H5.out).mono ?_); rintro e w' ⟨rfl, rfl⟩) |
      (go_at_call 101; refine (containsSpn_any _ P.rs _ _ _ HV.out H2.out (fun x w1 _ _ => rbad_any x w1)).mono ?_; rintro e w1 ⟨rfl, hb1⟩; clear hce; have hce := block_cell ((hb1.block _ (lt_of_block K0.out)).trans K0.out)))
    go_ret
    first
      | exact ⟨ret_bool (by rw [HR.out]; rfl), HB.out⟩
      | exact ⟨ret_bool (by rw [HR.out]; rfl), HB.out.trans (hb1.mono HB.out.size)⟩
  cases b2
  rotate_left
  · go_enter Try.func79, Try.ntmps79
    go_wp2_with fail
    generalize w.alloc (Obj.cells #[Value.slice a P.rs.length cap, .int .i64 P.wo, .int .i64 P.tu, .int .i64 P.ag] 54) = wA at *
    have hce := block_cell K0.out
    go_wp2_with (first | (go_at_call 60; (first | with_reducible refine (kwithin_is _ (P.rs.length : Int) 1 4 _ H1.out).mono ?_ | with_reducible refine (kwithin_is _ P.wo 0 1000 _ H3.out).mono ?_ | with_reducible refine (kwithin_is _ P.tu 0 1000000 _ H4.out).mono ?_ | with_reducible refine (kwithin_is _ P.ag 0 100000 _ H5.out).mono ?_); rintro e w' ⟨rfl, rfl⟩) |
      (go_at_call 101; refine (containsSpn_any _ P.rs _ _ _ HV.out H2.out (fun x w1 _ _ => rbad_any x w1)).mono ?_; rintro e w1 ⟨rfl, hb1⟩; clear hce; have hce := block_cell ((hb1.block _ (lt_of_block K0.out)).trans K0.out)))
    go_ret
    first
      | exact ⟨ret_bool (by rw [HR.out]; rfl), HB.out⟩
      | exact ⟨ret_bool (by rw [HR.out]; rfl), HB.out.trans (hb1.mono HB.out.size)⟩
  cases b3
  · go_enter Try.func79, Try.ntmps79
    go_wp2_with fail
    generalize w.alloc (Obj.cells #[Value.slice a P.rs.length cap, .int .i64 P.wo, .int .i64 P.tu, .int .i64 P.ag] 54) = wA at *
    have hce := block_cell K0.out
    go_wp2_with (first | (go_at_call 60; (first | with_reducible refine (kwithin_is _ (P.rs.length : Int) 1 4 _ H1.out).mono ?_ | with_reducible refine (kwithin_is _ P.wo 0 1000 _ H3.out).mono ?_ | with_reducible refine (kwithin_is _ P.tu 0 1000000 _ H4.out).mono ?_ | with_reducible refine (kwithin_is _ P.ag 0 100000 _ H5.out).mono ?_); rintro e w' ⟨rfl, rfl⟩) |
      (go_at_call 101; refine (containsSpn_any _ P.rs _ _ _ HV.out H2.out (fun x w1 _ _ => rbad_any x w1)).mono ?_; rintro e w1 ⟨rfl, hb1⟩; clear hce; have hce := block_cell ((hb1.block _ (lt_of_block K0.out)).trans K0.out)))
    go_ret
    first
      | exact ⟨ret_bool (by rw [HR.out]; rfl), HB.out⟩
      | exact ⟨ret_bool (by rw [HR.out]; rfl), HB.out.trans (hb1.mono HB.out.size)⟩
  cases b4
  · go_enter Try.func79, Try.ntmps79
    go_wp2_with fail
    generalize w.alloc (Obj.cells #[Value.slice a P.rs.length cap, .int .i64 P.wo, .int .i64 P.tu, .int .i64 P.ag] 54) = wA at *
    have hce := block_cell K0.out
    go_wp2_with (first | (go_at_call 60; (first | with_reducible refine (kwithin_is _ (P.rs.length : Int) 1 4 _ H1.out).mono ?_ | with_reducible refine (kwithin_is _ P.wo 0 1000 _ H3.out).mono ?_ | with_reducible refine (kwithin_is _ P.tu 0 1000000 _ H4.out).mono ?_ | with_reducible refine (kwithin_is _ P.ag 0 100000 _ H5.out).mono ?_); rintro e w' ⟨rfl, rfl⟩) |
      (go_at_call 101; refine (containsSpn_any _ P.rs _ _ _ HV.out H2.out (fun x w1 _ _ => rbad_any x w1)).mono ?_; rintro e w1 ⟨rfl, hb1⟩; clear hce; have hce := block_cell ((hb1.block _ (lt_of_block K0.out)).trans K0.out)))
    go_ret
    first
      | exact ⟨ret_bool (by rw [HR.out]; rfl), HB.out⟩
      | exact ⟨ret_bool (by rw [HR.out]; rfl), HB.out.trans (hb1.mono HB.out.size)⟩
  cases b5
  all_goals
    go_enter Try.func79, Try.ntmps79
    go_wp2_with fail
    generalize w.alloc (Obj.cells #[Value.slice a P.rs.length cap, .int .i64 P.wo, .int .i64 P.tu, .int .i64 P.ag] 54) = wA at *
    have hce := block_cell K0.out
    go_wp2_with (first | (go_at_call 60; (first | with_reducible refine (kwithin_is _ (P.rs.length : Int) 1 4 _ H1.out).mono ?_ | with_reducible refine (kwithin_is _ P.wo 0 1000 _ H3.out).mono ?_ | with_reducible refine (kwithin_is _ P.tu 0 1000000 _ H4.out).mono ?_ | with_reducible refine (kwithin_is _ P.ag 0 100000 _ H5.out).mono ?_); rintro e w' ⟨rfl, rfl⟩) |
      (go_at_call 101; refine (containsSpn_any _ P.rs _ _ _ HV.out H2.out (fun x w1 _ _ => rbad_any x w1)).mono ?_; rintro e w1 ⟨rfl, hb1⟩; clear hce; have hce := block_cell ((hb1.block _ (lt_of_block K0.out)).trans K0.out)))
    go_ret
    first
      | exact ⟨ret_bool (by rw [HR.out]; rfl), HB.out⟩
      | exact ⟨ret_bool (by rw [HR.out]; rfl), HB.out.trans (hb1.mono HB.out.size)⟩

end Go.Proofs.Ytkahhclmmlkpjaa
