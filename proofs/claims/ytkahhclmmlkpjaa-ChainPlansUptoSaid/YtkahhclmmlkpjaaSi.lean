/- Walks of layer 2 (chain), parts: slices.Concat of uses; the program's Last. -/
import Derived.Test.YtkahhclmmlkpjaaSh
import Derived.Lib.AppendZeros
namespace Go.Proofs.Ytkahhclmmlkpjaa
open Go.RowKit

theorem cu_info : (Try.prog.info? 89).map (fun i => (i.zero, i.size, i.bytes)) = some (some (.agg #[.int .i64 0, .int .i64 0, .int .i64 0, .bool false, .int .i64 0, .int .i64 0]), 6, 48) := by kernel_rfl
set_option maxHeartbeats 1000000 in
theorem cu_grow (n : Nat) (ni : Int) (hni : ni = n) (hn : 0 < n) (hn2 : n ≤ 4000000) (w : World) :
    Calls Try.prog 105 #[.slice none 0 0, .int .i64 ni] w fun e w' => ∃ cap, e = .returned (.slice (some ⟨w.heap.size, 0, none⟩) 0 cap) ∧ w'.ownsRow w.heap.size 89 6 (.slice (some ⟨w.heap.size, 0, none⟩) 0 cap) 0 [] ∧ Below w.heap.size w w' := by
  subst hni
  obtain ⟨i0, hi, hz0, hz1, hz2⟩ := info_parts cu_info
  have hr := Lib.run_append_nil_zeros (P := Try.prog) w 55 3 55 89 i0 (.agg #[.int .i64 0, .int .i64 0, .int .i64 0, .bool false, .int .i64 0, .int .i64 0]) .i64 .i64 Try.underlying55 Try.underlying3 hi hz0 n hn (by omega) (by omega) (by rw [hz2]; omega)
  have hge := grownCap_ge w n 0 89
  have hle := grownCap_le_maxLen w n 0 89 (by unfold maxLen; omega)
  generalize grownCap w n 0 89 = G at *
  generalize hZ : (Builtin.zeroCells (.agg #[.int .i64 0, .int .i64 0, .int .i64 0, .bool false, .int .i64 0, .int .i64 0] : Value).cells n ++ Builtin.zeroCells (.agg #[.int .i64 0, .int .i64 0, .int .i64 0, .bool false, .int .i64 0, .int .i64 0] : Value).cells (G - n)) = Z at hr
  have hZs : Z.size = G * 6 := by rw [← hZ]; simp [size_zeroCells, Value.cells]; omega
  clear hZ
  have g1 : ¬ ((n : Int) < 0) := by omega
  have g2 : IntKind.i64.wrap (n : Int) = n := by rw [IntKind.wrap_i64]; omega
  have g3 : (0 : Int) < n := by omega
  go_enter Try.func105, Try.ntmps105
  go_wp2_with (at_builtin; refine Lib.wpList_append_run _ rfl _ _ _ _ rfl _ _ rfl rfl _ _ hr ?_)
  go_ret
  refine ⟨G, rfl, ⟨by simp, .inr ⟨w.heap.size, G, Z, rfl, Nat.le_refl _, heap_alloc_new w.drew _, Nat.zero_le _, hle, hZs, by simp⟩⟩, ?_⟩
  exact ⟨rfl, rfl, rfl, by simp, fun k hk => heap_alloc_old w.drew _ hk⟩
set_option maxHeartbeats 1000000 in
theorem cu_growAny (n : Nat) (ni : Int) (hni : ni = n) (hn2 : n ≤ 4000000) (w : World) :
    Calls Try.prog 105 #[.slice none 0 0, .int .i64 ni] w fun e w' => ∃ v, e = .returned v ∧ w'.ownsRow w.heap.size 89 6 v 0 [] ∧ Below w.heap.size w w' := by
  rcases Nat.eq_zero_or_pos n with h0 | h0
  · subst hni
    subst h0
    go_enter Try.func105, Try.ntmps105
    go_wp2
    go_ret
    exact ⟨_, rfl, ⟨rfl, .inl ⟨rfl, rfl⟩⟩, Below.refl _ _⟩
  · refine (cu_grow n ni hni h0 hn2 w).mono ?_
    rintro e w' ⟨cap, rfl, h1, h2⟩
    exact ⟨_, rfl, h1, h2⟩
set_option maxRecDepth 100000 in
set_option maxHeartbeats 2000000 in
theorem cu_concat (bm : Nat) (v1 v2 : Value) (l1 l2 : List Us) (w : World) (hm1 : w.cell? ⟨bm, 0, none⟩ = some v1) (hm2 : w.cell? ⟨bm, 1, none⟩ = some v2) (hb : bm < w.heap.size)
    (h1 : ElAt 6 usL w v1 l1) (h2 : ElAt 6 usL w v2 l2) (hl1 : l1.length ≤ 2000000) (hl2 : l2.length ≤ 2000000) :
    Calls Try.prog 89 #[.slice (some ⟨bm, 0, none⟩) 2 2] w fun e w' => ∃ v, e = .returned v ∧ ElAt 6 usL w' v (l1 ++ l2) ∧ Below w.heap.size w w' := by
  obtain ⟨i0, hi, hz0, hz1, hz2⟩ := info_parts cu_info
  have hf : ∀ x, (usL x).length = 6 := fun _ => rfl
  have hf1 : ∀ x, ∀ u ∈ usL x, u.oneCell' = true := fun x u hu => by simp at hu; rcases hu with rfl | rfl | rfl | rfl | rfl | rfl <;> rfl
  have E1 := Lib.hid h1
  have E2 := Lib.hid h2
  obtain ⟨a1, c1, rfl, _, _, _⟩ := h1
  obtain ⟨a2, c2, rfl, _, _, _⟩ := h2
  have g1 : ¬ ((l1.length : Int) < 0) := by omega
  have g2 : ¬ ((l1.length : Int) + (l2.length : Int) < 0) := by omega
  have g3 : IntKind.i64.wrap (l1.length : Int) = l1.length := by rw [IntKind.wrap_i64]; omega
  have g4 : IntKind.i64.wrap ((l1.length : Int) + (l2.length : Int)) = l1.length + l2.length := by rw [IntKind.wrap_i64]; omega
  have HM1 := Lib.hid hm1
  have HM2 := Lib.hid hm2
  go_enter Try.func89, Try.ntmps89
  go_wp2_with fail
  go_loopw [3, 11] (fun s i wr => (i = .int .i64 0 ∧ s = .int .i64 0 ∨ i = .int .i64 1 ∧ s = .int .i64 l1.length ∨ i = .int .i64 2 ∧ s = .int .i64 (l1.length + l2.length)) ∧ w = wr) (fun _ i _ => 2 - (intOf i).toNat)
  case atStart => exact ⟨.inl ⟨rfl, rfl⟩, rfl⟩
  case round =>
    obtain ⟨hr, rfl⟩ := hrel
    rcases hr with ⟨rfl, rfl⟩ | ⟨rfl, rfl⟩ | ⟨rfl, rfl⟩
    · go_wp2
      go_roundw
      case rel => first | exact ⟨.inr (.inl ⟨rfl, rfl⟩), rfl⟩ | simp
      case measure => simp [intOf]
    · go_wp2
      go_roundw
      case rel => first | exact ⟨.inr (.inr ⟨rfl, rfl⟩), rfl⟩ | simp
      case measure => simp [intOf]
    · go_wp2_with fail
      refine (cu_growAny (l1.length + l2.length) _ (by omega) (by omega) _).mono ?_
      rintro e wg ⟨vg, rfl, ho, hbg⟩
      go_wp2_with fail
      go_loopw [6, 27] (fun s i wr => ∃ xs : List Us, Below w.heap.size w wr ∧ wr.ownsRow w.heap.size 89 6 s xs.length (xs.flatMap usL) ∧ (i = .int .i64 0 ∧ xs = [] ∨ i = .int .i64 1 ∧ xs = l1 ∨ i = .int .i64 2 ∧ xs = l1 ++ l2)) (fun _ i _ => 2 - (intOf i).toNat)
      case atStart => exact ⟨[], hbg, ho, .inl ⟨rfl, rfl⟩⟩
      case round =>
        obtain ⟨xs, hbx, hox, hr⟩ := hrel
        have c1 := (hbx.cell (p := ⟨bm, 0, none⟩) hb).trans HM1.out
        have c2 := (hbx.cell (p := ⟨bm, 1, none⟩) hb).trans HM2.out
        have e1 := E1.out.below hbx (Nat.le_refl _)
        have e2 := E2.out.below hbx (Nat.le_refl _)
        have hsx := hbx.size
        rcases hr with ⟨rfl, rfl⟩ | ⟨rfl, rfl⟩ | ⟨rfl, rfl⟩
        · go_wp2_with (at_builtin; refine app_elAt rfl (.tmp 31) (.tmp 32) 55 rfl w.heap.size 89 i0 (.agg #[.int .i64 0, .int .i64 0, .int .i64 0, .bool false, .int .i64 0, .int .i64 0]) 6 48 Try.underlying55 hi hz0 hz1 hz2 rfl (by decide) usL hf hf1 _ [] l1 rfl hox _ rfl e1 (by unfold maxLen; simp; omega) (by simp; omega) hsx ?_)
          intro v' w' ho' hb'
          go_wp2
          go_roundw
          case rel => exact ⟨l1, hbx.trans hb', ho', by simp⟩
          case measure => simp [intOf]
        · go_wp2_with (at_builtin; refine app_elAt rfl (.tmp 31) (.tmp 32) 55 rfl w.heap.size 89 i0 (.agg #[.int .i64 0, .int .i64 0, .int .i64 0, .bool false, .int .i64 0, .int .i64 0]) 6 48 Try.underlying55 hi hz0 hz1 hz2 rfl (by decide) usL hf hf1 _ xs l2 rfl hox _ rfl e2 (by unfold maxLen; omega) (by omega) hsx ?_)
          intro v' w' ho' hb'
          go_wp2
          go_roundw
          case rel => exact ⟨xs ++ l2, hbx.trans hb', by simpa using ho', by simp⟩
          case measure => simp [intOf]
        · go_wp2
          go_ret
          exact ⟨_, rfl, ElAt.of_own hf hox, hbx⟩

set_option maxHeartbeats 400000 in
theorem isM_any (u : Us) (w : World) : Calls Try.prog 91 #[usV u] w fun e w' => e = .returned (.bool u.m) ∧ Below w.heap.size w w' := by
  go_enter Try.func91, Try.ntmps91
  go_wp2
  go_ret
  exact ⟨rfl, (Below.refl _ _).alloc (Nat.le_refl _) _⟩

theorem us_at2 {w w' : World} {b off : Nat} {l : List Us} {k : Nat} (hb : Below w.heap.size w w') (hbl : b < w.heap.size)
    (hc : ∀ i x, l[i]? = some x → ∀ j u, (usL x)[j]? = some u → w.cell? ⟨b, off + i * 6 + j, none⟩ = some u) (hk : k < l.length) :
    w'.cell? ⟨b, off + k * 6, none⟩ = some (.int .i64 (l.getD k Us.zero).d) ∧ w'.cell? ⟨b, off + k * 6 + 1, none⟩ = some (.int .i64 (l.getD k Us.zero).t) ∧
      w'.cell? ⟨b, off + k * 6 + 2, none⟩ = some (.int .i64 (l.getD k Us.zero).c) ∧ w'.cell? ⟨b, off + k * 6 + 3, none⟩ = some (.bool (l.getD k Us.zero).m) ∧
      w'.cell? ⟨b, off + k * 6 + 4, none⟩ = some (.int .i64 (l.getD k Us.zero).lo) ∧ w'.cell? ⟨b, off + k * 6 + 5, none⟩ = some (.int .i64 (l.getD k Us.zero).hi) := us_at hb hbl hc hk

set_option maxHeartbeats 1000000 in
theorem indexUs_any  (v : Value) (l : List Us) (p : Us → Bool) (w : World) (hv : UsAt w v l)
    (hg : ∀ (x : Us) (w1 : World), x ∈ l → Below w.heap.size w w1 → Calls Try.prog 91 #[usV x, ] w1 fun e w' => e = .returned (.bool (p x)) ∧ Below w1.heap.size w1 w') :
    Calls Try.prog 106 #[v, .func (.func 91) #[] #[]] w (IdxRes (l.any p) w) := by
  obtain ⟨a, cap, rfl, hn, hcap, hc⟩ := hv
  have HC := Lib.hid hc
  have HG := Lib.hid hg
  clear hc hg
  go_enter Try.func106, Try.ntmps106
  go_wp2_with fail
  go_loopw [8] (fun i wr => ∃ k : Nat, k ≤ l.length ∧ i = .int .i64 k ∧ Below w.heap.size w wr ∧ Hid (∀ i, i < k → p (l.getD i Us.zero) = false)) (fun i _ => l.length - (intOf i).toNat)
  case atStart => exact ⟨0, Nat.zero_le _, rfl, Below.refl _ _, fun i hi => by omega⟩
  case round =>
    obtain ⟨k, hk, rfl, hb, hf⟩ := hrel
    by_cases hlt : k < l.length
    · obtain ⟨b, off, rfl, hbl, hc⟩ := HC.out (by omega)
      have g1 := us_at2 hb hbl hc hlt
      clear hc
      have hm := getD_mem hlt Us.zero
      generalize hq0 : l.getD k Us.zero = q at g1 hm
      have Hq := Lib.hid hq0
      have HM := Lib.hid hm
      clear hq0 hm
      go_wp2_with fail
      refine (HG.out q wr HM.out hb).mono ?_
      rintro e w1 ⟨rfl, hb1⟩
      have hb2 := hb.trans (hb1.mono hb.size)
      clear hb hb1 g1
      cases hq : p q
      · have HQ := Lib.hid hq
        clear hq
        go_wp2
        go_roundw
        case rel => exact ⟨k + 1, hlt, by go_num, hb2, fun i hi => by
          by_cases hik : i = k
          · rw [hik, Hq.out]; exact HQ.out
          · exact hf.out i (by omega)⟩
        case measure => simp [intOf]; omega
      · have HQ := Lib.hid hq
        clear hq
        go_wp2
        go_ret
        exact ⟨k, rfl, by rw [any_true_of (d := Us.zero) hlt (by rw [Hq.out]; exact HQ.out)]; simp, hb2⟩
    · go_wp2
      go_ret
      exact ⟨-1, rfl, by rw [any_false_of (d := Us.zero) (fun i hi => hf.out i (by omega))]; simp, hb⟩

set_option maxHeartbeats 400000 in
theorem containsUs_any  (v : Value) (l : List Us) (p : Us → Bool) (q : Bool) (w : World) (hv : UsAt w v l) (hq : l.any p = q)
    (hg : ∀ (x : Us) (w1 : World), x ∈ l → Below w.heap.size w w1 → Calls Try.prog 91 #[usV x, ] w1 fun e w' => e = .returned (.bool (p x)) ∧ Below w1.heap.size w1 w') :
    Calls Try.prog 90 #[v, .func (.func 91) #[] #[]] w fun e w' => e = .returned (.bool q) ∧ Below w.heap.size w w' := by
  subst hq
  have HG := Lib.hid hg
  clear hg
  go_enter Try.func90, Try.ntmps90
  go_wp2_with fail
  refine (indexUs_any _ _ p _ hv HG.out).mono ?_
  rintro e w1 ⟨r, rfl, hr, hb⟩
  have HR := Lib.hid hr
  clear hr
  go_wp2
  go_ret
  exact ⟨ret_bool HR.out, hb⟩

end Go.Proofs.Ytkahhclmmlkpjaa
