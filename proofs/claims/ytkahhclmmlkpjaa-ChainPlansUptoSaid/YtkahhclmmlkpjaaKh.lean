/- Walks of layer 2 (chain): slices.Concat of gauges. -/
import Derived.Test.YtkahhclmmlkpjaaKw
import Derived.Test.YtkahhclmmlkpjaaGa
import Derived.WalkKit
namespace Go.Proofs.Ytkahhclmmlkpjaa
open Go.RowKit

theorem cg_info : (Try.prog.info? 74).map (fun i => (i.zero, i.size, i.bytes)) = some (some (.agg #[.int .i64 0, .int .i64 0, .int .i64 0, .int .i64 0]), 4, 32) := by kernel_rfl
set_option maxHeartbeats 1000000 in
theorem cg_grow (n : Nat) (ni : Int) (hni : ni = n) (hn : 0 < n) (hn2 : n ≤ 1000000) (w : World) :
    Calls Try.prog 97 #[.slice none 0 0, .int .i64 ni] w fun e w' => ∃ cap, e = .returned (.slice (some ⟨w.heap.size, 0, none⟩) 0 cap) ∧ w'.ownsRow w.heap.size 74 4 (.slice (some ⟨w.heap.size, 0, none⟩) 0 cap) 0 [] ∧ Below w.heap.size w w' := by
  subst hni
  obtain ⟨i0, hi, hz0, hz1, hz2⟩ := info_parts cg_info
  have hr := Lib.run_append_nil_zeros (P := Try.prog) w 24 3 24 74 i0 (.agg #[.int .i64 0, .int .i64 0, .int .i64 0, .int .i64 0]) .i64 .i64 Try.underlying24 Try.underlying3 hi hz0 n hn (by omega) (by omega) (by rw [hz2]; omega)
  have hge := grownCap_ge w n 0 74
  have hle := grownCap_le_maxLen w n 0 74 (by unfold maxLen; omega)
  generalize grownCap w n 0 74 = G at *
  generalize hZ : (Builtin.zeroCells (.agg #[.int .i64 0, .int .i64 0, .int .i64 0, .int .i64 0] : Value).cells n ++ Builtin.zeroCells (.agg #[.int .i64 0, .int .i64 0, .int .i64 0, .int .i64 0] : Value).cells (G - n)) = Z at hr
  have hZs : Z.size = G * 4 := by rw [← hZ]; simp [size_zeroCells, Value.cells]; omega
  clear hZ
  have g1 : ¬ ((n : Int) < 0) := by omega
  have g2 : IntKind.i64.wrap (n : Int) = n := by rw [IntKind.wrap_i64]; omega
  have g3 : (0 : Int) < n := by omega
  go_enter Try.func97, Try.ntmps97
  go_wp2_with (at_builtin; refine Lib.wpList_append_run _ rfl _ _ _ _ rfl _ _ rfl rfl _ _ hr ?_)
  go_ret
  refine ⟨G, rfl, ⟨by simp, .inr ⟨w.heap.size, G, Z, rfl, Nat.le_refl _, heap_alloc_new w.drew _, Nat.zero_le _, hle, hZs, by simp⟩⟩, ?_⟩
  exact ⟨rfl, rfl, rfl, by simp, fun k hk => heap_alloc_old w.drew _ hk⟩
set_option maxRecDepth 100000 in
set_option maxHeartbeats 2000000 in
theorem cg_concat (bm : Nat) (v1 v2 : Value) (l1 l2 : List Gau) (w : World) (hm1 : w.cell? ⟨bm, 0, none⟩ = some v1) (hm2 : w.cell? ⟨bm, 1, none⟩ = some v2) (hb : bm < w.heap.size)
    (h1 : ElAt 4 gauL w v1 l1) (h2 : ElAt 4 gauL w v2 l2) (hp : 0 < l2.length) (hl1 : l1.length ≤ 100000) (hl2 : l2.length ≤ 100000) :
    Calls Try.prog 73 #[.slice (some ⟨bm, 0, none⟩) 2 2] w fun e w' => ∃ v, e = .returned v ∧ ElAt 4 gauL w' v (l1 ++ l2) ∧ Below w.heap.size w w' := by
  obtain ⟨i0, hi, hz0, hz1, hz2⟩ := info_parts cg_info
  have hf : ∀ x, (gauL x).length = 4 := fun _ => rfl
  have hf1 : ∀ x, ∀ u ∈ gauL x, u.oneCell' = true := fun x u hu => by simp at hu; rcases hu with rfl | rfl | rfl | rfl | rfl | rfl <;> rfl
  have E1 := Lib.hid h1
  have E2 := Lib.hid h2
  obtain ⟨a1, c1, rfl, _, _, _⟩ := h1
  obtain ⟨a2, c2, rfl, _, _, _⟩ := h2
  have g1 : ¬ ((l1.length : Int) < 0) := by omega
  have g2 : ¬ ((l1.length : Int) + (l2.length : Int) < 0) := by omega
  have g3 : IntKind.i64.wrap (l1.length : Int) = l1.length := by rw [IntKind.wrap_i64]; omega
  have g4 : IntKind.i64.wrap ((l1.length : Int) + (l2.length : Int)) = l1.length + l2.length := by rw [IntKind.wrap_i64]; omega
  have HM1 := Lib.hid hm1
  have HM2 := Lib.hid hm2
  go_enter Try.func73, Try.ntmps73
  go_wp2_with fail
  go_loopw [3, 11] (fun s i wr => (i = .int .i64 0 ∧ s = .int .i64 0 ∨ i = .int .i64 1 ∧ s = .int .i64 l1.length ∨ i = .int .i64 2 ∧ s = .int .i64 (l1.length + l2.length)) ∧ w = wr) (fun _ i _ => 2 - (intOf i).toNat)
  case atStart => exact ⟨.inl ⟨rfl, rfl⟩, rfl⟩
  case round =>
    obtain ⟨hr, rfl⟩ := hrel
    rcases hr with ⟨rfl, rfl⟩ | ⟨rfl, rfl⟩ | ⟨rfl, rfl⟩
    · go_wp2
      go_roundw
      case rel => first | exact ⟨.inr (.inl ⟨rfl, rfl⟩), rfl⟩ | simp
      case measure => simp [intOf]
    · go_wp2
      go_roundw
      case rel => first | exact ⟨.inr (.inr ⟨rfl, rfl⟩), rfl⟩ | simp
      case measure => simp [intOf]
    · go_wp2_with fail
      refine (cg_grow (l1.length + l2.length) _ (by omega) (by omega) (by omega) _).mono ?_
      rintro e wg ⟨G, rfl, ho, hbg⟩
      go_wp2_with fail
      go_loopw [6, 27] (fun s i wr => ∃ xs : List Gau, Below w.heap.size w wr ∧ wr.ownsRow w.heap.size 74 4 s xs.length (xs.flatMap gauL) ∧ (i = .int .i64 0 ∧ xs = [] ∨ i = .int .i64 1 ∧ xs = l1 ∨ i = .int .i64 2 ∧ xs = l1 ++ l2)) (fun _ i _ => 2 - (intOf i).toNat)
      case atStart => exact ⟨[], hbg, ho, .inl ⟨rfl, rfl⟩⟩
      case round =>
        obtain ⟨xs, hbx, hox, hr⟩ := hrel
        have c1 := (hbx.cell (p := ⟨bm, 0, none⟩) hb).trans HM1.out
        have c2 := (hbx.cell (p := ⟨bm, 1, none⟩) hb).trans HM2.out
        have e1 := E1.out.below hbx (Nat.le_refl _)
        have e2 := E2.out.below hbx (Nat.le_refl _)
        have hsx := hbx.size
        rcases hr with ⟨rfl, rfl⟩ | ⟨rfl, rfl⟩ | ⟨rfl, rfl⟩
        · go_wp2_with (at_builtin; refine app_elAt rfl (.tmp 31) (.tmp 32) 24 rfl w.heap.size 74 i0 (.agg #[.int .i64 0, .int .i64 0, .int .i64 0, .int .i64 0]) 4 32 Try.underlying24 hi hz0 hz1 hz2 rfl (by decide) gauL hf hf1 _ [] l1 rfl hox _ rfl e1 (by unfold maxLen; simp; omega) (by simp; omega) hsx ?_)
          intro v' w' ho' hb'
          go_wp2
          go_roundw
          case rel => exact ⟨l1, hbx.trans hb', ho', by simp⟩
          case measure => simp [intOf]
        · go_wp2_with (at_builtin; refine app_elAt rfl (.tmp 31) (.tmp 32) 24 rfl w.heap.size 74 i0 (.agg #[.int .i64 0, .int .i64 0, .int .i64 0, .int .i64 0]) 4 32 Try.underlying24 hi hz0 hz1 hz2 rfl (by decide) gauL hf hf1 _ xs l2 rfl hox _ rfl e2 (by unfold maxLen; omega) (by omega) hsx ?_)
          intro v' w' ho' hb'
          go_wp2
          go_roundw
          case rel => exact ⟨xs ++ l2, hbx.trans hb', by simpa using ho', by simp⟩
          case measure => simp [intOf]
        · go_wp2
          go_ret
          exact ⟨_, rfl, ElAt.of_own hf hox, hbx⟩

end Go.Proofs.Ytkahhclmmlkpjaa
