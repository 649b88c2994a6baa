/- Walks of layer 2 (chain), parts: copies. -/
import Derived.Test.YtkahhclmmlkpjaaSe
import Derived.Test.YtkahhclmmlkpjaaGa
import Derived.Test.YtkahhclmmlkpjaaGx
namespace Go.Proofs.Ytkahhclmmlkpjaa
open Go.RowKit

theorem copyUses_any_info : (Try.prog.info? 89).map (fun i => (i.zero, i.size, i.bytes)) = some (some (.agg #[.int .i64 0, .int .i64 0, .int .i64 0, .bool false, .int .i64 0, .int .i64 0]), 6, 48) := by kernel_rfl
set_option maxHeartbeats 1000000 in
theorem copyUses_any (v : Value) (l : List Us) (w : World) (hv : ElAt 6 usL w v l) (hn : l.length * 48 ≤ 140737488351232) :
    Calls Try.prog 39 #[v] w fun e w' => ∃ v', e = .returned v' ∧ w'.ownsRow w.heap.size 89 6 v' l.length (l.flatMap usL) ∧ Below w.heap.size w w' := by
  obtain ⟨i0, hi, hz0, hz1, hz2⟩ := info_parts copyUses_any_info
  have hf : ∀ x, (usL x).length = 6 := fun _ => rfl
  have hf1 : ∀ x, ∀ u ∈ usL x, u.oneCell' = true := fun x u hu => by simp at hu; rcases hu with rfl | rfl | rfl | rfl | rfl | rfl <;> rfl
  have hb1 := (Below.refl w.heap.size w).alloc (Nat.le_refl _) (.cells #[] 89)
  have k1 := block_new w (.cells #[] 89) w.heap.size rfl
  have hox : (w.alloc (.cells #[] 89)).ownsRow w.heap.size 89 6 (.slice (some ⟨w.heap.size, 0, none⟩) 0 0) 0 ([].flatMap usL) :=
    ⟨by simp, .inr ⟨w.heap.size, 0, #[], rfl, Nat.le_refl _, k1, Nat.le_refl _, by decide, by simp, by simp⟩⟩
  have E1 := Lib.hid (hv.below hb1 (Nat.le_refl _))
  have HOX := Lib.hid hox
  have HB := Lib.hid hb1
  have HSZ := Lib.hid (show w.heap.size ≤ (w.alloc (.cells #[] 89)).heap.size from hb1.size)
  obtain ⟨a, cap, rfl, h1, h2, h3⟩ := hv
  clear k1 hox hb1 h3
  go_enter Try.func39, Try.ntmps39
  go_wp2_with (at_builtin; refine app_elAt rfl (.tmp 3) (.tmp 4) 55 rfl w.heap.size 89 i0 (.agg #[.int .i64 0, .int .i64 0, .int .i64 0, .bool false, .int .i64 0, .int .i64 0]) 6 48 Try.underlying55 hi hz0 hz1 hz2 rfl (by decide) usL hf hf1 _ [] l rfl HOX.out _ rfl E1.out (by unfold maxLen; simp; omega) (by simp; omega) HSZ.out ?_; intro v2 w2 ho2 hb2; have HO2 := Lib.hid ho2; have HB2 := Lib.hid hb2; obtain ⟨a2, c2, rfl, _⟩ := ownsRow_shape ho2; clear ho2 hb2)
  go_ret
  exact ⟨_, rfl, HO2.out, HB.out.trans HB2.out⟩

theorem copyGauges_any_info : (Try.prog.info? 74).map (fun i => (i.zero, i.size, i.bytes)) = some (some (.agg #[.int .i64 0, .int .i64 0, .int .i64 0, .int .i64 0]), 4, 32) := by kernel_rfl
set_option maxHeartbeats 1000000 in
theorem copyGauges_any (v : Value) (l : List Gau) (w : World) (hv : ElAt 4 gauL w v l) (hn : l.length * 32 ≤ 140737488351232) :
    Calls Try.prog 19 #[v] w fun e w' => ∃ v', e = .returned v' ∧ w'.ownsRow w.heap.size 74 4 v' l.length (l.flatMap gauL) ∧ Below w.heap.size w w' := by
  obtain ⟨i0, hi, hz0, hz1, hz2⟩ := info_parts copyGauges_any_info
  have hf : ∀ x, (gauL x).length = 4 := fun _ => rfl
  have hf1 : ∀ x, ∀ u ∈ gauL x, u.oneCell' = true := fun x u hu => by simp at hu; rcases hu with rfl | rfl | rfl | rfl | rfl | rfl <;> rfl
  have hb1 := (Below.refl w.heap.size w).alloc (Nat.le_refl _) (.cells #[] 74)
  have k1 := block_new w (.cells #[] 74) w.heap.size rfl
  have hox : (w.alloc (.cells #[] 74)).ownsRow w.heap.size 74 4 (.slice (some ⟨w.heap.size, 0, none⟩) 0 0) 0 ([].flatMap gauL) :=
    ⟨by simp, .inr ⟨w.heap.size, 0, #[], rfl, Nat.le_refl _, k1, Nat.le_refl _, by decide, by simp, by simp⟩⟩
  have E1 := Lib.hid (hv.below hb1 (Nat.le_refl _))
  have HOX := Lib.hid hox
  have HB := Lib.hid hb1
  have HSZ := Lib.hid (show w.heap.size ≤ (w.alloc (.cells #[] 74)).heap.size from hb1.size)
  obtain ⟨a, cap, rfl, h1, h2, h3⟩ := hv
  clear k1 hox hb1 h3
  go_enter Try.func19, Try.ntmps19
  go_wp2_with (at_builtin; refine app_elAt rfl (.tmp 3) (.tmp 4) 24 rfl w.heap.size 74 i0 (.agg #[.int .i64 0, .int .i64 0, .int .i64 0, .int .i64 0]) 4 32 Try.underlying24 hi hz0 hz1 hz2 rfl (by decide) gauL hf hf1 _ [] l rfl HOX.out _ rfl E1.out (by unfold maxLen; simp; omega) (by simp; omega) HSZ.out ?_; intro v2 w2 ho2 hb2; have HO2 := Lib.hid ho2; have HB2 := Lib.hid hb2; obtain ⟨a2, c2, rfl, _⟩ := ownsRow_shape ho2; clear ho2 hb2)
  go_ret
  exact ⟨_, rfl, HO2.out, HB.out.trans HB2.out⟩

set_option maxHeartbeats 2000000 in
theorem copyPart_any (P : Prt) (bv : Value) (w : World) (hv : SpAt w bv P.rs) (hn : P.rs.length * 16 ≤ 140737488351232) :
    Calls Try.prog 38 #[prtV P bv] w fun e w' => ∃ v', e = .returned (prtV P v') ∧ SpAt w' v' P.rs ∧ Below w.heap.size w w' := by
  obtain ⟨i0, hi, hz0, hz1, hz2⟩ := info_parts infoSpan
  have hf : ∀ x, (spnL x).length = 2 := fun _ => rfl
  have hf1 : ∀ x, ∀ u ∈ spnL x, u.oneCell' = true := fun x u hu => by simp at hu; rcases hu with rfl | rfl <;> rfl
  have HV0 := Lib.hid hv
  obtain ⟨a, cap, rfl, h1, h2, h3⟩ := hv
  clear h3
  have hb3 : Below w.heap.size w (((w.alloc (Obj.cells #[Value.slice a P.rs.length cap, .int .i64 P.wo, .int .i64 P.tu, .int .i64 P.ag] 54)).alloc (Obj.cells #[Value.slice none 0 0, .int .i64 0, .int .i64 0, .int .i64 0] 54)).alloc (Obj.cells #[Value.slice a P.rs.length cap, .int .i64 P.wo, .int .i64 P.tu, .int .i64 P.ag] 54)) := blw3 _ _ _ _
  have kr := three_1 w (Obj.cells #[Value.slice a P.rs.length cap, .int .i64 P.wo, .int .i64 P.tu, .int .i64 P.ag] 54) (Obj.cells #[Value.slice none 0 0, .int .i64 0, .int .i64 0, .int .i64 0] 54) (Obj.cells #[Value.slice a P.rs.length cap, .int .i64 P.wo, .int .i64 P.tu, .int .i64 P.ag] 54)
  have ko := three_2 w (Obj.cells #[Value.slice a P.rs.length cap, .int .i64 P.wo, .int .i64 P.tu, .int .i64 P.ag] 54) (Obj.cells #[Value.slice none 0 0, .int .i64 0, .int .i64 0, .int .i64 0] 54) (Obj.cells #[Value.slice a P.rs.length cap, .int .i64 P.wo, .int .i64 P.tu, .int .i64 P.ag] 54)
  have hs3 : (((w.alloc (Obj.cells #[Value.slice a P.rs.length cap, .int .i64 P.wo, .int .i64 P.tu, .int .i64 P.ag] 54)).alloc (Obj.cells #[Value.slice none 0 0, .int .i64 0, .int .i64 0, .int .i64 0] 54)).alloc (Obj.cells #[Value.slice a P.rs.length cap, .int .i64 P.wo, .int .i64 P.tu, .int .i64 P.ag] 54)).heap.size = w.heap.size + 3 := by simp only [size_alloc]
  have hb4 := hb3.alloc hb3.size (.cells #[] 37)
  have hox : ((((w.alloc (Obj.cells #[Value.slice a P.rs.length cap, .int .i64 P.wo, .int .i64 P.tu, .int .i64 P.ag] 54)).alloc (Obj.cells #[Value.slice none 0 0, .int .i64 0, .int .i64 0, .int .i64 0] 54)).alloc (Obj.cells #[Value.slice a P.rs.length cap, .int .i64 P.wo, .int .i64 P.tu, .int .i64 P.ag] 54)).alloc (.cells #[] 37)).ownsRow (w.heap.size + 3) 37 2 (.slice (some ⟨w.heap.size + 3, 0, none⟩) 0 0) 0 ([].flatMap spnL) :=
    ⟨by simp, .inr ⟨w.heap.size + 3, 0, #[], rfl, Nat.le_refl _, block_new _ _ _ hs3.symm, Nat.le_refl _, by decide, by simp, by simp⟩⟩
  have E1 := Lib.hid (HV0.out.below hb4 (Nat.le_refl _))
  have HOX := Lib.hid hox
  have KR := Lib.hid (block_alloc kr (.cells #[] 37))
  have KO := Lib.hid (block_alloc ko (.cells #[] 37))
  have HB := Lib.hid hb4
  have HSZ := Lib.hid (show w.heap.size + 3 ≤ ((((w.alloc (Obj.cells #[Value.slice a P.rs.length cap, .int .i64 P.wo, .int .i64 P.tu, .int .i64 P.ag] 54)).alloc (Obj.cells #[Value.slice none 0 0, .int .i64 0, .int .i64 0, .int .i64 0] 54)).alloc (Obj.cells #[Value.slice a P.rs.length cap, .int .i64 P.wo, .int .i64 P.tu, .int .i64 P.ag] 54)).alloc (.cells #[] 37)).heap.size by rw [size_alloc, hs3]; omega)
  clear kr ko hs3 hb3 hb4 hox
  go_enter Try.func38, Try.ntmps38
  go_wp2_with (at_builtin; refine app_elAt rfl (.tmp 5) (.tmp 7) 32 rfl (w.heap.size + 3) 37 i0 (.agg #[.int .i64 0, .int .i64 0]) 2 16 Try.underlying32 hi hz0 hz1 hz2 rfl (by decide) spnL hf hf1 _ [] P.rs rfl HOX.out _ rfl E1.out (by unfold maxLen; simp; omega) (by simp; omega) HSZ.out ?_; intro v2 w2 ho2 hb2; have HO2 := Lib.hid ho2; have HB2 := Lib.hid hb2; obtain ⟨a2, c2, rfl, _⟩ := ownsRow_shape ho2; clear ho2 hb2; have cr := block_cell ((HB2.out.block (w.heap.size + 1) (by omega)).trans KR.out); have co := block_cell ((HB2.out.block (w.heap.size + 1 + 1) (by omega)).trans KO.out); have fr := block_free ((HB2.out.block (w.heap.size + 1) (by omega)).trans KR.out); have fo := block_free ((HB2.out.block (w.heap.size + 1 + 1) (by omega)).trans KO.out); have zz := Nat.le_trans HSZ.out HB2.out.size)
  refine bodyPost_ret (v := prtV P (.slice a2 P.rs.length c2)) ?_ rfl ⟨_, rfl, ?_, ?_⟩
  · simp (maxDischargeDepth := 8) [results, Try.results38, go_sem, cr]
  · refine ElAt.of_own (m := 2) (f := spnL) (xs := P.rs) (fun _ => rfl) (base := w.heap.size + 3) (e := 37) ?_
    repeat' (refine ownsRow_setCell ?_ (by simp) _)
    exact HO2.out
  · have hbb := HB.out.trans (HB2.out.mono (by omega))
    repeat' (first | exact hbb | (with_reducible refine Below.drew ?_) | (with_reducible refine Below.alloc ?_ ?_ _) | (with_reducible refine Below.setCell ?_ ?_ _))
    all_goals (first | omega | (simp; done) | (simp; omega))

end Go.Proofs.Ytkahhclmmlkpjaa
