/- Walks of the statements' own helpers: works. -/
import Derived.Test.YtpoenjnpfodfpaaDo
import Derived.Deep.DeepCutAuto
namespace Go.Proofs.Ytpoenjnpfodfpaa
open Go.RowKit

def stop60 : Stp := ⟨60, 0, 500, 0⟩
def stop0 : Stp := ⟨0, 0, 500, 0⟩

theorem dist60 : distM exampleE stop60 = ⟨108, 135, 4, 5, 0⟩ := by kernel_rfl
theorem back0 : backM exampleE stop0 = ⟨7, 0⟩ := by kernel_rfl

theorem brLift {w w1 : World} {v : Value} {bs : List (Int × Int)} (h : BrAt w v bs) (hb : Below w.heap.size w w1) : BrAt w1 v bs := h.below hb (Nat.le_refl _)

theorem sz1 {w w' : World} (h : Below (w.heap.size + 1) (w.alloc (Obj.cells #[.int .i64 60, .int .i64 0, .int .i64 500, .int .i64 0] 38)) w') : w.heap.size + 1 ≤ w'.heap.size := by
  have := h.size; rw [size_alloc] at this; exact this

theorem stopAt {w w' : World} (h : Below (w.heap.size + 1) (w.alloc (Obj.cells #[.int .i64 60, .int .i64 0, .int .i64 500, .int .i64 0] 38)) w') :
    (w'.cell? ⟨w.heap.size, 0, none⟩ = some (.int .i64 60) ∧ w'.cell? ⟨w.heap.size, 1, none⟩ = some (.int .i64 0) ∧ w'.cell? ⟨w.heap.size, 2, none⟩ = some (.int .i64 500) ∧ w'.cell? ⟨w.heap.size, 3, none⟩ = some (.int .i64 0)) ∧ Below (w.heap.size + 1) (w.alloc (Obj.cells #[.int .i64 60, .int .i64 0, .int .i64 500, .int .i64 0] 38)) w' := by
  have k := (h.block w.heap.size (by omega)).trans (block_new w (Obj.cells #[.int .i64 60, .int .i64 0, .int .i64 500, .int .i64 0] 38) w.heap.size rfl)
  exact ⟨⟨block_cell k 0, block_cell k 1, block_cell k 2, block_cell k 3⟩, h⟩

theorem cell_set_other {w : World} {a b : Addr} {u : Value} (h : b.block ≠ a.block) : (w.setCell a u).cell? b = w.cell? b := by
  unfold World.cell?
  rw [Below.heap_setCell w a u b.block h]

theorem stopAt0 {w wd : World} {p2 p3 : Nat} (k : wd.heap[w.heap.size]? = some (.cells #[.int .i64 0, .int .i64 0, .int .i64 500, .int .i64 0] 38 (0, 0))) (d1 : wd.cell? ⟨p2, 0, none⟩ = some (.int .i64 108)) (d2 : wd.cell? ⟨p2, 1, none⟩ = some (.int .i64 135)) (d3 : wd.cell? ⟨p3, 0, none⟩ = some (.int .i64 4)) (d4 : wd.cell? ⟨p3, 1, none⟩ = some (.int .i64 5)) :
    ∀ w', Below wd.heap.size wd w' → ((w'.cell? ⟨w.heap.size, 0, none⟩ = some (.int .i64 0) ∧ w'.cell? ⟨w.heap.size, 1, none⟩ = some (.int .i64 0) ∧ w'.cell? ⟨w.heap.size, 2, none⟩ = some (.int .i64 500) ∧ w'.cell? ⟨w.heap.size, 3, none⟩ = some (.int .i64 0)) ∧ (w'.cell? ⟨p2, 0, none⟩ = some (.int .i64 108) ∧ w'.cell? ⟨p2, 1, none⟩ = some (.int .i64 135) ∧ w'.cell? ⟨p3, 0, none⟩ = some (.int .i64 4) ∧ w'.cell? ⟨p3, 1, none⟩ = some (.int .i64 5))) ∧ Below wd.heap.size wd w' := by
  intro w' h
  have k' := (h.block w.heap.size (lt_of_block k)).trans k
  have q2 : p2 < wd.heap.size := cell_lt d1
  have q3 : p3 < wd.heap.size := cell_lt d3
  exact ⟨⟨⟨block_cell k' 0, block_cell k' 1, block_cell k' 2, block_cell k' 3⟩, (h.cell (p := ⟨p2, 0, none⟩) q2).trans d1, (h.cell (p := ⟨p2, 1, none⟩) q2).trans d2, (h.cell (p := ⟨p3, 0, none⟩) q3).trans d3, (h.cell (p := ⟨p3, 1, none⟩) q3).trans d4⟩, h⟩

set_option maxHeartbeats 4000000 in
theorem works_any (w : World) : Calls Try.prog 16 #[] w fun e w' => e = .returned (.bool true) ∧ Below w.heap.size w w' := by
  go_enter Try.func16, Try.ntmps16
  go_upto_region 2 with fail
  go_cut [2, 3, 4] (fun s2 s3 s4 wx => ∃ p2 p3 : Nat, s2 = .pointer (some ⟨p2, 0, none⟩) ∧ s3 = .pointer (some ⟨p3, 0, none⟩) ∧ s4 = .int .i64 0 ∧
    wx.cell? ⟨p2, 0, none⟩ = some (.int .i64 108) ∧ wx.cell? ⟨p2, 1, none⟩ = some (.int .i64 135) ∧ wx.cell? ⟨p3, 0, none⟩ = some (.int .i64 4) ∧ wx.cell? ⟨p3, 1, none⟩ = some (.int .i64 5) ∧
    w.heap.size < p2 ∧ w.heap.size < p3 ∧ Below (w.heap.size + 1) (w.alloc (Obj.cells #[.int .i64 60, .int .i64 0, .int .i64 500, .int .i64 0] 38)) wx)
  case first =>
    go_region_held3 (fun w' => (w'.cell? ⟨w.heap.size, 0, none⟩ = some (.int .i64 60) ∧ w'.cell? ⟨w.heap.size, 1, none⟩ = some (.int .i64 0) ∧ w'.cell? ⟨w.heap.size, 2, none⟩ = some (.int .i64 500) ∧ w'.cell? ⟨w.heap.size, 3, none⟩ = some (.int .i64 0)) ∧ Below (w.heap.size + 1) (w.alloc (Obj.cells #[.int .i64 60, .int .i64 0, .int .i64 500, .int .i64 0] 38)) w') (first | (with_reducible exact stopAt (Below.drew (Below.refl _ _))) | (with_reducible exact stopAt hB2) | (with_reducible exact stopAt hB1) | (with_reducible refine stopAt (Below.alloc hB2 ?_ _); (all_goals (first | omega | (simp; done) | (simp; omega)))) | (with_reducible refine stopAt (Below.alloc (Below.alloc hB2 ?_ _) ?_ _); (all_goals (first | omega | (simp; done) | (simp; omega)))) | (with_reducible refine stopAt (Below.setCell (Below.setCell hB2 ?_ _) ?_ _); (all_goals (first | omega | (simp; done) | (simp; omega)))) | (with_reducible refine stopAt (Below.alloc (Below.setCell (Below.setCell hB2 ?_ _) ?_ _) ?_ _); (all_goals (first | omega | (simp; done) | (simp; omega)))) | (with_reducible refine stopAt (Below.alloc (Below.alloc (Below.setCell (Below.setCell hB2 ?_ _) ?_ _) ?_ _) ?_ _); (all_goals (first | omega | (simp; done) | (simp; omega)))) | (with_reducible refine stopAt (Below.setCell (Below.setCell (Below.setCell (Below.setCell hB2 ?_ _) ?_ _) ?_ _) ?_ _); (all_goals (first | omega | (simp; done) | (simp; omega)))) | (with_reducible refine stopAt (Below.alloc (Below.setCell (Below.setCell (Below.setCell (Below.setCell hB2 ?_ _) ?_ _) ?_ _) ?_ _) ?_ _); (all_goals (first | omega | (simp; done) | (simp; omega)))) | (with_reducible refine stopAt (Below.alloc (Below.alloc (Below.setCell (Below.setCell (Below.setCell (Below.setCell hB2 ?_ _) ?_ _) ?_ _) ?_ _) ?_ _) ?_ _); (all_goals (first | omega | (simp; done) | (simp; omega)))) | (with_reducible refine stopAt (Below.alloc hB1 ?_ _); (all_goals (first | omega | (simp; done) | (simp; omega)))) | (with_reducible refine stopAt (Below.alloc (Below.alloc hB1 ?_ _) ?_ _); (all_goals (first | omega | (simp; done) | (simp; omega)))) | (with_reducible refine stopAt (Below.drew (Below.alloc (Below.refl _ _) ?_ _)); (all_goals (first | omega | (simp; done) | (simp; omega)))) | (with_reducible refine stopAt (Below.drew (Below.alloc (Below.alloc (Below.refl _ _) ?_ _) ?_ _)); (all_goals (first | omega | (simp; done) | (simp; omega)))) | fail)
      (first | (go_at_call 44; refine (example_any _).mono ?_; rintro e w1 ⟨v, rfl, hv1, hb1⟩; have hB0 := And.right ‹_ ∧ Below (w.heap.size + 1) (w.alloc (Obj.cells #[.int .i64 60, .int .i64 0, .int .i64 500, .int .i64 0] 38)) _›; have hB1 := hB0.trans (hb1.mono (sz1 hB0)); have q1 := sz1 hB1; obtain ⟨hcl, hfz⟩ := bcell hb1; (try have z0 : w.heap.size < w1.heap.size := (by have h1 := hb1.size; (try simp at h1); omega)); (try have z1 : w.heap.size + 1 < w1.heap.size := (by have h1 := hb1.size; (try simp at h1); omega)); (try have z2 : w.heap.size + 1 + 1 < w1.heap.size := (by have h1 := hb1.size; (try simp at h1); omega))) | (go_at_call 26; refine (distance_any exampleE stop60 v _ ?_).mono ?_; (first | exact hv1 | exact brLift hv1 ((Below.refl _ _).alloc (Nat.le_refl _) _) | exact brLift hv1 (((Below.refl _ _).alloc (Nat.le_refl _) _).alloc (by simp) _)); rintro e w2 ⟨rfl, hb2⟩; rw [dist60]; have hB0 := And.right ‹_ ∧ Below (w.heap.size + 1) (w.alloc (Obj.cells #[.int .i64 60, .int .i64 0, .int .i64 500, .int .i64 0] 38)) _›; have hB2 := hB0.trans (hb2.mono (sz1 hB0)); have q2 := sz1 hB2; obtain ⟨hcl2, hfz2⟩ := bcell hb2; (try have y0 : w.heap.size < w2.heap.size := (by have h1 := hb1.size; (try simp at h1); have h2 := hb2.size; (try simp at h2); omega)); (try have y1 : w.heap.size + 1 < w2.heap.size := (by have h1 := hb1.size; (try simp at h1); have h2 := hb2.size; (try simp at h2); omega)); (try have y2 : w.heap.size + 1 + 1 < w2.heap.size := (by have h1 := hb1.size; (try simp at h1); have h2 := hb2.size; (try simp at h2); omega)); (try have y3 : w1.heap.size < w2.heap.size := (by have h1 := hb1.size; (try simp at h1); have h2 := hb2.size; (try simp at h2); omega)); (try have y4 : w1.heap.size + 1 < w2.heap.size := (by have h1 := hb1.size; (try simp at h1); have h2 := hb2.size; (try simp at h2); omega))))
    all_goals
      go_wp2_with fail
      go_meet
      refine ⟨_, _, rfl, rfl, rfl, ?_, ?_, ?_, ?_, ?_, ?_, And.right ‹_ ∧ Below (w.heap.size + 1) (w.alloc (Obj.cells #[.int .i64 60, .int .i64 0, .int .i64 500, .int .i64 0] 38)) _›⟩
      all_goals first | omega | (simp; done) | (simp; omega) | (simp (maxDischargeDepth := 8) [go_sem, hcl2]; done) | (simp (maxDischargeDepth := 8) [go_sem, hcl2, y3]; done) | (simp (maxDischargeDepth := 8) [go_sem, hcl2, hcl, y0, y1, y2, y3, z0, z1, z2]; done) | (simp (maxDischargeDepth := 8) [go_sem, hcl2, hcl, z1, z2]; done) | (simp (maxDischargeDepth := 8) [go_sem, hcl2, hcl, z0, z1]; done) | (simp (maxDischargeDepth := 8) [go_sem, hcl2, hcl, y1, z1]; done)
  case rest =>
    obtain ⟨p2, p3, rfl, rfl, rfl, c1, c2, c3, c4, l2, l3, hb⟩ := hcut
    have k := block_set ((hb.block w.heap.size (by omega)).trans (block_new w (Obj.cells #[.int .i64 60, .int .i64 0, .int .i64 500, .int .i64 0] 38) w.heap.size rfl)) 0 (.int .i64 0)
    have k0 := block_cell ((hb.block w.heap.size (by omega)).trans (block_new w (Obj.cells #[.int .i64 60, .int .i64 0, .int .i64 500, .int .i64 0] 38) w.heap.size rfl))
    have k1 := block_free ((hb.block w.heap.size (by omega)).trans (block_new w (Obj.cells #[.int .i64 60, .int .i64 0, .int .i64 500, .int .i64 0] 38) w.heap.size rfl))
    have K := Lib.hid k
    clear k
    go_wp2_with fail
    have hbd := (hb.mono (Nat.le_succ _)).setCell (p := ⟨w.heap.size, 0, none⟩) (Nat.le_refl _) (.int .i64 0)
    have d1 : (wc.setCell ⟨w.heap.size, 0, none⟩ (.int .i64 0)).cell? ⟨p2, 0, none⟩ = some (.int .i64 108) := (cell_set_other (by show p2 ≠ w.heap.size; omega)).trans c1
    have d2 : (wc.setCell ⟨w.heap.size, 0, none⟩ (.int .i64 0)).cell? ⟨p2, 1, none⟩ = some (.int .i64 135) := (cell_set_other (by show p2 ≠ w.heap.size; omega)).trans c2
    have d3 : (wc.setCell ⟨w.heap.size, 0, none⟩ (.int .i64 0)).cell? ⟨p3, 0, none⟩ = some (.int .i64 4) := (cell_set_other (by show p3 ≠ w.heap.size; omega)).trans c3
    have d4 : (wc.setCell ⟨w.heap.size, 0, none⟩ (.int .i64 0)).cell? ⟨p3, 1, none⟩ = some (.int .i64 5) := (cell_set_other (by show p3 ≠ w.heap.size; omega)).trans c4
    have k := K.out
    generalize wc.setCell ⟨w.heap.size, 0, none⟩ (.int .i64 0) = wd at *
    have D := stopAt0 k d1 d2 d3 d4
    have ka := block_cell k
    clear K k0 k1 c1 c2 c3 c4 hb
    go_region_held3 (fun w' => ((w'.cell? ⟨w.heap.size, 0, none⟩ = some (.int .i64 0) ∧ w'.cell? ⟨w.heap.size, 1, none⟩ = some (.int .i64 0) ∧ w'.cell? ⟨w.heap.size, 2, none⟩ = some (.int .i64 500) ∧ w'.cell? ⟨w.heap.size, 3, none⟩ = some (.int .i64 0)) ∧ (w'.cell? ⟨p2, 0, none⟩ = some (.int .i64 108) ∧ w'.cell? ⟨p2, 1, none⟩ = some (.int .i64 135) ∧ w'.cell? ⟨p3, 0, none⟩ = some (.int .i64 4) ∧ w'.cell? ⟨p3, 1, none⟩ = some (.int .i64 5))) ∧ Below wd.heap.size wd w') (first | (with_reducible exact D _ (Below.drew (Below.refl _ _))) | (with_reducible exact D _ hB2) | (with_reducible exact D _ hB1) | fail)
      (first | (go_at_call 44; refine (example_any _).mono ?_; rintro e w1 ⟨v, rfl, hv1, hb1⟩; have hB0 := And.right ‹_ ∧ Below wd.heap.size wd _›; have hB1 := hB0.trans (hb1.mono hB0.size)) | (go_at_call 30; refine (back_any exampleE stop0 v _ ?_).mono ?_; (exact hv1); rintro e w2 ⟨rfl, hb2⟩; rw [back0]; have hB0 := And.right ‹_ ∧ Below wd.heap.size wd _›; have hB2 := hB0.trans (hb2.mono hB0.size)))
    go_wp2
    go_ret
    have hbz := ((Below.refl w.heap.size w).alloc (Nat.le_refl _) _).trans hbd
    exact ⟨rfl, hbz.trans (And.right ‹_ ∧ Below wd.heap.size wd _› |>.mono hbz.size)⟩

end Go.Proofs.Ytpoenjnpfodfpaa
