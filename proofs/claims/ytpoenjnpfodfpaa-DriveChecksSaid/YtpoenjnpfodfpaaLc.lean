/- DriveChecks, the walk. -/
import Derived.Test.YtpoenjnpfodfpaaLp
import Derived.Test.YtpoenjnpfodfpaaDq
namespace Go.Proofs.Ytpoenjnpfodfpaa
open Go.RowKit

theorem escAt {wd : World} {pe : Nat} {cs : Array Value} {t : TypeId} (k : wd.heap[pe]? = some (.cells cs t (0, 0))) :
    ∀ w', Below wd.heap.size wd w' → (w'.cell? ⟨pe, 0, none⟩ = cs[0]? ∧ w'.cell? ⟨pe, 1, none⟩ = cs[1]? ∧ w'.cell? ⟨pe, 2, none⟩ = cs[2]? ∧ w'.cell? ⟨pe, 3, none⟩ = cs[3]? ∧ w'.cell? ⟨pe, 4, none⟩ = cs[4]? ∧ w'.cell? ⟨pe, 5, none⟩ = cs[5]?) ∧ Below wd.heap.size wd w' := by
  intro w' h
  have k' := (h.block pe (lt_of_block k)).trans k
  exact ⟨⟨block_cell k' 0, block_cell k' 1, block_cell k' 2, block_cell k' 3, block_cell k' 4, block_cell k' 5⟩, h⟩

set_option maxRecDepth 100000 in
set_option maxHeartbeats 4000000 in
theorem checks_any (E : Esc) (bv : Value) (p : Psh) (w : World) (hv : BrAt w bv E.bs) :
    Calls Try.prog 3 #[escV E bv, pshV p] w fun e w' => e = .returned (.bool true) ∧ Below w.heap.size w w' := by
  have hb0 := ((Below.refl w.heap.size w).alloc (Nat.le_refl _) (Obj.cells #[.bool E.up, .int .i64 E.em, .int .i64 E.pu, .int .i64 E.dr, .int .i64 E.mo, bv] 24)).alloc (by simp) (Obj.cells #[.int .i64 p.s, .int .i64 p.l, .int .i64 p.f] 26)
  have k0 := block_alloc (block_new w (Obj.cells #[.bool E.up, .int .i64 E.em, .int .i64 E.pu, .int .i64 E.dr, .int .i64 E.mo, bv] 24) w.heap.size rfl) (Obj.cells #[.int .i64 p.s, .int .i64 p.l, .int .i64 p.f] 26)
  have hv1 := hv.below hb0 (Nat.le_refl _)
  obtain ⟨a, cap, rfl, hn, hcap, hc⟩ := hv
  clear hc
  have HV := Lib.hid hv1
  have HB0 := Lib.hid hb0
  have K0 := Lib.hid k0
  clear hv1 hb0 k0
  have hd1 : ∃ D, stepM E p.s p.l p.f = D := ⟨_, rfl⟩
  have hd2 : ∃ D, capM E = D := ⟨_, rfl⟩
  have hd3 : ∃ D, checkM E = D := ⟨_, rfl⟩
  obtain ⟨D1, h1⟩ := hd1
  obtain ⟨D2, h2⟩ := hd2
  obtain ⟨D3, h3⟩ := hd3
  have H1 := Lib.hid h1
  have H2 := Lib.hid h2
  have H3 := Lib.hid h3
  clear h1 h2 h3
  go_enter Try.func3, Try.ntmps3
  go_wp2_with fail
  refine (far_any _ _ _ HV.out).mono ?_
  rintro e w1 ⟨rfl, hb1⟩
  obtain ⟨hcl, hfz⟩ := bcell hb1
  go_wp2_with fail
  · refine (works_any _).mono ?_
    rintro e w2 ⟨rfl, hb2⟩
    go_wp2
    go_ret
    exact ⟨rfl, HB0.out.trans ((hb1.trans (hb2.mono hb1.size)).mono HB0.out.size)⟩
  · refine (step_any E _ p.s p.l p.f _ (HV.out.below hb1 (Nat.le_refl _))).mono ?_
    rintro e w3 ⟨rfl, hb3⟩
    rw [H1.out]
    have hb13 := hb1.trans (hb3.mono hb1.size)
    obtain ⟨hcl3, hfz3⟩ := bcell hb13
    clear hcl hfz
    go_wp2_with fail
    refine (rstep_any E _ p.s p.l p.f _ (HV.out.below hb13 (Nat.le_refl _))).mono ?_
    rintro e w4 ⟨rfl, hb4⟩
    rw [H1.out]
    have hb14 := hb13.trans (hb4.mono hb13.size)
    obtain ⟨hcl4, hfz4⟩ := bcell hb14
    clear hcl3 hfz3
    go_wp2_with fail
    refine (capacity_any E _ _ (HV.out.below hb14 (Nat.le_refl _))).mono ?_
    rintro e w5 ⟨rfl, hb5⟩
    rw [H2.out]
    have hb15 := hb14.trans (hb5.mono hb14.size)
    obtain ⟨hcl5, hfz5⟩ := bcell hb15
    clear hcl4 hfz4
    go_wp2_with fail
    refine (rcapacity_any E _ _ (HV.out.below hb15 (Nat.le_refl _))).mono ?_
    rintro e w6 ⟨rfl, hb6⟩
    rw [H2.out]
    have hb16 := hb15.trans (hb6.mono hb15.size)
    clear hcl5 hfz5
    have k6 := (hb16.block w.heap.size (lt_of_block K0.out)).trans K0.out
    have D := escAt k6
    have HVz := Lib.hid (HV.out.below hb16 (Nat.le_refl _))
    have HBz := Lib.hid (HB0.out.trans (hb16.mono HB0.out.size))
    clear k6 hb1 hb13 hb14 hb15 hb3 hb4 hb5 hb6 hb16 K0
    go_wp2_with fail
    go_region_held3 (fun w' => (w'.cell? ⟨w.heap.size, 0, none⟩ = some (.bool E.up) ∧ w'.cell? ⟨w.heap.size, 1, none⟩ = some (.int .i64 E.em) ∧ w'.cell? ⟨w.heap.size, 2, none⟩ = some (.int .i64 E.pu) ∧ w'.cell? ⟨w.heap.size, 3, none⟩ = some (.int .i64 E.dr) ∧ w'.cell? ⟨w.heap.size, 4, none⟩ = some (.int .i64 E.mo) ∧ w'.cell? ⟨w.heap.size, 5, none⟩ = some (.slice a E.bs.length cap)) ∧ Below w6.heap.size w6 w') (first | exact D _ (Below.drew (Below.refl _ _)) | exact D _ hB1 | fail)
      (first | (go_at_call 21; have hB0 := And.right ‹_ ∧ Below w6.heap.size w6 _›; refine (check_any E _ _ (HVz.out.below hB0 (Nat.le_refl _))).mono ?_; rintro e w7 ⟨rfl, hb7⟩; rw [H3.out]; have hB1 := hB0.trans (hb7.mono hB0.size)) | (go_at_call 22; have hB0 := And.right ‹_ ∧ Below w6.heap.size w6 _›; refine (rcheck_any E _ _ (HVz.out.below hB0 (Nat.le_refl _))).mono ?_; rintro e w8 ⟨rfl, hb8⟩; rw [H3.out]; have hB1 := hB0.trans (hb8.mono hB0.size)) | (go_at_call 16; have hB0 := And.right ‹_ ∧ Below w6.heap.size w6 _›; refine (works_any _).mono ?_; rintro e w9 ⟨rfl, hb9⟩; have hB1 := hB0.trans (hb9.mono hB0.size)))
    all_goals
      go_wp2
      go_ret
      exact ⟨rfl, HBz.out.trans ((And.right ‹_ ∧ Below w6.heap.size w6 _›).mono HBz.out.size)⟩

end Go.Proofs.Ytpoenjnpfodfpaa
