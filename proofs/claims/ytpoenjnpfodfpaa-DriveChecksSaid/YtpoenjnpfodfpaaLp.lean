/- DriveOrder, the walk. -/
import Derived.Test.YtpoenjnpfodfpaaLo
namespace Go.Proofs.Ytpoenjnpfodfpaa
open Go.RowKit

structure Psh where
  s : Int
  l : Int
  f : Int
abbrev pshV (P : Psh) : Value := .agg #[.int .i64 P.s, .int .i64 P.l, .int .i64 P.f]

set_option maxRecDepth 100000 in
set_option maxHeartbeats 4000000 in
theorem order_any (E : Esc) (bv : Value) (p q : Psh) (w : World) (hv : BrAt w bv E.bs) :
    Calls Try.prog 14 #[escV E bv, pshV p, pshV q] w fun e w' => e = .returned (.bool true) ∧ Below w.heap.size w w' := by
  have hb0 := (((Below.refl w.heap.size w).alloc (Nat.le_refl _) (Obj.cells #[.bool E.up, .int .i64 E.em, .int .i64 E.pu, .int .i64 E.dr, .int .i64 E.mo, bv] 24)).alloc (by simp) (Obj.cells #[.int .i64 p.s, .int .i64 p.l, .int .i64 p.f] 26)).alloc (by simp; omega) (Obj.cells #[.int .i64 q.s, .int .i64 q.l, .int .i64 q.f] 26)
  have hv1 := hv.below hb0 (Nat.le_refl _)
  obtain ⟨a, cap, rfl, hn, hcap, hc⟩ := hv
  clear hc
  have HV := Lib.hid hv1
  have HB0 := Lib.hid hb0
  clear hv1 hb0
  have H1 := Lib.hid (@order_speed E p.s q.s p.l p.f)
  have H2 := Lib.hid (@order_force E p.s p.l p.f q.f)
  obtain ⟨b1, b2⟩ := stepM_bd E p.s p.l p.f
  obtain ⟨b3, b4⟩ := stepM_bd E p.s p.l q.f
  generalize hd1 : stepM E p.s p.l p.f = D1 at H1 H2 b1 b2
  generalize hd2 : stepM E q.s p.l p.f = D2 at H1
  generalize hd3 : stepM E p.s p.l q.f = D3 at H2 b3 b4
  have Hd1 := Lib.hid hd1
  have Hd2 := Lib.hid hd2
  have Hd3 := Lib.hid hd3
  clear hd1 hd2 hd3
  go_enter Try.func14, Try.ntmps14
  go_wp2_with fail
  refine (far_any _ _ _ HV.out).mono ?_
  rintro e w1 ⟨rfl, hb1⟩
  obtain ⟨hcl, hfz⟩ := bcell hb1
  go_wp2_with fail
  · refine (rcheck_any _ _ _ (HV.out.below hb1 (Nat.le_refl _))).mono ?_
    rintro e w2 ⟨rfl, hb2⟩
    have hb12 := hb1.trans (hb2.mono hb1.size)
    obtain ⟨hcl2, hfz2⟩ := bcell hb12
    clear hcl hfz
    go_wp2_with fail
    · refine (works_any _).mono ?_
      rintro e w3 ⟨rfl, hb3⟩
      go_wp2
      go_ret
      exact ⟨rfl, HB0.out.trans ((hb12.trans (hb3.mono hb12.size)).mono HB0.out.size)⟩
    · refine (step_any E _ p.s p.l p.f _ (HV.out.below hb12 (Nat.le_refl _))).mono ?_
      rintro e w3 ⟨rfl, hb3⟩
      rw [Hd1.out]
      have hb13 := hb12.trans (hb3.mono hb12.size)
      obtain ⟨hcl3, hfz3⟩ := bcell hb13
      clear hcl2 hfz2
      go_wp2_with fail
      refine (step_any E _ q.s p.l p.f _ (HV.out.below hb13 (Nat.le_refl _))).mono ?_
      rintro e w4 ⟨rfl, hb4⟩
      rw [Hd2.out]
      have hb14 := hb13.trans (hb4.mono hb13.size)
      obtain ⟨hcl4, hfz4⟩ := bcell hb14
      clear hcl3 hfz3
      go_wp2_with fail
      refine (step_any E _ p.s p.l q.f _ (HV.out.below hb14 (Nat.le_refl _))).mono ?_
      rintro e w5 ⟨rfl, hb5⟩
      rw [Hd3.out]
      have hb15 := hb14.trans (hb5.mono hb14.size)
      obtain ⟨hcl5, hfz5⟩ := bcell hb15
      clear hcl4 hfz4
      go_wp2_with (go_at_call 16; refine (works_any _).mono ?_; rintro e w6 ⟨rfl, hb6⟩)
      all_goals first | (go_ret; exact ⟨rfl, HB0.out.trans ((hb15.trans (hb6.mono hb15.size)).mono HB0.out.size)⟩) | (exfalso; have h := H1.out ‹_› ‹_› ‹_›; omega) | (exfalso; have h := H2.out ‹_› ‹_› ‹_›; omega) | (exfalso; have h := H2.out ‹_› ‹_› ‹_›; have h' := ‹_ < (ite _ _ _ : Int)›; repeat' split at h' <;> omega)
  · refine (works_any _).mono ?_
    rintro e w2 ⟨rfl, hb2⟩
    go_wp2
    go_ret
    exact ⟨rfl, HB0.out.trans ((hb1.trans (hb2.mono hb1.size)).mono HB0.out.size)⟩

end Go.Proofs.Ytpoenjnpfodfpaa
