/- Walks of layer 1 (drive): extreme, runBack. -/
import Derived.Test.YtpoenjnpfodfpaaDf
import Derived.Test.YtpoenjnpfodfpaaDn
namespace Go.Proofs.Ytpoenjnpfodfpaa
open Go.RowKit

set_option maxHeartbeats 1000000 in
theorem extreme_any (E : Esc) (S : Stp) (v : Value) (sp tick : Int) (most : Bool) (w : World) (hv : BrAt w v E.bs) (hE : E.ok = true) (hS : S.Num) (v1 : -100000000000 ≤ sp) (v2 : sp ≤ 100000000000) :
    Calls Try.prog 74 #[escV E v, stpV S, .int .i64 sp, .int .i64 tick, .bool most] w fun e w' => e = .returned (.tuple #[.int .i64 (extM E S sp tick most).1, .int .i64 (extM E S sp tick most).2]) ∧ Below w.heap.size w w' := by
  have hb0 := ((Below.refl w.heap.size w).alloc (Nat.le_refl _) (Obj.cells #[.bool E.up, .int .i64 E.em, .int .i64 E.pu, .int .i64 E.dr, .int .i64 E.mo, v] 24)).alloc (by simp) (Obj.cells #[.int .i64 S.sp, .int .i64 S.lo, .int .i64 S.hi, .int .i64 S.fa] 38)
  have hv1 := hv.below hb0 (Nat.le_refl _)
  have hlen := Esc.ok_len hE
  obtain ⟨l1, l2, l3, _, _, f1, f2⟩ := hS
  have hN := Esc.ok_num hE
  have hg : 0 ≤ gripM E S tick ∧ gripM E S tick ≤ 30000000 := forceTo_bd3 hE (gripB E S tick)
  obtain ⟨b1, b2⟩ := hg
  obtain ⟨a, cap, rfl, hn, hcap, hc⟩ := hv
  clear hc
  have HV := Lib.hid hv1
  have HB0 := Lib.hid hb0
  clear hv1 hb0
  cases most
  all_goals
    go_enter Try.func74, Try.ntmps74
    go_wp2_with fail
    refine (grip_any E S _ tick _ HV.out hE f1 f2).mono ?_
    rintro e w1 ⟨rfl, hb1⟩
    obtain ⟨hcl, hfz⟩ := bcell hb1
    go_wp2_with fail
    refine (next_any E _ sp S.lo _ _ hN l1 (by omega) b1 (by omega) v1 v2).mono ?_
    rintro e w2 ⟨rfl, hb2⟩
    have hb12 := hb1.trans (hb2.mono hb1.size)
    obtain ⟨hcl2, hfz2⟩ := bcell hb12
    clear hcl hfz
    go_wp2_with fail
    refine (next_any E _ sp S.hi _ _ hN (by omega) l3 b1 (by omega) v1 v2).mono ?_
    rintro e w3 ⟨rfl, hb3⟩
    have hb13 := hb12.trans (hb3.mono hb12.size)
    obtain ⟨hcl3, hfz3⟩ := bcell hb13
    clear hcl2 hfz2
    go_wp2
    all_goals
      go_ret2
      refine ⟨?_, HB0.out.trans (hb13.mono HB0.out.size)⟩
      have hx := fun most => @extM_hi E S sp tick most
      have hy := fun most => @extM_lo E S sp tick most
      first | (rw [hx false (.inr ⟨rfl, by omega⟩)]; rfl) | (rw [hx true (.inl ⟨rfl, by omega⟩)]; rfl) | (rw [hy false (by rintro (⟨h, h'⟩ | ⟨h, h'⟩); (cases h); omega)]; rfl) | (rw [hy true (by rintro (⟨h, h'⟩ | ⟨h, h'⟩); omega; (cases h))]; rfl)

set_option maxHeartbeats 1000000 in
theorem runBack_any (E : Esc) (S : Stp) (v : Value) (w : World) (hv : BrAt w v E.bs) (hE : E.ok = true) (hS : S.Num) :
    Calls Try.prog 61 #[escV E v, stpV S] w fun e w' => e = .returned (.tuple #[.int .i64 (backTo E S 100), .bool (decide (0 ≤ pathM E S false 100))]) ∧ Below w.heap.size w w' := by
  have hbA := ((Below.refl w.heap.size w).alloc (Nat.le_refl _) (Obj.cells #[.bool E.up, .int .i64 E.em, .int .i64 E.pu, .int .i64 E.dr, .int .i64 E.mo, v] 24)).alloc (by simp) (Obj.cells #[.int .i64 S.sp, .int .i64 S.lo, .int .i64 S.hi, .int .i64 S.fa] 38)
  have hce : ∀ o : Nat, ((w.alloc (Obj.cells #[.bool E.up, .int .i64 E.em, .int .i64 E.pu, .int .i64 E.dr, .int .i64 E.mo, v] 24)).alloc (Obj.cells #[.int .i64 S.sp, .int .i64 S.lo, .int .i64 S.hi, .int .i64 S.fa] 38)).cell? ⟨w.heap.size, o, none⟩ = #[.bool E.up, .int .i64 E.em, .int .i64 E.pu, .int .i64 E.dr, .int .i64 E.mo, v][o]? := fun o => by
    rw [cell_alloc_old (by rw [size_alloc]; simp)]; exact cell_alloc_new _ _ _ _ _ _ rfl
  have hcs : ∀ o : Nat, ((w.alloc (Obj.cells #[.bool E.up, .int .i64 E.em, .int .i64 E.pu, .int .i64 E.dr, .int .i64 E.mo, v] 24)).alloc (Obj.cells #[.int .i64 S.sp, .int .i64 S.lo, .int .i64 S.hi, .int .i64 S.fa] 38)).cell? ⟨w.heap.size + 1, o, none⟩ = #[.int .i64 S.sp, .int .i64 S.lo, .int .i64 S.hi, .int .i64 S.fa][o]? := fun o => cell_alloc_new _ _ _ _ _ _ (by rw [size_alloc])
  have hsz : ((w.alloc (Obj.cells #[.bool E.up, .int .i64 E.em, .int .i64 E.pu, .int .i64 E.dr, .int .i64 E.mo, v] 24)).alloc (Obj.cells #[.int .i64 S.sp, .int .i64 S.lo, .int .i64 S.hi, .int .i64 S.fa] 38)).heap.size = w.heap.size + 2 := by rw [size_alloc, size_alloc]
  have HV := Lib.hid hv
  have HP := Lib.hid (pathM_bd hE hS false)
  have HBk := Lib.hid (backTo_bd hE hS)
  obtain ⟨a, cap, rfl, hn, hcap, hc⟩ := hv
  clear hc
  go_enter Try.func61, Try.ntmps61
  go_wp2_with fail
  generalize (w.alloc (Obj.cells #[.bool E.up, .int .i64 E.em, .int .i64 E.pu, .int .i64 E.dr, .int .i64 E.mo, .slice a E.bs.length cap] 24)).alloc (Obj.cells #[.int .i64 S.sp, .int .i64 S.lo, .int .i64 S.hi, .int .i64 S.fa] 38) = wA at *
  have HCE := Lib.hid hce
  have HCS := Lib.hid hcs
  have HSZ := Lib.hid hsz
  clear hce hcs hsz
  go_loopw [4, 6, 10] (fun t s i wr => ∃ k : Nat, k ≤ 100 ∧ i = .int .i64 k ∧ t = .int .i64 (backTo E S k) ∧ s = .int .i64 (pathM E S false k) ∧ Below (w.heap.size + 2) wA wr) (fun _ _ i _ => 100 - (intOf i).toNat)
  case atStart => exact ⟨0, Nat.zero_le _, rfl, rfl, rfl, Below.refl _ _⟩
  case round =>
    obtain ⟨k, hk, rfl, rfl, rfl, hb⟩ := hrel
    have hbw : Below w.heap.size w wr := hbA.trans (hb.mono (by omega))
    by_cases hlt : k < 100
    · have hce := fun o => (hb.cell (p := ⟨w.heap.size, o, none⟩) (by show w.heap.size < w.heap.size + 2; omega)).trans (HCE.out o)
      have hcs := fun o => (hb.cell (p := ⟨w.heap.size + 1, o, none⟩) (by show w.heap.size + 1 < w.heap.size + 2; omega)).trans (HCS.out o)
      obtain ⟨p1, p2⟩ := HP.out k
      obtain ⟨b1, b2⟩ := HBk.out k hk
      obtain ⟨p3, p4⟩ := HP.out (k + 1)
      go_wp2_with fail
      refine (extreme_any E S _ (pathM E S false k) k false _ (HV.out.below hbw (Nat.le_refl _)) hE hS (by omega) (by omega)).mono ?_
      rintro e w1 ⟨rfl, hb1⟩
      have hb2 := hb.trans (hb1.mono (by have := hb.size; have := HSZ.out; omega))
      have e1 : (extM E S (pathM E S false k) k false).2 = pathM E S false (k + 1) := rfl
      rw [e1]
      clear hce hcs hb1 e1
      go_wp2
      all_goals
        go_roundw
        case rel => exact ⟨k + 1, hlt, by go_num, congrArg (Value.int .i64) (by simp only [backTo]; omega), rfl, hb2⟩
        case measure => simp [intOf]; omega
    · have : k = 100 := by omega
      subst this
      go_wp2
      go_ret2
      exact ⟨rfl, hbw⟩

end Go.Proofs.Ytpoenjnpfodfpaa
