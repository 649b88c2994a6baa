/- Walks of layer 1 (drive): Witness of both. -/
import Derived.Test.YtpoenjnpfodfpaaRw
namespace Go.Proofs.Ytpoenjnpfodfpaa
open Go.RowKit

def witL (E : Esc) (S : Stp) (most : Bool) : List Int := if (distM E S).f = 0 then loadsTo E S most (restN E S most) else []
def WitRes (E : Esc) (S : Stp) (most : Bool) (w : World) (e : Ending) (w' : World) : Prop := ∃ v, e = .returned (.tuple #[v, .int .i64 (distM E S).f]) ∧ InAt w' v (witL E S most) ∧ Below w.heap.size w w'

theorem InAt.take {w : World} {a : Option Addr} {m cap : Nat} {xs : List Int} (h : InAt w (.slice a m cap) xs) (n : Nat) (hn : n ≤ xs.length) : InAt w (.slice a n cap) (xs.take n) := by
  obtain ⟨a', cap', e, h1, h2, h3⟩ := h
  cases e
  refine ⟨a, cap, by rw [List.length_take, Nat.min_eq_left hn], by rw [List.length_take]; omega, h2, fun h => ?_⟩
  rw [List.length_take] at h
  obtain ⟨b, off, rfl, hl, hc⟩ := h3 (by omega)
  refine ⟨b, off, rfl, hl, fun i hi => ?_⟩
  rw [List.length_take] at hi
  rw [hc i (by omega), List.getD_eq_getElem?_getD, List.getD_eq_getElem?_getD, List.getElem?_take_of_lt (by omega)]

theorem loadsTo_take (E : Esc) (S : Stp) (most : Bool) {n m : Nat} (h : n ≤ m) : (loadsTo E S most m).take n = loadsTo E S most n := by
  unfold loadsTo
  rw [← List.map_take, List.take_range, Nat.min_eq_left h]

theorem distM_ok {E : Esc} {S : Stp} (h : (distM E S).f = 0) : checkStopM E S = 0 ∧ pathM E S true (restN E S true) = 0 := by
  unfold distM at h
  by_cases hf : checkStopM E S = 0
  · rw [if_pos hf] at h
    by_cases hr : pathM E S true (restN E S true) = 0
    · exact ⟨hf, hr⟩
    · rw [if_neg hr] at h; cases h
  · rw [if_neg hf] at h; exact absurd h hf

theorem rideField0 (x y z : Value) (w : World) : (Instr.field 85 (.agg #[x, y, z]) 0).run Try.prog w = .ok x w := by kernel_rfl
theorem rideField1 (x y z : Value) (w : World) : (Instr.field 85 (.agg #[x, y, z]) 1).run Try.prog w = .ok y w := by kernel_rfl

set_option maxRecDepth 100000 in
set_option maxHeartbeats 4000000 in
theorem witness_any (E : Esc) (S : Stp) (v : Value) (most : Bool) (w : World) (hv : BrAt w v E.bs) :
    Calls Try.prog 28 #[escV E v, stpV S, .bool most] w (WitRes E S most w) := by
  have hbA := ((Below.refl w.heap.size w).alloc (Nat.le_refl _) (Obj.cells #[.bool E.up, .int .i64 E.em, .int .i64 E.pu, .int .i64 E.dr, .int .i64 E.mo, v] 24)).alloc (by simp) (Obj.cells #[.int .i64 S.sp, .int .i64 S.lo, .int .i64 S.hi, .int .i64 S.fa] 38)
  have k1 := block_alloc (block_new w (Obj.cells #[.bool E.up, .int .i64 E.em, .int .i64 E.pu, .int .i64 E.dr, .int .i64 E.mo, v] 24) w.heap.size rfl) (Obj.cells #[.int .i64 S.sp, .int .i64 S.lo, .int .i64 S.hi, .int .i64 S.fa] 38)
  have k2 := block_new (w.alloc (Obj.cells #[.bool E.up, .int .i64 E.em, .int .i64 E.pu, .int .i64 E.dr, .int .i64 E.mo, v] 24)) (Obj.cells #[.int .i64 S.sp, .int .i64 S.lo, .int .i64 S.hi, .int .i64 S.fa] 38) (w.heap.size + 1) (by simp only [size_alloc])
  have hsz : ((w.alloc (Obj.cells #[.bool E.up, .int .i64 E.em, .int .i64 E.pu, .int .i64 E.dr, .int .i64 E.mo, v] 24)).alloc (Obj.cells #[.int .i64 S.sp, .int .i64 S.lo, .int .i64 S.hi, .int .i64 S.fa] 38)).heap.size = w.heap.size + 2 := by simp only [size_alloc]
  have hv1 := hv.below hbA (Nat.le_refl _)
  obtain ⟨a, cap, rfl, hn, hcap, hc⟩ := hv
  clear hc
  by_cases hf : (distM E S).f = 0
  · have Hf := Lib.hid hf
    obtain ⟨hck, _⟩ := distM_ok hf
    obtain ⟨hE, hS⟩ := checkStopM_num hck
    have HW : Hid (witL E S most = loadsTo E S most (restN E S most)) := by unfold witL; exact if_pos hf
    clear hf hck
    go_enter Try.func28, Try.ntmps28
    go_wp2_with fail
    generalize ((w.alloc (Obj.cells #[.bool E.up, .int .i64 E.em, .int .i64 E.pu, .int .i64 E.dr, .int .i64 E.mo, .slice a E.bs.length cap] 24)).alloc (Obj.cells #[.int .i64 S.sp, .int .i64 S.lo, .int .i64 S.hi, .int .i64 S.fa] 38)) = wA at *
    have HSZ := Lib.hid hsz
    have HV := Lib.hid hv1
    have K1 := Lib.hid k1
    have K2 := Lib.hid k2
    clear hsz hv1 k1 k2
    refine (distance_any E S _ _ HV.out).mono ?_
    rintro e w1 ⟨rfl, hb1⟩
    unfold distV
    rw [Hf.out]
    have c1 := block_cell ((hb1.block w.heap.size (by have := HSZ.out; omega)).trans K1.out)
    have c2 := block_cell ((hb1.block (w.heap.size + 1) (by have := HSZ.out; omega)).trans K2.out)
    have z1 : w.heap.size < w1.heap.size := by have := HSZ.out; have := hb1.size; omega
    have z2 : w.heap.size + 1 < w1.heap.size := by have := HSZ.out; have := hb1.size; omega
    go_wp2_with fail
    have hb2 := ((hb1.alloc (by have := hb1.size; omega) (Obj.cells #[.int .i64 (distM E S).a, .int .i64 (distM E S).b] 36)).alloc (by have := hb1.size; simp; omega) (Obj.cells #[.int .i64 (distM E S).c, .int .i64 (distM E S).d] 36))
    refine (roll_any E S _ most _ (HV.out.below hb2 (Nat.le_refl _)) hE hS).mono ?_
    rintro e w2 ⟨al, cl, rfl, hown, hb3⟩
    have HO := Lib.hid hown
    have hfld := rideField0
    have hbz := hbA.trans ((hb2.trans (hb3.mono hb2.size)).mono hbA.size)
    clear hown c1 c2
    go_wp2
    go_ret2
    refine ⟨.slice al (restN E S most) cl, ?_, ?_, hbz⟩
    · rw [Hf.out]; rfl
    · rw [HW.out]; exact InAt.of_own HO.out
  · have Hf := Lib.hid hf
    have h0 : ((distM E S).f == 0) = false := by simpa using hf
    have HW : Hid (witL E S most = []) := by unfold witL; exact if_neg hf
    clear hf
    go_enter Try.func28, Try.ntmps28
    go_wp2_with fail
    generalize ((w.alloc (Obj.cells #[.bool E.up, .int .i64 E.em, .int .i64 E.pu, .int .i64 E.dr, .int .i64 E.mo, .slice a E.bs.length cap] 24)).alloc (Obj.cells #[.int .i64 S.sp, .int .i64 S.lo, .int .i64 S.hi, .int .i64 S.fa] 38)) = wA at *
    have HSZ := Lib.hid hsz
    have HV := Lib.hid hv1
    have K1 := Lib.hid k1
    have K2 := Lib.hid k2
    clear hsz hv1 k1 k2
    refine (distance_any E S _ _ HV.out).mono ?_
    rintro e w1 ⟨rfl, hb1⟩
    unfold distV
    go_wp2
    go_ret2
    refine ⟨.slice none 0 0, rfl, ?_, ?_⟩
    · rw [HW.out]; exact InAt.nil _
    · refine Below.alloc (Below.alloc (hbA.trans (hb1.mono hbA.size)) ?_ _) ?_ _
      all_goals (have h1 := hbA.size; have h2 := hb1.size; first | omega | (simp; omega))

set_option maxRecDepth 100000 in
set_option maxHeartbeats 4000000 in
theorem rwitness_any (E : Esc) (S : Stp) (v : Value) (most : Bool) (w : World) (hv : BrAt w v E.bs) :
    Calls Try.prog 29 #[escV E v, stpV S, .bool most] w (WitRes E S most w) := by
  have hbA := ((Below.refl w.heap.size w).alloc (Nat.le_refl _) (Obj.cells #[.bool E.up, .int .i64 E.em, .int .i64 E.pu, .int .i64 E.dr, .int .i64 E.mo, v] 24)).alloc (by simp) (Obj.cells #[.int .i64 S.sp, .int .i64 S.lo, .int .i64 S.hi, .int .i64 S.fa] 38)
  have k1 := block_alloc (block_new w (Obj.cells #[.bool E.up, .int .i64 E.em, .int .i64 E.pu, .int .i64 E.dr, .int .i64 E.mo, v] 24) w.heap.size rfl) (Obj.cells #[.int .i64 S.sp, .int .i64 S.lo, .int .i64 S.hi, .int .i64 S.fa] 38)
  have k2 := block_new (w.alloc (Obj.cells #[.bool E.up, .int .i64 E.em, .int .i64 E.pu, .int .i64 E.dr, .int .i64 E.mo, v] 24)) (Obj.cells #[.int .i64 S.sp, .int .i64 S.lo, .int .i64 S.hi, .int .i64 S.fa] 38) (w.heap.size + 1) (by simp only [size_alloc])
  have hsz : ((w.alloc (Obj.cells #[.bool E.up, .int .i64 E.em, .int .i64 E.pu, .int .i64 E.dr, .int .i64 E.mo, v] 24)).alloc (Obj.cells #[.int .i64 S.sp, .int .i64 S.lo, .int .i64 S.hi, .int .i64 S.fa] 38)).heap.size = w.heap.size + 2 := by simp only [size_alloc]
  have hv1 := hv.below hbA (Nat.le_refl _)
  obtain ⟨a, cap, rfl, hn, hcap, hc⟩ := hv
  clear hc
  by_cases hf : (distM E S).f = 0
  · have Hf := Lib.hid hf
    obtain ⟨hck, _⟩ := distM_ok hf
    obtain ⟨hE, hS⟩ := checkStopM_num hck
    have HW : Hid (witL E S most = loadsTo E S most (restN E S most)) := by unfold witL; exact if_pos hf
    have hr100 := (restN_spec E S most).1
    clear hf hck
    go_enter Try.func29, Try.ntmps29
    go_wp2_with fail
    generalize ((w.alloc (Obj.cells #[.bool E.up, .int .i64 E.em, .int .i64 E.pu, .int .i64 E.dr, .int .i64 E.mo, .slice a E.bs.length cap] 24)).alloc (Obj.cells #[.int .i64 S.sp, .int .i64 S.lo, .int .i64 S.hi, .int .i64 S.fa] 38)) = wA at *
    have HSZ := Lib.hid hsz
    have HV := Lib.hid hv1
    have K1 := Lib.hid k1
    have K2 := Lib.hid k2
    clear hsz hv1 k1 k2
    refine (rdistance_any E S _ _ HV.out).mono ?_
    rintro e w1 ⟨rfl, hb1⟩
    unfold distV
    rw [Hf.out]
    have c1 := block_cell ((hb1.block w.heap.size (by have := HSZ.out; omega)).trans K1.out)
    have c2 := block_cell ((hb1.block (w.heap.size + 1) (by have := HSZ.out; omega)).trans K2.out)
    have z1 : w.heap.size < w1.heap.size := by have := HSZ.out; have := hb1.size; omega
    have z2 : w.heap.size + 1 < w1.heap.size := by have := HSZ.out; have := hb1.size; omega
    go_wp2_with fail
    have hb2 := ((hb1.alloc (by have := hb1.size; omega) (Obj.cells #[.int .i64 (distM E S).a, .int .i64 (distM E S).b] 36)).alloc (by have := hb1.size; simp; omega) (Obj.cells #[.int .i64 (distM E S).c, .int .i64 (distM E S).d] 36))
    refine (path_any E S _ most _ (HV.out.below hb2 (Nat.le_refl _)) hE hS).mono ?_
    rintro e w2 ⟨v1, v2, rfl, hi1, hi2, hb3⟩
    have hb23 := hb2.trans (hb3.mono hb2.size)
    have HI1 := Lib.hid hi1
    have HI2 := Lib.hid hi2
    obtain ⟨al, cl, rfl, nl, ml, _⟩ := hi2
    rw [loadsTo_len] at nl ⊢
    have hbz := hbA.trans (hb23.mono hbA.size)
    clear c1 c2 hi1
    have c1 := block_cell ((hb23.block w.heap.size (by have := HSZ.out; omega)).trans K1.out)
    have c2 := block_cell ((hb23.block (w.heap.size + 1) (by have := HSZ.out; omega)).trans K2.out)
    go_wp2_with fail
    refine (rest_path hE hS most _ _ HI1.out).mono ?_
    rintro e w4 ⟨rfl, rfl⟩
    have i1 : (0 : Int) ≤ (restN E S most : Int) := by omega
    have i2 : (restN E S most : Int) ≤ 100 := by omega
    generalize hr : restN E S most = r at *
    have Hr := Lib.hid hr
    clear hr
    go_wp2
    go_ret2
    refine ⟨.slice al r cl, ?_, ?_, hbz⟩
    · rw [Hf.out]; rfl
    · rw [HW.out, ← loadsTo_take E S most hr100]; exact InAt.take HI2.out r (by rw [loadsTo_len]; exact hr100)
  · have Hf := Lib.hid hf
    have h0 : ((distM E S).f == 0) = false := by simpa using hf
    have HW : Hid (witL E S most = []) := by unfold witL; exact if_neg hf
    clear hf
    go_enter Try.func29, Try.ntmps29
    go_wp2_with fail
    generalize ((w.alloc (Obj.cells #[.bool E.up, .int .i64 E.em, .int .i64 E.pu, .int .i64 E.dr, .int .i64 E.mo, .slice a E.bs.length cap] 24)).alloc (Obj.cells #[.int .i64 S.sp, .int .i64 S.lo, .int .i64 S.hi, .int .i64 S.fa] 38)) = wA at *
    have HSZ := Lib.hid hsz
    have HV := Lib.hid hv1
    have K1 := Lib.hid k1
    have K2 := Lib.hid k2
    clear hsz hv1 k1 k2
    refine (rdistance_any E S _ _ HV.out).mono ?_
    rintro e w1 ⟨rfl, hb1⟩
    unfold distV
    go_wp2
    go_ret2
    refine ⟨.slice none 0 0, rfl, ?_, ?_⟩
    · rw [HW.out]; exact InAt.nil _
    · refine Below.alloc (Below.alloc (hbA.trans (hb1.mono hbA.size)) ?_ _) ?_ _
      all_goals (have h1 := hbA.size; have h2 := hb1.size; first | omega | (simp; omega))

end Go.Proofs.Ytpoenjnpfodfpaa
