/- Walks of layer 5 (lift): Check, Sides, Slips of the program. -/
import Derived.Test.YtnefbiaopconkaaJw
namespace Go.Proofs.Ytnefbiaopconkaa
open Go.RowKit

theorem wrap_i64_in {n : Int} (h1 : -9223372036854775808 ≤ n) (h2 : n ≤ 9223372036854775807) : IntKind.i64.wrap n = n := by
  simp [IntKind.wrap, IntKind.bits, IntKind.signed]; omega
theorem wrap64_in {n : Int} (h1 : -9223372036854775808 ≤ n) (h2 : n ≤ 9223372036854775807) : wrap64 n = n := IntWalk.wrap64_in _ ⟨by omega, by omega⟩

theorem max_is (a b : Int) : (if a < b then b else a) = max a b := by split <;> omega
theorem min_is (a b : Int) : (if b < a then b else a) = min a b := by split <;> omega

theorem four_0 (w : World) (a b c d : Obj) : ((((w.alloc a).alloc b).alloc c).alloc d).heap[w.heap.size]? = some a := block_alloc (three_0 _ _ _ _) _
theorem four_1 (w : World) (a b c d : Obj) : ((((w.alloc a).alloc b).alloc c).alloc d).heap[w.heap.size + 1]? = some b := block_alloc (three_1 _ _ _ _) _
theorem four_2 (w : World) (a b c d : Obj) : ((((w.alloc a).alloc b).alloc c).alloc d).heap[w.heap.size + 2]? = some c := block_alloc (three_2 _ _ _ _) _
theorem four_3 (w : World) (a b c d : Obj) : ((((w.alloc a).alloc b).alloc c).alloc d).heap[w.heap.size + 3]? = some d := block_new _ _ _ (by simp only [size_alloc])
theorem blw4 (w : World) (a b c d : Obj) : Below w.heap.size w ((((w.alloc a).alloc b).alloc c).alloc d) := (blw3 w a b c).alloc (Nat.le_trans (al_le _ _) (Nat.le_trans (al_le _ _) (al_le _ _))) _

abbrev intO (n : Int) : Obj := .cells #[.int .i64 n] 3
abbrev ptr (p : Nat) : Value := .pointer (some ⟨p, 0, none⟩)

theorem enters_check1 : Enters 62 := fun _ _ => by kernel_rfl
theorem enters_sides1 : Enters 50 := fun _ _ => by kernel_rfl
theorem enters_slips1 : Enters 58 := fun _ _ => by kernel_rfl

set_option maxHeartbeats 400000 in
theorem check1_any (w : World) : Calls Try.prog 62 #[] w fun e w' => e = .returned (.int .i64 0) ∧ Below w.heap.size w w' := by
  go_enter Try.func62, Try.ntmps62
  go_wp2
  go_ret
  exact ⟨rfl, Below.refl _ _⟩

set_option maxHeartbeats 400000 in
theorem lCheck_any (L : Lif) (fv : Value) (w : World) (hv : InAt w fv L.fl) :
    Calls Try.prog 21 #[lifV L fv] w fun e w' => e = .returned (.int .i64 (chkE L 0)) ∧ Below w.heap.size w w' := by
  have HB := Lib.hid ((Below.refl w.heap.size w).alloc (Nat.le_refl _) (lifO L fv))
  have K0 := Lib.hid (block_new w (lifO L fv) w.heap.size rfl)
  have HSZ := Lib.hid (size_alloc w (lifO L fv))
  have HV := Lib.hid (hv.below HB.out (Nat.le_refl _))
  go_enter Try.func21, Try.ntmps21
  go_wp2_with fail
  generalize w.alloc (lifO L fv) = wA at *
  have c0 := block_cell K0.out
  go_wp2_with fail
  refine (checked_any L fv _ _ 0 _ HV.out enters_check1 (fun w1 _ _ => check1_any w1)).mono ?_
  rintro e w1 ⟨rfl, hb1⟩
  go_wp2
  go_ret
  exact ⟨rfl, HB.out.trans (hb1.mono HB.out.size)⟩

set_option maxHeartbeats 1000000 in
theorem lsides_any (L : Lif) (fv : Value) (h ld : Int) (w : World) (hv : InAt w fv L.fl) (hL : LOk L) (h1 : 0 ≤ h) (h2 : h ≤ L.top) (l1 : 0 ≤ ld) (l2 : ld ≤ L.rat) :
    Calls Try.prog 54 #[lifV L fv, .int .i64 h, .int .i64 ld] w fun e w' => e = .returned (.tuple #[.int .i64 (L.carS h ld), .int .i64 (L.couS h)]) ∧ Below w.heap.size w w' := by
  have HB := Lib.hid ((Below.refl w.heap.size w).alloc (Nat.le_refl _) (lifO L fv))
  have K0 := Lib.hid (block_new w (lifO L fv) w.heap.size rfl)
  have HSZ := Lib.hid (size_alloc w (lifO L fv))
  have HV := Lib.hid (hv.below HB.out (Nat.le_refl _))
  obtain ⟨a1, a2, a3, a4⟩ := hL.car h1 h2 l1 l2
  obtain ⟨b1, b2, b3, b4⟩ := hL.cou h1 h2
  have f1 := hL.f1
  have ht := hL.top
  have hc1 := hL.c1
  have hc2 := hL.c2
  have hr2 := hL.r2
  have e1 : IntKind.i64.wrap (L.car + ld) = L.car + ld := wrap_i64_in (by omega) (by omega)
  have e2 : IntKind.i64.wrap (L.top - h) = L.top - h := wrap_i64_in (by omega) (by omega)
  have e3 : IntKind.i64.wrap (L.rop * (L.top - h)) = L.rop * (L.top - h) := wrap_i64_in (by omega) (by omega)
  have e4 : IntKind.i64.wrap (L.car + ld + L.rop * (L.top - h)) = L.carS h ld := wrap_i64_in (by unfold Lif.carS at a3; omega) (by unfold Lif.carS at a4; omega)
  have e5 : IntKind.i64.wrap (L.rop * h) = L.rop * h := wrap_i64_in (by omega) (by omega)
  have e6 : IntKind.i64.wrap (L.cou + L.rop * h) = L.couS h := wrap_i64_in (by unfold Lif.couS at b3; omega) (by unfold Lif.couS at b4; omega)
  clear a1 a2 a3 a4 b1 b2 b3 b4 hL
  go_enter Try.func54, Try.ntmps54
  go_wp2_with fail
  generalize w.alloc (lifO L fv) = wA at *
  have y0 := bw_cells (B := wA.heap.size) K0.out (lt_of_block K0.out)
  refine wp_region_below (by kernel_rfl) (by kernel_rfl) (Below.refl wA.heap.size wA) ?_
  repeat ((with_reducible refine wpQuiet_step (fun K hK => ?_)); go_simp; first | (refine hK _ ?_; clear hK K) | (apply Exists.intro; refine ⟨fun _ => ?_, hK _ ?_⟩; ((go_at_call 95; exact bw_call (Nat.le_refl _) (ltop_any L fv _ (HV.out.below (BW.b _) (Nat.le_refl _)) (by omega)))); clear hK K))
  refine wpQuiet_nil ?_
  intro wq hwq0
  have hwq := bw_out hwq0
  clear hwq0
  go_wp2
  go_ret2
  exact ⟨rfl, HB.out.trans (hwq.mono HB.out.size)⟩

set_option maxHeartbeats 1000000 in
theorem lslips_any (L : Lif) (fv : Value) (h ld a : Int) (w : World) (hv : InAt w fv L.fl) (hL : LOk L) (h1 : 0 ≤ h) (h2 : h ≤ L.top) (l1 : 0 ≤ ld) (l2 : ld ≤ L.rat) (a1 : 0 ≤ a) (a2 : a ≤ 1000) :
    Calls Try.prog 60 #[lifV L fv, .int .i64 h, .int .i64 ld, .int .i64 a] w fun e w' => e = .returned (.bool (slipM L h ld a)) ∧ Below w.heap.size w w' := by
  have HB := Lib.hid ((Below.refl w.heap.size w).alloc (Nat.le_refl _) (lifO L fv))
  have K0 := Lib.hid (block_new w (lifO L fv) w.heap.size rfl)
  have HSZ := Lib.hid (size_alloc w (lifO L fv))
  have HV := Lib.hid (hv.below HB.out (Nat.le_refl _))
  have HS := Lib.hid (fun w1 h => lsides_any L fv _ _ w1 h hL h1 h2 l1 l2)
  obtain ⟨_, _, c1, c2⟩ := hL.car h1 h2 l1 l2
  obtain ⟨_, _, u1, u2⟩ := hL.cou h1 h2
  have hn1 := hL.n1
  have hn2 := hL.n2
  have hd1 := hL.d1
  have hd2 := hL.d2
  have HM := Lib.hid (show decide (min (L.carS h ld) (L.couS h) * (1000 - a) * L.num < max (L.carS h ld) (L.couS h) * (1000 + a) * L.den) = slipM L h ld a from rfl)
  clear hL
  go_enter Try.func60, Try.ntmps60
  go_wp2_with fail
  generalize w.alloc (lifO L fv) = wA at *
  have c0 := block_cell K0.out
  go_wp2_with fail
  refine (HS.out _ HV.out).mono ?_
  rintro e w1 ⟨rfl, hb1⟩
  clear c0
  have c0 := block_cell (keepZ K0.out hb1)
  generalize L.carS h ld = C at *
  generalize L.couS h = U at *
  go_upto_region 3 with fail
  rw [max_is, min_is]
  have m1 : 1 ≤ max C U := by omega
  have m2 : max C U ≤ 300000 := by omega
  have n1 : 1 ≤ min C U := by omega
  have n2 : min C U ≤ 300000 := by omega
  generalize max C U = M at *
  generalize min C U = N at *
  have p1 := mul_bd (A := 300000) (B := 2000) (show 0 ≤ M by omega) m2 (show 0 ≤ 1000 + a by omega) (by omega)
  have p2 := mul_bd (A := 600000000) (B := 100) p1.1 p1.2 (show 0 ≤ L.den by omega) (by omega)
  have p3 := mul_bd (A := 300000) (B := 1000) (show 0 ≤ N by omega) n2 (show 0 ≤ 1000 - a by omega) (by omega)
  have p4 := mul_bd (A := 300000000) (B := 100) p3.1 p3.2 (show 0 ≤ L.num by omega) (by omega)
  have e1 : wrap64 (M * (1000 + a)) = M * (1000 + a) := wrap64_in (by omega) (by omega)
  have e2 : wrap64 (M * (1000 + a) * L.den) = M * (1000 + a) * L.den := wrap64_in (by omega) (by omega)
  have e3 : wrap64 (N * (1000 - a)) = N * (1000 - a) := wrap64_in (by omega) (by omega)
  have e4 : wrap64 (N * (1000 - a) * L.num) = N * (1000 - a) * L.num := wrap64_in (by omega) (by omega)
  clear p1 p2 p3 p4 m1 m2 n1 n2
  go_wp2
  go_ret
  exact ⟨ret_bool HM.out, HB.out.trans (hb1.mono HB.out.size)⟩

end Go.Proofs.Ytnefbiaopconkaa
