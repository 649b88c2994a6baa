/- Walks of layer 3 (circuit): isWire of the program. -/
import Derived.Test.YtbkhfmigaehgaaaCe
namespace Go.Proofs.Ytbkhfmigaehgaaa
open Go.RowKit

set_option maxRecDepth 100000 in
set_option maxHeartbeats 8000000 in
theorem isWire_any (c : Cir) (sv wv : Value) (i : Nat) (w : World) (hv : CirAt w sv wv c) (hi : i < c.ws.length) (hn : c.sw.length ≤ 12) (hm : c.ws.length ≤ 24) :
    Calls Try.prog 78 #[cirV c sv wv, .int .i64 i] w fun e w' => e = .returned (.bool (wireB c.sw.length c.ws.length i (c.ws.getD i Wir.zero))) ∧ Below w.heap.size w w' := by
  have hb0 := (Below.refl w.heap.size w).alloc (Nat.le_refl _) (cirO c sv wv)
  have k0 := block_new w (cirO c sv wv) w.heap.size rfl
  obtain ⟨hsv, hwv⟩ := hv
  obtain ⟨sa, scap, rfl, _⟩ := hsv
  obtain ⟨a, cap, rfl, n1, n2, hcc⟩ := hwv
  obtain ⟨b, off, rfl, hbl, hcc⟩ := hcc (by omega)
  obtain ⟨q1, u, q2, q3⟩ := hcc i hi
  have g1 := (hb0.cell (p := ⟨b, off + i * 2, none⟩) hbl).trans q1
  have g2 := (hb0.cell (p := ⟨b, off + i * 2 + 1, none⟩) hbl).trans q2
  have hbl2 : b < (w.alloc (cirO c (.slice sa c.sw.length scap) (.slice (some ⟨b, off, none⟩) c.ws.length cap))).heap.size := by rw [size_alloc]; omega
  have HU := Lib.hid q3
  have HB := Lib.hid (hb0.alloc (by rw [size_alloc]; omega) (wirO (c.ws.getD i Wir.zero).kind u))
  have K0 := Lib.hid (block_alloc k0 (wirO (c.ws.getD i Wir.zero).kind u))
  have K1 := Lib.hid (two_nw w (cirO c (.slice sa c.sw.length scap) (.slice (some ⟨b, off, none⟩) c.ws.length cap)) (wirO (c.ws.getD i Wir.zero).kind u))
  have i1 : (0 : Int) ≤ i := by omega
  have i2 : (i : Int) < c.ws.length := by omega
  clear hcc q1 q2 hb0 k0 n1 n2
  obtain ⟨ua, ucap, rfl, _, _, hu⟩ := q3
  generalize c.ws.getD i Wir.zero = wi at *
  by_cases hk1 : wi.kind = 1
  · have hkb : (wi.kind == 1) = true := by rw [hk1]; rfl
    have hr := wire_is1 (n := c.sw.length) (m := c.ws.length) (i := i) hk1
    clear hk1
    by_cases hl : wi.of.length = 1
    · rw [decide_eq_true hl, Bool.true_and] at hr
      obtain ⟨ub, uoff, rfl, hubl, hu⟩ := hu (by omega)
      have hu0 := hu 0 (by omega)
      rw [Nat.add_zero] at hu0
      have hu1 := (HB.out.cell (p := ⟨ub, uoff, none⟩) hubl).trans hu0
      have hubs := Nat.lt_of_lt_of_le hubl HB.out.size
      have hl1 : (0 : Int) < wi.of.length := by omega
      have hl0 : 0 < wi.of.length := by omega
      have hlb : ((wi.of.length : Int) == 1) = true := by rw [hl]; rfl
      generalize wi.of.getD 0 0 = x at *
      have HR := Lib.hid hr.symm
      have HU1 := Lib.hid hu1
      clear hu hu0 hu1 hl hr
      go_enter Try.func78, Try.ntmps78
      go_wp2_with fail
      clear g1 g2
      generalize ((w.alloc (cirO c (.slice sa c.sw.length scap) (.slice (some ⟨b, off, none⟩) c.ws.length cap))).alloc (wirO wi.kind (.slice (some ⟨ub, uoff, none⟩) wi.of.length ucap))) = wB at *
      have b1 := bw_cells (B := wB.heap.size) K0.out (lt_of_block K0.out)
      have b2 := bw_cells (B := wB.heap.size) K1.out (lt_of_block K1.out)
      have b3 := bw_cell (B := wB.heap.size) HU1.out hubs
      have hwr : IntKind.i64.wrap ((c.sw.length : Int) - 1) = (c.sw.length : Int) - 1 := IntWalk.i64_in _ (by omega)
      refine wp_region_below (by kernel_rfl) (by kernel_rfl) (Below.refl wB.heap.size wB) ?_
      repeat ((with_reducible refine wpQuiet_step (fun K hK => ?_)); go_simp; first | (refine hK _ ?_; clear hK K) | (apply Exists.intro; refine ⟨fun _ => ?_, hK _ ?_⟩; ((go_at_call 75; with_reducible exact bw_same (cwithin_is _ x 0 ((c.sw.length : Int) - 1) _ HR.out))); clear hK K))
      refine wpQuiet_nil ?_
      intro wq hwq0
      have hwq := bw_out hwq0
      clear hwq0
      clear hwr
      go_wp2
      go_ret
      exact ⟨rfl, HB.out.trans (hwq.mono HB.out.size)⟩
    · rw [decide_eq_false hl, Bool.false_and] at hr
      have hlb : ((wi.of.length : Int) == 1) = false := by simp; omega
      have HR := Lib.hid hr.symm
      clear hu hl hr
      go_enter Try.func78, Try.ntmps78
      go_wp2_with fail
      clear g1 g2
      generalize ((w.alloc (cirO c (.slice sa c.sw.length scap) (.slice (some ⟨b, off, none⟩) c.ws.length cap))).alloc (wirO wi.kind (.slice ua wi.of.length ucap))) = wB at *
      have b1 := bw_cells (B := wB.heap.size) K0.out (lt_of_block K0.out)
      have b2 := bw_cells (B := wB.heap.size) K1.out (lt_of_block K1.out)
      refine wp_region_below (by kernel_rfl) (by kernel_rfl) (Below.refl wB.heap.size wB) ?_
      repeat ((with_reducible refine wpQuiet_step (fun K hK => ?_)); go_simp; first | (refine hK _ ?_; clear hK K) | (apply Exists.intro; refine ⟨fun _ => ?_, hK _ ?_⟩; (fail); clear hK K))
      refine wpQuiet_nil ?_
      intro wq hwq0
      have hwq := bw_out hwq0
      clear hwq0
      go_wp2
      go_ret
      exact ⟨ret_bool HR.out, HB.out.trans (hwq.mono HB.out.size)⟩
  · have hkb : (wi.kind == 1) = false := by simpa using hk1
    by_cases hk2 : wi.kind = 2 ∨ wi.kind = 3
    · have hr := wire_is2 (n := c.sw.length) (m := c.ws.length) (i := i) hk1 hk2
      cases hl : decide (1 ≤ (wi.of.length : Int) ∧ (wi.of.length : Int) ≤ 8)
      · rw [hl, Bool.false_and] at hr
        have HR := Lib.hid hr.symm
        have HL := Lib.hid hl
        clear hu hl hr hk1
        rcases hk2 with hk2 | hk2
        · have hkb2 : (wi.kind == 2) = true := by rw [hk2]; rfl
          clear hk2
          go_enter Try.func78, Try.ntmps78
          go_wp2_with (go_at_call 75; refine (cwithin_is _ _ _ _ _ HL.out).mono ?_; rintro e w1 ⟨rfl, rfl⟩)
          go_ret
          exact ⟨ret_bool HR.out, HB.out⟩
        · have hkb2 : (wi.kind == 2) = false := by rw [hk2]; rfl
          have hkb3 : (wi.kind == 3) = true := by rw [hk2]; rfl
          clear hk2
          go_enter Try.func78, Try.ntmps78
          go_wp2_with (go_at_call 75; refine (cwithin_is _ _ _ _ _ HL.out).mono ?_; rintro e w1 ⟨rfl, rfl⟩)
          go_ret
          exact ⟨ret_bool HR.out, HB.out⟩
      · rw [hl, Bool.true_and] at hr
        have HR := Lib.hid hr.symm
        have HL := Lib.hid hl
        clear hu hl hr hk1
        rcases hk2 with hk2 | hk2
        · have hkb2 : (wi.kind == 2) = true := by rw [hk2]; rfl
          clear hk2
          go_enter Try.func78, Try.ntmps78
          go_wp2_with (first | (go_at_call 75; refine (cwithin_is _ _ _ _ _ HL.out).mono ?_; rintro e w1 ⟨rfl, rfl⟩) | (go_at_call 139; refine (ascend_is _ wi.of _ _ _ _ (HU.out.below HB.out (Nat.le_refl _)) (by omega) (by omega) (by omega) (by omega) HR.out).mono ?_; rintro e w1 ⟨rfl, rfl⟩))
          go_ret
          exact ⟨rfl, HB.out⟩
        · have hkb2 : (wi.kind == 2) = false := by rw [hk2]; rfl
          have hkb3 : (wi.kind == 3) = true := by rw [hk2]; rfl
          clear hk2
          go_enter Try.func78, Try.ntmps78
          go_wp2_with (first | (go_at_call 75; refine (cwithin_is _ _ _ _ _ HL.out).mono ?_; rintro e w1 ⟨rfl, rfl⟩) | (go_at_call 139; refine (ascend_is _ wi.of _ _ _ _ (HU.out.below HB.out (Nat.le_refl _)) (by omega) (by omega) (by omega) (by omega) HR.out).mono ?_; rintro e w1 ⟨rfl, rfl⟩))
          go_ret
          exact ⟨rfl, HB.out⟩
    · have HR := Lib.hid (wire_is3 (n := c.sw.length) (m := c.ws.length) (i := i) hk1 hk2).symm
      have hkb2 : (wi.kind == 2) = false := by simp; omega
      have hkb3 : (wi.kind == 3) = false := by simp; omega
      clear hk1 hk2 hu
      go_enter Try.func78, Try.ntmps78
      go_wp2_with fail
      go_ret
      exact ⟨ret_bool HR.out, HB.out⟩

end Go.Proofs.Ytbkhfmigaehgaaa
