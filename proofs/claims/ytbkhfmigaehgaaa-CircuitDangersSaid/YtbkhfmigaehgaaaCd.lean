/- Walks of layer 3 (circuit): conducts. -/
import Derived.Test.YtbkhfmigaehgaaaCc
import Derived.Test.YtbkhfmigaehgaaaGx
namespace Go.Proofs.Ytbkhfmigaehgaaa
open Go.RowKit

theorem enters_conducts : Enters 73 := fun _ _ => by kernel_rfl

theorem cond_single {c : Cir} {s : Sta} {f : Nat} {i : Nat} (h : (c.ws.getD i Wir.zero).kind = 1) : letsM c s ((c.ws.getD i Wir.zero).of.getD 0 0).toNat = cond c s (f + 1) i := by
  rw [cond_succ, Int.toNat_natCast, if_pos h]
theorem cond_series {c : Cir} {s : Sta} {f : Nat} {i : Nat} (h : (c.ws.getD i Wir.zero).kind = 2) : (c.ws.getD i Wir.zero).of.all (cond c s f) = cond c s (f + 1) i := by
  rw [cond_succ, Int.toNat_natCast, if_neg (by omega), if_pos h]
theorem cond_parallel {c : Cir} {s : Sta} {f : Nat} {i : Nat} (h : (c.ws.getD i Wir.zero).kind = 3) : (c.ws.getD i Wir.zero).of.any (cond c s f) = cond c s (f + 1) i := by
  rw [cond_succ, Int.toNat_natCast, if_neg (by omega), if_neg (by omega)]

abbrev wirO (k : Int) (u : Value) : Obj := .cells #[.int .i64 k, u] 122

set_option maxRecDepth 100000 in
set_option maxHeartbeats 4000000 in
theorem conducts_any (c : Cir) (s : Sta) (sv wv : Value) (hc : CVal c) (hs : s.Ok) : ∀ (f i : Nat) (w : World), i < c.ws.length → c.ws.length ≤ i + f → CirAt w sv wv c →
    Calls Try.prog 73 #[pliV c s sv wv, .int .i64 i] w fun e w' => e = .returned (.bool (cond c s f i)) ∧ Below w.heap.size w w' := by
  intro f
  induction f with
  | zero => intro i w h1 h2; omega
  | succ f ih =>
    intro i w hi hf hv
    have hb0 := (Below.refl w.heap.size w).alloc (Nat.le_refl _) (pliO c s sv wv)
    have k0 := block_new w (pliO c s sv wv) w.heap.size rfl
    have HW := Lib.hid (hc.ws i hi)
    have w24 := hc.w2
    obtain ⟨hsv, hwv⟩ := hv
    obtain ⟨a, cap, rfl, n1, n2, hcc⟩ := hwv
    have HV := Lib.hid (show CirAt w sv _ c from ⟨hsv, a, cap, rfl, n1, n2, hcc⟩)
    obtain ⟨b, off, rfl, hbl, hcc⟩ := hcc (by omega)
    obtain ⟨q1, u, q2, q3⟩ := hcc i hi
    have g1 := (hb0.cell (p := ⟨b, off + i * 2, none⟩) hbl).trans q1
    have g2 := (hb0.cell (p := ⟨b, off + i * 2 + 1, none⟩) hbl).trans q2
    have hbl2 : b < (w.alloc (pliO c s sv (.slice (some ⟨b, off, none⟩) c.ws.length cap))).heap.size := by rw [size_alloc]; omega
    have HU := Lib.hid q3
    have HB := Lib.hid (hb0.alloc (by rw [size_alloc]; omega) (wirO (c.ws.getD i Wir.zero).kind u))
    have K0 := Lib.hid (block_alloc k0 (wirO (c.ws.getD i Wir.zero).kind u))
    have K1 := Lib.hid (two_nw w (pliO c s sv (.slice (some ⟨b, off, none⟩) c.ws.length cap)) (wirO (c.ws.getD i Wir.zero).kind u))
    have i1 : (0 : Int) ≤ i := by omega
    have i2 : (i : Int) < c.ws.length := by omega
    have IH := Lib.hid ih
    have HS := Lib.hid hs
    have HC := Lib.hid hc
    clear hcc q1 q2 hb0 k0 hsv ih n1 n2 hs hc
    obtain ⟨ua, ucap, rfl, _⟩ := q3
    have HK1 := Lib.hid (fun h => cond_single (c := c) (s := s) (f := f) (i := i) h)
    have HK2 := Lib.hid (fun h => cond_series (c := c) (s := s) (f := f) (i := i) h)
    have HK3 := Lib.hid (fun h => cond_parallel (c := c) (s := s) (f := f) (i := i) h)
    generalize c.ws.getD i Wir.zero = wi at *
    by_cases hk1 : wi.kind = 1
    · obtain ⟨l1, l2, l3⟩ := wire_one HW.out hk1
      have hHR := HK1.out hk1
      obtain ⟨hx, hxe⟩ : ∃ k : Nat, wi.of.getD 0 0 = k := ⟨(wi.of.getD 0 0).toNat, by omega⟩
      have hkl : hx < c.sw.length := by omega
      obtain ⟨ua', ucap', e1, _, _, hu⟩ := HU.out
      injection e1 with e1 e2 e3
      subst e1
      obtain ⟨ub, uoff, rfl, hubl, hu⟩ := hu (by omega)
      have hu0 := hu 0 (by omega)
      rw [hxe] at hHR hu0
      rw [Int.toNat_natCast] at hHR
      have HRR := Lib.hid hHR
      have hkb : (wi.kind == 1) = true := by rw [hk1]; rfl
      rw [Nat.add_zero] at hu0
      have hu1 := (HB.out.cell (p := ⟨ub, uoff, none⟩) hubl).trans hu0
      have hubs := Nat.lt_of_lt_of_le hubl HB.out.size
      have hl1 : (0 : Int) < wi.of.length := by omega
      have hl0 : 0 < wi.of.length := by omega
      clear hu l1 l2 l3 hxe hHR e2 e3 hu0 hk1
      have HU1 := Lib.hid hu1
      clear hu1
      go_enter Try.func73, Try.ntmps73
      go_wp2_with fail
      clear g1 g2
      generalize ((w.alloc (pliO c s sv (.slice (some ⟨b, off, none⟩) c.ws.length cap))).alloc (wirO wi.kind (.slice (some ⟨ub, uoff, none⟩) wi.of.length ucap))) = wB at *
      have b1 := bw_cells (B := wB.heap.size) K0.out (lt_of_block K0.out)
      have b2 := bw_cells (B := wB.heap.size) K1.out (lt_of_block K1.out)
      have b3 := bw_cell (B := wB.heap.size) HU1.out hubs
      refine wp_region_below (by kernel_rfl) (by kernel_rfl) (Below.refl wB.heap.size wB) ?_
      repeat ((with_reducible refine wpQuiet_step (fun K hK => ?_)); go_simp; first | (refine hK _ ?_; clear hK K) | (apply Exists.intro; refine ⟨fun _ => ?_, hK _ ?_⟩; ((go_at_call 136; exact bw_call (Nat.le_refl _) (lets_any c s sv _ hx _ HC.out HS.out (HV.out.sw.below (HB.out.trans ((BW.b _).mono HB.out.size)) (Nat.le_refl _)) hkl))); clear hK K))
      refine wpQuiet_nil ?_
      intro wq hwq0
      have hwq := bw_out hwq0
      clear hwq0
      go_wp2
      go_ret
      exact ⟨ret_bool HRR.out, HB.out.trans (hwq.mono HB.out.size)⟩
    · obtain ⟨l1, _, _, l2⟩ := wire_more HW.out hk1
      have HM := Lib.hid l2
      have hkb : (wi.kind == 1) = false := by simpa using hk1
      clear l2 hk1
      by_cases hk2 : wi.kind = 2
      · have HRR := Lib.hid (HK2.out hk2)
        have hkb2 : (wi.kind == 2) = true := by rw [hk2]; rfl
        clear hk2 l1
        go_enter Try.func73, Try.ntmps73
        go_wp2_with fail
        clear g1 g2
        generalize ((w.alloc (pliO c s sv (.slice (some ⟨b, off, none⟩) c.ws.length cap))).alloc (wirO wi.kind (.slice ua wi.of.length ucap))) = wB at *
        refine (every_any _ #[pliV c s sv _] #[] _ wi.of (cond c s f) _ (HU.out.below HB.out (Nat.le_refl _)) enters_conducts (fun x w1 hx hb1 => ?_)).mono ?_
        · obtain ⟨m1, m2⟩ := HM.out x hx
          obtain ⟨k, rfl⟩ : ∃ k : Nat, x = k := ⟨x.toNat, by omega⟩
          exact IH.out k w1 (by omega) (by omega) (HV.out.below (HB.out.trans (hb1.mono HB.out.size)) (Nat.le_refl _))
        rintro e w1 ⟨rfl, hb1⟩
        go_wp2
        go_ret
        exact ⟨ret_bool HRR.out, HB.out.trans (hb1.mono HB.out.size)⟩
      · have hk3 : wi.kind = 3 := l1.resolve_left hk2
        have HRR := Lib.hid (HK3.out hk3)
        have hkb2 : (wi.kind == 2) = false := by simpa using hk2
        clear hk2 hk3 l1
        go_enter Try.func73, Try.ntmps73
        go_wp2_with fail
        clear g1 g2
        generalize ((w.alloc (pliO c s sv (.slice (some ⟨b, off, none⟩) c.ws.length cap))).alloc (wirO wi.kind (.slice ua wi.of.length ucap))) = wB at *
        refine (containsInt_any _ #[pliV c s sv _] #[] _ wi.of (cond c s f) _ _ (HU.out.below HB.out (Nat.le_refl _)) enters_conducts rfl (fun x w1 hx hb1 => ?_)).mono ?_
        · obtain ⟨m1, m2⟩ := HM.out x hx
          obtain ⟨k, rfl⟩ : ∃ k : Nat, x = k := ⟨x.toNat, by omega⟩
          exact IH.out k w1 (by omega) (by omega) (HV.out.below (HB.out.trans (hb1.mono HB.out.size)) (Nat.le_refl _))
        rintro e w1 ⟨rfl, hb1⟩
        go_wp2
        go_ret
        exact ⟨ret_bool HRR.out, HB.out.trans (hb1.mono HB.out.size)⟩

end Go.Proofs.Ytbkhfmigaehgaaa
