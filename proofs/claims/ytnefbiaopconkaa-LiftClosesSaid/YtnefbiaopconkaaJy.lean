/- Walks of layer 5 (lift): sink, Sink. -/
import Derived.Test.YtnefbiaopconkaaJi
namespace Go.Proofs.Ytnefbiaopconkaa
open Go.RowKit

def lenM (L : Lif) (f : Int) : Int := L.ovr + L.top - L.fl.getD f.toNat 0
def sinkM (L : Lif) (f a b : Int) : Int := ((b - a) * lenM L f).tdiv L.sti
def snkE (L : Lif) (f a b : Int) : Int := chkE L (fitE (inB f 0 ((L.fl.length : Int) - 1) && inB a 0 L.rat && inB b 0 L.rat))
def snkR (L : Lif) (f a b : Int) : Int × Int := if snkE L f a b = 0 then (sinkM L f a b, 0) else (0, snkE L f a b)
theorem snkR_ok {L : Lif} {f a b : Int} (he : snkE L f a b = 0) : snkR L f a b = (sinkM L f a b, 0) := by unfold snkR; rw [if_pos he]
theorem snkR_no {L : Lif} {f a b : Int} (he : snkE L f a b ≠ 0) : snkR L f a b = (0, snkE L f a b) := by unfold snkR; rw [if_neg he]
theorem snk_in {L : Lif} {f a b : Int} (he : snkE L f a b = 0) : LOk L ∧ (0 ≤ f ∧ f < L.fl.length) ∧ (0 ≤ a ∧ a ≤ L.rat) ∧ 0 ≤ b ∧ b ≤ L.rat := by
  obtain ⟨h1, h2⟩ := chk_zero.1 he
  simp only [Bool.and_eq_true, inB_iff] at h2
  exact ⟨ok_of h1, ⟨h2.1.1.1, by omega⟩, h2.1.2, h2.2⟩

theorem len_bd {L : Lif} (hL : LOk L) {f : Int} (f0 : 0 ≤ f) (f1 : f < L.fl.length) : 0 ≤ lenM L f ∧ lenM L f ≤ 2000 := by
  have h1 := hL.floor (i := f.toNat) (by omega)
  have h2 := hL.top
  have := hL.o1
  have := hL.o2
  unfold lenM
  omega

theorem tdiv_bd {n d B : Int} (hd : 1 ≤ d) (h1 : -B ≤ n) (h2 : n ≤ B) : -B ≤ n.tdiv d ∧ n.tdiv d ≤ B := by
  rcases Int.le_total 0 n with h | h
  · have e : n.tdiv d = n / d := Int.tdiv_eq_ediv_of_nonneg h
    have h3 : 0 ≤ n / d := Int.ediv_nonneg h (by omega)
    have h4 : n / d ≤ n := Int.ediv_le_self d h
    omega
  · have e : (-n).tdiv d = (-n) / d := Int.tdiv_eq_ediv_of_nonneg (by omega)
    rw [Int.neg_tdiv] at e
    have h3 : 0 ≤ (-n) / d := Int.ediv_nonneg (by omega) (by omega)
    have h4 : (-n) / d ≤ -n := Int.ediv_le_self d (by omega)
    omega

theorem prod_bd {x y X Y : Int} (h1 : -X ≤ x) (h2 : x ≤ X) (h3 : 0 ≤ y) (h4 : y ≤ Y) : -(X * Y) ≤ x * y ∧ x * y ≤ X * Y := by
  have hX : 0 ≤ X := by omega
  have a := Int.mul_le_mul_of_nonneg_right h2 h3
  have b := Int.mul_le_mul_of_nonneg_right h1 h3
  have c := Int.mul_le_mul_of_nonneg_left h4 hX
  rw [Int.neg_mul] at b
  omega

theorem sink_bd {L : Lif} (hL : LOk L) {f a b : Int} (f0 : 0 ≤ f) (f1 : f < L.fl.length) (a0 : 0 ≤ a) (a1 : a ≤ L.rat) (b0 : 0 ≤ b) (b1 : b ≤ L.rat) :
    (-200000000 ≤ (b - a) * lenM L f ∧ (b - a) * lenM L f ≤ 200000000) ∧ -200000000 ≤ sinkM L f a b ∧ sinkM L f a b ≤ 200000000 := by
  obtain ⟨h1, h2⟩ := len_bd hL f0 f1
  have hr := hL.r2
  have h3 := prod_bd (x := b - a) (y := lenM L f) (X := 100000) (Y := 2000) (by omega) (by omega) h1 h2
  exact ⟨by omega, tdiv_bd hL.t1 (by omega) (by omega)⟩

set_option maxRecDepth 100000 in
set_option maxHeartbeats 1000000 in
theorem lsink_any (L : Lif) (fv : Value) (f a b : Int) (w : World) (hv : InAt w fv L.fl) (hL : LOk L) (f0 : 0 ≤ f) (f1 : f < L.fl.length) (a0 : 0 ≤ a) (a1 : a ≤ L.rat) (b0 : 0 ≤ b) (b1 : b ≤ L.rat) :
    Calls Try.prog 73 #[lifV L fv, .int .i64 f, .int .i64 a, .int .i64 b] w fun e w' => e = .returned (.int .i64 (sinkM L f a b)) ∧ Below w.heap.size w w' := by
  have HB := Lib.hid ((Below.refl w.heap.size w).alloc (Nat.le_refl _) (lifO L fv))
  have K0 := Lib.hid (block_new w (lifO L fv) w.heap.size rfl)
  have HSZ := Lib.hid (size_alloc w (lifO L fv))
  have HV := Lib.hid (hv.below HB.out (Nat.le_refl _))
  obtain ⟨⟨p1, p2⟩, p3, p4⟩ := sink_bd hL f0 f1 a0 a1 b0 b1
  obtain ⟨l1, l2⟩ := len_bd hL f0 f1
  have x1 := hL.floor (i := f.toNat) (by omega)
  have htp := hL.top
  have ho1 := hL.o1
  have ho2 := hL.o2
  have ht1 := hL.t1
  have ht2 := hL.t2
  have hr2 := hL.r2
  have hf1 := hL.f1
  have HS := Lib.hid (show ((b - a) * lenM L f).tdiv L.sti = sinkM L f a b from rfl)
  have HLE := Lib.hid (show lenM L f = L.ovr + L.top - L.fl.getD f.toNat 0 from rfl)
  have HTP := Lib.hid (fun w1 (h : InAt w1 fv L.fl) => ltop_any L fv w1 h (by omega))
  obtain ⟨sa, cap, rfl, hn, hcap, hc⟩ := hv
  obtain ⟨bk, off, rfl, hbl, hc⟩ := hc (by omega)
  have g1 := in_at HB.out hbl hc (k := f.toNat) (by omega)
  have hbl2 := Nat.lt_of_lt_of_le hbl HB.out.size
  have e1 : IntKind.i64.wrap (L.ovr + L.top) = L.ovr + L.top := wrap_i64_in (by omega) (by omega)
  have e2 : IntKind.i64.wrap (L.ovr + L.top - L.fl.getD f.toNat 0) = lenM L f := by rw [HLE.out]; exact wrap_i64_in (by omega) (by omega)
  have e3 : wrap64 ((b - a) * lenM L f) = (b - a) * lenM L f := wrap64_in (by omega) (by omega)
  have e4 : wrap64 (((b - a) * lenM L f).tdiv L.sti) = sinkM L f a b := wrap64_in (by show _ ≤ sinkM L f a b; omega) (by show sinkM L f a b ≤ _; omega)
  generalize L.fl.getD f.toNat 0 = x at *
  clear hc hL
  go_enter Try.func73, Try.ntmps73
  go_wp2_with fail
  generalize w.alloc (lifO L (.slice (some ⟨bk, off, none⟩) L.fl.length cap)) = wA at *
  have y0 := bw_cells (B := wA.heap.size) K0.out (lt_of_block K0.out)
  have y1 := bw_cell (B := wA.heap.size) g1 hbl2
  refine wp_region_below (by kernel_rfl) (by kernel_rfl) (Below.refl wA.heap.size wA) ?_
  repeat ((with_reducible refine wpQuiet_step (fun K hK => ?_)); go_simp; first | (refine hK _ ?_; clear hK K) | (apply Exists.intro; refine ⟨fun _ => ?_, hK _ ?_⟩; ((go_at_call 95; exact bw_call (Nat.le_refl _) (HTP.out _ (HV.out.below (BW.b _) (Nat.le_refl _))))); clear hK K))
  refine wpQuiet_nil ?_
  intro wq hwq0
  have hwq := bw_out hwq0
  clear hwq0
  have c0 := block_cell (keepZ K0.out hwq)
  generalize lenM L f = y at *
  clear y0 y1 g1
  go_wp2
  go_ret
  exact ⟨ret_int (by first | exact HS.out | rfl), HB.out.trans (hwq.mono HB.out.size)⟩

set_option maxRecDepth 100000 in
set_option maxHeartbeats 1000000 in
theorem rsink_any (L : Lif) (fv : Value) (f a b : Int) (w : World) (hv : InAt w fv L.fl) (hL : LOk L) (f0 : 0 ≤ f) (f1 : f < L.fl.length) (a0 : 0 ≤ a) (a1 : a ≤ L.rat) (b0 : 0 ≤ b) (b1 : b ≤ L.rat) :
    Calls Try.prog 74 #[lifV L fv, .int .i64 f, .int .i64 a, .int .i64 b] w fun e w' => e = .returned (.int .i64 (sinkM L f a b)) ∧ Below w.heap.size w w' := by
  have HB := Lib.hid ((Below.refl w.heap.size w).alloc (Nat.le_refl _) (lifO L fv))
  have K0 := Lib.hid (block_new w (lifO L fv) w.heap.size rfl)
  have HSZ := Lib.hid (size_alloc w (lifO L fv))
  have HV := Lib.hid (hv.below HB.out (Nat.le_refl _))
  obtain ⟨⟨p1, p2⟩, p3, p4⟩ := sink_bd hL f0 f1 a0 a1 b0 b1
  obtain ⟨l1, l2⟩ := len_bd hL f0 f1
  have x1 := hL.floor (i := f.toNat) (by omega)
  have htp := hL.top
  have ho1 := hL.o1
  have ho2 := hL.o2
  have ht1 := hL.t1
  have ht2 := hL.t2
  have hr2 := hL.r2
  have hf1 := hL.f1
  have HS := Lib.hid (show ((b - a) * lenM L f).tdiv L.sti = sinkM L f a b from rfl)
  have HLE := Lib.hid (show lenM L f = L.ovr + L.top - L.fl.getD f.toNat 0 from rfl)
  have HTP := Lib.hid (fun w1 (h : InAt w1 fv L.fl) => rtop_any L fv w1 h (by omega))
  obtain ⟨sa, cap, rfl, hn, hcap, hc⟩ := hv
  obtain ⟨bk, off, rfl, hbl, hc⟩ := hc (by omega)
  have g1 := in_at HB.out hbl hc (k := f.toNat) (by omega)
  have hbl2 := Nat.lt_of_lt_of_le hbl HB.out.size
  have e0 : IntKind.i64.wrap (b - a) = b - a := wrap_i64_in (by omega) (by omega)
  have e1 : IntKind.i64.wrap (L.ovr + L.top) = L.ovr + L.top := wrap_i64_in (by omega) (by omega)
  have e2 : IntKind.i64.wrap (L.ovr + L.top - L.fl.getD f.toNat 0) = lenM L f := by rw [HLE.out]; exact wrap_i64_in (by omega) (by omega)
  have e3 : IntKind.i64.wrap ((b - a) * lenM L f) = (b - a) * lenM L f := wrap_i64_in (by omega) (by omega)
  have e4 : IntKind.i64.wrap (((b - a) * lenM L f).tdiv L.sti) = sinkM L f a b := wrap_i64_in (by show _ ≤ sinkM L f a b; omega) (by show sinkM L f a b ≤ _; omega)
  have e5 : ¬ L.sti = 0 := by omega
  have e6 : (L.sti == 0) = false := by simp; omega
  generalize L.fl.getD f.toNat 0 = x at *
  clear hc hL
  go_enter Try.func74, Try.ntmps74
  go_wp2_with fail
  generalize w.alloc (lifO L (.slice (some ⟨bk, off, none⟩) L.fl.length cap)) = wA at *
  have y0 := bw_cells (B := wA.heap.size) K0.out (lt_of_block K0.out)
  have y1 := bw_cell (B := wA.heap.size) g1 hbl2
  refine wp_region_below (by kernel_rfl) (by kernel_rfl) (Below.refl wA.heap.size wA) ?_
  repeat ((with_reducible refine wpQuiet_step (fun K hK => ?_)); go_simp; first | (refine hK _ ?_; clear hK K) | (apply Exists.intro; refine ⟨fun _ => ?_, hK _ ?_⟩; ((go_at_call 56; exact bw_call (Nat.le_refl _) (HTP.out _ (HV.out.below (BW.b _) (Nat.le_refl _))))); clear hK K))
  refine wpQuiet_nil ?_
  intro wq hwq0
  have hwq := bw_out hwq0
  clear hwq0
  go_wp2
  go_ret
  exact ⟨rfl, HB.out.trans (hwq.mono HB.out.size)⟩

theorem enters_sink1 : Enters 71 := fun _ _ => by kernel_rfl

set_option maxHeartbeats 1000000 in
theorem sink1_any (L : Lif) (fv : Value) (f a b : Int) (p0 p1 p2 p3 : Nat) (w : World) (k0 : w.heap[p0]? = some (lifO L fv)) (k1 : w.heap[p1]? = some (intO f)) (k2 : w.heap[p2]? = some (intO a)) (k3 : w.heap[p3]? = some (intO b)) (hv : InAt w fv L.fl) :
    Calls Try.prog 71 #[ptr p0, ptr p1, ptr p2, ptr p3] w fun e w' => e = .returned (.int .i64 (fitE (inB f 0 ((L.fl.length : Int) - 1) && inB a 0 L.rat && inB b 0 L.rat))) ∧ Below w.heap.size w w' := by
  have K0 := Lib.hid k0
  have K1 := Lib.hid k1
  have K2 := Lib.hid k2
  have K3 := Lib.hid k3
  have HV := Lib.hid hv
  have c0 := block_cell k0
  have c1 := block_cell k1
  have c2 := block_cell k2
  have c3 := block_cell k3
  have HF := Lib.hid (fun w1 (h : InAt w1 fv L.fl) => lisFloor_any L fv f w1 h)
  have HA := Lib.hid (fun w1 => lisLoad_any L fv a w1)
  have HBb := Lib.hid (fun w1 => lisLoad_any L fv b w1)
  clear k0 k1 k2 k3 hv
  generalize inB f 0 ((L.fl.length : Int) - 1) = q1 at *
  generalize inB a 0 L.rat = q2 at *
  generalize inB b 0 L.rat = q3 at *
  go_enter Try.func71, Try.ntmps71
  go_wp2_with (first | (go_at_call 72; refine (HF.out _ HV.out).mono ?_; rintro e w1 ⟨rfl, hb1⟩; clear c0 c2 c3; have c0 := block_cell (keepZ K0.out hb1); have c2 := block_cell (keepZ K2.out hb1); have c3 := block_cell (keepZ K3.out hb1)) | (go_at_call 53; with_reducible refine (HA.out _).mono ?_; rintro e w2 ⟨rfl, hb2⟩; have HB2 := Lib.hid (hb1.trans (hb2.mono hb1.size)); clear c0 c3; have c0 := block_cell (keepZ K0.out HB2.out); have c3 := block_cell (keepZ K3.out HB2.out)) | (go_at_call 53; with_reducible refine (HBb.out _).mono ?_; rintro e w3 ⟨rfl, hb3⟩; have HB3 := Lib.hid (HB2.out.trans (hb3.mono HB2.out.size))) | (go_at_call 51; refine (fitting_any _ _).mono ?_; rintro e w4 ⟨rfl, rfl⟩))
  all_goals
    go_ret
    first
      | exact ⟨ret_int (by simp_all), HB3.out⟩
      | exact ⟨ret_int (by simp_all), HB2.out⟩
      | exact ⟨ret_int (by simp_all), hb1⟩

set_option maxHeartbeats 1000000 in
theorem lSink_any (L : Lif) (fv : Value) (f a b : Int) (w : World) (hv : InAt w fv L.fl) :
    Calls Try.prog 27 #[lifV L fv, .int .i64 f, .int .i64 a, .int .i64 b] w fun e w' => e = .returned (pairV (snkR L f a b)) ∧ Below w.heap.size w w' := by
  have HB := Lib.hid (blw4 w (lifO L fv) (intO f) (intO a) (intO b))
  have K0 := Lib.hid (four_0 w (lifO L fv) (intO f) (intO a) (intO b))
  have K1 := Lib.hid (four_1 w (lifO L fv) (intO f) (intO a) (intO b))
  have K2 := Lib.hid (four_2 w (lifO L fv) (intO f) (intO a) (intO b))
  have K3 := Lib.hid (four_3 w (lifO L fv) (intO f) (intO a) (intO b))
  have HV := Lib.hid (hv.below HB.out (Nat.le_refl _))
  have HI := Lib.hid (@snk_in L f a b)
  have HO := Lib.hid (@snkR_ok L f a b)
  have HN := Lib.hid (@snkR_no L f a b)
  go_enter Try.func27, Try.ntmps27
  go_wp2_with fail
  generalize ((((w.alloc (lifO L fv)).alloc (intO f)).alloc (intO a)).alloc (intO b)) = wA at *
  refine (int_is (show chkE L (fitE (inB f 0 ((L.fl.length : Int) - 1) && inB a 0 L.rat && inB b 0 L.rat)) = snkE L f a b from rfl) (checked_any L fv _ _ (fitE (inB f 0 ((L.fl.length : Int) - 1) && inB a 0 L.rat && inB b 0 L.rat)) _ HV.out enters_sink1 (fun w1 hok hb => sink1_any L fv f a b _ _ _ _ w1 (keepZ K0.out hb) (keepZ K1.out hb) (keepZ K2.out hb) (keepZ K3.out hb) (HV.out.below hb (Nat.le_refl _))))).mono ?_
  rintro e w1 ⟨rfl, hb1⟩
  have HB1 := Lib.hid (HB.out.trans (hb1.mono HB.out.size))
  have c0 := block_cell (keepZ K0.out hb1)
  have c1 := block_cell (keepZ K1.out hb1)
  have c2 := block_cell (keepZ K2.out hb1)
  have c3 := block_cell (keepZ K3.out hb1)
  have HV1 := Lib.hid (HV.out.below hb1 (Nat.le_refl _))
  generalize snkE L f a b = E at *
  clear hb1
  by_cases hE : E = 0
  · obtain ⟨hL, i1, i2, i3⟩ := HI.out hE
    have HS := Lib.hid (fun w2 h => lsink_any L fv f a b w2 h hL i1.1 i1.2 i2.1 i2.2 i3.1 i3.2)
    have HR := Lib.hid (HO.out hE)
    clear hL i1 i2 i3
    subst hE
    go_wp2_with fail
    refine (HS.out _ HV1.out).mono ?_
    rintro e w2 ⟨rfl, hb2⟩
    go_wp2
    go_ret2
    exact ⟨by first | (rw [HR.out]; done) | (rw [HR.out]; rfl), HB1.out.trans (hb2.mono HB1.out.size)⟩
  · have HR := Lib.hid (HN.out hE)
    have h1 : (E != 0) = true := by simpa using hE
    clear hE
    go_wp2
    go_ret2
    exact ⟨by first | (rw [HR.out]; done) | (rw [HR.out]; rfl), HB1.out⟩

set_option maxRecDepth 100000 in
set_option maxHeartbeats 1000000 in
theorem rSink_any (L : Lif) (fv : Value) (f a b : Int) (w : World) (hv : InAt w fv L.fl) :
    Calls Try.prog 28 #[lifV L fv, .int .i64 f, .int .i64 a, .int .i64 b] w fun e w' => e = .returned (pairV (snkR L f a b)) ∧ Below w.heap.size w w' := by
  have HB := Lib.hid ((Below.refl w.heap.size w).alloc (Nat.le_refl _) (lifO L fv))
  have K0 := Lib.hid (block_new w (lifO L fv) w.heap.size rfl)
  have HSZ := Lib.hid (size_alloc w (lifO L fv))
  have HV := Lib.hid (hv.below HB.out (Nat.le_refl _))
  have HO := Lib.hid (@snkR_ok L f a b)
  have HN := Lib.hid (@snkR_no L f a b)
  cases hok : okB L
  · have HK := Lib.hid (chkE_no (x := 0) hok).symm
    have HE : snkE L f a b = 50 := (chkE_no hok).symm
    have HR := Lib.hid ((HN.out (by rw [HE]; decide)).trans (by rw [HE]))
    clear hok HE
    go_enter Try.func28, Try.ntmps28
    go_wp2_with fail
    generalize w.alloc (lifO L fv) = wA at *
    have c0 := block_cell K0.out
    go_wp2_with (go_at_call 22; refine (int_is HK.out (rCheck_any L fv _ HV.out)).mono ?_; rintro e w1 ⟨rfl, hb1⟩)
    go_ret2
    exact ⟨by first | (rw [HR.out]; done) | (rw [HR.out]; rfl), HB.out.trans (hb1.mono HB.out.size)⟩
  · have HK := Lib.hid (chkE_ok (x := 0) hok).symm
    have hL := ok_of hok
    have HE := (show snkE L f a b = fitE (inB f 0 ((L.fl.length : Int) - 1) && inB a 0 L.rat && inB b 0 L.rat) from (chkE_ok hok).symm)
    cases hq : (inB f 0 ((L.fl.length : Int) - 1) && inB a 0 L.rat && inB b 0 L.rat)
    · rw [hq] at HE
      have HR := Lib.hid ((HN.out (by rw [HE]; decide)).trans (by rw [HE]))
      have HQ := Lib.hid hq
      clear hok HE hL hq
      obtain ⟨sa, cap, rfl, hn, hcap, hc⟩ := hv
      clear hc
      go_enter Try.func28, Try.ntmps28
      go_wp2_with fail
      generalize w.alloc (lifO L (.slice sa L.fl.length cap)) = wA at *
      have c0 := block_cell K0.out
      go_wp2_with (first | (go_at_call 22; refine (int_is HK.out (rCheck_any L _ _ HV.out)).mono ?_; rintro e w1 ⟨rfl, hb1⟩; clear c0; have c0 := block_cell (keepZ K0.out hb1)) | (go_at_call 55; refine (rwithin_any _ _ _ _).mono ?_; rintro e w2 ⟨rfl, rfl⟩) | (go_at_call 74; exfalso; have := HQ.out; simp_all))
      all_goals
        go_ret2
        exact ⟨by first | (rw [HR.out]; done) | (rw [HR.out]; rfl), HB.out.trans (hb1.mono HB.out.size)⟩
    · have HR := Lib.hid (HO.out (by rw [HE, hq]; rfl))
      simp only [Bool.and_eq_true, inB_iff] at hq
      obtain ⟨⟨i1, i2⟩, i3⟩ := hq
      have Q1 := Lib.hid (inB_iff.2 i1)
      have Q2 := Lib.hid (inB_iff.2 i2)
      have Q3 := Lib.hid (inB_iff.2 i3)
      have HS := Lib.hid (fun w2 h => rsink_any L fv f a b w2 h hL i1.1 (by omega) i2.1 i2.2 i3.1 i3.2)
      clear hok HE hL i1 i2 i3
      have HV0 := Lib.hid hv
      obtain ⟨sa, cap, rfl, hn, hcap, hc⟩ := hv
      clear hc
      go_enter Try.func28, Try.ntmps28
      go_wp2_with fail
      generalize w.alloc (lifO L (.slice sa L.fl.length cap)) = wA at *
      have c0 := block_cell K0.out
      go_wp2_with (first | (go_at_call 22; refine (int_is HK.out (rCheck_any L _ _ HV.out)).mono ?_; rintro e w1 ⟨rfl, hb1⟩; clear c0; have c0 := block_cell (keepZ K0.out hb1)) | (go_at_call 55; (first | with_reducible refine (rwithin_is true _ _ _ _ Q1.out).mono ?_ | with_reducible refine (rwithin_is true _ _ _ _ Q2.out).mono ?_ | with_reducible refine (rwithin_is true _ _ _ _ Q3.out).mono ?_); rintro e w2 ⟨rfl, rfl⟩) | (go_at_call 74; refine (HS.out _ (HV.out.below hb1 (Nat.le_refl _))).mono ?_; rintro e w2 ⟨rfl, hb2⟩))
      go_ret2
      exact ⟨by first | (rw [HR.out]; done) | (rw [HR.out]; rfl), HB.out.trans ((hb1.trans (hb2.mono hb1.size)).mono HB.out.size)⟩

end Go.Proofs.Ytnefbiaopconkaa
