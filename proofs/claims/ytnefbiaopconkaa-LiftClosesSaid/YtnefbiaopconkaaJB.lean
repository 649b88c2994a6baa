/- Walks of layer 5 (lift): Trip, Reach of the program; Floors of the specification. -/
import Derived.Test.YtnefbiaopconkaaJA
import Derived.Test.YtnefbiaopconkaaBt
namespace Go.Proofs.Ytnefbiaopconkaa
open Go.RowKit

theorem enters_trip1 : Enters 83 := fun _ _ => by kernel_rfl
theorem enters_reach1 : Enters 80 := fun _ _ => by kernel_rfl

theorem triR_ok {L : Lif} {a b : Int} (he : triE L a b = 0) : triR L a b = (tripL L.spd L.acc (fewM L.spd L.acc (wayM L a b)) 0 (wayM L a b), 0) := by unfold triR; rw [if_pos he]
theorem triR_no {L : Lif} {a b : Int} (he : triE L a b ≠ 0) : triR L a b = ([], triE L a b) := by unfold triR; rw [if_neg he]
theorem tri_in {L : Lif} {a b : Int} (he : triE L a b = 0) : LOk L ∧ 0 ≤ a ∧ a < L.fl.length ∧ 0 ≤ b ∧ b < L.fl.length := by
  obtain ⟨h1, h2⟩ := chk_zero.1 he
  exact ⟨ok_of h1, flr_of h2⟩
theorem reaR_ok {L : Lif} {t : Int} (he : reaE L t = 0) : reaR L t = (reaM L.spd L.acc t.toNat, 0) := by unfold reaR; rw [if_pos he]
theorem reaR_no {L : Lif} {t : Int} (he : reaE L t ≠ 0) : reaR L t = (0, reaE L t) := by unfold reaR; rw [if_neg he]
theorem rea_in {L : Lif} {t : Int} (he : reaE L t = 0) : LOk L ∧ 0 ≤ t ∧ t ≤ 1000 := by
  obtain ⟨h1, h2⟩ := chk_zero.1 he
  rw [inB_iff] at h2
  exact ⟨ok_of h1, h2⟩

set_option maxHeartbeats 1000000 in
theorem trip1_any (L : Lif) (fv : Value) (a b : Int) (p0 p1 p2 : Nat) (w : World) (k0 : w.heap[p0]? = some (lifO L fv)) (k1 : w.heap[p1]? = some (intO a)) (k2 : w.heap[p2]? = some (intO b)) (hv : InAt w fv L.fl) :
    Calls Try.prog 83 #[ptr p0, ptr p1, ptr p2] w fun e w' => e = .returned (.int .i64 (fitE (flrB L a b))) ∧ Below w.heap.size w w' := by
  have K0 := Lib.hid k0
  have K2 := Lib.hid k2
  have HV := Lib.hid hv
  have c0 := block_cell k0
  have c1 := block_cell k1
  have c2 := block_cell k2
  have HA := Lib.hid (fun w1 (h : InAt w1 fv L.fl) => lisFloor_any L fv a w1 h)
  have HBb := Lib.hid (fun w1 (h : InAt w1 fv L.fl) => lisFloor_any L fv b w1 h)
  have HF := Lib.hid (show flrB L a b = (inB a 0 ((L.fl.length : Int) - 1) && inB b 0 ((L.fl.length : Int) - 1)) from rfl)
  clear k0 k1 k2 hv
  rw [HF.out]
  generalize inB a 0 ((L.fl.length : Int) - 1) = q1 at *
  generalize inB b 0 ((L.fl.length : Int) - 1) = q2 at *
  go_enter Try.func83, Try.ntmps83
  go_wp2_with (first | (go_at_call 72; with_reducible refine (HA.out _ HV.out).mono ?_; rintro e w1 ⟨rfl, hb1⟩; clear c0 c2; have c0 := block_cell (keepZ K0.out hb1); have c2 := block_cell (keepZ K2.out hb1)) | (go_at_call 72; with_reducible refine (HBb.out _ (HV.out.below hb1 (Nat.le_refl _))).mono ?_; rintro e w2 ⟨rfl, hb2⟩; have HB2 := Lib.hid (hb1.trans (hb2.mono hb1.size))) | (go_at_call 51; refine (fitting_any _ _).mono ?_; rintro e w4 ⟨rfl, rfl⟩))
  all_goals
    go_ret
    first
      | exact ⟨ret_int (by simp_all), HB2.out⟩
      | exact ⟨ret_int (by simp_all), hb1⟩

/-- A list and an error. -/
def ListErr (a : List Int) (er : Int) (w : World) (e : Ending) (w' : World) : Prop := ∃ v, e = .returned (.tuple #[v, .int .i64 er]) ∧ InAt w' v a ∧ Below w.heap.size w w'

set_option maxRecDepth 100000 in
set_option maxHeartbeats 2000000 in
theorem lTrip_any (L : Lif) (fv : Value) (a b : Int) (w : World) (hv : InAt w fv L.fl) :
    Calls Try.prog 34 #[lifV L fv, .int .i64 a, .int .i64 b] w (ListErr (triR L a b).1 (triR L a b).2 w) := by
  have HB := Lib.hid (blw3 w (lifO L fv) (intO a) (intO b))
  have K0 := Lib.hid (three_0 w (lifO L fv) (intO a) (intO b))
  have K1 := Lib.hid (three_1 w (lifO L fv) (intO a) (intO b))
  have K2 := Lib.hid (three_2 w (lifO L fv) (intO a) (intO b))
  have HV := Lib.hid (hv.below HB.out (Nat.le_refl _))
  have HI := Lib.hid (@tri_in L a b)
  have HO := Lib.hid (@triR_ok L a b)
  have HN := Lib.hid (@triR_no L a b)
  go_enter Try.func34, Try.ntmps34
  go_wp2_with fail
  generalize (((w.alloc (lifO L fv)).alloc (intO a)).alloc (intO b)) = wA at *
  refine (int_is (show chkE L (fitE (flrB L a b)) = triE L a b from rfl) (checked_any L fv _ _ (fitE (flrB L a b)) _ HV.out enters_trip1 (fun w1 hok hb => trip1_any L fv a b _ _ _ w1 (keepZ K0.out hb) (keepZ K1.out hb) (keepZ K2.out hb) (HV.out.below hb (Nat.le_refl _))))).mono ?_
  rintro e w1 ⟨rfl, hb1⟩
  have HB1 := Lib.hid (HB.out.trans (hb1.mono HB.out.size))
  have y0 := five_bw K0.out hb1
  have y1 := five_bw K1.out hb1
  have y2 := five_bw K2.out hb1
  have HV1 := Lib.hid (HV.out.below hb1 (Nat.le_refl _))
  generalize triE L a b = E at *
  clear hb1
  by_cases hE : E = 0
  · obtain ⟨hL, f1, f2, f3, f4⟩ := HI.out hE
    have HR := Lib.hid (HO.out hE)
    have hw := way_bd hL f1 f2 f3 f4
    have H1 := Lib.hid (fun w2 (h : InAt w2 fv L.fl) => ldistance_any L fv a b w2 h hL f1 f2 f3 f4)
    have H2 := Lib.hid (fun w2 => ltrip_any L fv (wayM L a b) w2 hL hw.1 hw.2)
    clear hL f1 f2 f3 f4 hw HO HN HI
    subst hE
    go_wp2_with fail
    refine wp_region_belowtail 5 (by kernel_rfl) (by kernel_rfl) (Below.refl w1.heap.size w1) ?_
    simp only [List.take_succ_cons, List.take_zero, List.drop_succ_cons, List.drop_zero]
    repeat ((with_reducible refine wpQuiet_step (fun K hK => ?_)); go_simp; first | (refine hK _ ?_; clear hK K) | (apply Exists.intro; refine ⟨fun _ => ?_, hK _ ?_⟩; ((go_at_call 85; exact bw_call (Nat.le_refl _) (H1.out _ (HV1.out.below (BW.b _) (Nat.le_refl _))))); clear hK K))
    refine wpQuiet_nil ?_
    intro wq hwq0
    have hwq := bw_out hwq0
    clear hwq0
    go_wp2_with fail
    refine (H2.out _).mono ?_
    rintro e w2 ⟨v, rfl, hv2, hb2⟩
    have HV2 := Lib.hid hv2
    obtain ⟨xa, xc, rfl, _⟩ := hv2
    go_wp2
    go_ret2
    exact ⟨_, by rw [HR.out]; rfl, by rw [HR.out]; exact HV2.out, HB1.out.trans ((hwq.trans (hb2.mono hwq.size)).mono HB1.out.size)⟩
  · have HR := Lib.hid (HN.out hE)
    have h1 : (E != 0) = true := by simpa using hE
    clear hE
    go_wp2
    go_ret2
    exact ⟨_, by rw [HR.out]; rfl, by rw [HR.out]; exact InAt.nil _, HB1.out⟩

set_option maxHeartbeats 400000 in
theorem reach1_any (t : Int) (p0 : Nat) (w : World) (k0 : w.heap[p0]? = some (intO t)) :
    Calls Try.prog 80 #[ptr p0] w fun e w' => e = .returned (.int .i64 (fitE (inB t 0 1000))) ∧ Below w.heap.size w w' := by
  have c0 := block_cell k0
  clear k0
  go_enter Try.func80, Try.ntmps80
  go_wp2_with (first | (go_at_call 59; refine (lwithin_any _ _ _ _).mono ?_; rintro e w3 ⟨rfl, rfl⟩) | (go_at_call 51; refine (fitting_any _ _).mono ?_; rintro e w3 ⟨rfl, rfl⟩))
  go_ret
  exact ⟨rfl, Below.refl _ _⟩

set_option maxHeartbeats 1000000 in
theorem lReach_any (L : Lif) (fv : Value) (t : Int) (w : World) (hv : InAt w fv L.fl) :
    Calls Try.prog 32 #[lifV L fv, .int .i64 t] w fun e w' => e = .returned (pairV (reaR L t)) ∧ Below w.heap.size w w' := by
  have HB := Lib.hid (blw2 w (lifO L fv) (intO t))
  have K0 := Lib.hid (two_od w (lifO L fv) (intO t))
  have K1 := Lib.hid (two_nw w (lifO L fv) (intO t))
  have HV := Lib.hid (hv.below HB.out (Nat.le_refl _))
  have HI := Lib.hid (@rea_in L t)
  have HO := Lib.hid (@reaR_ok L t)
  have HN := Lib.hid (@reaR_no L t)
  go_enter Try.func32, Try.ntmps32
  go_wp2_with fail
  generalize (w.alloc (lifO L fv)).alloc (intO t) = wA at *
  refine (int_is (show chkE L (fitE (inB t 0 1000)) = reaE L t from rfl) (checked_any L fv _ _ (fitE (inB t 0 1000)) _ HV.out enters_reach1 (fun w1 hok hb => reach1_any t _ w1 (keepZ K1.out hb)))).mono ?_
  rintro e w1 ⟨rfl, hb1⟩
  have HB1 := Lib.hid (HB.out.trans (hb1.mono HB.out.size))
  have c0 := block_cell (keepZ K0.out hb1)
  have c1 := block_cell (keepZ K1.out hb1)
  generalize reaE L t = E at *
  clear hb1
  by_cases hE : E = 0
  · obtain ⟨hL, t0, t1⟩ := HI.out hE
    have HR := Lib.hid (HO.out hE)
    obtain ⟨n, rfl⟩ : ∃ n : Nat, t = n := ⟨t.toNat, by omega⟩
    have HS := Lib.hid (fun w2 => lreach_any L fv n w2 hL (by omega))
    clear hL
    subst hE
    go_wp2_with fail
    refine (HS.out _).mono ?_
    rintro e w2 ⟨rfl, hb2⟩
    go_wp2
    go_ret2
    exact ⟨by first | (rw [HR.out]; done) | (rw [HR.out]; rfl), HB1.out.trans (hb2.mono HB1.out.size)⟩
  · have HR := Lib.hid (HN.out hE)
    have h1 : (E != 0) = true := by simpa using hE
    clear hE
    go_wp2
    go_ret2
    exact ⟨by first | (rw [HR.out]; done) | (rw [HR.out]; rfl), HB1.out⟩

/-! ### what the statements ask of trips -/
set_option maxHeartbeats 1000000 in
theorem rFloors_any (L : Lif) (fv : Value) (a b : Int) (w : World) (hv : InAt w fv L.fl) :
    Calls Try.prog 44 #[lifV L fv, .int .i64 a, .int .i64 b] w fun e w' => e = .returned (.bool (flrB L a b)) ∧ Below w.heap.size w w' := by
  have HB := Lib.hid ((Below.refl w.heap.size w).alloc (Nat.le_refl _) (lifO L fv))
  have K0 := Lib.hid (block_new w (lifO L fv) w.heap.size rfl)
  have HSZ := Lib.hid (size_alloc w (lifO L fv))
  obtain ⟨sa, cap, rfl, hn, hcap, hc⟩ := hv
  clear hc
  have HF := Lib.hid (show flrB L a b = (inB a 0 ((L.fl.length : Int) - 1) && inB b 0 ((L.fl.length : Int) - 1)) from rfl)
  rw [HF.out]
  clear HF
  go_enter Try.func44, Try.ntmps44
  go_upto_region 1 with fail
  generalize w.alloc (lifO L (.slice sa L.fl.length cap)) = wA at *
  have c0 := block_cell K0.out
  go_wp2_with (go_at_call 55; refine (rwithin_any _ _ _ _).mono ?_; rintro e w3 ⟨rfl, rfl⟩)
  all_goals
    go_ret
    exact ⟨ret_bool (by simp_all), HB.out⟩

end Go.Proofs.Ytnefbiaopconkaa
