/- Walks of layer 5 (lift): doors that are checked, Dwell, Turn of the program; Example, works. -/
import Derived.Test.YtnefbiaopconkaaJh
namespace Go.Proofs.Ytnefbiaopconkaa
open Go.RowKit

structure Dor where
  wide : Int
  wait : Int

def dorB (d : Dor) : Bool := inB d.wide 1 50 && inB d.wait 0 200
def dorE (d : Dor) (q : Bool) : Int := if dorB d = true then fitE q else 51
def dweM (d : Dor) (n : Int) : Int := 2 * d.wide + d.wait + n * (2 * (d.wide - 1) + d.wait)

abbrev dorV (d : Dor) : Value := .agg #[.int .i64 d.wide, .int .i64 d.wait]
abbrev dorO (d : Dor) : Obj := .cells #[.int .i64 d.wide, .int .i64 d.wait] 58

theorem dor_of {d : Dor} (h : dorB d = true) : 1 ≤ d.wide ∧ d.wide ≤ 50 ∧ 0 ≤ d.wait ∧ d.wait ≤ 200 := by
  simp only [dorB, Bool.and_eq_true, inB_iff] at h
  omega
theorem dorE_ok {d : Dor} {q : Bool} (h : dorB d = true) : fitE q = dorE d q := by unfold dorE; rw [if_pos h]
theorem dorE_no {d : Dor} {q : Bool} (h : dorB d = false) : 51 = dorE d q := by unfold dorE; rw [h]; rfl
theorem dor_zero {d : Dor} {q : Bool} : dorE d q = 0 ↔ dorB d = true ∧ q = true := by
  unfold dorE fitE
  cases dorB d <;> cases q <;> simp

set_option maxHeartbeats 1000000 in
theorem checkedDoor_any (d : Dor) (q : Bool) (w : World) :
    Calls Try.prog 87 #[dorV d, .bool q] w fun e w' => e = .returned (.int .i64 (dorE d q)) ∧ Below w.heap.size w w' := by
  have HB := Lib.hid ((Below.refl w.heap.size w).alloc (Nat.le_refl _) (dorO d))
  have K0 := Lib.hid (block_new w (dorO d) w.heap.size rfl)
  have HN := Lib.hid (@dorE_no d q)
  have HO := Lib.hid (@dorE_ok d q)
  have HD := Lib.hid (show dorB d = (inB d.wide 1 50 && inB d.wait 0 200) from rfl)
  go_enter Try.func87, Try.ntmps87
  go_upto_region 1 with fail
  generalize w.alloc (dorO d) = wA at *
  have c0 := block_cell K0.out
  go_wp2_with (first | (go_at_call 59; refine (lwithin_any _ _ _ _).mono ?_; rintro e w3 ⟨rfl, rfl⟩) | (go_at_call 51; refine (fitting_any _ _).mono ?_; rintro e w3 ⟨rfl, rfl⟩))
  all_goals
    go_ret
    first
      | exact ⟨ret_int (HO.out (by rw [HD.out]; simp_all)), HB.out⟩
      | exact ⟨ret_int (HN.out (by rw [HD.out]; simp_all)), HB.out⟩

theorem dwe_bd {d : Dor} {n : Int} (h : dorB d = true) (n0 : 0 ≤ n) (n1 : n ≤ 20) : 0 ≤ n * (2 * (d.wide - 1) + d.wait) ∧ n * (2 * (d.wide - 1) + d.wait) ≤ 6000 := by
  obtain ⟨d1, d2, d3, d4⟩ := dor_of h
  exact mul_bd (A := 20) (B := 300) n0 n1 (by omega) (by omega)

set_option maxHeartbeats 1000000 in
theorem ldwell_any (d : Dor) (n : Int) (w : World) (h : dorB d = true) (n0 : 0 ≤ n) (n1 : n ≤ 20) :
    Calls Try.prog 91 #[dorV d, .int .i64 n] w fun e w' => e = .returned (.int .i64 (dweM d n)) ∧ Below w.heap.size w w' := by
  have HB := Lib.hid ((Below.refl w.heap.size w).alloc (Nat.le_refl _) (dorO d))
  have K0 := Lib.hid (block_new w (dorO d) w.heap.size rfl)
  have HM := Lib.hid (show 2 * d.wide + d.wait + n * (2 * (d.wide - 1) + d.wait) = dweM d n from rfl)
  obtain ⟨b1, b2⟩ := dwe_bd h n0 n1
  obtain ⟨d1, d2, d3, d4⟩ := dor_of h
  have e1 : wrap64 (n * (2 * (d.wide - 1) + d.wait)) = n * (2 * (d.wide - 1) + d.wait) := wrap64_in (by omega) (by omega)
  clear h
  go_enter Try.func91, Try.ntmps91
  go_upto_region 1 with fail
  generalize w.alloc (dorO d) = wA at *
  have c0 := block_cell K0.out
  go_wp2
  go_ret
  exact ⟨ret_int HM.out, HB.out⟩

/-! ### Turn -/
def turE (L : Lif) (d : Dor) (a b n : Int) : Int := chkE L (dorE d (flrB L a b && inB n 0 20))
def turR (L : Lif) (d : Dor) (a b n : Int) : Int × Int :=
  if turE L d a b n = 0 then ((fewM L.spd L.acc (wayM L a b) : Int) + dweM d n, 0) else (0, turE L d a b n)
theorem turR_ok {L : Lif} {d : Dor} {a b n : Int} (he : turE L d a b n = 0) : turR L d a b n = ((fewM L.spd L.acc (wayM L a b) : Int) + dweM d n, 0) := by unfold turR; rw [if_pos he]
theorem turR_no {L : Lif} {d : Dor} {a b n : Int} (he : turE L d a b n ≠ 0) : turR L d a b n = (0, turE L d a b n) := by unfold turR; rw [if_neg he]

theorem flr_of {L : Lif} {a b : Int} (h : flrB L a b = true) : 0 ≤ a ∧ a < L.fl.length ∧ 0 ≤ b ∧ b < L.fl.length := by
  simp only [flrB, Bool.and_eq_true, inB_iff] at h
  omega

theorem tur_in {L : Lif} {d : Dor} {a b n : Int} (he : turE L d a b n = 0) : LOk L ∧ dorB d = true ∧ flrB L a b = true ∧ 0 ≤ n ∧ n ≤ 20 := by
  unfold turE chkE at he
  cases hok : okB L
  · rw [hok] at he; simp at he
  · rw [hok, if_pos rfl] at he
    obtain ⟨h1, h2⟩ := dor_zero.1 he
    rw [Bool.and_eq_true, inB_iff] at h2
    exact ⟨ok_of hok, h1, h2.1, h2.2.1, h2.2.2⟩

theorem enters_turn1 : Enters 92 := fun _ _ => by kernel_rfl

theorem five_0 (w : World) (a b c d x : Obj) : (((((w.alloc a).alloc b).alloc c).alloc d).alloc x).heap[w.heap.size]? = some a := block_alloc (four_0 _ _ _ _ _) _
theorem five_1 (w : World) (a b c d x : Obj) : (((((w.alloc a).alloc b).alloc c).alloc d).alloc x).heap[w.heap.size + 1]? = some b := block_alloc (four_1 _ _ _ _ _) _
theorem five_2 (w : World) (a b c d x : Obj) : (((((w.alloc a).alloc b).alloc c).alloc d).alloc x).heap[w.heap.size + 2]? = some c := block_alloc (four_2 _ _ _ _ _) _
theorem five_3 (w : World) (a b c d x : Obj) : (((((w.alloc a).alloc b).alloc c).alloc d).alloc x).heap[w.heap.size + 3]? = some d := block_alloc (four_3 _ _ _ _ _) _
theorem five_4 (w : World) (a b c d x : Obj) : (((((w.alloc a).alloc b).alloc c).alloc d).alloc x).heap[w.heap.size + 4]? = some x := block_new _ _ _ (by simp only [size_alloc])
theorem blw5 (w : World) (a b c d x : Obj) : Below w.heap.size w (((((w.alloc a).alloc b).alloc c).alloc d).alloc x) := (blw4 w a b c d).alloc (by simp only [size_alloc]; omega) _

set_option maxRecDepth 100000 in
set_option maxHeartbeats 2000000 in
theorem turn1_any (L : Lif) (fv : Value) (d : Dor) (a b n : Int) (p0 p1 p2 p3 p4 : Nat) (w : World) (k0 : w.heap[p0]? = some (dorO d)) (k1 : w.heap[p1]? = some (lifO L fv)) (k2 : w.heap[p2]? = some (intO a)) (k3 : w.heap[p3]? = some (intO b)) (k4 : w.heap[p4]? = some (intO n)) (hv : InAt w fv L.fl) :
    Calls Try.prog 92 #[ptr p0, ptr p1, ptr p2, ptr p3, ptr p4] w fun e w' => e = .returned (.int .i64 (dorE d (flrB L a b && inB n 0 20))) ∧ Below w.heap.size w w' := by
  have HV := Lib.hid hv
  have y0 := bw_cells (B := w.heap.size) k0 (lt_of_block k0)
  have y1 := bw_cells (B := w.heap.size) k1 (lt_of_block k1)
  have y2 := bw_cells (B := w.heap.size) k2 (lt_of_block k2)
  have y3 := bw_cells (B := w.heap.size) k3 (lt_of_block k3)
  have y4 := bw_cells (B := w.heap.size) k4 (lt_of_block k4)
  have HF := Lib.hid (show flrB L a b = (inB a 0 ((L.fl.length : Int) - 1) && inB b 0 ((L.fl.length : Int) - 1)) from rfl)
  clear k0 k1 k2 k3 k4 hv
  have HA := Lib.hid (fun (q : Bool) (hq : inB a 0 ((L.fl.length : Int) - 1) = q) (w1 : World) (h : InAt w1 fv L.fl) => bool_is hq (lisFloor_any L fv a w1 h))
  have HBb := Lib.hid (fun (q : Bool) (hq : inB b 0 ((L.fl.length : Int) - 1) = q) (w1 : World) (h : InAt w1 fv L.fl) => bool_is hq (lisFloor_any L fv b w1 h))
  have HC := Lib.hid (fun (q1 q2 q3 : Bool) (x : Bool) (h1 : inB a 0 ((L.fl.length : Int) - 1) = q1) (h2 : inB b 0 ((L.fl.length : Int) - 1) = q2) (h3 : inB n 0 20 = q3) (hx : (q1 && q2 && q3) = x) (w1 : World) => int_is (show dorE d x = dorE d (flrB L a b && inB n 0 20) by rw [HF.out, h1, h2, h3, hx]) (checkedDoor_any d x w1))
  generalize dorE d (flrB L a b && inB n 0 20) = E at *
  cases hq1 : inB a 0 ((L.fl.length : Int) - 1)
  · have HQ1 := Lib.hid hq1
    clear hq1
    obtain ⟨q2, hq2⟩ : ∃ q, inB b 0 ((L.fl.length : Int) - 1) = q := ⟨_, rfl⟩
    obtain ⟨q3, hq3⟩ : ∃ q, inB n 0 20 = q := ⟨_, rfl⟩
    have HX := Lib.hid (HC.out false q2 q3 false HQ1.out hq2 hq3 rfl)
    clear hq2 hq3
    go_enter Try.func92, Try.ntmps92
    go_wp2_with fail
    refine wp_region_below (by kernel_rfl) (by kernel_rfl) (Below.refl w.heap.size w) ?_
    repeat ((with_reducible refine wpQuiet_step (fun K hK => ?_)); go_simp; first | (refine hK _ ?_; clear hK K) | (apply Exists.intro; refine ⟨fun _ => ?_, hK _ ?_⟩; (first | (go_at_call 72; exact bw_call (Nat.le_refl _) (HA.out false HQ1.out _ (HV.out.below (BW.b _) (Nat.le_refl _)))) | (go_at_call 87; exact bw_call (Nat.le_refl _) (HX.out _))); clear hK K))
    refine wpQuiet_nil ?_
    intro wq hwq0
    have hwq := bw_out hwq0
    clear hwq0
    go_wp2
    go_ret
    exact ⟨rfl, hwq⟩
  · have HQ1 := Lib.hid hq1
    clear hq1
    cases hq2 : inB b 0 ((L.fl.length : Int) - 1)
    · have HQ2 := Lib.hid hq2
      clear hq2
      obtain ⟨q3, hq3⟩ : ∃ q, inB n 0 20 = q := ⟨_, rfl⟩
      have HX := Lib.hid (HC.out true false q3 false HQ1.out HQ2.out hq3 rfl)
      clear hq3
      go_enter Try.func92, Try.ntmps92
      go_wp2_with fail
      refine wp_region_below (by kernel_rfl) (by kernel_rfl) (Below.refl w.heap.size w) ?_
      repeat ((with_reducible refine wpQuiet_step (fun K hK => ?_)); go_simp; first | (refine hK _ ?_; clear hK K) | (apply Exists.intro; refine ⟨fun _ => ?_, hK _ ?_⟩; (first | (go_at_call 72; with_reducible exact bw_call (Nat.le_refl _) (HA.out true HQ1.out _ (HV.out.below (BW.b _) (Nat.le_refl _)))) | (go_at_call 72; with_reducible exact bw_call (Nat.le_refl _) (HBb.out false HQ2.out _ (HV.out.below (BW.b _) (Nat.le_refl _)))) | (go_at_call 87; exact bw_call (Nat.le_refl _) (HX.out _))); clear hK K))
      refine wpQuiet_nil ?_
      intro wq hwq0
      have hwq := bw_out hwq0
      clear hwq0
      go_wp2
      go_ret
      exact ⟨rfl, hwq⟩
    · have HQ2 := Lib.hid hq2
      clear hq2
      obtain ⟨q3, hq3⟩ : ∃ q, inB n 0 20 = q := ⟨_, rfl⟩
      have HX := Lib.hid (HC.out true true q3 q3 HQ1.out HQ2.out hq3 rfl)
      have HQ3 := Lib.hid hq3
      clear hq3
      go_enter Try.func92, Try.ntmps92
      go_wp2_with fail
      refine wp_region_below (by kernel_rfl) (by kernel_rfl) (Below.refl w.heap.size w) ?_
      repeat ((with_reducible refine wpQuiet_step (fun K hK => ?_)); go_simp; first | (refine hK _ ?_; clear hK K) | (apply Exists.intro; refine ⟨fun _ => ?_, hK _ ?_⟩; (first | (go_at_call 72; with_reducible exact bw_call (Nat.le_refl _) (HA.out true HQ1.out _ (HV.out.below (BW.b _) (Nat.le_refl _)))) | (go_at_call 72; with_reducible exact bw_call (Nat.le_refl _) (HBb.out true HQ2.out _ (HV.out.below (BW.b _) (Nat.le_refl _)))) | (go_at_call 59; exact bw_same (lwithin_is q3 _ _ _ _ HQ3.out)) | (go_at_call 87; exact bw_call (Nat.le_refl _) (HX.out _))); clear hK K))
      refine wpQuiet_nil ?_
      intro wq hwq0
      have hwq := bw_out hwq0
      clear hwq0
      go_wp2
      go_ret
      exact ⟨rfl, hwq⟩

theorem five_bw {w W : World} {b : Nat} {cs : Array Value} {t : TypeId} (hk : w.heap[b]? = some (.cells cs t (0, 0))) (hb : Below w.heap.size w W) : ∀ (x : BW W.heap.size W) (o : Nat), x.w.cell? ⟨b, o, none⟩ = cs[o]? :=
  bw_cells (keepZ hk hb) (lt_of_block (keepZ hk hb))

set_option maxRecDepth 100000 in
set_option maxHeartbeats 2000000 in
theorem lTurn_any (L : Lif) (fv : Value) (d : Dor) (a b n : Int) (w : World) (hv : InAt w fv L.fl) :
    Calls Try.prog 40 #[lifV L fv, dorV d, .int .i64 a, .int .i64 b, .int .i64 n] w fun e w' => e = .returned (pairV (turR L d a b n)) ∧ Below w.heap.size w w' := by
  have HB := Lib.hid (blw5 w (lifO L fv) (dorO d) (intO a) (intO b) (intO n))
  have K0 := Lib.hid (five_0 w (lifO L fv) (dorO d) (intO a) (intO b) (intO n))
  have K1 := Lib.hid (five_1 w (lifO L fv) (dorO d) (intO a) (intO b) (intO n))
  have K2 := Lib.hid (five_2 w (lifO L fv) (dorO d) (intO a) (intO b) (intO n))
  have K3 := Lib.hid (five_3 w (lifO L fv) (dorO d) (intO a) (intO b) (intO n))
  have K4 := Lib.hid (five_4 w (lifO L fv) (dorO d) (intO a) (intO b) (intO n))
  have HV := Lib.hid (hv.below HB.out (Nat.le_refl _))
  have HI := Lib.hid (@tur_in L d a b n)
  have HO := Lib.hid (@turR_ok L d a b n)
  have HN := Lib.hid (@turR_no L d a b n)
  go_enter Try.func40, Try.ntmps40
  go_wp2_with fail
  generalize (((((w.alloc (lifO L fv)).alloc (dorO d)).alloc (intO a)).alloc (intO b)).alloc (intO n)) = wA at *
  refine (int_is (show chkE L (dorE d (flrB L a b && inB n 0 20)) = turE L d a b n from rfl) (checked_any L fv _ _ (dorE d (flrB L a b && inB n 0 20)) _ HV.out enters_turn1 (fun w1 hok hb => turn1_any L fv d a b n _ _ _ _ _ w1 (keepZ K1.out hb) (keepZ K0.out hb) (keepZ K2.out hb) (keepZ K3.out hb) (keepZ K4.out hb) (HV.out.below hb (Nat.le_refl _))))).mono ?_
  rintro e w1 ⟨rfl, hb1⟩
  have HB1 := Lib.hid (HB.out.trans (hb1.mono HB.out.size))
  have HV1 := Lib.hid (HV.out.below hb1 (Nat.le_refl _))
  have y0 := five_bw K0.out hb1
  have y1 := five_bw K1.out hb1
  have y2 := five_bw K2.out hb1
  have y3 := five_bw K3.out hb1
  have y4 := five_bw K4.out hb1
  generalize turE L d a b n = E at *
  clear hb1
  by_cases hE : E = 0
  · obtain ⟨hL, hd, hf, n0, n1⟩ := HI.out hE
    have HR := Lib.hid (HO.out hE)
    obtain ⟨f1, f2, f3, f4⟩ := flr_of hf
    have H1 := Lib.hid (fun w2 (h : InAt w2 fv L.fl) => ldistance_any L fv a b w2 h hL f1 f2 f3 f4)
    have H2 := Lib.hid (fun w2 => lfewest_any L fv (wayM L a b) w2 hL)
    have H3 := Lib.hid (fun w2 => ldwell_any d n w2 hd n0 n1)
    have hw := way_bd hL f1 f2 f3 f4
    have hfw := (few_spec (w := wayM L a b) hL.a1 hL.s1 hw.2).1
    have hdw := dwe_bd hd n0 n1
    have hdd := dor_of hd
    have e1 : IntKind.i64.wrap ((fewM L.spd L.acc (wayM L a b) : Int) + dweM d n) = (fewM L.spd L.acc (wayM L a b) : Int) + dweM d n := wrap_i64_in (by unfold dweM; omega) (by unfold dweM; omega)
    clear hL hd hf f1 f2 f3 f4 n0 n1 hw hfw hdw hdd
    subst hE
    go_wp2_with fail
    refine wp_region_below (by kernel_rfl) (by kernel_rfl) (Below.refl w1.heap.size w1) ?_
    repeat ((with_reducible refine wpQuiet_step (fun K hK => ?_)); go_simp; first | (refine hK _ ?_; clear hK K) | (apply Exists.intro; refine ⟨fun _ => ?_, hK _ ?_⟩; (first | (go_at_call 85; exact bw_call (Nat.le_refl _) (H1.out _ (HV1.out.below (BW.b _) (Nat.le_refl _)))) | (go_at_call 93; exact bw_call (Nat.le_refl _) (H2.out _)) | (go_at_call 91; exact bw_call (Nat.le_refl _) (H3.out _))); clear hK K))
    refine wpQuiet_nil ?_
    intro wq hwq0
    have hwq := bw_out hwq0
    clear hwq0
    go_wp2
    go_ret2
    exact ⟨by first | (rw [HR.out]; done) | (rw [HR.out]; rfl), HB1.out.trans (hwq.mono HB1.out.size)⟩
  · have HR := Lib.hid (HN.out hE)
    have h1 : (E != 0) = true := by simpa using hE
    clear hE
    go_wp2
    go_ret2
    exact ⟨by first | (rw [HR.out]; done) | (rw [HR.out]; rfl), HB1.out⟩

def exL : Lif := ⟨1000, 1400, 800, 2, [0, 40, 90], 3, 2, 10, 3, 10, 1000, 20⟩
def exD : Dor := ⟨3, 2⟩
theorem exTurn : turR exL exD 0 1 1 = (21, 0) := by kernel_rfl
theorem exGrip : gripR exL ⟨0, 40⟩ ⟨300, 600⟩ = (82, 0) := by kernel_rfl

theorem exIn {W : World} {b : Nat} (hk : W.heap[b]? = some (.cells #[.int .i64 0, .int .i64 40, .int .i64 90] 3)) : InAt W (.slice (some ⟨b, 0, none⟩) 3 3) exL.fl :=
  ⟨_, 3, rfl, by decide, by decide, fun _ => ⟨b, 0, rfl, lt_of_block hk, fun i hi => by
    rw [Nat.zero_add, block_cell hk]
    match i, hi with
    | 0, _ => rfl
    | 1, _ => rfl
    | 2, _ => rfl⟩⟩

set_option maxRecDepth 100000 in
set_option maxHeartbeats 4000000 in
theorem example_any (w : World) : Calls Try.prog 48 #[] w fun e w' => ∃ fv, e = .returned (lifV exL fv) ∧ InAt w' fv exL.fl ∧ Below w.heap.size w w' := by
  go_enter Try.func48, Try.ntmps48
  go_wp2_with fail
  exact bodyPost_ret (v := lifV exL (.slice (some ⟨w.heap.size + 1, 0, none⟩) 3 3)) (by simp [results, Try.results48, go_sem, exL]) rfl ⟨_, rfl, exIn (two_nw w _ _), blw2 _ _ _⟩

set_option maxRecDepth 100000 in
set_option maxHeartbeats 4000000 in
theorem works_any (w : World) : Calls Try.prog 16 #[] w fun e w' => e = .returned (.bool true) ∧ Below w.heap.size w w' := by
  go_enter Try.func16, Try.ntmps16
  go_wp2_with fail
  refine (example_any _).mono ?_
  rintro e w1 ⟨fv, rfl, hv, hb1⟩
  go_wp2_with fail
  refine (lTurn_any exL fv exD 0 1 1 _ hv).mono ?_
  rintro e w2 ⟨rfl, hb2⟩
  rw [exTurn]
  have HB2 := Lib.hid (hb1.trans (hb2.mono hb1.size))
  clear hb1 hb2 hv
  go_wp2_with fail
  refine (example_any _).mono ?_
  rintro e w3 ⟨fw, rfl, hv, hb3⟩
  have HB3 := Lib.hid (HB2.out.trans (hb3.mono HB2.out.size))
  clear hb3
  go_wp2_with fail
  refine (lGrip_any exL fw ⟨0, 40⟩ ⟨300, 600⟩ _ hv).mono ?_
  rintro e w4 ⟨rfl, hb4⟩
  rw [exGrip]
  have HB4 := Lib.hid (HB3.out.trans (hb4.mono HB3.out.size))
  clear hb4 hv
  go_wp2
  go_ret
  exact ⟨rfl, HB4.out⟩

set_option maxHeartbeats 400000 in
theorem far_any (L : Lif) (fv : Value) (w : World) (hv : InAt w fv L.fl) :
    Calls Try.prog 15 #[lifV L fv] w fun e w' => e = .returned (.bool (decide (30 < (L.fl.length : Int)))) ∧ Below w.heap.size w w' := by
  have HB := Lib.hid ((Below.refl w.heap.size w).alloc (Nat.le_refl _) (lifO L fv))
  have K0 := Lib.hid (block_new w (lifO L fv) w.heap.size rfl)
  have HSZ := Lib.hid (size_alloc w (lifO L fv))
  obtain ⟨a, cap, rfl, hn, hcap, hc⟩ := hv
  clear hc
  go_enter Try.func15, Try.ntmps15
  go_wp2_with fail
  generalize w.alloc (lifO L (.slice a L.fl.length cap)) = wA at *
  have c0 := block_cell K0.out
  go_wp2
  go_ret
  exact ⟨rfl, HB.out⟩

set_option maxRecDepth 100000 in
set_option maxHeartbeats 1000000 in
theorem sameInts_any (v v2 : Value) (l : List Int) (w : World) (hv : InAt w v l) (hv2 : InAt w v2 l) :
    Calls Try.prog 31 #[v, v2] w fun e w' => e = .returned (.bool true) ∧ Below w.heap.size w w' := by
  obtain ⟨a, cap, rfl, hn, hcap, hc⟩ := hv
  obtain ⟨a2, cap2, rfl, hn2, hcap2, hc2⟩ := hv2
  have HC := Lib.hid hc
  have HC2 := Lib.hid hc2
  clear hc hc2
  go_enter Try.func31, Try.ntmps31
  go_wp2_with fail
  go_loopw [5] (fun i wr => ∃ k : Nat, k ≤ l.length ∧ i = .int .i64 k ∧ Hid (Below w.heap.size w wr)) (fun i _ => l.length - (intOf i).toNat)
  case atStart => exact ⟨0, Nat.zero_le _, rfl, Lib.hid (Below.refl _ _)⟩
  case round =>
    obtain ⟨k, hk, rfl, hb⟩ := hrel
    by_cases hlt : k < l.length
    · obtain ⟨b, off, rfl, hbl, hc⟩ := HC.out (by omega)
      obtain ⟨b2, off2, rfl, hbl2, hc2⟩ := HC2.out (by omega)
      have g1 := (hb.out.cell (p := ⟨b, off + k, none⟩) hbl).trans (hc k hlt)
      have g2 := (hb.out.cell (p := ⟨b2, off2 + k, none⟩) hbl2).trans (hc2 k hlt)
      have k1 : (0 : Int) ≤ k := by omega
      have k2 : (k : Int) < l.length := by omega
      clear hc hc2
      generalize l.getD k 0 = q at g1 g2
      go_wp2_with fail
      go_quiet (fail)
      go_wp2
      go_roundw
      case rel => exact ⟨k + 1, hlt, by go_num, Lib.hid (below_drewN hb.out _)⟩
      case measure => simp [intOf]; omega
    · go_wp2_with fail
      go_ret
      exact ⟨rfl, hb.out⟩

end Go.Proofs.Ytnefbiaopconkaa
