/- Walks of layer 5 (lift): the leaves. -/
import Derived.Test.YtnefbiaopconkaaGw
import Derived.Test.YtnefbiaopconkaaGx
import Derived.Test.YtnefbiaopconkaaBq
import Derived.Test.YtnefbiaopconkaaJt
import Derived.Laws.EntriesVeiled
import Derived.OneCell
import Derived.Deep.DeepCutAuto
namespace Go.Proofs.Ytnefbiaopconkaa
open Go.RowKit

abbrev lifO (L : Lif) (fv : Value) : Obj := .cells #[.int .i64 L.car, .int .i64 L.cou, .int .i64 L.rat, .int .i64 L.rop, fv, .int .i64 L.num, .int .i64 L.den, .int .i64 L.spd, .int .i64 L.acc, .int .i64 L.ovr, .int .i64 L.sti, .int .i64 L.lev] 24
abbrev lifV (L : Lif) (fv : Value) : Value := .agg #[.int .i64 L.car, .int .i64 L.cou, .int .i64 L.rat, .int .i64 L.rop, fv, .int .i64 L.num, .int .i64 L.den, .int .i64 L.spd, .int .i64 L.acc, .int .i64 L.ovr, .int .i64 L.sti, .int .i64 L.lev]

/-- A call of K enters it. -/
def Enters (K : Nat) : Prop := ∀ (args : Array Value) (w : World), (callFunc K args).run Try.prog w = .ok (.enter K args) w

theorem in_at {w w' : World} {b off : Nat} {l : List Int} {k : Nat} (hb : Below w.heap.size w w') (hbl : b < w.heap.size)
    (hc : ∀ i, i < l.length → w.cell? ⟨b, off + i, none⟩ = some (.int .i64 (l.getD i 0))) (hk : k < l.length) : w'.cell? ⟨b, off + k, none⟩ = some (.int .i64 (l.getD k 0)) :=
  (hb.cell (p := ⟨b, off + k, none⟩) hbl).trans (hc k hk)

/-- A list of numbers in new memory. -/
def ListRes (l : List Int) (w : World) (e : Ending) (w' : World) : Prop := ∃ v, e = .returned v ∧ InAt w' v l ∧ Below w.heap.size w w'

theorem int_is {f : FuncId} {args : Array Value} {w : World} {a q : Int} (ha : a = q) (h : Calls Try.prog f args w fun e w' => e = .returned (.int .i64 a) ∧ Below w.heap.size w w') : Calls Try.prog f args w fun e w' => e = .returned (.int .i64 q) ∧ Below w.heap.size w w' := by
  subst ha
  exact h
theorem bool_is {f : FuncId} {args : Array Value} {w : World} {a q : Bool} (ha : a = q) (h : Calls Try.prog f args w fun e w' => e = .returned (.bool a) ∧ Below w.heap.size w w') : Calls Try.prog f args w fun e w' => e = .returned (.bool q) ∧ Below w.heap.size w w' := by
  subst ha
  exact h

set_option maxHeartbeats 400000 in
theorem lwithin_any (n lo hi : Int) (w : World) :
    Calls Try.prog 59 #[.int .i64 n, .int .i64 lo, .int .i64 hi] w fun e w' => e = .returned (.bool (inB n lo hi)) ∧ w = w' := by
  go_enter Try.func59, Try.ntmps59
  go_wp2
  all_goals (go_ret; exact ⟨ret_bool (by simp [inB]; omega), rfl⟩)

theorem lwithin_is (q : Bool) (n lo hi : Int) (w : World) (h : inB n lo hi = q) :
    Calls Try.prog 59 #[.int .i64 n, .int .i64 lo, .int .i64 hi] w fun e w' => e = .returned (.bool q) ∧ w = w' := by
  subst h
  exact lwithin_any n lo hi w

set_option maxHeartbeats 400000 in
theorem rwithin_any (n lo hi : Int) (w : World) :
    Calls Try.prog 55 #[.int .i64 n, .int .i64 lo, .int .i64 hi] w fun e w' => e = .returned (.bool (inB n lo hi)) ∧ w = w' := by
  go_enter Try.func55, Try.ntmps55
  go_wp2
  all_goals (go_ret; exact ⟨ret_bool (by simp [inB]; omega), rfl⟩)

theorem rwithin_is (q : Bool) (n lo hi : Int) (w : World) (h : inB n lo hi = q) :
    Calls Try.prog 55 #[.int .i64 n, .int .i64 lo, .int .i64 hi] w fun e w' => e = .returned (.bool q) ∧ w = w' := by
  subst h
  exact rwithin_any n lo hi w

set_option maxHeartbeats 400000 in
theorem fitting_any (q : Bool) (w : World) :
    Calls Try.prog 51 #[.bool q] w fun e w' => e = .returned (.int .i64 (fitE q)) ∧ w = w' := by
  cases q
  all_goals
    go_enter Try.func51, Try.ntmps51
    go_wp2
    go_ret
    exact ⟨rfl, rfl⟩

theorem top_ix {l : List Int} (h : 1 ≤ l.length) : ((l.length : Int) - 1).toNat = l.length - 1 := by omega

set_option maxHeartbeats 400000 in
theorem ltop_any (L : Lif) (fv : Value) (w : World) (hv : InAt w fv L.fl) (h1 : 1 ≤ L.fl.length) :
    Calls Try.prog 95 #[lifV L fv] w fun e w' => e = .returned (.int .i64 L.top) ∧ Below w.heap.size w w' := by
  have HB := Lib.hid ((Below.refl w.heap.size w).alloc (Nat.le_refl _) (lifO L fv))
  have K0 := Lib.hid (block_new w (lifO L fv) w.heap.size rfl)
  have HSZ := Lib.hid (size_alloc w (lifO L fv))
  obtain ⟨a, cap, rfl, hn, hcap, hc⟩ := hv
  obtain ⟨b, off, rfl, hbl, hc⟩ := hc (by omega)
  have g1 := in_at HB.out hbl hc (k := L.fl.length - 1) (by omega)
  have hix := top_ix h1
  have i0 : (0 : Int) ≤ (L.fl.length : Int) - 1 := by omega
  have i1 : (L.fl.length : Int) - 1 < L.fl.length := by omega
  have HT := Lib.hid (show L.fl.getD (L.fl.length - 1) 0 = L.top from rfl)
  rw [HT.out] at g1
  clear hc
  go_enter Try.func95, Try.ntmps95
  go_wp2_with fail
  generalize w.alloc (lifO L (.slice (some ⟨b, off, none⟩) L.fl.length cap)) = wA at *
  have c0 := block_cell K0.out
  go_wp2
  go_ret
  exact ⟨rfl, HB.out⟩

set_option maxHeartbeats 400000 in
theorem rtop_any (L : Lif) (fv : Value) (w : World) (hv : InAt w fv L.fl) (h1 : 1 ≤ L.fl.length) :
    Calls Try.prog 56 #[lifV L fv] w fun e w' => e = .returned (.int .i64 L.top) ∧ Below w.heap.size w w' := by
  have HB := Lib.hid ((Below.refl w.heap.size w).alloc (Nat.le_refl _) (lifO L fv))
  have K0 := Lib.hid (block_new w (lifO L fv) w.heap.size rfl)
  have HSZ := Lib.hid (size_alloc w (lifO L fv))
  obtain ⟨a, cap, rfl, hn, hcap, hc⟩ := hv
  obtain ⟨b, off, rfl, hbl, hc⟩ := hc (by omega)
  have g1 := in_at HB.out hbl hc (k := L.fl.length - 1) (by omega)
  have hix := top_ix h1
  have i0 : (0 : Int) ≤ (L.fl.length : Int) - 1 := by omega
  have i1 : (L.fl.length : Int) - 1 < L.fl.length := by omega
  have HT := Lib.hid (show L.fl.getD (L.fl.length - 1) 0 = L.top from rfl)
  rw [HT.out] at g1
  clear hc
  go_enter Try.func56, Try.ntmps56
  go_wp2_with fail
  generalize w.alloc (lifO L (.slice (some ⟨b, off, none⟩) L.fl.length cap)) = wA at *
  have c0 := block_cell K0.out
  go_wp2
  go_ret
  exact ⟨rfl, HB.out⟩

set_option maxHeartbeats 400000 in
theorem lisFloor_any (L : Lif) (fv : Value) (i : Int) (w : World) (hv : InAt w fv L.fl) :
    Calls Try.prog 72 #[lifV L fv, .int .i64 i] w fun e w' => e = .returned (.bool (inB i 0 ((L.fl.length : Int) - 1))) ∧ Below w.heap.size w w' := by
  have HB := Lib.hid ((Below.refl w.heap.size w).alloc (Nat.le_refl _) (lifO L fv))
  have K0 := Lib.hid (block_new w (lifO L fv) w.heap.size rfl)
  have HSZ := Lib.hid (size_alloc w (lifO L fv))
  obtain ⟨a, cap, rfl, hn, hcap, hc⟩ := hv
  clear hc
  go_enter Try.func72, Try.ntmps72
  go_wp2_with fail
  generalize w.alloc (lifO L (.slice a L.fl.length cap)) = wA at *
  have c0 := block_cell K0.out
  go_wp2_with (go_at_call 59; refine (lwithin_any _ _ _ _).mono ?_; rintro e w' ⟨rfl, rfl⟩)
  go_ret
  exact ⟨rfl, HB.out⟩

set_option maxHeartbeats 400000 in
theorem lisLoad_any (L : Lif) (fv : Value) (i : Int) (w : World) :
    Calls Try.prog 53 #[lifV L fv, .int .i64 i] w fun e w' => e = .returned (.bool (inB i 0 L.rat)) ∧ Below w.heap.size w w' := by
  have HB := Lib.hid ((Below.refl w.heap.size w).alloc (Nat.le_refl _) (lifO L fv))
  have K0 := Lib.hid (block_new w (lifO L fv) w.heap.size rfl)
  have HSZ := Lib.hid (size_alloc w (lifO L fv))
  go_enter Try.func53, Try.ntmps53
  go_wp2_with fail
  generalize w.alloc (lifO L fv) = wA at *
  have c0 := block_cell K0.out
  go_wp2_with (go_at_call 59; refine (lwithin_any _ _ _ _).mono ?_; rintro e w' ⟨rfl, rfl⟩)
  go_ret
  exact ⟨rfl, HB.out⟩

set_option maxHeartbeats 400000 in
theorem lisHeight_any (L : Lif) (fv : Value) (i : Int) (w : World) (hv : InAt w fv L.fl) (h1 : 1 ≤ L.fl.length) :
    Calls Try.prog 52 #[lifV L fv, .int .i64 i] w fun e w' => e = .returned (.bool (inB i 0 L.top)) ∧ Below w.heap.size w w' := by
  have HB := Lib.hid ((Below.refl w.heap.size w).alloc (Nat.le_refl _) (lifO L fv))
  have K0 := Lib.hid (block_new w (lifO L fv) w.heap.size rfl)
  have HSZ := Lib.hid (size_alloc w (lifO L fv))
  have HV := Lib.hid (hv.below HB.out (Nat.le_refl _))
  go_enter Try.func52, Try.ntmps52
  go_wp2_with fail
  generalize w.alloc (lifO L fv) = wA at *
  have c0 := block_cell K0.out
  go_wp2_with (first | (go_at_call 95; refine (ltop_any L fv _ HV.out h1).mono ?_; rintro e w1 ⟨rfl, hb1⟩) | (go_at_call 59; refine (lwithin_any _ _ _ _).mono ?_; rintro e w' ⟨rfl, rfl⟩))
  go_ret
  exact ⟨rfl, HB.out.trans (hb1.mono HB.out.size)⟩

theorem low_ge {l : List Int} {most : Int} {k : Nat} (h : ascTo l most k = true) : 0 ≤ lowA l k := by
  unfold lowA
  split
  · omega
  · have := asc_ge h (k - 1) (by omega)
    omega

set_option maxRecDepth 100000 in
set_option maxHeartbeats 1000000 in
theorem areAsc_any (v : Value) (l : List Int) (most : Int) (w : World) (hv : InAt w v l) (hm : most ≤ 1000000) :
    Calls Try.prog 99 #[v, .int .i64 most] w fun e w' => e = .returned (.bool (ascB l most)) ∧ w = w' := by
  obtain ⟨a, cap, rfl, hn, hcap, hc⟩ := hv
  have HC := Lib.hid hc
  clear hc
  go_enter Try.func99, Try.ntmps99
  go_wp2_with fail
  go_loopw [5, 10] (fun x i wr => ∃ k : Nat, k ≤ l.length ∧ i = .int .i64 k ∧ x = .int .i64 (lowA l k) ∧ Hid (ascTo l most k = true) ∧ w = wr) (fun _ i _ => l.length - (intOf i).toNat)
  case atStart => exact ⟨0, Nat.zero_le _, rfl, rfl, Lib.hid rfl, rfl⟩
  case round =>
    obtain ⟨k, hk, rfl, rfl, hA, rfl⟩ := hrel
    by_cases hlt : k < l.length
    · obtain ⟨b, off, rfl, hbl, hc⟩ := HC.out (by omega)
      have g1 := hc k hlt
      have HS := Lib.hid (ascTo_succ l most k)
      have HN := Lib.hid (fun h => @ascTo_no l most k l.length hlt h)
      have HL := Lib.hid (show lowA l (k + 1) = l.getD k 0 + 1 by simp [lowA])
      have hl0 := low_ge hA.out
      generalize l.getD k 0 = q at *
      generalize lowA l k = lo at *
      clear hc
      cases hq : inB q lo most
      · have HQ := Lib.hid hq
        clear hq
        go_wp2_with (go_at_call 59; refine (lwithin_is false _ _ _ _ HQ.out).mono ?_; rintro e w' ⟨rfl, rfl⟩)
        go_ret
        exact ⟨ret_bool (HN.out HQ.out).symm, rfl⟩
      · have HQ := Lib.hid hq
        have hb := inB_iff.1 hq
        clear hq
        go_wp2_with (go_at_call 59; refine (lwithin_is true _ _ _ _ HQ.out).mono ?_; rintro e w' ⟨rfl, rfl⟩)
        go_roundw
        case rel => exact ⟨k + 1, hlt, by go_num, by rw [HL.out], Lib.hid (by rw [HS.out, HQ.out, hA.out]; rfl), by trivial⟩
        case measure => simp [intOf]; omega
    · obtain rfl : k = l.length := by omega
      go_wp2
      go_ret
      exact ⟨ret_bool hA.out.symm, rfl⟩

set_option maxHeartbeats 1000000 in
theorem areFloors_any (v : Value) (l : List Int) (w : World) (hv : InAt w v l) :
    Calls Try.prog 104 #[v] w fun e w' => e = .returned (.bool (flB l)) ∧ w = w' := by
  have HV := Lib.hid hv
  have HF := Lib.hid (show flB l = (inB (l.length : Int) 2 16 && (l.getD 0 0 == 0) && ascB l 1000) from rfl)
  obtain ⟨a, cap, rfl, hn, hcap, hc⟩ := hv
  cases hq : inB (l.length : Int) 2 16
  · have HQ := Lib.hid hq
    clear hq hc
    go_enter Try.func104, Try.ntmps104
    go_wp2_with (go_at_call 59; refine (lwithin_is false _ _ _ _ HQ.out).mono ?_; rintro e w' ⟨rfl, rfl⟩)
    go_ret
    exact ⟨ret_bool (by rw [HF.out, HQ.out]; rfl), rfl⟩
  · have HQ := Lib.hid hq
    have hl := inB_iff.1 hq
    have h1 : 0 < l.length := by omega
    obtain ⟨b, off, rfl, hbl, hc⟩ := hc h1
    have g1 := hc 0 h1
    rw [Nat.add_zero] at g1
    generalize l.getD 0 0 = q at *
    clear hq hc hl
    go_enter Try.func104, Try.ntmps104
    go_wp2_with (first | (go_at_call 59; refine (lwithin_is true _ _ _ _ HQ.out).mono ?_; rintro e w' ⟨rfl, rfl⟩) | (go_at_call 99; refine (areAsc_any _ l 1000 _ HV.out (by decide)).mono ?_; rintro e w' ⟨rfl, rfl⟩))
    all_goals
      go_ret
      exact ⟨ret_bool (by rw [HF.out, HQ.out]; simp_all), rfl⟩

/-- What a region of tests gives. -/
theorem wt_eq (L : Lif) : wtB L = (inB L.car 1 100000 && inB L.cou 1 100000 && inB L.rat 0 100000 && inB L.rop 0 100) := rfl
theorem gr_eq (L : Lif) : grB L = (inB L.num 1 100 && inB L.den 1 L.num) := rfl
theorem mo_eq (L : Lif) : moB L = (inB L.spd 1 100 && inB L.acc 1 100) := rfl
theorem st_eq (L : Lif) : stB L = (inB L.ovr 0 1000 && inB L.sti 1 10000000 && inB L.lev 0 1000) := rfl

set_option maxRecDepth 100000 in
set_option maxHeartbeats 4000000 in
theorem isLift_any (L : Lif) (fv : Value) (w : World) (hv : InAt w fv L.fl) :
    Calls Try.prog 94 #[lifV L fv] w fun e w' => e = .returned (.bool (okB L)) ∧ Below w.heap.size w w' := by
  have HB := Lib.hid ((Below.refl w.heap.size w).alloc (Nat.le_refl _) (lifO L fv))
  have K0 := Lib.hid (block_new w (lifO L fv) w.heap.size rfl)
  have HSZ := Lib.hid (size_alloc w (lifO L fv))
  have HV := Lib.hid (hv.below HB.out (Nat.le_refl _))
  have HW := Lib.hid (wt_eq L)
  have HG := Lib.hid (gr_eq L)
  have HM := Lib.hid (mo_eq L)
  have HS := Lib.hid (st_eq L)
  have HO := Lib.hid (show okB L = (wtB L && flB L.fl && grB L && moB L && stB L) from rfl)
  go_enter Try.func94, Try.ntmps94
  go_upto_region 1 with fail
  generalize w.alloc (lifO L fv) = wA at *
  have c0 := block_cell K0.out
  generalize wtB L = qw at *
  generalize grB L = qg at *
  generalize moB L = qm at *
  generalize stB L = qs at *
  go_cut [3] (fun s wx => s = .bool qw ∧ wA = wx)
  case first =>
    go_wp2_with (go_at_call 59; refine (lwithin_any _ _ _ _).mono ?_; rintro e w' ⟨rfl, rfl⟩)
    all_goals
      go_meet
      exact ⟨by rw [HW.out]; simp_all, rfl⟩
  case rest =>
    obtain ⟨rfl, rfl⟩ := hcut
    go_upto_region 2 with fail
    go_cut [4] (fun s wx => s = .bool qg ∧ wA = wx)
    case first =>
      go_wp2_with (go_at_call 59; refine (lwithin_any _ _ _ _).mono ?_; rintro e w' ⟨rfl, rfl⟩)
      all_goals
        go_meet
        exact ⟨by rw [HG.out]; simp_all, rfl⟩
    case rest =>
      obtain ⟨rfl, rfl⟩ := hcut
      go_upto_region 3 with fail
      go_cut [5] (fun s wx => s = .bool qm ∧ wA = wx)
      case first =>
        go_wp2_with (go_at_call 59; refine (lwithin_any _ _ _ _).mono ?_; rintro e w' ⟨rfl, rfl⟩)
        all_goals
          go_meet
          exact ⟨by rw [HM.out]; simp_all, rfl⟩
      case rest =>
        obtain ⟨rfl, rfl⟩ := hcut
        go_upto_region 4 with fail
        go_cut [6] (fun s wx => s = .bool qs ∧ wA = wx)
        case first =>
          go_wp2_with (go_at_call 59; refine (lwithin_any _ _ _ _).mono ?_; rintro e w' ⟨rfl, rfl⟩)
          all_goals
            go_meet
            exact ⟨by rw [HS.out]; simp_all, rfl⟩
        case rest =>
          obtain ⟨rfl, rfl⟩ := hcut
          go_wp2_with (go_at_call 104; refine (areFloors_any _ L.fl _ HV.out).mono ?_; rintro e w' ⟨rfl, rfl⟩)
          all_goals
            go_ret
            exact ⟨ret_bool (by rw [HO.out]; simp_all), HB.out⟩

set_option maxHeartbeats 1000000 in
theorem checked_any (L : Lif) (fv : Value) (K : Nat) (cs : Array Value) (x : Int) (w : World) (hv : InAt w fv L.fl) (hK : Enters K)
    (hg : ∀ w1 : World, okB L = true → Below w.heap.size w w1 → Calls Try.prog K cs w1 fun e w' => e = .returned (.int .i64 x) ∧ Below w1.heap.size w1 w') :
    Calls Try.prog 49 #[lifV L fv, .func (.func K) #[] cs] w fun e w' => e = .returned (.int .i64 (chkE L x)) ∧ Below w.heap.size w w' := by
  have HB := Lib.hid ((Below.refl w.heap.size w).alloc (Nat.le_refl _) (lifO L fv))
  have K0 := Lib.hid (block_new w (lifO L fv) w.heap.size rfl)
  have HSZ := Lib.hid (size_alloc w (lifO L fv))
  have HV := Lib.hid (hv.below HB.out (Nat.le_refl _))
  have HG := Lib.hid hg
  have hk1 := hK
  unfold Enters at hk1
  clear hg hK
  have HI := Lib.hid (fun w1 h => isLift_any L fv w1 h)
  go_enter Try.func49, Try.ntmps49
  go_wp2_with fail
  generalize w.alloc (lifO L fv) = wA at *
  have c0 := block_cell K0.out
  cases hq : okB L
  · have HQ := Lib.hid hq
    go_wp2_with (go_at_call 94; refine (bool_is HQ.out (HI.out _ HV.out)).mono ?_; rintro e w1 ⟨rfl, hb1⟩)
    go_ret
    exact ⟨ret_int (chkE_no HQ.out), HB.out.trans (hb1.mono HB.out.size)⟩
  · have HQ := Lib.hid hq
    go_wp2_with (go_at_call 94; refine (bool_is HQ.out (HI.out _ HV.out)).mono ?_; rintro e w1 ⟨rfl, hb1⟩)
    refine (HG.out _ HQ.out (HB.out.trans (hb1.mono HB.out.size))).mono ?_
    rintro e w2 ⟨rfl, hb2⟩
    go_wp2
    go_ret
    exact ⟨ret_int (chkE_ok HQ.out), (HB.out.trans (hb1.mono HB.out.size)).trans (hb2.mono (HB.out.trans (hb1.mono HB.out.size)).size)⟩

end Go.Proofs.Ytnefbiaopconkaa
