/- Walks of layer 5 (lift): Doors, Dwell of the program; Breaks, broken of the specification. -/
import Derived.Test.YtnefbiaopconkaaJM
import Derived.Test.YtnefbiaopconkaaJH
namespace Go.Proofs.Ytnefbiaopconkaa
open Go.RowKit

def dooE (d : Dor) (l : List Int) : Int := dorE d (breB l)
def dooO (d : Dor) (l : List Int) : List Int := if dooE d l = 0 then outL d l (doorN d l) else []
theorem dooO_ok {d : Dor} {l : List Int} (h : dooE d l = 0) : dooO d l = outL d l (doorN d l) := if_pos h
theorem dooO_no {d : Dor} {l : List Int} (h : dooE d l ≠ 0) : dooO d l = [] := if_neg h
theorem doo_in {d : Dor} {l : List Int} (h : dooE d l = 0) : dorB d = true ∧ l.length ≤ 20 ∧ ascTo l 100000 l.length = true := by
  obtain ⟨h1, h2⟩ := dor_zero.1 h
  rw [breB, Bool.and_eq_true, decide_eq_true_eq] at h2
  exact ⟨h1, by omega, h2.2⟩

set_option maxRecDepth 100000 in
set_option maxHeartbeats 2000000 in
theorem lDoors_any (d : Dor) (v : Value) (l : List Int) (w : World) (hl : InAt w v l) :
    Calls Try.prog 36 #[dorV d, v] w (ListErr (dooO d l) (dooE d l) w) := by
  have HB := Lib.hid ((Below.refl w.heap.size w).alloc (Nat.le_refl _) (dorO d))
  have K0 := Lib.hid (block_new w (dorO d) w.heap.size rfl)
  have HL := Lib.hid (hl.below HB.out (Nat.le_refl _))
  have HI := Lib.hid (@doo_in d l)
  have HO := Lib.hid (@dooO_ok d l)
  have HN := Lib.hid (@dooO_no d l)
  have HE := Lib.hid (fun w1 => int_is (show dorE d (breB l) = dooE d l from rfl) (checkedDoor_any d (breB l) w1))
  have HA := Lib.hid (fun w1 h => areBreaks_any v l w1 h)
  go_enter Try.func36, Try.ntmps36
  go_upto_region 1 with fail
  generalize w.alloc (dorO d) = wA at *
  have y0 := bw_cells (B := wA.heap.size) K0.out (lt_of_block K0.out)
  generalize breB l = q at *
  generalize dooE d l = E at *
  refine wp_region_below (by kernel_rfl) (by kernel_rfl) (Below.refl wA.heap.size wA) ?_
  repeat ((with_reducible refine wpQuiet_step (fun K hK => ?_)); go_simp; first | (refine hK _ ?_; clear hK K) | (apply Exists.intro; refine ⟨fun _ => ?_, hK _ ?_⟩; (first | (go_at_call 88; exact bw_same (HA.out _ (HL.out.below (BW.b _) (Nat.le_refl _)))) | (go_at_call 87; exact bw_call (Nat.le_refl _) (HE.out _))); clear hK K))
  refine wpQuiet_nil ?_
  intro wq hwq0
  have hwq := bw_out hwq0
  clear hwq0
  have HBQ := Lib.hid (HB.out.trans (hwq.mono HB.out.size))
  have c0 := block_cell (keepZ K0.out hwq)
  have HLq := Lib.hid (HL.out.below hwq (Nat.le_refl _))
  clear y0 hwq
  by_cases hE : E = 0
  · obtain ⟨hd, h20, hs⟩ := HI.out hE
    have HR := Lib.hid (HO.out hE)
    have G := Lib.hid (lplay_any d v l _ HLq.out hd h20 hs)
    clear hd h20 hs
    subst hE
    go_wp2_with fail
    refine G.out.mono ?_
    rintro e w2 ⟨v2, rfl, hi2, hb2⟩
    have HI2 := Lib.hid hi2
    obtain ⟨xa, xc, rfl, _⟩ := hi2
    go_wp2
    go_ret2
    exact ⟨_, rfl, by rw [HR.out]; exact HI2.out, HBQ.out.trans (hb2.mono HBQ.out.size)⟩
  · have HR := Lib.hid (HN.out hE)
    have h1 : (E != 0) = true := by simpa using hE
    clear hE
    go_wp2
    go_ret2
    exact ⟨_, rfl, by rw [HR.out]; exact InAt.nil _, HBQ.out⟩

set_option maxRecDepth 100000 in
set_option maxHeartbeats 2000000 in
theorem lDwell_any (d : Dor) (n : Int) (w : World) :
    Calls Try.prog 38 #[dorV d, .int .i64 n] w fun e w' => e = .returned (pairV (dweR d n)) ∧ Below w.heap.size w w' := by
  have HB := Lib.hid ((Below.refl w.heap.size w).alloc (Nat.le_refl _) (dorO d))
  have K0 := Lib.hid (block_new w (dorO d) w.heap.size rfl)
  have HI := Lib.hid (show dweE d n = 0 → dorB d = true ∧ 0 ≤ n ∧ n ≤ 20 from fun h => ⟨(dor_zero.1 h).1, inB_iff.1 (dor_zero.1 h).2⟩)
  have HO := Lib.hid (@dweR_ok d n)
  have HN := Lib.hid (@dweR_no d n)
  have HE := Lib.hid (fun w1 => int_is (show dorE d (inB n 0 20) = dweE d n from rfl) (checkedDoor_any d (inB n 0 20) w1))
  obtain ⟨q, hq⟩ : ∃ q, inB n 0 20 = q := ⟨_, rfl⟩
  have HQ := Lib.hid hq
  rw [hq] at HE
  clear hq
  go_enter Try.func38, Try.ntmps38
  go_upto_region 1 with fail
  generalize w.alloc (dorO d) = wA at *
  have y0 := bw_cells (B := wA.heap.size) K0.out (lt_of_block K0.out)
  generalize dweE d n = E at *
  refine wp_region_below (by kernel_rfl) (by kernel_rfl) (Below.refl wA.heap.size wA) ?_
  repeat ((with_reducible refine wpQuiet_step (fun K hK => ?_)); go_simp; first | (refine hK _ ?_; clear hK K) | (apply Exists.intro; refine ⟨fun _ => ?_, hK _ ?_⟩; (first | (go_at_call 59; exact bw_same (lwithin_is q _ _ _ _ HQ.out)) | (go_at_call 87; exact bw_call (Nat.le_refl _) (HE.out _))); clear hK K))
  refine wpQuiet_nil ?_
  intro wq hwq0
  have hwq := bw_out hwq0
  clear hwq0
  have HBQ := Lib.hid (HB.out.trans (hwq.mono HB.out.size))
  have c0 := block_cell (keepZ K0.out hwq)
  clear y0 hwq
  by_cases hE : E = 0
  · obtain ⟨hd, n0, n1⟩ := HI.out hE
    have HR := Lib.hid (HO.out hE)
    have G := Lib.hid (fun w1 => ldwell_any d n w1 hd n0 n1)
    clear hd n0 n1
    subst hE
    go_wp2_with fail
    refine (G.out _).mono ?_
    rintro e w2 ⟨rfl, hb2⟩
    go_wp2
    go_ret2
    exact ⟨by first | (rw [HR.out]; done) | (rw [HR.out]; rfl), HBQ.out.trans (hb2.mono HBQ.out.size)⟩
  · have HR := Lib.hid (HN.out hE)
    have h1 : (E != 0) = true := by simpa using hE
    clear hE
    go_wp2
    go_ret2
    exact ⟨by first | (rw [HR.out]; done) | (rw [HR.out]; rfl), HBQ.out⟩

/-! ### the specification -/
def lastA (l : List Int) (k : Nat) : Int := if k = 0 then -1 else l.getD (k - 1) 0
theorem low_last (l : List Int) (k : Nat) : lowA l k = lastA l k + 1 := by
  unfold lowA lastA
  split <;> omega

set_option maxRecDepth 100000 in
set_option maxHeartbeats 2000000 in
theorem rBreaks_any (v : Value) (l : List Int) (w : World) (hv : InAt w v l) :
    Calls Try.prog 47 #[v] w fun e w' => e = .returned (.bool (breB l)) ∧ w = w' := by
  obtain ⟨a, cap, rfl, hn, hcap, hc⟩ := hv
  have HC := Lib.hid hc
  have HD := Lib.hid (show breB l = (decide ((l.length : Int) ≤ 20) && ascTo l 100000 l.length) from rfl)
  clear hc
  go_enter Try.func47, Try.ntmps47
  go_wp2_with fail
  go_loopw [3, 4] (fun x i wr => ∃ k : Nat, k ≤ l.length ∧ i = .int .i64 k ∧ x = .int .i64 (lastA l k) ∧ Hid (ascTo l 100000 k = true) ∧ w = wr) (fun _ i _ => l.length - (intOf i).toNat)
  case atStart => exact ⟨0, Nat.zero_le _, rfl, rfl, Lib.hid rfl, rfl⟩
  case round =>
    obtain ⟨k, hk, rfl, rfl, hA, rfl⟩ := hrel
    by_cases hlt : k < l.length
    · obtain ⟨b, off, rfl, hbl, hc⟩ := HC.out (by omega)
      have g1 := hc k hlt
      have HS := Lib.hid (ascTo_succ l 100000 k)
      have HN := Lib.hid (fun h => @ascTo_no l 100000 k l.length hlt h)
      have HL := Lib.hid (show lastA l (k + 1) = l.getD k 0 by simp [lastA])
      have hl0 := low_ge hA.out
      have hlu : lowA l k ≤ 100001 := by
        unfold lowA
        split
        · omega
        · have := (ascTo_all.1 hA.out (k - 1) (by omega)).2
          omega
      rw [low_last] at HS HN hl0 hlu
      have j0 : (0 : Int) ≤ k := by omega
      have j1 : (k : Int) < l.length := by omega
      generalize l.getD k 0 = q at *
      generalize lastA l k = lo at *
      clear hc
      cases hq : inB q (lo + 1) 100000
      · have HQ := Lib.hid hq
        clear hq
        go_wp2_with (go_at_call 55; refine (rwithin_is false _ _ _ _ HQ.out).mono ?_; rintro e w' ⟨rfl, rfl⟩)
        go_ret
        exact ⟨ret_bool (by rw [HD.out, HN.out HQ.out, Bool.and_false]), rfl⟩
      · have HQ := Lib.hid hq
        clear hq
        go_wp2_with (go_at_call 55; refine (rwithin_is true _ _ _ _ HQ.out).mono ?_; rintro e w' ⟨rfl, rfl⟩)
        go_roundw
        case rel => exact ⟨k + 1, hlt, by go_num, by rw [HL.out], Lib.hid (by rw [HS.out, HQ.out, hA.out]; rfl), by trivial⟩
        case measure => simp [intOf]; omega
    · obtain rfl : k = l.length := by omega
      go_wp2
      go_ret
      exact ⟨ret_bool (by rw [HD.out, hA.out, Bool.and_true]), rfl⟩

set_option maxRecDepth 100000 in
set_option maxHeartbeats 2000000 in
theorem rbroken_any (v : Value) (l : List Int) (n : Nat) (w : World) (hv : InAt w v l) :
    Calls Try.prog 90 #[v, .int .i64 n] w fun e w' => e = .returned (.bool (brkB l n)) ∧ w = w' := by
  obtain ⟨a, cap, rfl, hn, hcap, hc⟩ := hv
  have HC := Lib.hid hc
  have HY := Lib.hid (fun h => (@brk_iff l n).2 h)
  have HX := Lib.hid (fun h => (@brk_iff l n).1 h)
  clear hc
  go_enter Try.func90, Try.ntmps90
  go_wp2_with fail
  go_loopw [5] (fun i wr => ∃ k : Nat, k ≤ l.length ∧ i = .int .i64 k ∧ Hid (∀ j, j < k → l.getD j 0 ≠ (n : Int)) ∧ w = wr) (fun i _ => l.length - (intOf i).toNat)
  case atStart => exact ⟨0, Nat.zero_le _, rfl, Lib.hid (fun j hj => by omega), rfl⟩
  case round =>
    obtain ⟨k, hk, rfl, hA, rfl⟩ := hrel
    by_cases hlt : k < l.length
    · obtain ⟨b, off, rfl, hbl, hc⟩ := HC.out (by omega)
      have g1 := hc k hlt
      have j0 : (0 : Int) ≤ k := by omega
      have j1 : (k : Int) < l.length := by omega
      clear hc
      by_cases hq : l.getD k 0 = (n : Int)
      · have HB := Lib.hid (HY.out ⟨k, hlt, hq⟩)
        have hqb : (l.getD k 0 == (n : Int)) = true := by simpa using hq
        generalize l.getD k 0 = x at *
        clear hq
        go_wp2_with fail
        go_ret
        exact ⟨ret_bool HB.out.symm, rfl⟩
      · have HAn : Hid (∀ j, j < k + 1 → l.getD j 0 ≠ (n : Int)) := Lib.hid (fun j hj => by
          by_cases hjk : j = k
          · rw [hjk]; exact hq
          · exact hA.out j (by omega))
        have hqb : (l.getD k 0 == (n : Int)) = false := by simpa using hq
        generalize l.getD k 0 = x at *
        clear hq
        go_wp2_with fail
        go_roundw
        case rel => exact ⟨k + 1, hlt, by go_num, HAn, by trivial⟩
        case measure => simp [intOf]; omega
    · obtain rfl : k = l.length := by omega
      have HB : Hid (brkB l n = false) := Lib.hid (by
        cases hb : brkB l n
        · rfl
        · obtain ⟨i, hi, he⟩ := HX.out hb
          exact absurd he (hA.out i hi))
      go_wp2_with fail
      go_ret
      exact ⟨ret_bool HB.out.symm, rfl⟩

end Go.Proofs.Ytnefbiaopconkaa
