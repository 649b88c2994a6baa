/- Walks of layer 1 (drive): Critical of both; DriveFails. -/
import Derived.Test.YtpoenjnpfodfpaaFe
import Derived.Test.YtpoenjnpfodfpaaIb
import Derived.RegionTactic
namespace Go.Proofs.Ytpoenjnpfodfpaa
open Go.RowKit

/-- One brake more fails. -/
def orM (fa : Int) (k : Nat) : Int := if failB fa k = true then fa else fa + 2 ^ k
abbrev Stp.orF (S : Stp) (k : Nat) : Stp := ⟨S.sp, S.lo, S.hi, orM S.fa k⟩

theorem bits_or {fa : Int} {k : Nat} (hk : k ≤ 2) (h0 : 0 ≤ fa) (h7 : fa ≤ 7) : bits BinOp.or IntKind.i64 fa (wrap64 (2 ^ k)) = orM fa k := by
  have hf : fa = 0 ∨ fa = 1 ∨ fa = 2 ∨ fa = 3 ∨ fa = 4 ∨ fa = 5 ∨ fa = 6 ∨ fa = 7 := by omega
  have hk : k = 0 ∨ k = 1 ∨ k = 2 := by omega
  have e : wrap64 ((2 : Int) ^ k) = 2 ^ k := by rcases hk with rfl | rfl | rfl <;> simp [wrap64]
  rw [e]
  rcases hf with rfl | rfl | rfl | rfl | rfl | rfl | rfl | rfl <;> rcases hk with rfl | rfl | rfl <;> decide

theorem or_bd {fa : Int} {k n : Nat} (hk : k < n) (hn : n ≤ 3) (h0 : 0 ≤ fa) (h7 : fa ≤ 2 ^ n - 1) : 0 ≤ orM fa k ∧ orM fa k ≤ 2 ^ n - 1 := by
  have hn' : n = 1 ∨ n = 2 ∨ n = 3 := by omega
  have h7' := pow_le7 hn
  have hf : fa = 0 ∨ fa = 1 ∨ fa = 2 ∨ fa = 3 ∨ fa = 4 ∨ fa = 5 ∨ fa = 6 ∨ fa = 7 := by omega
  have hk' : k = 0 ∨ k = 1 ∨ k = 2 := by omega
  rcases hn' with rfl | rfl | rfl <;> rcases hk' with rfl | rfl | rfl <;> first | omega | (rcases hf with rfl | rfl | rfl | rfl | rfl | rfl | rfl | rfl <;> first | decide | omega)

theorem or_ne {fa : Int} {k : Nat} : (orM fa k != fa) = !failB fa k := by
  unfold orM
  cases h : failB fa k
  · rw [if_neg (by decide)]
    have : (0 : Int) < 2 ^ k := Int.pow_pos (by decide)
    simp
    omega
  · rw [if_pos rfl]; simp

theorem check_or {E : Esc} {S : Stp} (h : checkStopM E S = 0) {k : Nat} (hk : k < E.bs.length) : checkStopM E (S.orF k) = 0 := by
  obtain ⟨hE, _⟩ := checkStopM_num h
  unfold checkStopM at *
  rw [if_pos hE] at *
  by_cases hS : S.ok E.bs.length = true
  · obtain ⟨a, b, c, d⟩ := ok_iff.1 hS
    rw [if_pos ((ok_iff (S := S.orF k)).2 ⟨a, b, c, or_bd hk (Esc.ok_len hE) d.1 d.2⟩)]
  · rw [if_neg hS] at h; omega

def critB (E : Esc) (S : Stp) (way back : Int) (k : Nat) : Bool := !failB S.fa k && !safeB E (S.orF k) way back
def critTo (E : Esc) (S : Stp) (way back : Int) : Nat → List Int
  | 0 => []
  | k + 1 => critTo E S way back k ++ (if critB E S way back k = true then [(k : Int)] else [])

theorem critTo_len (E : Esc) (S : Stp) (way back : Int) : ∀ k, (critTo E S way back k).length ≤ k := by
  intro k
  induction k with
  | zero => simp [critTo]
  | succ k ih => simp only [critTo, List.length_append]; split <;> simp <;> omega

theorem critTo_yes {E : Esc} {S : Stp} {way back : Int} {k : Nat} (h : critB E S way back k = true) : critTo E S way back (k + 1) = critTo E S way back k ++ [(k : Int)] := by
  simp only [critTo]; rw [if_pos h]
theorem critTo_no {E : Esc} {S : Stp} {way back : Int} {k : Nat} (h : critB E S way back k = false) : critTo E S way back (k + 1) = critTo E S way back k := by
  simp only [critTo]; rw [if_neg (by rw [h]; decide), List.append_nil]

def critR (E : Esc) (S : Stp) (way back : Int) : List Int × Int :=
  if checkStopM E S = 0 then (if (0 ≤ way ∧ way ≤ 10000000) ∧ (0 ≤ back ∧ back ≤ 10000000) then (critTo E S way back E.bs.length, 0) else ([], 1)) else ([], checkStopM E S)
def CritRes (E : Esc) (S : Stp) (way back : Int) (w : World) (e : Ending) (w' : World) : Prop := ∃ v, e = .returned (.tuple #[v, .int .i64 (critR E S way back).2]) ∧ InAt w' v (critR E S way back).1 ∧ Below w.heap.size w w'
theorem critR_ok {E : Esc} {S : Stp} {way back : Int} (h : checkStopM E S = 0) (hl : (0 ≤ way ∧ way ≤ 10000000) ∧ (0 ≤ back ∧ back ≤ 10000000)) : critR E S way back = (critTo E S way back E.bs.length, 0) := by unfold critR; rw [if_pos h, if_pos hl]
theorem critR_arg {E : Esc} {S : Stp} {way back : Int} (h : checkStopM E S = 0) (hl : ¬((0 ≤ way ∧ way ≤ 10000000) ∧ (0 ≤ back ∧ back ≤ 10000000))) : critR E S way back = ([], 1) := by unfold critR; rw [if_pos h, if_neg hl]
theorem critR_bad {E : Esc} {S : Stp} {way back : Int} (h : ¬checkStopM E S = 0) : critR E S way back = ([], checkStopM E S) := by unfold critR; rw [if_neg h]

set_option maxRecDepth 100000 in
set_option maxHeartbeats 4000000 in
theorem critical_any (E : Esc) (S : Stp) (v : Value) (way back : Int) (w : World) (hv : BrAt w v E.bs) :
    Calls Try.prog 38 #[escV E v, stpV S, .int .i64 way, .int .i64 back] w (CritRes E S way back w) := by
  obtain ⟨i0, hi, hz0, hz1, hz2⟩ := info_parts infoInt
  have hbA := ((Below.refl w.heap.size w).alloc (Nat.le_refl _) (Obj.cells #[.bool E.up, .int .i64 E.em, .int .i64 E.pu, .int .i64 E.dr, .int .i64 E.mo, v] 24)).alloc (by simp) (Obj.cells #[.int .i64 S.sp, .int .i64 S.lo, .int .i64 S.hi, .int .i64 S.fa] 38)
  have k1 := block_alloc (block_new w (Obj.cells #[.bool E.up, .int .i64 E.em, .int .i64 E.pu, .int .i64 E.dr, .int .i64 E.mo, v] 24) w.heap.size rfl) (Obj.cells #[.int .i64 S.sp, .int .i64 S.lo, .int .i64 S.hi, .int .i64 S.fa] 38)
  have k2 := block_new (w.alloc (Obj.cells #[.bool E.up, .int .i64 E.em, .int .i64 E.pu, .int .i64 E.dr, .int .i64 E.mo, v] 24)) (Obj.cells #[.int .i64 S.sp, .int .i64 S.lo, .int .i64 S.hi, .int .i64 S.fa] 38) (w.heap.size + 1) (by simp only [size_alloc])
  have hsz : ((w.alloc (Obj.cells #[.bool E.up, .int .i64 E.em, .int .i64 E.pu, .int .i64 E.dr, .int .i64 E.mo, v] 24)).alloc (Obj.cells #[.int .i64 S.sp, .int .i64 S.lo, .int .i64 S.hi, .int .i64 S.fa] 38)).heap.size = w.heap.size + 2 := by simp only [size_alloc]
  have hv1 := hv.below hbA (Nat.le_refl _)
  obtain ⟨a, cap, rfl, hn, hcap, hc⟩ := hv
  clear hc
  by_cases hf : checkStopM E S = 0
  · obtain ⟨hE, hS⟩ := checkStopM_num hf
    have Hf := Lib.hid hf
    cases hq1 : (decide (0 ≤ way) && decide (way ≤ 10000000)) <;> cases hq2 : (decide (0 ≤ back) && decide (back ≤ 10000000))
    case true.true =>
      have HR := Lib.hid (critR_ok (way := way) (back := back) hf ⟨by simpa using hq1, by simpa using hq2⟩)
      have HQ1 := Lib.hid hq1
      have HQ2 := Lib.hid hq2
      have HC := Lib.hid (fun k hk => @check_or E S hf k hk)
      have hlen := Esc.ok_len hE
      clear hf hq1 hq2
      go_enter Try.func38, Try.ntmps38
      go_wp2_with fail
      generalize ((w.alloc (Obj.cells #[.bool E.up, .int .i64 E.em, .int .i64 E.pu, .int .i64 E.dr, .int .i64 E.mo, .slice a E.bs.length cap] 24)).alloc (Obj.cells #[.int .i64 S.sp, .int .i64 S.lo, .int .i64 S.hi, .int .i64 S.fa] 38)) = wA at *
      have HSZ := Lib.hid hsz
      have HV := Lib.hid hv1
      have K1 := Lib.hid k1
      have K2 := Lib.hid k2
      clear hsz hv1 k1 k2
      refine (checkStop_any _ _ _ _ HV.out).mono ?_
      rintro e w1 ⟨rfl, hb1⟩
      rw [Hf.out]
      have c1 := block_cell ((hb1.block w.heap.size (by have := HSZ.out; omega)).trans K1.out)
      have c2 := block_cell ((hb1.block (w.heap.size + 1) (by have := HSZ.out; omega)).trans K2.out)
      go_wp2_with (first | (go_at_call_of 45 (Value.int .i64 way); refine (within_is _ _ _ _ _ HQ1.out).mono ?_; rintro e w' ⟨rfl, rfl⟩) | (go_at_call 45; refine (within_is _ _ _ _ _ HQ2.out).mono ?_; rintro e w' ⟨rfl, rfl⟩) | fail)
      clear c1 c2
      go_loopw [11, 31] (fun l i wr => ∃ k : Nat, k ≤ E.bs.length ∧ i = .int .i64 k ∧ Below wA.heap.size wA wr ∧ wr.ownsRow wA.heap.size 3 1 l (critTo E S way back k).length ((critTo E S way back k).map (Value.int .i64))) (fun _ i _ => E.bs.length - (intOf i).toNat)
      case atStart => exact ⟨0, Nat.zero_le _, rfl, hb1, rfl, .inl ⟨rfl, rfl⟩⟩
      case round =>
        obtain ⟨k, hk, rfl, hb, hown⟩ := hrel
        have HZ := Lib.hid hb.size
        have c1 := block_cell ((hb.block w.heap.size (by have := HSZ.out; omega)).trans K1.out)
        have c2 := block_cell ((hb.block (w.heap.size + 1) (by have := HSZ.out; omega)).trans K2.out)
        by_cases hlt : k < E.bs.length
        · go_wp2_with fail
          refine (fails_any S k _ (by omega) hS.fa0 hS.fa7).mono ?_
          rintro e w2 ⟨rfl, hb2⟩
          have hb12 := hb.trans (hb2.mono hb.size)
          have hown2 := ownsRow_below hown hb2
          clear c1 c2 hown
          have c1 := block_cell ((hb12.block w.heap.size (by have := HSZ.out; omega)).trans K1.out)
          have c2 := block_cell ((hb12.block (w.heap.size + 1) (by have := HSZ.out; omega)).trans K2.out)
          have z1 : w.heap.size < w2.heap.size := by have := HSZ.out; have := hb12.size; omega
          have z2 : w.heap.size + 1 < w2.heap.size := by have := HSZ.out; have := hb12.size; omega
          cases hq : failB S.fa k
          · have HQ := Lib.hid hq
            have hor := bits_or (fa := S.fa) (k := k) (by omega) hS.fa0 hS.fa7
            have i1 : (0 : Int) ≤ (k : Int) := by omega
            have i2 : (k : Int) ≤ 2 := by omega
            have hz12 : wA.heap.size ≤ w2.heap.size := hb12.size
            clear hq
            go_wp2_with fail
            go_region
            go_wp2_with fail
            refine (calls_big (A := w2) (B := w2.heap.size) ?_ (Nat.le_refl _) (safe_any E (S.orF k) _ way back _ ?_ hE (checkStopM_num (HC.out k hlt)).2)).mono ?_
            · repeat' (first | exact Below.refl _ _ | (with_reducible refine Below.drew ?_) | (with_reducible refine Below.alloc ?_ ?_ _) | (with_reducible refine Below.setCell ?_ ?_ _))
              all_goals (first | omega | (simp; done) | (simp; omega))
            · refine HV.out.below ?_ (Nat.le_refl _)
              repeat' (first | exact hb12 | (with_reducible refine Below.drew ?_) | (with_reducible refine Below.alloc ?_ ?_ _) | (with_reducible refine Below.setCell ?_ ?_ _))
              all_goals (first | omega | (simp; done) | (simp; omega))
            rintro e w3 ⟨rfl, hb3⟩
            have hb13 := hb12.trans (hb3.mono hb12.size)
            have hown3 := ownsRow_below hown2 hb3
            clear c1 c2 z1 z2 hown2 hor hb12 hb2
            cases hs : safeB E (S.orF k) way back
            · have hyes : critB E S way back k = true := by unfold critB; rw [HQ.out, hs]; rfl
              have HY := Lib.hid (critTo_yes hyes)
              clear hs hyes
              obtain ⟨al, cl, rfl, halb⟩ := ownsRow_shape hown3
              have hll := critTo_len E S way back k
              have hzr := hb13.size
              go_wp2_with (at_builtin; refine wpList_append_own _ rfl _ _ 39 rfl wA.heap.size 3 i0 (.int .i64 0) 1 8 Try.underlying39 hi hz0 hz1 hz2 rfl (by decide) _ _ _ rfl (hown3.alloc _) ⟨w3.heap.size, 0, none⟩ 1 1 [.int .i64 k] rfl rfl ?c1 ?c2 ?c3 ?c4 ?c5 ?_)
              case c1 => exact cell_one_new _ _ _
              case c2 => intro u hu; simp only [List.mem_singleton] at hu; subst hu; rfl
              case c3 => unfold maxLen; omega
              case c4 => omega
              case c5 => rw [size_alloc]; omega
              intro v4 w4 hown4 hgrow _
              have HB := Lib.hid (hb13.trans (((Below.refl wA.heap.size w3).alloc hzr _).trans (below_grown hgrow halb (by rw [size_alloc]; omega))))
              have HO := Lib.hid hown4
              clear hown4 hgrow hown3
              go_wp2
              go_roundw
              case rel => exact ⟨k + 1, hlt, by go_num, HB.out, by rw [HY.out, List.map_append, List.length_append]; exact HO.out⟩
              case measure => simp [intOf]; omega
            · have hno : critB E S way back k = false := by unfold critB; rw [hs]; simp
              have HN := Lib.hid (critTo_no hno)
              clear hs hno
              go_wp2
              go_roundw
              case rel => exact ⟨k + 1, hlt, by go_num, hb13, by rw [HN.out]; exact hown3⟩
              case measure => simp [intOf]; omega
          · have HQ := Lib.hid hq
            have hno : critB E S way back k = false := by unfold critB; rw [hq]; rfl
            have HN := Lib.hid (critTo_no hno)
            clear hq hno
            go_wp2
            go_roundw
            case rel => exact ⟨k + 1, hlt, by go_num, hb12, by rw [HN.out]; exact hown2⟩
            case measure => simp [intOf]; omega
        · have hkn : k = E.bs.length := by omega
          subst hkn
          go_wp2
          go_ret2
          obtain ⟨al, cl, rfl, halb⟩ := ownsRow_shape hown
          exact ⟨_, by rw [HR.out]; rfl, by rw [HR.out]; exact InAt.of_own hown, hbA.trans (hb.mono hbA.size)⟩
    all_goals
      have HR := Lib.hid (critR_arg (way := way) (back := back) hf (by
        intro h
        simp only [Bool.and_eq_false_iff, decide_eq_false_iff_not] at hq1 hq2
        omega))
      have HQ1 := Lib.hid hq1
      have HQ2 := Lib.hid hq2
      clear hf hq1 hq2
      go_enter Try.func38, Try.ntmps38
      go_wp2_with fail
      generalize ((w.alloc (Obj.cells #[.bool E.up, .int .i64 E.em, .int .i64 E.pu, .int .i64 E.dr, .int .i64 E.mo, .slice a E.bs.length cap] 24)).alloc (Obj.cells #[.int .i64 S.sp, .int .i64 S.lo, .int .i64 S.hi, .int .i64 S.fa] 38)) = wA at *
      have HSZ := Lib.hid hsz
      have HV := Lib.hid hv1
      have K1 := Lib.hid k1
      have K2 := Lib.hid k2
      clear hsz hv1 k1 k2
      refine (checkStop_any _ _ _ _ HV.out).mono ?_
      rintro e w1 ⟨rfl, hb1⟩
      rw [Hf.out]
      have c1 := block_cell ((hb1.block w.heap.size (by have := HSZ.out; omega)).trans K1.out)
      have c2 := block_cell ((hb1.block (w.heap.size + 1) (by have := HSZ.out; omega)).trans K2.out)
      go_wp2_with (first | (go_at_call_of 45 (Value.int .i64 way); refine (within_is _ _ _ _ _ HQ1.out).mono ?_; rintro e w' ⟨rfl, rfl⟩) | (go_at_call 45; refine (within_is _ _ _ _ _ HQ2.out).mono ?_; rintro e w' ⟨rfl, rfl⟩) | fail)
      go_ret2
      exact ⟨.slice none 0 0, by rw [HR.out]; rfl, by rw [HR.out]; exact InAt.nil _, hbA.trans (hb1.mono hbA.size)⟩
  · have HR := Lib.hid (critR_bad (way := way) (back := back) hf)
    have h0 : (checkStopM E S == 0) = false := by simpa using hf
    clear hf
    go_enter Try.func38, Try.ntmps38
    go_wp2_with fail
    generalize ((w.alloc (Obj.cells #[.bool E.up, .int .i64 E.em, .int .i64 E.pu, .int .i64 E.dr, .int .i64 E.mo, .slice a E.bs.length cap] 24)).alloc (Obj.cells #[.int .i64 S.sp, .int .i64 S.lo, .int .i64 S.hi, .int .i64 S.fa] 38)) = wA at *
    have HSZ := Lib.hid hsz
    have HV := Lib.hid hv1
    have K1 := Lib.hid k1
    have K2 := Lib.hid k2
    clear hsz hv1 k1 k2
    refine (checkStop_any _ _ _ _ HV.out).mono ?_
    rintro e w1 ⟨rfl, hb1⟩
    go_wp2
    go_ret2
    exact ⟨.slice none 0 0, by rw [HR.out]; rfl, by rw [HR.out]; exact InAt.nil _, hbA.trans (hb1.mono hbA.size)⟩

end Go.Proofs.Ytpoenjnpfodfpaa
