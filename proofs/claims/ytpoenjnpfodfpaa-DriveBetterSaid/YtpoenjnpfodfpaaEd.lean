/- Walks of layer 1 (drive): the specification's CheckStop, Grip, edge. -/
import Derived.Test.YtpoenjnpfodfpaaIb
import Derived.Test.YtpoenjnpfodfpaaDp
import Derived.Test.YtpoenjnpfodfpaaDk
namespace Go.Proofs.Ytpoenjnpfodfpaa
open Go.RowKit

theorem ok_iff {S : Stp} {n : Nat} : S.ok n = true ↔ (0 ≤ S.hi ∧ S.hi ≤ 100000) ∧ (0 ≤ S.lo ∧ S.lo ≤ S.hi) ∧ (0 ≤ S.sp ∧ S.sp ≤ 1000) ∧ (0 ≤ S.fa ∧ S.fa ≤ 2 ^ n - 1) := by
  simp only [Stp.ok, Bool.and_eq_true, decide_eq_true_eq, and_assoc]

set_option maxHeartbeats 4000000 in
theorem rcheckStop_any (E : Esc) (S : Stp) (v : Value) (w : World) (hv : BrAt w v E.bs) :
    Calls Try.prog 40 #[escV E v, stpV S] w fun e w' => e = .returned (.int .i64 (checkStopM E S)) ∧ Below w.heap.size w w' := by
  have hb0 := ((Below.refl w.heap.size w).alloc (Nat.le_refl _) (Obj.cells #[.bool E.up, .int .i64 E.em, .int .i64 E.pu, .int .i64 E.dr, .int .i64 E.mo, v] 24)).alloc (by simp) (Obj.cells #[.int .i64 S.sp, .int .i64 S.lo, .int .i64 S.hi, .int .i64 S.fa] 38)
  have hv1 := hv.below hb0 (Nat.le_refl _)
  obtain ⟨a, cap, rfl, hn, hcap, hc⟩ := hv
  clear hc
  have HV := Lib.hid hv1
  have HB0 := Lib.hid hb0
  clear hv1 hb0
  by_cases hE : E.ok = true
  · have hlen := Esc.ok_len hE
    have hck : checkM E = 0 := by simp [checkM, hE]
    have Hck := Lib.hid hck
    have HE := Lib.hid hE
    clear hck hE
    cases hq : (decide (0 ≤ S.fa) && decide (S.fa ≤ wrap64 (wrap64 (2 ^ E.bs.length) - 1)))
    all_goals
      have HF := Lib.hid hq
      have Hq : Hid _ := hq
      rw [pow_wrap hlen] at hq
      have HG := Lib.hid hq
      clear hq
      by_cases h1 : 0 ≤ S.sp ∧ S.sp ≤ 1000 <;> by_cases h2 : 0 ≤ S.lo <;> by_cases h3 : S.lo ≤ S.hi <;> by_cases h4 : S.hi ≤ 100000
      all_goals try (exfalso; omega)
      all_goals
        go_enter Try.func40, Try.ntmps40
        go_wp2_with fail
        refine (rcheck_any _ _ _ HV.out).mono ?_
        rintro e w1 ⟨rfl, hb1⟩
        rw [Hck.out]
        obtain ⟨hcl, hfz⟩ := bcell hb1
        go_wp2_with (first | (go_at_call_of 47 (Value.int .i64 1000); first | (refine (rwithq true _ _ _ _ (by simp; omega)).mono ?_; rintro e w' ⟨rfl, rfl⟩) | (refine (rwithq false _ _ _ _ (by simp; omega)).mono ?_; rintro e w' ⟨rfl, rfl⟩)) | (go_at_call 47; refine (rwithq _ _ _ _ _ HF.out).mono ?_; rintro e w' ⟨rfl, rfl⟩))
        go_ret
        refine ⟨ret_int ?_, HB0.out.trans (hb1.mono HB0.out.size)⟩
        unfold checkStopM
        rw [if_pos HE.out]
        have hg := HG.out
        first
          | (rw [if_neg (fun h => by have h := ok_iff.1 h; omega)])
          | (rw [if_neg (fun h => by have h := ok_iff.1 h; simp only [Bool.and_eq_false_iff, decide_eq_false_iff_not] at hg; omega)])
          | (simp only [Bool.and_eq_true, decide_eq_true_eq] at hg; rw [if_pos (ok_iff.2 ⟨⟨by omega, h4⟩, ⟨h2, h3⟩, h1, hg⟩)])
  · have hck : checkM E = 10 := by simp [checkM, hE]
    have Hck := Lib.hid hck
    have HE := Lib.hid hE
    clear hck hE
    go_enter Try.func40, Try.ntmps40
    go_wp2_with fail
    refine (rcheck_any _ _ _ HV.out).mono ?_
    rintro e w1 ⟨rfl, hb1⟩
    rw [Hck.out]
    obtain ⟨hcl, hfz⟩ := bcell hb1
    go_wp2
    go_ret
    refine ⟨ret_int ?_, HB0.out.trans (hb1.mono HB0.out.size)⟩
    unfold checkStopM
    rw [if_neg HE.out]

set_option maxHeartbeats 2000000 in
theorem rgrip_any (E : Esc) (S : Stp) (v : Value) (tick : Int) (w : World) (hv : BrAt w v E.bs) (hE : E.ok = true) (h0 : 0 ≤ S.fa) (h7 : S.fa ≤ 7) :
    Calls Try.prog 58 #[escV E v, stpV S, .int .i64 tick] w fun e w' => e = .returned (.int .i64 (gripM E S tick)) ∧ Below w.heap.size w w' := by
  have hlen := Esc.ok_len hE
  have hbA := ((Below.refl w.heap.size w).alloc (Nat.le_refl _) (Obj.cells #[.bool E.up, .int .i64 E.em, .int .i64 E.pu, .int .i64 E.dr, .int .i64 E.mo, v] 24)).alloc (by simp) (Obj.cells #[.int .i64 S.sp, .int .i64 S.lo, .int .i64 S.hi, .int .i64 S.fa] 38)
  have k1 := block_alloc (block_new w (Obj.cells #[.bool E.up, .int .i64 E.em, .int .i64 E.pu, .int .i64 E.dr, .int .i64 E.mo, v] 24) w.heap.size rfl) (Obj.cells #[.int .i64 S.sp, .int .i64 S.lo, .int .i64 S.hi, .int .i64 S.fa] 38)
  have k2 := block_new (w.alloc (Obj.cells #[.bool E.up, .int .i64 E.em, .int .i64 E.pu, .int .i64 E.dr, .int .i64 E.mo, v] 24)) (Obj.cells #[.int .i64 S.sp, .int .i64 S.lo, .int .i64 S.hi, .int .i64 S.fa] 38) (w.heap.size + 1) (by simp only [size_alloc])
  obtain ⟨a, cap, rfl, hn, hcap, hc⟩ := hv
  have HC := Lib.hid hc
  clear hc
  have HB := Lib.hid (forceTo_bd hE (gripB E S tick))
  go_enter Try.func58, Try.ntmps58
  go_wp2_with fail
  generalize (w.alloc (Obj.cells #[.bool E.up, .int .i64 E.em, .int .i64 E.pu, .int .i64 E.dr, .int .i64 E.mo, .slice a E.bs.length cap] 24)).alloc (Obj.cells #[.int .i64 S.sp, .int .i64 S.lo, .int .i64 S.hi, .int .i64 S.fa] 38) = wA at *
  have c1 := block_cell k1
  have c2 := block_cell k2
  clear k1 k2
  go_loop [7, 8] (fun t i => ∃ k : Nat, k ≤ E.bs.length ∧ i = .int .i64 k ∧ t = .int .i64 (forceTo E.bs (gripB E S tick) k)) (fun _ i => E.bs.length - (intOf i).toNat)
  case atStart => exact ⟨0, Nat.zero_le _, rfl, rfl⟩
  case round =>
    obtain ⟨k, hk, rfl, rfl⟩ := hrel
    obtain ⟨fb1, fb2⟩ := HB.out k hk
    have hkn : (k : Int) * 10000000 ≤ 30000000 := by omega
    by_cases hlt : k < E.bs.length
    · obtain ⟨b, off, rfl, hbl, hc⟩ := HC.out (by omega)
      obtain ⟨g1, g2⟩ := hc k hlt
      have g1 := (hbA.cell (p := ⟨b, off + k * 2, none⟩) hbl).trans g1
      have g2 := (hbA.cell (p := ⟨b, off + k * 2 + 1, none⟩) hbl).trans g2
      have br := Esc.ok_brake hE hlt
      have hfb := bits_fail0 (fa := S.fa) (k := k) (by omega) h0 h7
      have Hg := Lib.hid (show gripB E S tick k = (!failB S.fa k && decide ((E.bs.getD k (0, 0)).2 ≤ tick)) from rfl)
      clear hc
      generalize hq0 : E.bs.getD k (0, 0) = q at *
      obtain ⟨f, d⟩ := q
      obtain ⟨br1, br2, _, _⟩ := br
      dsimp only at *
      have Hq := Lib.hid hq0
      clear hq0
      cases hff : failB S.fa k
      · rw [hff] at hfb
        have Hff := Lib.hid hff
        clear hff
        by_cases hd : d ≤ tick
        all_goals
          go_wp2
          go_round
          case rel => exact ⟨k + 1, hlt, by go_num, congrArg (Value.int .i64) (by simp only [forceTo]; rw [Hg.out, Hff.out, Hq.out]; simp [hd])⟩
          case measure => simp [intOf]; omega
      · rw [hff] at hfb
        have Hff := Lib.hid hff
        clear hff
        go_wp2
        go_round
        case rel => exact ⟨k + 1, hlt, by go_num, congrArg (Value.int .i64) (by simp only [forceTo]; rw [Hg.out, Hff.out, Hq.out]; simp)⟩
        case measure => simp [intOf]; omega
    · have hkn' : k = E.bs.length := by omega
      have Hk := Lib.hid hkn'
      clear hkn'
      go_wp2
      go_ret
      exact ⟨ret_int (by rw [Hk.out]; rfl), hbA⟩

end Go.Proofs.Ytpoenjnpfodfpaa
