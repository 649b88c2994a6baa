/- DriveDistances, the walk. -/
import Derived.Test.YtpoenjnpfodfpaaRx
import Derived.Test.YtpoenjnpfodfpaaIb
namespace Go.Proofs.Ytpoenjnpfodfpaa
open Go.RowKit

set_option maxRecDepth 100000 in
set_option maxHeartbeats 4000000 in
theorem distances_any (E : Esc) (v : Value) (S : Stp) (w : World) (hv : BrAt w v E.bs) :
    Calls Try.prog 5 #[escV E v, stpV S] w fun e w' => e = .returned (.bool true) ∧ Below w.heap.size w w' := by
  have hbA := ((Below.refl w.heap.size w).alloc (Nat.le_refl _) (Obj.cells #[.bool E.up, .int .i64 E.em, .int .i64 E.pu, .int .i64 E.dr, .int .i64 E.mo, v] 24)).alloc (by simp) (Obj.cells #[.int .i64 S.sp, .int .i64 S.lo, .int .i64 S.hi, .int .i64 S.fa] 38)
  have k1 := block_alloc (block_new w (Obj.cells #[.bool E.up, .int .i64 E.em, .int .i64 E.pu, .int .i64 E.dr, .int .i64 E.mo, v] 24) w.heap.size rfl) (Obj.cells #[.int .i64 S.sp, .int .i64 S.lo, .int .i64 S.hi, .int .i64 S.fa] 38)
  have k2 := block_new (w.alloc (Obj.cells #[.bool E.up, .int .i64 E.em, .int .i64 E.pu, .int .i64 E.dr, .int .i64 E.mo, v] 24)) (Obj.cells #[.int .i64 S.sp, .int .i64 S.lo, .int .i64 S.hi, .int .i64 S.fa] 38) (w.heap.size + 1) (by simp only [size_alloc])
  have hsz : ((w.alloc (Obj.cells #[.bool E.up, .int .i64 E.em, .int .i64 E.pu, .int .i64 E.dr, .int .i64 E.mo, v] 24)).alloc (Obj.cells #[.int .i64 S.sp, .int .i64 S.lo, .int .i64 S.hi, .int .i64 S.fa] 38)).heap.size = w.heap.size + 2 := by simp only [size_alloc]
  have hv1 := hv.below hbA (Nat.le_refl _)
  obtain ⟨a, cap, rfl, hn, hcap, hc⟩ := hv
  clear hc
  obtain ⟨⟨D1, D2, D3, D4, F⟩, hd⟩ : ∃ D, distM E S = D := ⟨_, rfl⟩
  have HD := Lib.hid hd
  clear hd
  go_enter Try.func5, Try.ntmps5
  go_wp2_with fail
  generalize ((w.alloc (Obj.cells #[.bool E.up, .int .i64 E.em, .int .i64 E.pu, .int .i64 E.dr, .int .i64 E.mo, .slice a E.bs.length cap] 24)).alloc (Obj.cells #[.int .i64 S.sp, .int .i64 S.lo, .int .i64 S.hi, .int .i64 S.fa] 38)) = wA at *
  have HSZ := Lib.hid hsz
  have HV := Lib.hid hv1
  have K1 := Lib.hid k1
  have K2 := Lib.hid k2
  clear hsz hv1 k1 k2
  refine (far_any _ _ _ HV.out).mono ?_
  rintro e w1 ⟨rfl, hb1⟩
  have c1 := block_cell ((hb1.block w.heap.size (by have := HSZ.out; omega)).trans K1.out)
  have c2 := block_cell ((hb1.block (w.heap.size + 1) (by have := HSZ.out; omega)).trans K2.out)
  go_wp2_with fail
  · refine (works_any _).mono ?_
    rintro e w2 ⟨rfl, hb2⟩
    go_wp2
    go_ret
    exact ⟨rfl, hbA.trans ((hb1.trans (hb2.mono hb1.size)).mono hbA.size)⟩
  · refine (distance_any E S _ _ (HV.out.below hb1 (Nat.le_refl _))).mono ?_
    rintro e w2 ⟨rfl, hb2⟩
    rw [HD.out]
    unfold distV
    have hb12 := hb1.trans (hb2.mono hb1.size)
    clear c1 c2
    have c1 := block_cell ((hb12.block w.heap.size (by have := HSZ.out; omega)).trans K1.out)
    have c2 := block_cell ((hb12.block (w.heap.size + 1) (by have := HSZ.out; omega)).trans K2.out)
    have z1 : w.heap.size < w2.heap.size := by have := HSZ.out; have := hb12.size; omega
    have z2 : w.heap.size + 1 < w2.heap.size := by have := HSZ.out; have := hb12.size; omega
    go_wp2_with fail
    have hbs := ((hb12.alloc (by have := hb12.size; omega) (Obj.cells #[.int .i64 D1, .int .i64 D2] 36)).alloc (by have := hb12.size; simp; omega) (Obj.cells #[.int .i64 D3, .int .i64 D4] 36))
    refine (rdistance_any E S _ _ (HV.out.below hbs (Nat.le_refl _))).mono ?_
    rintro e w3 ⟨rfl, hb3⟩
    rw [HD.out]
    have hb13 := hbs.trans (hb3.mono hbs.size)
    have ks1 := (hb3.block w2.heap.size (by simp only [size_alloc]; omega)).trans (block_alloc (block_new w2 (Obj.cells #[.int .i64 D1, .int .i64 D2] 36) w2.heap.size rfl) (Obj.cells #[.int .i64 D3, .int .i64 D4] 36))
    have ks2 := (hb3.block (w2.heap.size + 1) (by simp only [size_alloc]; omega)).trans (block_new (w2.alloc (Obj.cells #[.int .i64 D1, .int .i64 D2] 36)) (Obj.cells #[.int .i64 D3, .int .i64 D4] 36) (w2.heap.size + 1) (by simp only [size_alloc]))
    clear c1 c2 z1 z2
    have c1 := block_cell ks1
    have c2 := block_cell ks2
    have z1 : w2.heap.size < w3.heap.size := lt_of_block ks1
    have z2 : w2.heap.size + 1 < w3.heap.size := lt_of_block ks2
    clear ks1 ks2
    go_wp2_with fail
    clear c1 c2 z1 z2
    have hzA := HSZ.out
    have hbL := hb13.trans (((Below.refl w3.heap.size w3).alloc (Nat.le_refl _) (Obj.cells #[.int .i64 D1, .int .i64 D2] 36)).alloc (by simp) (Obj.cells #[.int .i64 D3, .int .i64 D4] 36) |>.mono hb13.size)
    generalize (w3.alloc (Obj.cells #[.int .i64 D1, .int .i64 D2] 36)).alloc (Obj.cells #[.int .i64 D3, .int .i64 D4] 36) = wL at *
    clear hbs hb12 hb1 hb2 hb3 hb13
    have HzA := Lib.hid hzA
    clear hzA
    go_loopw [11] (fun i wr => ∃ k : Nat, k ≤ 2 ∧ i = .int .i64 k ∧ Below wA.heap.size wA wr) (fun i _ => 2 - (intOf i).toNat)
    case atStart => exact ⟨0, by omega, rfl, hbL⟩
    case round =>
      obtain ⟨k, hk, rfl, hb⟩ := hrel
      by_cases hlt : k < 2
      · obtain ⟨most, hm⟩ : ∃ most : Bool, ((k : Int) == 0) = most := ⟨_, rfl⟩
        have c1 := block_cell ((hb.block w.heap.size (by have := HSZ.out; omega)).trans K1.out)
        have c2 := block_cell ((hb.block (w.heap.size + 1) (by have := HSZ.out; omega)).trans K2.out)
        go_wp2_with fail
        refine (witness_any E S _ most _ (HV.out.below hb (Nat.le_refl _))).mono ?_
        rintro e w4 ⟨v4, rfl, hi4, hb4⟩
        rw [HD.out]
        have hb04 := hb.trans (hb4.mono hb.size)
        have HI4 := Lib.hid hi4
        clear c1 c2 hi4
        have c1 := block_cell ((hb04.block w.heap.size (by have := HSZ.out; omega)).trans K1.out)
        have c2 := block_cell ((hb04.block (w.heap.size + 1) (by have := HSZ.out; omega)).trans K2.out)
        go_wp2_with fail
        refine (rwitness_any E S _ most _ (HV.out.below hb04 (Nat.le_refl _))).mono ?_
        rintro e w5 ⟨v5, rfl, hi5, hb5⟩
        rw [HD.out]
        have hb05 := hb04.trans (hb5.mono hb04.size)
        have HI5 := Lib.hid hi5
        clear c1 c2 hi5 hm
        go_wp2_with fail
        refine (sameInts_any _ _ _ _ _ (HI4.out.below hb5 (Nat.le_refl _)) HI5.out).mono ?_
        rintro e w6 ⟨rfl, hb6⟩
        have hdd : decide (witL E S most = witL E S most) = true := by simp
        rw [hdd]
        have HB := Lib.hid (hb05.trans (hb6.mono hb05.size))
        clear hb05 hb04 hb4 hb5 hb6 hb hdd
        go_wp2
        go_roundw
        case rel => exact ⟨k + 1, by omega, by go_num, HB.out⟩
        case measure => simp [intOf]; omega
      · go_wp2_with fail
        refine (works_any _).mono ?_
        rintro e w4 ⟨rfl, hb4⟩
        go_wp2
        go_ret
        exact ⟨rfl, hbA.trans ((hb.trans (hb4.mono hb.size)).mono hbA.size)⟩

end Go.Proofs.Ytpoenjnpfodfpaa
