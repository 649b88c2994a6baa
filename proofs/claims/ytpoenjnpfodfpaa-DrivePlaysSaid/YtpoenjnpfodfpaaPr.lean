/- Walks of layer 1 (drive): the specification's Play; DrivePlays. -/
import Derived.Test.YtpoenjnpfodfpaaPl
import Derived.Test.YtpoenjnpfodfpaaDv
namespace Go.Proofs.Ytpoenjnpfodfpaa
open Go.RowKit

/-- The speeds up to tick k. -/
def spL (E : Esc) (S : Stp) (xs : List Int) (k : Nat) : List Int := (List.range k).map fun t => playM E S xs (t + 1)
theorem spL_succ (E : Esc) (S : Stp) (xs : List Int) (k : Nat) : spL E S xs (k + 1) = spL E S xs k ++ [playM E S xs (k + 1)] := by simp [spL, List.range_succ]

set_option maxRecDepth 100000 in
set_option maxHeartbeats 4000000 in
theorem rplay_any (E : Esc) (S : Stp) (v lv : Value) (xs : List Int) (w : World) (hv : BrAt w v E.bs) (hx : InAt w lv xs) :
    Calls Try.prog 24 #[escV E v, stpV S, lv] w (PlayRes E S xs w) := by
  obtain ⟨i0, hi, hz0, hz1, hz2⟩ := info_parts infoInt
  have hbA := ((Below.refl w.heap.size w).alloc (Nat.le_refl _) (Obj.cells #[.bool E.up, .int .i64 E.em, .int .i64 E.pu, .int .i64 E.dr, .int .i64 E.mo, v] 24)).alloc (by simp) (Obj.cells #[.int .i64 S.sp, .int .i64 S.lo, .int .i64 S.hi, .int .i64 S.fa] 38)
  have k1 := block_alloc (block_new w (Obj.cells #[.bool E.up, .int .i64 E.em, .int .i64 E.pu, .int .i64 E.dr, .int .i64 E.mo, v] 24) w.heap.size rfl) (Obj.cells #[.int .i64 S.sp, .int .i64 S.lo, .int .i64 S.hi, .int .i64 S.fa] 38)
  have k2 := block_new (w.alloc (Obj.cells #[.bool E.up, .int .i64 E.em, .int .i64 E.pu, .int .i64 E.dr, .int .i64 E.mo, v] 24)) (Obj.cells #[.int .i64 S.sp, .int .i64 S.lo, .int .i64 S.hi, .int .i64 S.fa] 38) (w.heap.size + 1) (by simp only [size_alloc])
  have hsz : ((w.alloc (Obj.cells #[.bool E.up, .int .i64 E.em, .int .i64 E.pu, .int .i64 E.dr, .int .i64 E.mo, v] 24)).alloc (Obj.cells #[.int .i64 S.sp, .int .i64 S.lo, .int .i64 S.hi, .int .i64 S.fa] 38)).heap.size = w.heap.size + 2 := by simp only [size_alloc]
  have hv1 := hv.below hbA (Nat.le_refl _)
  obtain ⟨a, cap, rfl, hn, hcap, hc⟩ := hv
  clear hc
  have hx1 := hx.below hbA (Nat.le_refl _)
  obtain ⟨xa, xc, rfl, xn, xm, hxc⟩ := hx
  clear hxc
  by_cases hf : checkStopM E S = 0
  · obtain ⟨hE, hS⟩ := checkStopM_num hf
    have Hf := Lib.hid hf
    clear hf
    cases hh : histB S xs
    · have Hh := Lib.hid hh
      clear hh
      go_enter Try.func24, Try.ntmps24
      go_wp2_with fail
      generalize ((w.alloc (Obj.cells #[.bool E.up, .int .i64 E.em, .int .i64 E.pu, .int .i64 E.dr, .int .i64 E.mo, .slice a E.bs.length cap] 24)).alloc (Obj.cells #[.int .i64 S.sp, .int .i64 S.lo, .int .i64 S.hi, .int .i64 S.fa] 38)) = wA at *
      have HSZ := Lib.hid hsz
      have HV := Lib.hid hv1
      have K1 := Lib.hid k1
      have K2 := Lib.hid k2
      clear hsz hv1 k1 k2
      have HX := Lib.hid hx1
      clear hx1
      refine (rcheckStop_any _ _ _ _ HV.out).mono ?_
      rintro e w1 ⟨rfl, hb1⟩
      rw [Hf.out]
      have c1 := block_cell ((hb1.block w.heap.size (by have := HSZ.out; omega)).trans K1.out)
      have c2 := block_cell ((hb1.block (w.heap.size + 1) (by have := HSZ.out; omega)).trans K2.out)
      go_wp2_with fail
      refine (history_any S _ xs _ (HX.out.below hb1 (Nat.le_refl _))).mono ?_
      rintro e w2 ⟨rfl, hb2⟩
      rw [Hh.out]
      go_wp2
      go_ret2
      refine ⟨.slice none 0 0, ?_, ?_, hbA.trans ((hb1.trans (hb2.mono hb1.size)).mono hbA.size)⟩
      · rw [playR_arg Hf.out Hh.out]; rfl
      · rw [playR_arg Hf.out Hh.out]; exact InAt.nil _
    · have Hh := Lib.hid hh
      obtain ⟨hin, hlen⟩ := histB_span hh
      have HIn := Lib.hid hin
      clear hh hin
      go_enter Try.func24, Try.ntmps24
      go_wp2_with fail
      generalize ((w.alloc (Obj.cells #[.bool E.up, .int .i64 E.em, .int .i64 E.pu, .int .i64 E.dr, .int .i64 E.mo, .slice a E.bs.length cap] 24)).alloc (Obj.cells #[.int .i64 S.sp, .int .i64 S.lo, .int .i64 S.hi, .int .i64 S.fa] 38)) = wA at *
      have HSZ := Lib.hid hsz
      have HV := Lib.hid hv1
      have K1 := Lib.hid k1
      have K2 := Lib.hid k2
      clear hsz hv1 k1 k2
      have HX := Lib.hid hx1
      clear hx1
      refine (rcheckStop_any _ _ _ _ HV.out).mono ?_
      rintro e w1 ⟨rfl, hb1⟩
      rw [Hf.out]
      have c1 := block_cell ((hb1.block w.heap.size (by have := HSZ.out; omega)).trans K1.out)
      have c2 := block_cell ((hb1.block (w.heap.size + 1) (by have := HSZ.out; omega)).trans K2.out)
      go_wp2_with fail
      refine (history_any S _ xs _ (HX.out.below hb1 (Nat.le_refl _))).mono ?_
      rintro e w2 ⟨rfl, hb2⟩
      rw [Hh.out]
      have hb12 := hb1.trans (hb2.mono hb1.size)
      clear c1 c2
      have c1 := block_cell ((hb12.block w.heap.size (by have := HSZ.out; omega)).trans K1.out)
      have c2 := block_cell ((hb12.block (w.heap.size + 1) (by have := HSZ.out; omega)).trans K2.out)
      go_wp2_with fail
      clear c1 c2
      have HB12 := Lib.hid hb12
      have hz12 : wA.heap.size ≤ w2.heap.size := hb12.size
      clear hb12 hb1 hb2
      go_loopw [9, 10, 11] (fun l s i wr => ∃ k : Nat, k ≤ xs.length ∧ i = .int .i64 k ∧ s = .int .i64 (playM E S xs k) ∧ Below w2.heap.size w2 wr ∧
        wr.ownsRow w2.heap.size 3 1 l k ((spL E S xs k).map (Value.int .i64))) (fun _ _ i _ => xs.length - (intOf i).toNat)
      case atStart => exact ⟨0, Nat.zero_le _, rfl, rfl, Below.refl _ _, rfl, .inl ⟨rfl, rfl⟩⟩
      case round =>
        obtain ⟨k, hk, rfl, rfl, hbr, hown⟩ := hrel
        have hbA' := HB12.out.trans (hbr.mono hz12)
        have hzr : w2.heap.size ≤ wr.heap.size := hbr.size
        by_cases hlt : k < xs.length
        · obtain ⟨s1, s2⟩ := HIn.out k hlt
          obtain ⟨p1, p2⟩ := play_bd hE hS HIn.out k hk
          have l0 := hS.lo0
          have l2 := hS.hi1
          obtain ⟨_, _, hx0, _, _, hxc⟩ := HX.out
          cases hx0
          obtain ⟨b, off, rfl, hbl, hxc⟩ := hxc (by omega)
          have hld := (hbA'.cell (p := ⟨b, off + k, none⟩) hbl).trans (hxc k hlt)
          have b0 := bw_cell (B := wr.heap.size) hld (by omega)
          have b1 := bw_cells (B := wr.heap.size) ((hbA'.block w.heap.size (by have := HSZ.out; omega)).trans K1.out) (by have := HSZ.out; have := hbA'.size; omega)
          have b2 := bw_cells (B := wr.heap.size) ((hbA'.block (w.heap.size + 1) (by have := HSZ.out; omega)).trans K2.out) (by have := HSZ.out; have := hbA'.size; omega)
          have c1 := block_cell ((hbA'.block w.heap.size (by have := HSZ.out; omega)).trans K1.out)
          have c2 := block_cell ((hbA'.block (w.heap.size + 1) (by have := HSZ.out; omega)).trans K2.out)
          obtain ⟨g1, g2⟩ := forceTo_bd3 hE (gripB E S k)
          have g1 : 0 ≤ gripM E S k := g1
          have g2 : gripM E S k ≤ 30000000 := g2
          have HP := Lib.hid (show nextM E (playM E S xs k) (xs.getD k 0) (gripM E S k) = playM E S xs (k + 1) from rfl)
          generalize xs.getD k 0 = ld at *
          have i1 : (0 : Int) ≤ (k : Int) := by omega
          have i2 : (k : Int) < xs.length := by omega
          obtain ⟨al, cl, hal, halb⟩ := ownsRow_shape hown
          subst hal
          clear hxc hld
          go_wp2_with fail
          clear c1 c2
          refine wp_region_below (by kernel_rfl) (by kernel_rfl) (Below.refl wr.heap.size wr) ?_
          repeat (refine wpQuiet_step (fun K hK => ?_); go_simp; first | (refine hK _ ?_; clear hK K) | (apply Exists.intro; refine ⟨fun _ => ?_, hK _ ?_⟩; (first | (go_at_call 58; exact bw_call (Nat.le_refl _) (rgrip_any E S _ k _ (HV.out.below (hbA'.trans ((BW.b _).mono hbA'.size)) (Nat.le_refl _)) hE hS.fa0 hS.fa7)) | (go_at_call 48; exact bw_call (Nat.le_refl _) (rnext_any E _ _ _ _ _ (Esc.ok_num hE) (by omega) (by omega) (by omega) (by omega) (by omega) (by omega)))); clear hK K))
          refine wpQuiet_nil ?_
          intro wq hwq0
          have hwq := bw_out hwq0
          clear hwq0
          rw [HP.out]
          have hown1 := ownsRow_below hown hwq
          have hbq := hbr.trans (hwq.mono hzr)
          have hzq : w2.heap.size ≤ wq.heap.size := hbq.size
          clear b0 b1 b2 hown
          go_wp2_with (at_builtin; refine wpList_append_own _ rfl _ _ 39 rfl w2.heap.size 3 i0 (.int .i64 0) 1 8 Try.underlying39 hi hz0 hz1 hz2 rfl (by decide) _ _ _ rfl (hown1.alloc _) ⟨wq.heap.size, 0, none⟩ 1 1 [.int .i64 (playM E S xs (k + 1))] rfl rfl ?c1 ?c2 ?c3 ?c4 ?c5 ?_)
          case c1 => exact cell_one_new _ _ _
          case c2 => intro u hu; simp only [List.mem_singleton] at hu; subst hu; rfl
          case c3 => unfold maxLen; omega
          case c4 => omega
          case c5 => rw [size_alloc]; omega
          intro v2 w3 hown2 hgrow _
          have HBZ := Lib.hid (hbq.trans (((Below.refl w2.heap.size wq).alloc hzq _).trans (below_grown hgrow halb (by rw [size_alloc]; omega))))
          have HO := Lib.hid hown2
          clear hown2 hgrow hown1
          go_wp2
          go_roundw
          case rel => exact ⟨k + 1, hlt, by go_num, rfl, HBZ.out, by rw [spL_succ, List.map_append]; exact HO.out⟩
          case measure => simp [intOf]; omega
        · have hkn' : k = xs.length := by omega
          subst hkn'
          obtain ⟨al, cl, hal, halb⟩ := ownsRow_shape hown
          subst hal
          go_wp2
          go_ret2
          refine ⟨.slice al xs.length cl, ?_, ?_, hbA.trans (hbA'.mono hbA.size)⟩
          · rw [playR_ok Hf.out Hh.out]; rfl
          · rw [playR_ok Hf.out Hh.out]; exact InAt.of_own hown
  · have Hf := Lib.hid hf
    have h0 : (checkStopM E S == 0) = false := by simpa using hf
    clear hf
    go_enter Try.func24, Try.ntmps24
    go_wp2_with fail
    generalize ((w.alloc (Obj.cells #[.bool E.up, .int .i64 E.em, .int .i64 E.pu, .int .i64 E.dr, .int .i64 E.mo, .slice a E.bs.length cap] 24)).alloc (Obj.cells #[.int .i64 S.sp, .int .i64 S.lo, .int .i64 S.hi, .int .i64 S.fa] 38)) = wA at *
    have HSZ := Lib.hid hsz
    have HV := Lib.hid hv1
    have K1 := Lib.hid k1
    have K2 := Lib.hid k2
    clear hsz hv1 k1 k2
    refine (rcheckStop_any _ _ _ _ HV.out).mono ?_
    rintro e w1 ⟨rfl, hb1⟩
    go_wp2
    go_ret2
    refine ⟨.slice none 0 0, ?_, ?_, hbA.trans (hb1.mono hbA.size)⟩
    · rw [playR_bad Hf.out]; rfl
    · rw [playR_bad Hf.out]; exact InAt.nil _

set_option maxRecDepth 100000 in
set_option maxHeartbeats 4000000 in
theorem plays_any (E : Esc) (v : Value) (S : Stp) (lv : Value) (xs : List Int) (w : World) (hv : BrAt w v E.bs) (hx : InAt w lv xs) :
    Calls Try.prog 4 #[escV E v, stpV S, lv] w fun e w' => e = .returned (.bool true) ∧ Below w.heap.size w w' := by
  have hbA := ((Below.refl w.heap.size w).alloc (Nat.le_refl _) (Obj.cells #[.bool E.up, .int .i64 E.em, .int .i64 E.pu, .int .i64 E.dr, .int .i64 E.mo, v] 24)).alloc (by simp) (Obj.cells #[.int .i64 S.sp, .int .i64 S.lo, .int .i64 S.hi, .int .i64 S.fa] 38)
  have k1 := block_alloc (block_new w (Obj.cells #[.bool E.up, .int .i64 E.em, .int .i64 E.pu, .int .i64 E.dr, .int .i64 E.mo, v] 24) w.heap.size rfl) (Obj.cells #[.int .i64 S.sp, .int .i64 S.lo, .int .i64 S.hi, .int .i64 S.fa] 38)
  have k2 := block_new (w.alloc (Obj.cells #[.bool E.up, .int .i64 E.em, .int .i64 E.pu, .int .i64 E.dr, .int .i64 E.mo, v] 24)) (Obj.cells #[.int .i64 S.sp, .int .i64 S.lo, .int .i64 S.hi, .int .i64 S.fa] 38) (w.heap.size + 1) (by simp only [size_alloc])
  have hsz : ((w.alloc (Obj.cells #[.bool E.up, .int .i64 E.em, .int .i64 E.pu, .int .i64 E.dr, .int .i64 E.mo, v] 24)).alloc (Obj.cells #[.int .i64 S.sp, .int .i64 S.lo, .int .i64 S.hi, .int .i64 S.fa] 38)).heap.size = w.heap.size + 2 := by simp only [size_alloc]
  have hv1 := hv.below hbA (Nat.le_refl _)
  obtain ⟨a, cap, rfl, hn, hcap, hc⟩ := hv
  clear hc
  have hx1 := hx.below hbA (Nat.le_refl _)
  obtain ⟨xa, xc, rfl, xn, xm, hxc⟩ := hx
  clear hxc
  obtain ⟨⟨L, F⟩, hd⟩ : ∃ D, playR E S xs = D := ⟨_, rfl⟩
  have HD := Lib.hid hd
  clear hd
  go_enter Try.func4, Try.ntmps4
  go_wp2_with fail
  generalize ((w.alloc (Obj.cells #[.bool E.up, .int .i64 E.em, .int .i64 E.pu, .int .i64 E.dr, .int .i64 E.mo, .slice a E.bs.length cap] 24)).alloc (Obj.cells #[.int .i64 S.sp, .int .i64 S.lo, .int .i64 S.hi, .int .i64 S.fa] 38)) = wA at *
  have HSZ := Lib.hid hsz
  have HV := Lib.hid hv1
  have K1 := Lib.hid k1
  have K2 := Lib.hid k2
  clear hsz hv1 k1 k2
  have HX := Lib.hid hx1
  clear hx1
  refine (far_any _ _ _ HV.out).mono ?_
  rintro e w1 ⟨rfl, hb1⟩
  have c1 := block_cell ((hb1.block w.heap.size (by have := HSZ.out; omega)).trans K1.out)
  have c2 := block_cell ((hb1.block (w.heap.size + 1) (by have := HSZ.out; omega)).trans K2.out)
  by_cases hl : 110 < xs.length
  · go_wp2_with fail
    all_goals
      refine (works_any _).mono ?_
      rintro e w2 ⟨rfl, hb2⟩
      go_wp2
      go_ret
      exact ⟨rfl, hbA.trans ((hb1.trans (hb2.mono hb1.size)).mono hbA.size)⟩
  · go_wp2_with fail
    · refine (play_any E S _ _ xs _ (HV.out.below hb1 (Nat.le_refl _)) (HX.out.below hb1 (Nat.le_refl _))).mono ?_
      rintro e w2 ⟨v2, rfl, hi2, hb2⟩
      rw [HD.out] at hi2 ⊢
      have hb12 := hb1.trans (hb2.mono hb1.size)
      have HI2 := Lib.hid hi2
      clear c1 c2 hi2
      have c1 := block_cell ((hb12.block w.heap.size (by have := HSZ.out; omega)).trans K1.out)
      have c2 := block_cell ((hb12.block (w.heap.size + 1) (by have := HSZ.out; omega)).trans K2.out)
      go_wp2_with fail
      refine (rplay_any E S _ _ xs _ (HV.out.below hb12 (Nat.le_refl _)) (HX.out.below hb12 (Nat.le_refl _))).mono ?_
      rintro e w3 ⟨v3, rfl, hi3, hb3⟩
      rw [HD.out] at hi3 ⊢
      have hb13 := hb12.trans (hb3.mono hb12.size)
      have HI3 := Lib.hid hi3
      clear c1 c2 hi3
      go_wp2_with fail
      refine (sameInts_any _ _ L L _ (HI2.out.below hb3 (Nat.le_refl _)) HI3.out).mono ?_
      rintro e w4 ⟨rfl, hb4⟩
      have hdd : decide (L = L) = true := by simp
      rw [hdd]
      have hb14 := hb13.trans (hb4.mono hb13.size)
      go_wp2_with fail
      refine (works_any _).mono ?_
      rintro e w5 ⟨rfl, hb5⟩
      go_wp2
      go_ret
      exact ⟨rfl, hbA.trans ((hb14.trans (hb5.mono hb14.size)).mono hbA.size)⟩
    · refine (works_any _).mono ?_
      rintro e w2 ⟨rfl, hb2⟩
      go_wp2
      go_ret
      exact ⟨rfl, hbA.trans ((hb1.trans (hb2.mono hb1.size)).mono hbA.size)⟩

end Go.Proofs.Ytpoenjnpfodfpaa
