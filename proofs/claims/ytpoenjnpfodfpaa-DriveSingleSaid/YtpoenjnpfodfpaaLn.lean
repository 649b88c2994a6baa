/- DriveNoBack, the walk. -/
import Derived.Test.YtpoenjnpfodfpaaHs
import Derived.Test.YtpoenjnpfodfpaaLf
import Derived.Test.YtpoenjnpfodfpaaFe
import Derived.BigGuardPart
namespace Go.Proofs.Ytpoenjnpfodfpaa
open Go.RowKit

theorem far_or' (E : Esc) : decide (10 < E.bs.length) = true ∨ decide (10 < E.bs.length) = false := by
  cases decide (10 < E.bs.length) <;> simp

theorem speeds_cell {E : Esc} {S : Stp} {xs : List Int} {w : World} {a : Option Addr} {n c : Nat} (h : InAt w (.slice a n c) (speedsL E S xs)) {k : Nat} (hk : k < xs.length) : ∃ b off, a = some ⟨b, off, none⟩ ∧ w.cell? ⟨b, off + k, none⟩ = some (.int .i64 (playM E S xs (k + 1))) := by
  obtain ⟨a', c', e, _, _, hc⟩ := h
  injection e with e1 e2 e3
  subst e1
  rw [speedsL_len] at hc
  obtain ⟨b, off, rfl, _, hc⟩ := hc (by omega)
  have := hc k hk
  rw [speedsL_at E S xs hk] at this
  exact ⟨b, off, rfl, this⟩

theorem bits_fail1 {fa : Int} {k : Nat} (hk : k ≤ 2) (h0 : 0 ≤ fa) (h7 : fa ≤ 7) : (bits BinOp.and IntKind.i64 (fa / 2 ^ k) 1 == 1) = failB fa k := bits_fail hk h0 h7

set_option maxRecDepth 100000 in
set_option maxHeartbeats 8000000 in
theorem noback_main (E : Esc) (v : Value) (S : Stp) (lv : Value) (xs : List Int) (w : World) (hv : BrAt w v E.bs) (hx : InAt w lv xs) (hf : checkStopM E S = 0) (hh : histB S xs = true) :
    Calls Try.prog 10 #[escV E v, stpV S, lv] w fun e w' => e = .returned (.bool true) ∧ Below w.heap.size w w' := by
  have hbA := ((Below.refl w.heap.size w).alloc (Nat.le_refl _) (Obj.cells #[.bool E.up, .int .i64 E.em, .int .i64 E.pu, .int .i64 E.dr, .int .i64 E.mo, v] 24)).alloc (by simp) (Obj.cells #[.int .i64 S.sp, .int .i64 S.lo, .int .i64 S.hi, .int .i64 S.fa] 38)
  have k1 := block_alloc (block_new w (Obj.cells #[.bool E.up, .int .i64 E.em, .int .i64 E.pu, .int .i64 E.dr, .int .i64 E.mo, v] 24) w.heap.size rfl) (Obj.cells #[.int .i64 S.sp, .int .i64 S.lo, .int .i64 S.hi, .int .i64 S.fa] 38)
  have k2 := block_new (w.alloc (Obj.cells #[.bool E.up, .int .i64 E.em, .int .i64 E.pu, .int .i64 E.dr, .int .i64 E.mo, v] 24)) (Obj.cells #[.int .i64 S.sp, .int .i64 S.lo, .int .i64 S.hi, .int .i64 S.fa] 38) (w.heap.size + 1) (by simp only [size_alloc])
  have hsz : ((w.alloc (Obj.cells #[.bool E.up, .int .i64 E.em, .int .i64 E.pu, .int .i64 E.dr, .int .i64 E.mo, v] 24)).alloc (Obj.cells #[.int .i64 S.sp, .int .i64 S.lo, .int .i64 S.hi, .int .i64 S.fa] 38)).heap.size = w.heap.size + 2 := by simp only [size_alloc]
  have hv1 := hv.below hbA (Nat.le_refl _)
  obtain ⟨a, cap, rfl, hn, hcap, hc⟩ := hv
  clear hc
  have hx1 := hx.below hbA (Nat.le_refl _)
  obtain ⟨xa, xc, rfl, xn, xm, hxc⟩ := hx
  clear hxc
  obtain ⟨hE, hS⟩ := checkStopM_num hf
  obtain ⟨hin, hlen⟩ := histB_span hh
  have hli : (xs.length : Int) ≤ 100 := by omega
  have hl3 := Esc.ok_len hE
  have Hfar := Lib.hid (far_no hf)
  have Hf := Lib.hid hf
  have Hh := Lib.hid hh
  have HIn := Lib.hid hin
  have HP := Lib.hid (playR_ok hf hh)
  have HBk := Lib.hid (back_f hf)
  have HHo := Lib.hid (holds_f hf)
  have HLe := Lib.hid (behind_le hE hS hin hlen)
  have HOB := Lib.hid (fun h => @once_back E S hE hS hf h)
  have HOP := Lib.hid (fun h t ht hz => @once_play E S xs hE hS hin h t ht hz)
  have HOS := Lib.hid (show ∀ k, onceTo E S (k + 1) = (onceTo E S k && ((E.bs.getD k (0, 0)).2 == 0 || failB S.fa k)) from fun k => rfl)
  have f0 := hS.fa0
  have f7 := hS.fa7
  clear hf hh hin
  go_enter Try.func10, Try.ntmps10
  go_wp2_with fail
  generalize ((w.alloc (Obj.cells #[.bool E.up, .int .i64 E.em, .int .i64 E.pu, .int .i64 E.dr, .int .i64 E.mo, .slice a E.bs.length cap] 24)).alloc (Obj.cells #[.int .i64 S.sp, .int .i64 S.lo, .int .i64 S.hi, .int .i64 S.fa] 38)) = wA at *
  have HSZ := Lib.hid hsz
  have HV := Lib.hid hv1
  have K1 := Lib.hid k1
  have K2 := Lib.hid k2
  clear hsz hv1 k1 k2
  have HX := Lib.hid hx1
  clear hx1
  refine (far_any _ _ _ HV.out).mono ?_
  rintro e w1 ⟨rfl, hb1⟩
  rw [Hfar.out]
  have c1 := block_cell ((hb1.block w.heap.size (by have := HSZ.out; omega)).trans K1.out)
  have c2 := block_cell ((hb1.block (w.heap.size + 1) (by have := HSZ.out; omega)).trans K2.out)
  go_wp2_with fail
  refine (rcheckStop_any E S _ _ (HV.out.below hb1 (Nat.le_refl _))).mono ?_
  rintro e w2 ⟨rfl, hb2⟩
  rw [Hf.out]
  have hb12 := hb1.trans (hb2.mono hb1.size)
  clear c1 c2
  have c1 := block_cell ((hb12.block w.heap.size (by have := HSZ.out; omega)).trans K1.out)
  have c2 := block_cell ((hb12.block (w.heap.size + 1) (by have := HSZ.out; omega)).trans K2.out)
  go_wp2_with fail
  refine (history_any S _ xs _ (HX.out.below hb12 (Nat.le_refl _))).mono ?_
  rintro e w3 ⟨rfl, hb3⟩
  rw [Hh.out]
  have hb13 := hb12.trans (hb3.mono hb12.size)
  clear c1 c2
  have c1 := block_cell ((hb13.block w.heap.size (by have := HSZ.out; omega)).trans K1.out)
  have c2 := block_cell ((hb13.block (w.heap.size + 1) (by have := HSZ.out; omega)).trans K2.out)
  go_wp2_with fail
  refine (play_any E S _ _ xs _ (HV.out.below hb13 (Nat.le_refl _)) (HX.out.below hb13 (Nat.le_refl _))).mono ?_
  rintro e w5 ⟨v5, rfl, hi5, hb5⟩
  rw [HP.out] at hi5 ⊢
  have hb15 := hb13.trans (hb5.mono hb13.size)
  have HI5 := Lib.hid hi5
  obtain ⟨a5, c5, rfl, n5, m5, _⟩ := hi5
  rw [speedsL_len] at *
  clear c1 c2
  have c1 := block_cell ((hb15.block w.heap.size (by have := HSZ.out; omega)).trans K1.out)
  have c2 := block_cell ((hb15.block (w.heap.size + 1) (by have := HSZ.out; omega)).trans K2.out)
  go_wp2_with fail
  refine (back_any E S _ _ (HV.out.below hb15 (Nat.le_refl _))).mono ?_
  rintro e w6 ⟨rfl, hb6⟩
  rw [HBk.out]
  have hb16 := hb15.trans (hb6.mono hb15.size)
  clear c1 c2
  have c1 := block_cell ((hb16.block w.heap.size (by have := HSZ.out; omega)).trans K1.out)
  have c2 := block_cell ((hb16.block (w.heap.size + 1) (by have := HSZ.out; omega)).trans K2.out)
  obtain ⟨⟨B, G⟩, hbg⟩ : ∃ D, (if 0 ≤ pathM E S false 100 then (⟨backTo E S 100, 0⟩ : Pair) else ⟨0, 12⟩) = D := ⟨_, rfl⟩
  rw [hbg]
  have hG : (G = 0 ∧ behG (playM E S xs) xs.length ≤ B) ∨ G = 12 := by
    by_cases hp : 0 ≤ pathM E S false 100
    · rw [if_pos hp] at hbg; cases hbg; exact .inl ⟨rfl, HLe.out⟩
    · rw [if_neg hp] at hbg; cases hbg; exact .inr rfl
  have HBG : Hid (backM E S = ⟨B, G⟩) := HBk.out.trans hbg
  have HG := Lib.hid hG
  clear hbg hG
  go_wp2_with fail
  refine (holdsR_any E S _ _ (HV.out.below hb16 (Nat.le_refl _))).mono ?_
  rintro e w7 ⟨rfl, hb7⟩
  rw [HHo.out]
  have hb17 := hb16.trans (hb7.mono hb16.size)
  clear c1 c2
  have c1 := block_cell ((hb17.block w.heap.size (by have := HSZ.out; omega)).trans K1.out)
  have c2 := block_cell ((hb17.block (w.heap.size + 1) (by have := HSZ.out; omega)).trans K2.out)
  have hxx : ((xs.length : Int) != (xs.length : Int)) = false := by simp
  have HI7 := Lib.hid (HI5.out.below (hb6.trans (hb7.mono hb6.size)) (Nat.le_refl _))
  have HW0 := Lib.hid (show holdsM E S = onceTo E S 0 from rfl)
  rw [HW0.out]
  clear hb1 hb2 hb12 hb3 hb13 hb5 hb15 hb6 hb16 hb7
  rcases HG.out with ⟨rfl, hG⟩ | rfl
  all_goals
    go_wp2_with (first | (go_at_call 43; refine (behind_play hE hS _ xs _ HIn.out hlen HI7.out).mono ?_; rintro e w8 ⟨rfl, rfl⟩) | fail)
    clear c1 c2 hxx
    have HB17 := Lib.hid hb17
    clear hb17
    go_loop [13, 14] (fun o i => ∃ k : Nat, k ≤ E.bs.length ∧ i = .int .i64 k ∧ o = .bool (onceTo E S k)) (fun _ i => E.bs.length - (intOf i).toNat)
    case atStart => exact ⟨0, Nat.zero_le _, rfl, rfl⟩
    case round =>
      obtain ⟨k, hk, rfl, rfl⟩ := hrel
      have c1 := block_cell ((HB17.out.block w.heap.size (by have := HSZ.out; omega)).trans K1.out)
      have c2 := block_cell ((HB17.out.block (w.heap.size + 1) (by have := HSZ.out; omega)).trans K2.out)
      by_cases hlt : k < E.bs.length
      · have HK := Lib.hid (HOS.out k)
        obtain ⟨_, _, hx0, _, _, hxc⟩ := HV.out
        cases hx0
        obtain ⟨b, off, rfl, hbl, hxc⟩ := hxc (by omega)
        have g2 := (HB17.out.cell (p := ⟨b, off + k * 2 + 1, none⟩) hbl).trans (hxc k hlt).2
        have hfb := bits_fail1 (fa := S.fa) (k := k) (by omega) f0 f7
        clear hxc
        generalize hq0 : E.bs.getD k (0, 0) = q at *
        obtain ⟨f, d⟩ := q
        dsimp only at *
        cases ho : onceTo E S k
        · rw [ho] at HK
          clear ho
          go_wp2
          go_round
          case rel => exact ⟨k + 1, hlt, by go_num, by rw [HK.out]; rfl⟩
          case measure => simp [intOf]; omega
        · rw [ho] at HK
          clear ho
          cases hd : (d == 0)
          · rw [hd] at HK
            cases hff : failB S.fa k
            all_goals
              rw [hff] at HK hfb
              clear hff
              go_wp2
              go_round
              case rel => exact ⟨k + 1, hlt, by go_num, by rw [HK.out]; rfl⟩
              case measure => simp [intOf]; omega
          · rw [hd] at HK
            go_wp2
            go_round
            case rel => exact ⟨k + 1, hlt, by go_num, by rw [HK.out]; rfl⟩
            case measure => simp [intOf]; omega
      · have hkn : k = E.bs.length := by omega
        subst hkn
        cases ho : onceTo E S E.bs.length
        · clear ho
          go_wp2_with fail
          refine (works_any _).mono ?_
          rintro e w9 ⟨rfl, hb9⟩
          go_wp2
          go_ret
          exact ⟨rfl, hbA.trans ((HB17.out.trans (hb9.mono HB17.out.size)).mono hbA.size)⟩
        · have HO := Lib.hid ho
          have hb0 := HBG.out.symm.trans (HOB.out ho)
          clear ho
          first
            | (exfalso; cases hb0; done)
            | (cases hb0
               have HR0 := Lib.hid (show S.sp = playM E S xs 0 from rfl)
               have HR1 := Lib.hid (show (S.sp == 0) = (playM E S xs 0 == 0) from rfl)
               go_wp2_with fail
               rw [HR1.out]
               clear c1 c2
               go_loop [15, 16] (fun o i => ∃ k : Nat, k ≤ xs.length ∧ i = .int .i64 k ∧ o = .bool (playM E S xs k == 0)) (fun _ i => xs.length - (intOf i).toNat)
               case atStart => exact ⟨0, Nat.zero_le _, rfl, rfl⟩
               case round =>
                 obtain ⟨k, hk, rfl, rfl⟩ := hrel
                 by_cases hlt : k < xs.length
                 · obtain ⟨b, off, rfl, g2⟩ := speeds_cell HI7.out hlt
                   have HZ := Lib.hid (HOP.out HO.out k hlt)
                   generalize hq1 : playM E S xs (k + 1) = q1 at *
                   have HQ1 := Lib.hid hq1
                   clear hq1
                   cases hz : (playM E S xs k == 0)
                   · clear hz
                     go_wp2
                     go_round
                     case rel => exact ⟨k + 1, hlt, by go_num, by rw [HQ1.out]⟩
                     case measure => simp [intOf]; omega
                   · have hz1 : q1 = 0 := HZ.out (by simpa using hz)
                     subst hz1
                     clear hz
                     go_wp2
                     go_round
                     case rel => exact ⟨k + 1, hlt, by go_num, by rw [HQ1.out]; rfl⟩
                     case measure => simp [intOf]; omega
                 · go_wp2_with fail
                   refine (works_any _).mono ?_
                   rintro e w9 ⟨rfl, hb9⟩
                   go_wp2
                   go_ret
                   exact ⟨rfl, hbA.trans ((HB17.out.trans (hb9.mono HB17.out.size)).mono hbA.size)⟩)

end Go.Proofs.Ytpoenjnpfodfpaa
