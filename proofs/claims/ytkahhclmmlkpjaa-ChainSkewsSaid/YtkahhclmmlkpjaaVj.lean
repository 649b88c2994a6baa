/- Walks of layer 2 (chain): Skew of the specification. -/
import Derived.Test.YtkahhclmmlkpjaaVi
import Derived.Test.YtkahhclmmlkpjaaVf
namespace Go.Proofs.Ytkahhclmmlkpjaa
open Go.RowKit

set_option maxRecDepth 100000 in
set_option maxHeartbeats 8000000 in
theorem rSkew_any (c : Chn) (k : List Gau) (d : Chn) (l : List Gau) (v u : Value) (e : Int) (w : World) (hv : GaAt w v k) (hu : GaAt w u l) :
    Calls Try.prog 37 #[chnV c, v, chnV d, u, .int .i64 e] w fun e' w' => e' = .returned (lonV (skwM c k d l e)) ∧ Below w.heap.size w w' := by
  have hb0 := ((Below.refl w.heap.size w).alloc (Nat.le_refl _) (Obj.cells #[.int .i64 c.n, .int .i64 c.pi, .int .i64 c.li] 23)).alloc (by simp only [size_alloc]; omega) (Obj.cells #[.int .i64 d.n, .int .i64 d.pi, .int .i64 d.li] 23)
  have k0 := block_alloc (block_new w (Obj.cells #[.int .i64 c.n, .int .i64 c.pi, .int .i64 c.li] 23) w.heap.size rfl) (Obj.cells #[.int .i64 d.n, .int .i64 d.pi, .int .i64 d.li] 23)
  have k1 := block_new (w.alloc (Obj.cells #[.int .i64 c.n, .int .i64 c.pi, .int .i64 c.li] 23)) (Obj.cells #[.int .i64 d.n, .int .i64 d.pi, .int .i64 d.li] 23) (w.heap.size + 1) (by simp only [size_alloc])
  have HV := Lib.hid (hv.below hb0 (Nat.le_refl _))
  have HU := Lib.hid (hu.below hb0 (Nat.le_refl _))
  obtain ⟨va, cap, rfl, hn1, hcap, hc⟩ := hv
  obtain ⟨ua, ucap, rfl, hn2, hucap, huc⟩ := hu
  have HB := Lib.hid hb0
  have K0 := Lib.hid k0
  have K1 := Lib.hid k1
  clear hc huc hb0 k0 k1
  go_enter Try.func37, Try.ntmps37
  go_wp2_with fail
  generalize (w.alloc (Obj.cells #[.int .i64 c.n, .int .i64 c.pi, .int .i64 c.li] 23)).alloc (Obj.cells #[.int .i64 d.n, .int .i64 d.pi, .int .i64 d.li] 23) = wA at *
  have c0 := block_cell K0.out
  have c1 := block_cell K1.out
  have z0 := lt_of_block K0.out
  have z1 := lt_of_block K1.out
  go_wp2_with fail
  refine (rcheck_any c k _ _ HV.out).mono ?_
  rintro e' w1 ⟨rfl, hb1⟩
  have HN0 := Lib.hid (Below.refl wA.heap.size wA)
  have HN1 := Lib.hid (HN0.out.trans (hb1.mono HN0.out.size))
  clear hb1 c0 c1 z0 z1
  have c0 := block_cell ((HN1.out.block _ (lt_of_block K0.out)).trans K0.out)
  have c1 := block_cell ((HN1.out.block _ (lt_of_block K1.out)).trans K1.out)
  have z0 := Nat.lt_of_lt_of_le (lt_of_block K0.out) HN1.out.size
  have z1 := Nat.lt_of_lt_of_le (lt_of_block K1.out) HN1.out.size
  by_cases hq : chkM c k = 0
  · have HQ := Lib.hid hq
    obtain ⟨hck1, hck2, hck3⟩ := chk_goks hq
    have n24 := hck1.n2
    have n1 := hck1.n1
    have HC1 := Lib.hid hck1
    have HC2 := Lib.hid hck2
    have hk100 : k.length ≤ 100 := by omega
    clear hck1 hck2 hck3 hq
    rw [HQ.out]
    go_wp2_with fail
    refine (rcheck_any d l _ _ (HU.out.below HN1.out (Nat.le_refl _))).mono ?_
    rintro e' w2 ⟨rfl, hb2⟩
    have HN2 := Lib.hid (HN1.out.trans (hb2.mono HN1.out.size))
    clear hb2 c0 c1 z0 z1
    have c0 := block_cell ((HN2.out.block _ (lt_of_block K0.out)).trans K0.out)
    have c1 := block_cell ((HN2.out.block _ (lt_of_block K1.out)).trans K1.out)
    have z0 := Nat.lt_of_lt_of_le (lt_of_block K0.out) HN2.out.size
    have z1 := Nat.lt_of_lt_of_le (lt_of_block K1.out) HN2.out.size
    by_cases hq : chkM d l = 0
    · have HQ2 := Lib.hid hq
      obtain ⟨hck1, hck2, hck3⟩ := chk_goks hq
      have HD1 := Lib.hid hck1
      have HD2 := Lib.hid hck2
      have hl100 : l.length ≤ 100 := by omega
      clear hck1 hck2 hck3 hq
      rw [HQ2.out]
      by_cases hnn : c.n = d.n
      · have hnd : (c.n != d.n) = false := by simp; omega
        have hle1 : c.n ≤ d.n := by omega
        have hle2 : d.n ≤ c.n := by omega
        have HNN0 := Lib.hid hnn
        clear hnn
        cases hm : decide (1 ≤ e ∧ e ≤ c.n)
        · have HR := Lib.hid (skw_arg (e := e) HQ.out HQ2.out (fun h => of_decide_eq_false hm h.2))
          go_wp2_with (go_at_call 65; refine (rfrom_is false e 1 c.n _ hm).mono ?_; rintro e' w' ⟨rfl, rfl⟩)
          refine bodyPost_ret (v := lonV ⟨0, 0, 1⟩) (by simp [results, Try.results37, go_sem]) rfl ⟨by rw [HR.out], HB.out.trans (HN2.out.mono HB.out.size)⟩
        · have hm2 := of_decide_eq_true hm
          obtain ⟨e, rfl⟩ : ∃ m : Nat, e = m := ⟨e.toNat, by omega⟩
          have HM2 := Lib.hid (show c.n = d.n ∧ 1 ≤ (e : Int) ∧ (e : Int) ≤ c.n from ⟨HNN0.out, hm2.1, hm2.2⟩)
          have hm0 := hm2.1
          have hm1 := hm2.2
          clear hm2
          go_wp2_with (go_at_call 65; refine (rfrom_is true e 1 c.n _ hm).mono ?_; rintro e' w' ⟨rfl, rfl⟩)
          refine (rbuildC_any c k _ _ (HV.out.below HN2.out (Nat.le_refl _)) HC1.out HC2.out hk100).mono ?_
          rintro e' w3 ⟨hd, cp, G, C, M, rfl, hb3, hN, hM⟩
          have HN := Lib.hid hN
          have HM := Lib.hid hM
          have HB3 := Lib.hid hb3
          clear hN hM
          have HN3 := Lib.hid (HN2.out.trans (hb3.mono HN2.out.size))
          clear hb3 c0 c1 z0 z1
          have c0 := block_cell ((HN3.out.block _ (lt_of_block K0.out)).trans K0.out)
          have c1 := block_cell ((HN3.out.block _ (lt_of_block K1.out)).trans K1.out)
          have z0 := Nat.lt_of_lt_of_le (lt_of_block K0.out) HN3.out.size
          have z1 := Nat.lt_of_lt_of_le (lt_of_block K1.out) HN3.out.size
          go_wp2_with fail
          refine (rbuildC_any d l _ _ (HU.out.below HN3.out (Nat.le_refl _)) HD1.out HD2.out hl100).mono ?_
          rintro e' w4 ⟨hd', cp', G', C', N, rfl, hb4, hN, hM⟩
          have HNN := Lib.hid hN
          have HNM := Lib.hid hM
          have HN := Lib.hid (HN.out.below hb4)
          clear hN hM HB3
          have HN4 := Lib.hid (HN3.out.trans (hb4.mono HN3.out.size))
          clear hb4 c0 c1 z0 z1
          have c0 := block_cell ((HN4.out.block _ (lt_of_block K0.out)).trans K0.out)
          have c1 := block_cell ((HN4.out.block _ (lt_of_block K1.out)).trans K1.out)
          have z0 := Nat.lt_of_lt_of_le (lt_of_block K0.out) HN4.out.size
          have z1 := Nat.lt_of_lt_of_le (lt_of_block K1.out) HN4.out.size
          have hdn : d.n.toNat = c.n.toNat := by omega
          rw [hdn] at HNN HNM
          rw [hdn]
          clear hdn
          cases hag : agreeB c k
          · have HR := Lib.hid (skw_none (e := (e : Int)) HQ.out HQ2.out HM2.out (by rw [hag]; rintro ⟨h, _⟩; cases h))
            go_wp2
            refine bodyPost_ret (v := lonV ⟨0, 0, 3⟩) (by simp [results, Try.results37, go_sem]) rfl ⟨by rw [HR.out], HB.out.trans (HN4.out.mono HB.out.size)⟩
          · cases hag2 : agreeB d l
            · have HR := Lib.hid (skw_none (e := (e : Int)) HQ.out HQ2.out HM2.out (by rw [hag2]; rintro ⟨_, h⟩; cases h))
              go_wp2
              refine bodyPost_ret (v := lonV ⟨0, 0, 3⟩) (by simp [results, Try.results37, go_sem]) rfl ⟨by rw [HR.out], HB.out.trans (HN4.out.mono HB.out.size)⟩
            · have HR := Lib.hid (fun (j : Nat) => skw_ok (c := c) (k := k) (d := d) (l := l) (e := e) (j := j) HQ.out HQ2.out HM2.out ⟨hag, hag2⟩)
              have HH := Lib.hid (fun j (hj : e * (j + 1) ≤ c.n.toNat) => show skwD c k d l e j = max (M 0 (e * (j + 1)) + N (e * (j + 1)) 0) (N 0 (e * (j + 1)) + M (e * (j + 1)) 0) by
                unfold skwD
                rw [HM.out hag 0 _ (by omega) hj, HM.out hag _ 0 hj (by omega), HNM.out hag2 0 _ (by omega) hj, HNM.out hag2 _ 0 hj (by omega)])
              have HS := Lib.hid (fun i q (hi : i ≤ c.n.toNat) (hq : q ≤ c.n.toNat) => show -335544320000000 ≤ M i q ∧ M i q ≤ 1099511627776 by rw [HM.out hag i q hi hq]; exact RM_small HC1.out HC2.out hi hq)
              have HT := Lib.hid (fun i q (hi : i ≤ c.n.toNat) (hq : q ≤ c.n.toNat) => show -335544320000000 ≤ N i q ∧ N i q ≤ 1099511627776 by rw [HNM.out hag2 i q hi hq]; exact RM_small HD1.out HD2.out (by omega) (by omega))
              clear hag hag2
              generalize skwD c k d l e = D at *
              go_wp2_with fail
              go_loopw [18, 19, 20] (fun a x i wr => ∃ j : Nat, e * j ≤ c.n.toNat ∧ i = .int .i64 ((e * (j + 1) : Nat) : Int) ∧ a = .int .i64 (skwTo D e j).1 ∧ x = .int .i64 (skwTo D e j).2 ∧ Hid (Below w4.heap.size w4 wr)) (fun _ _ i _ => c.n.toNat + e + 1 - (intOf i).toNat)
              case atStart => exact ⟨0, by omega, by simp, rfl, rfl, Below.refl _ _⟩
              case round =>
                obtain ⟨j, hj, rfl, rfl, rfl, hb⟩ := hrel
                have HNB := Lib.hid (HN4.out.trans (hb.out.mono HN4.out.size))
                clear c0 c1 z0 z1
                have c0 := block_cell ((HNB.out.block _ (lt_of_block K0.out)).trans K0.out)
                have z0 := Nat.lt_of_lt_of_le (lt_of_block K0.out) HNB.out.size
                by_cases hlt : e * (j + 1) ≤ c.n.toNat
                · have HX := Lib.hid (HH.out j hlt)
                  have HNX := Lib.hid (show e * (j + 1 + 1) = e * (j + 1) + e by rw [Nat.mul_add e (j + 1) 1, Nat.mul_one])
                  have HJ := Lib.hid (fun h => skw_more (D := D) (e := e) (j := j) h)
                  have HI := Lib.hid (fun h => skw_same (D := D) (e := e) (j := j) h)
                  generalize hqq : e * (j + 1) = q at *
                  have s1 := HS.out 0 q (by omega) hlt
                  have s2 := HS.out q 0 hlt (by omega)
                  have s3 := HT.out 0 q (by omega) hlt
                  have s4 := HT.out q 0 hlt (by omega)
                  go_wp2_with fail
                  refine (nrun1 M c.n.toNat hd cp G C 0 q _ _ (HN.out.below hb.out) rfl (by omega) (by omega) (by omega) (by omega) (by omega)).mono ?_
                  rintro e' w5 ⟨rfl, hb5⟩
                  have hb6 := hb.out.trans (hb5.mono hb.out.size)
                  clear hb5
                  go_wp2_with fail
                  refine (nrun1 N c.n.toNat hd' cp' G' C' 0 q _ _ (HNN.out.below hb6) rfl (by omega) (by omega) (by omega) (by omega) (by omega)).mono ?_
                  rintro e' w6 ⟨rfl, hb7⟩
                  have hb8 := hb6.trans (hb7.mono hb6.size)
                  have HB8 := Lib.hid hb8
                  have HNC := Lib.hid (HN4.out.trans (hb8.mono HN4.out.size))
                  clear hb6 hb7 hb8 c0 z0
                  have c0 := block_cell ((HNC.out.block _ (lt_of_block K0.out)).trans K0.out)
                  have z0 := Nat.lt_of_lt_of_le (lt_of_block K0.out) HNC.out.size
                  obtain ⟨X1, hX1⟩ : ∃ x, M 0 q = x := ⟨_, rfl⟩
                  obtain ⟨X2, hX2⟩ : ∃ x, M q 0 = x := ⟨_, rfl⟩
                  obtain ⟨Y1, hY1⟩ : ∃ x, N 0 q = x := ⟨_, rfl⟩
                  obtain ⟨Y2, hY2⟩ : ∃ x, N q 0 = x := ⟨_, rfl⟩
                  have hd0 := HX.out
                  rw [hX1, hX2, hY1, hY2] at hd0
                  rw [hX1] at s1
                  rw [hX2] at s2
                  rw [hY1] at s3
                  rw [hY2] at s4
                  rw [hX1, hX2, hY1, hY2]
                  obtain ⟨X3, hX3⟩ : ∃ x, -X2 = x := ⟨_, rfl⟩
                  obtain ⟨Y3, hY3⟩ : ∃ x, -Y2 = x := ⟨_, rfl⟩
                  rw [hX3, hY3]
                  have t2 : -1099511627776 ≤ X3 ∧ X3 ≤ 335544320000000 := by omega
                  have t4 : -1099511627776 ≤ Y3 ∧ Y3 ≤ 335544320000000 := by omega
                  have HDV := Lib.hid (show D j = max (X1 - Y3) (Y1 - X3) by omega)
                  clear hX1 hX2 hY1 hY2 hd0 HX hX3 hY3 s2 s4
                  by_cases hge : X1 - Y3 < Y1 - X3
                  · have HDD := Lib.hid (show D j = Y1 - X3 by rw [HDV.out]; omega)
                    by_cases hgt : (skwTo D e j).2 < Y1 - X3
                    · have HL := Lib.hid (HJ.out (by rw [HDD.out]; exact hgt))
                      generalize skwTo D e j = r at *
                      go_wp2_with fail
                      go_roundw
                      case rel => exact ⟨j + 1, by omega, by rw [HNX.out]; go_num, by rw [HL.out], by rw [HL.out, HDD.out], (by refine Lib.hid ?_; repeat' (first | (with_reducible exact HB8.out) | (with_reducible refine Below.drew ?_) | (with_reducible refine Below.setCell ?_ ?_ _) | (with_reducible refine Below.alloc ?_ ?_ _) | exact HB8.out.size | exact Nat.le_trans HB8.out.size (le_alloc _ _) | exact Nat.le_succ_of_le HB8.out.size | (simp only [size_alloc]; have := HB8.out.size; omega)))⟩
                      case measure => simp [intOf]; omega
                    · have HL := Lib.hid (HI.out (by have e := HDD.out; omega))
                      generalize skwTo D e j = r at *
                      go_wp2_with fail
                      go_roundw
                      case rel => exact ⟨j + 1, by omega, by rw [HNX.out]; go_num, by rw [HL.out], by rw [HL.out], (by refine Lib.hid ?_; repeat' (first | (with_reducible exact HB8.out) | (with_reducible refine Below.drew ?_) | (with_reducible refine Below.setCell ?_ ?_ _) | (with_reducible refine Below.alloc ?_ ?_ _) | exact HB8.out.size | exact Nat.le_trans HB8.out.size (le_alloc _ _) | exact Nat.le_succ_of_le HB8.out.size | (simp only [size_alloc]; have := HB8.out.size; omega)))⟩
                      case measure => simp [intOf]; omega
                  · have HDD := Lib.hid (show D j = X1 - Y3 by rw [HDV.out]; omega)
                    by_cases hgt : (skwTo D e j).2 < X1 - Y3
                    · have HL := Lib.hid (HJ.out (by rw [HDD.out]; exact hgt))
                      generalize skwTo D e j = r at *
                      go_wp2_with fail
                      go_roundw
                      case rel => exact ⟨j + 1, by omega, by rw [HNX.out]; go_num, by rw [HL.out], by rw [HL.out, HDD.out], (by refine Lib.hid ?_; repeat' (first | (with_reducible exact HB8.out) | (with_reducible refine Below.drew ?_) | (with_reducible refine Below.setCell ?_ ?_ _) | (with_reducible refine Below.alloc ?_ ?_ _) | exact HB8.out.size | exact Nat.le_trans HB8.out.size (le_alloc _ _) | exact Nat.le_succ_of_le HB8.out.size | (simp only [size_alloc]; have := HB8.out.size; omega)))⟩
                      case measure => simp [intOf]; omega
                    · have HL := Lib.hid (HI.out (by have e := HDD.out; omega))
                      generalize skwTo D e j = r at *
                      go_wp2_with fail
                      go_roundw
                      case rel => exact ⟨j + 1, by omega, by rw [HNX.out]; go_num, by rw [HL.out], by rw [HL.out], (by refine Lib.hid ?_; repeat' (first | (with_reducible exact HB8.out) | (with_reducible refine Below.drew ?_) | (with_reducible refine Below.setCell ?_ ?_ _) | (with_reducible refine Below.alloc ?_ ?_ _) | exact HB8.out.size | exact Nat.le_trans HB8.out.size (le_alloc _ _) | exact Nat.le_succ_of_le HB8.out.size | (simp only [size_alloc]; have := HB8.out.size; omega)))⟩
                      case measure => simp [intOf]; omega
                · have hr := HR.out j hj (by omega)
                  have HR := Lib.hid hr
                  clear hr
                  generalize skwTo D e j = r at *
                  generalize e * (j + 1) = q at *
                  go_wp2
                  refine bodyPost_ret (v := lonV ⟨r.1, r.2, 0⟩) (by simp [results, Try.results37, go_sem]) rfl ⟨by rw [HR.out], HB.out.trans (HNB.out.mono HB.out.size)⟩
      · have hnd : (c.n != d.n) = true := by simp; omega
        have HR := Lib.hid (skw_arg (e := e) HQ.out HQ2.out (fun h => hnn h.1))
        clear hnn
        go_wp2
        refine bodyPost_ret (v := lonV ⟨0, 0, 1⟩) (by simp [results, Try.results37, go_sem]) rfl ⟨by rw [HR.out], HB.out.trans (HN2.out.mono HB.out.size)⟩
    · have HR := Lib.hid (skw_bad2 (e := e) HQ.out hq)
      generalize chkM d l = q at *
      go_wp2
      refine bodyPost_ret (v := lonV ⟨0, 0, q⟩) (by simp [results, Try.results37, go_sem]) rfl ⟨by rw [HR.out], HB.out.trans (HN2.out.mono HB.out.size)⟩
  · have HR := Lib.hid (skw_bad1 (d := d) (l := l) (e := e) hq)
    generalize chkM c k = q at *
    go_wp2
    refine bodyPost_ret (v := lonV ⟨0, 0, q⟩) (by simp [results, Try.results37, go_sem]) rfl ⟨by rw [HR.out], HB.out.trans (HN1.out.mono HB.out.size)⟩

end Go.Proofs.Ytkahhclmmlkpjaa
