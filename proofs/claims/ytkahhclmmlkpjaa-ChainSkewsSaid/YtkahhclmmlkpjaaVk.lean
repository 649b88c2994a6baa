/- Walks of layer 2 (chain): Skew of the program. -/
import Derived.Test.YtkahhclmmlkpjaaVi
import Derived.Test.YtkahhclmmlkpjaaVg
namespace Go.Proofs.Ytkahhclmmlkpjaa
open Go.RowKit

theorem skwD_pos {c d : Chn} {k l : List Gau} {e : Nat} (hc : COk c) (hk : GOks c k) (hd : COk d) (hl : GOks d l) (ha : Agree c k) (hb : Agree d l) (h1 : e ≤ c.n.toNat) (h2 : e ≤ d.n.toNat) : 0 ≤ skwD c k d l e 0 := by
  have a := (run_span hc hk ha (i := 0) (k := e) (Nat.zero_le _) h1)
  have b := (run_span hd hl hb (i := 0) (k := e) (Nat.zero_le _) h2)
  unfold skwD
  unfold lowM highM at a b
  rw [Nat.zero_add, Nat.mul_one]
  omega

set_option maxRecDepth 100000 in
set_option maxHeartbeats 8000000 in
theorem kSkew_any (c : Chn) (k : List Gau) (d : Chn) (l : List Gau) (v u : Value) (e : Int) (w : World) (hv : GaAt w v k) (hu : GaAt w u l) :
    Calls Try.prog 36 #[chnV c, v, chnV d, u, .int .i64 e] w fun e' w' => e' = .returned (lonV (skwM c k d l e)) ∧ Below w.heap.size w w' := by
  have hb0 := ((Below.refl w.heap.size w).alloc (Nat.le_refl _) (Obj.cells #[.int .i64 c.n, .int .i64 c.pi, .int .i64 c.li] 23)).alloc (by simp only [size_alloc]; omega) (Obj.cells #[.int .i64 d.n, .int .i64 d.pi, .int .i64 d.li] 23)
  have k0 := block_alloc (block_new w (Obj.cells #[.int .i64 c.n, .int .i64 c.pi, .int .i64 c.li] 23) w.heap.size rfl) (Obj.cells #[.int .i64 d.n, .int .i64 d.pi, .int .i64 d.li] 23)
  have k1 := block_new (w.alloc (Obj.cells #[.int .i64 c.n, .int .i64 c.pi, .int .i64 c.li] 23)) (Obj.cells #[.int .i64 d.n, .int .i64 d.pi, .int .i64 d.li] 23) (w.heap.size + 1) (by simp only [size_alloc])
  have HV := Lib.hid (hv.below hb0 (Nat.le_refl _))
  have HU := Lib.hid (hu.below hb0 (Nat.le_refl _))
  obtain ⟨va, cap, rfl, hn1, hcap, hc⟩ := hv
  obtain ⟨ua, ucap, rfl, hn2, hucap, huc⟩ := hu
  have HB := Lib.hid hb0
  have K0 := Lib.hid k0
  have K1 := Lib.hid k1
  clear hc huc hb0 k0 k1
  go_enter Try.func36, Try.ntmps36
  go_wp2_with fail
  generalize (w.alloc (Obj.cells #[.int .i64 c.n, .int .i64 c.pi, .int .i64 c.li] 23)).alloc (Obj.cells #[.int .i64 d.n, .int .i64 d.pi, .int .i64 d.li] 23) = wA at *
  have c0 := block_cell K0.out
  have c1 := block_cell K1.out
  have z0 := lt_of_block K0.out
  have z1 := lt_of_block K1.out
  go_wp2_with fail
  refine (kcheck_any c k _ _ HV.out).mono ?_
  rintro e' w1 ⟨rfl, hb1⟩
  have HN0 := Lib.hid (Below.refl wA.heap.size wA)
  have HN1 := Lib.hid (HN0.out.trans (hb1.mono HN0.out.size))
  clear hb1 c0 c1 z0 z1
  have c0 := block_cell ((HN1.out.block _ (lt_of_block K0.out)).trans K0.out)
  have c1 := block_cell ((HN1.out.block _ (lt_of_block K1.out)).trans K1.out)
  have z0 := Nat.lt_of_lt_of_le (lt_of_block K0.out) HN1.out.size
  have z1 := Nat.lt_of_lt_of_le (lt_of_block K1.out) HN1.out.size
  by_cases hq : chkM c k = 0
  · have HQ := Lib.hid hq
    obtain ⟨hck1, hck2, hck3⟩ := chk_goks hq
    have n24 := hck1.n2
    have n1 := hck1.n1
    have HC1 := Lib.hid hck1
    have HC2 := Lib.hid hck2
    have hk100 : k.length ≤ 100 := by omega
    clear hck1 hck2 hck3 hq
    rw [HQ.out]
    go_wp2_with fail
    refine (kcheck_any d l _ _ (HU.out.below HN1.out (Nat.le_refl _))).mono ?_
    rintro e' w2 ⟨rfl, hb2⟩
    have HN2 := Lib.hid (HN1.out.trans (hb2.mono HN1.out.size))
    clear hb2 c0 c1 z0 z1
    have c0 := block_cell ((HN2.out.block _ (lt_of_block K0.out)).trans K0.out)
    have c1 := block_cell ((HN2.out.block _ (lt_of_block K1.out)).trans K1.out)
    have z0 := Nat.lt_of_lt_of_le (lt_of_block K0.out) HN2.out.size
    have z1 := Nat.lt_of_lt_of_le (lt_of_block K1.out) HN2.out.size
    by_cases hq : chkM d l = 0
    · have HQ2 := Lib.hid hq
      obtain ⟨hck1, hck2, hck3⟩ := chk_goks hq
      have HD1 := Lib.hid hck1
      have HD2 := Lib.hid hck2
      have hl100 : l.length ≤ 100 := by omega
      clear hck1 hck2 hck3 hq
      rw [HQ2.out]
      by_cases hnn : c.n = d.n
      · have hnd : (c.n != d.n) = false := by simp; omega
        have hle1 : c.n ≤ d.n := by omega
        have hle2 : d.n ≤ c.n := by omega
        have HNN0 := Lib.hid hnn
        clear hnn
        cases hm : decide (1 ≤ e ∧ e ≤ c.n)
        · have HR := Lib.hid (skw_arg (e := e) HQ.out HQ2.out (fun h => of_decide_eq_false hm h.2))
          go_wp2_with (go_at_call 60; refine (kwithin_is false e 1 c.n _ hm).mono ?_; rintro e' w' ⟨rfl, rfl⟩)
          refine bodyPost_ret (v := lonV ⟨0, 0, 1⟩) (by simp [results, Try.results36, go_sem]) rfl ⟨by rw [HR.out], HB.out.trans (HN2.out.mono HB.out.size)⟩
        · have hm2 := of_decide_eq_true hm
          obtain ⟨e, rfl⟩ : ∃ m : Nat, e = m := ⟨e.toNat, by omega⟩
          have HM2 := Lib.hid (show c.n = d.n ∧ 1 ≤ (e : Int) ∧ (e : Int) ≤ c.n from ⟨HNN0.out, hm2.1, hm2.2⟩)
          have hm0 := hm2.1
          have hm1 := hm2.2
          clear hm2
          go_wp2_with (go_at_call 60; refine (kwithin_is true e 1 c.n _ hm).mono ?_; rintro e' w' ⟨rfl, rfl⟩)
          refine (followC_any c k _ _ (HV.out.below HN2.out (Nat.le_refl _)) HQ.out).mono ?_
          rintro e' w3 ⟨M, rfl, hb3, hM⟩
          have HM := Lib.hid hM
          clear hM
          have HN3 := Lib.hid (HN2.out.trans (hb3.mono HN2.out.size))
          clear hb3 c0 c1 z0 z1
          have c0 := block_cell ((HN3.out.block _ (lt_of_block K0.out)).trans K0.out)
          have c1 := block_cell ((HN3.out.block _ (lt_of_block K1.out)).trans K1.out)
          have z0 := Nat.lt_of_lt_of_le (lt_of_block K0.out) HN3.out.size
          have z1 := Nat.lt_of_lt_of_le (lt_of_block K1.out) HN3.out.size
          have hzb := zeroBounds
          have hst := storeBounds M
          have hs1 := netC_size M
          have c1b := block_cell (block_alloc ((HN3.out.block _ (lt_of_block K1.out)).trans K1.out) (.cells (netC M) 100))
          have z1b := lt_of_block (block_alloc ((HN3.out.block _ (lt_of_block K1.out)).trans K1.out) (.cells (netC M) 100))
          have HN4 := Lib.hid (HN3.out.alloc HN3.out.size (.cells (netC M) 100))
          have KM := Lib.hid (show (w3.alloc (.cells (netC M) 100)).heap[w3.heap.size]? = some (.cells (netC M) 100) from block_new _ _ _ rfl)
          go_wp2_with fail
          clear hst hs1 c0 c1 z0 z1 c1b z1b
          generalize w3.alloc (.cells (netC M) 100) = w4 at *
          generalize w3.heap.size = p at *
          refine (followC_any d l _ _ (HU.out.below HN4.out (Nat.le_refl _)) HQ2.out).mono ?_
          rintro e' w5 ⟨N, rfl, hb5, hM⟩
          have HNM := Lib.hid hM
          have HN5 := Lib.hid (HN4.out.trans (hb5.mono HN4.out.size))
          have hst := storeBounds N
          have hs1 := netC_size N
          have HN6 := Lib.hid (HN5.out.alloc HN5.out.size (.cells (netC N) 100))
          have KM6 := Lib.hid (block_alloc ((hb5.block _ (lt_of_block KM.out)).trans KM.out) (.cells (netC N) 100))
          have KN6 := Lib.hid (show (w5.alloc (.cells (netC N) 100)).heap[w5.heap.size]? = some (.cells (netC N) 100) from block_new _ _ _ rfl)
          clear hM hb5
          cases hag : agreeB c k
          · have HR := Lib.hid (skw_none (e := (e : Int)) HQ.out HQ2.out HM2.out (by rw [hag]; rintro ⟨h, _⟩; cases h))
            go_wp2
            refine bodyPost_ret (v := lonV ⟨0, 0, 3⟩) (by simp [results, Try.results36, go_sem]) rfl ⟨by rw [HR.out], HB.out.trans (HN6.out.mono HB.out.size)⟩
          · cases hag2 : agreeB d l
            · have HR := Lib.hid (skw_none (e := (e : Int)) HQ.out HQ2.out HM2.out (by rw [hag2]; rintro ⟨_, h⟩; cases h))
              go_wp2
              refine bodyPost_ret (v := lonV ⟨0, 0, 3⟩) (by simp [results, Try.results36, go_sem]) rfl ⟨by rw [HR.out], HB.out.trans (HN6.out.mono HB.out.size)⟩
            · have hdn : d.n.toNat = c.n.toNat := by omega
              have HR := Lib.hid (fun (j : Nat) => skw_ok (c := c) (k := k) (d := d) (l := l) (e := e) (j := j) HQ.out HQ2.out HM2.out ⟨hag, hag2⟩)
              have HH := Lib.hid (fun j (hj : e * (j + 1) ≤ c.n.toNat) => show skwD c k d l e j = max (M 0 (e * (j + 1)) + N (e * (j + 1)) 0) (N 0 (e * (j + 1)) + M (e * (j + 1)) 0) by
                unfold skwD
                rw [HM.out hag 0 _ (by omega) hj, HM.out hag _ 0 hj (by omega), HNM.out hag2 0 _ (by omega) (by omega), HNM.out hag2 _ 0 (by omega) (by omega)])
              have HS := Lib.hid (fun i q (hi : i ≤ c.n.toNat) (hq : q ≤ c.n.toNat) => show -335544320000000 ≤ M i q ∧ M i q ≤ 1099511627776 by rw [HM.out hag i q hi hq]; exact RM_small HC1.out HC2.out hi hq)
              have HT := Lib.hid (fun i q (hi : i ≤ c.n.toNat) (hq : q ≤ c.n.toNat) => show -335544320000000 ≤ N i q ∧ N i q ≤ 1099511627776 by rw [HNM.out hag2 i q (by omega) (by omega)]; exact RM_small HD1.out HD2.out (by omega) (by omega))
              have HP0 := Lib.hid (show 0 ≤ skwD c k d l e 0 from skwD_pos HC1.out HC2.out HD1.out HD2.out ((agreeB_iff HC1.out HC2.out).1 hag) ((agreeB_iff HD1.out HD2.out).1 hag2) (by omega) (by omega))
              clear hag hag2 hdn
              generalize skwD c k d l e = D at *
              have c0 := block_cell ((HN6.out.block _ (lt_of_block K0.out)).trans K0.out)
              have z0 := Nat.lt_of_lt_of_le (lt_of_block K0.out) HN6.out.size
              have c0b := block_cell ((HN5.out.block _ (lt_of_block K0.out)).trans K0.out)
              have z0b := Nat.lt_of_lt_of_le (lt_of_block K0.out) HN5.out.size
              have he0 : (e : Int) ≠ 0 := by omega
              have HQT := Lib.hid (show c.n / (e : Int) = ((c.n.toNat / e : Nat) : Int) by
                obtain ⟨n, hn⟩ : ∃ n : Nat, c.n = n := ⟨c.n.toNat, by omega⟩
                rw [hn, Int.toNat_natCast]
                rfl)
              go_wp2_with fail
              rw [show c.n / (e : Int) = ((c.n.toNat / e : Nat) : Int) from HQT.out]
              have hQ0 : 0 < c.n.toNat / e := Nat.div_pos (by omega) (by omega)
              have hQ3 : c.n.toNat / e ≤ c.n.toNat := Nat.div_le_self _ _
              have hQ1 : e * (c.n.toNat / e) ≤ c.n.toNat := Nat.mul_div_le _ _
              have hQ2 : c.n.toNat < e * (c.n.toNat / e + 1) := Nat.lt_mul_div_succ _ (by omega)
              have HQ1 := Lib.hid hQ1
              have HE := Lib.hid (HR.out (c.n.toNat / e) hQ1 hQ2)
              clear hQ1 hQ2 c0 z0 c0b z0b hst hs1 hzb he0 HQT
              generalize c.n.toNat / e = Q at *
              generalize w5.alloc (.cells (netC N) 100) = w6 at *
              generalize w5.heap.size = p2 at *
              go_loopw [10, 11, 71] (fun a x i wr => ∃ j : Nat, j ≤ Q ∧ i = .int .i64 j ∧ a = .int .i64 (kskTo D e j).1 ∧ x = .int .i64 (kskTo D e j).2 ∧ Hid (Below w6.heap.size w6 wr)) (fun _ _ i _ => Q - (intOf i).toNat)
              case atStart => exact ⟨0, by omega, rfl, rfl, rfl, Below.refl _ _⟩
              case round =>
                obtain ⟨j, hj, rfl, rfl, rfl, hb⟩ := hrel
                by_cases hlt : j < Q
                · have hle : e * (j + 1) ≤ c.n.toNat := Nat.le_trans (Nat.mul_le_mul_left e hlt) HQ1.out
                  have HX := Lib.hid (HH.out j hle)
                  have HJ := Lib.hid (fun h => ksk_more (D := D) (e := e) (j := j) h)
                  have HI := Lib.hid (fun h => ksk_same (D := D) (e := e) (j := j) h)
                  have hmul : ((j : Int) + 1) * (e : Int) = ((e * (j + 1) : Nat) : Int) := by push_cast; rw [Int.mul_comm]
                  generalize hqq : e * (j + 1) = q at *
                  have HMul := Lib.hid (show wrap64 (((j : Int) + 1) * (e : Int)) = (q : Int) by
                    rw [hmul]
                    unfold wrap64
                    omega)
                  clear hmul hqq
                  have s1 := HS.out 0 q (by omega) hle
                  have s2 := HS.out q 0 hle (by omega)
                  have s3 := HT.out 0 q (by omega) hle
                  have s4 := HT.out q 0 hle (by omega)
                  go_wp2_with fail
                  rw [HMul.out]
                  refine (brun1 M p 0 q _ _ ((hb.out.block _ (lt_of_block KM6.out)).trans KM6.out) rfl (by omega) (by omega) (by omega) (by omega)).mono ?_
                  rintro e' w7 ⟨rfl, hb5⟩
                  have hb6 := hb.out.trans (hb5.mono hb.out.size)
                  clear hb5
                  go_wp2_with fail
                  refine (brun1 N p2 0 q _ _ ((hb6.block _ (lt_of_block KN6.out)).trans KN6.out) rfl (by omega) (by omega) (by omega) (by omega)).mono ?_
                  rintro e' w8 ⟨rfl, hb7⟩
                  have hb8 := hb6.trans (hb7.mono hb6.size)
                  have HB8 := Lib.hid hb8
                  clear hb6 hb7 hb8
                  obtain ⟨X1, hX1⟩ : ∃ x, M 0 q = x := ⟨_, rfl⟩
                  obtain ⟨X2, hX2⟩ : ∃ x, M q 0 = x := ⟨_, rfl⟩
                  obtain ⟨Y1, hY1⟩ : ∃ x, N 0 q = x := ⟨_, rfl⟩
                  obtain ⟨Y2, hY2⟩ : ∃ x, N q 0 = x := ⟨_, rfl⟩
                  have hd0 := HX.out
                  rw [hX1, hX2, hY1, hY2] at hd0
                  rw [hX1] at s1
                  rw [hX2] at s2
                  rw [hY1] at s3
                  rw [hY2] at s4
                  rw [hX1, hX2, hY1, hY2]
                  obtain ⟨X3, hX3⟩ : ∃ x, -X2 = x := ⟨_, rfl⟩
                  obtain ⟨Y3, hY3⟩ : ∃ x, -Y2 = x := ⟨_, rfl⟩
                  rw [hX3, hY3]
                  have t2 : -1099511627776 ≤ X3 ∧ X3 ≤ 335544320000000 := by omega
                  have t4 : -1099511627776 ≤ Y3 ∧ Y3 ≤ 335544320000000 := by omega
                  have HDV := Lib.hid (show D j = max (X1 - Y3) (Y1 - X3) by omega)
                  clear hX1 hX2 hY1 hY2 hd0 HX hX3 hY3 s2 s4
                  by_cases hge : X1 - Y3 < Y1 - X3
                  · have HDD := Lib.hid (show D j = Y1 - X3 by rw [HDV.out]; omega)
                    by_cases hgt : (kskTo D e j).2 < Y1 - X3
                    · have HL := Lib.hid (HJ.out (by rw [HDD.out]; exact hgt))
                      generalize kskTo D e j = r at *
                      go_wp2_with fail
                      go_roundw
                      case rel => exact ⟨j + 1, hlt, by go_num, by rw [HL.out], by rw [HL.out, HDD.out], (by refine Lib.hid ?_; repeat' (first | (with_reducible exact HB8.out) | (with_reducible refine Below.drew ?_) | (with_reducible refine Below.setCell ?_ ?_ _) | (with_reducible refine Below.alloc ?_ ?_ _) | exact HB8.out.size | exact Nat.le_trans HB8.out.size (le_alloc _ _) | exact Nat.le_succ_of_le HB8.out.size | (simp only [size_alloc]; have := HB8.out.size; omega)))⟩
                      case measure => simp [intOf]; omega
                    · have HL := Lib.hid (HI.out (by have e := HDD.out; omega))
                      generalize kskTo D e j = r at *
                      go_wp2_with fail
                      go_roundw
                      case rel => exact ⟨j + 1, hlt, by go_num, by rw [HL.out], by rw [HL.out], (by refine Lib.hid ?_; repeat' (first | (with_reducible exact HB8.out) | (with_reducible refine Below.drew ?_) | (with_reducible refine Below.setCell ?_ ?_ _) | (with_reducible refine Below.alloc ?_ ?_ _) | exact HB8.out.size | exact Nat.le_trans HB8.out.size (le_alloc _ _) | exact Nat.le_succ_of_le HB8.out.size | (simp only [size_alloc]; have := HB8.out.size; omega)))⟩
                      case measure => simp [intOf]; omega
                  · have HDD := Lib.hid (show D j = X1 - Y3 by rw [HDV.out]; omega)
                    by_cases hgt : (kskTo D e j).2 < X1 - Y3
                    · have HL := Lib.hid (HJ.out (by rw [HDD.out]; exact hgt))
                      generalize kskTo D e j = r at *
                      go_wp2_with fail
                      go_roundw
                      case rel => exact ⟨j + 1, hlt, by go_num, by rw [HL.out], by rw [HL.out, HDD.out], (by refine Lib.hid ?_; repeat' (first | (with_reducible exact HB8.out) | (with_reducible refine Below.drew ?_) | (with_reducible refine Below.setCell ?_ ?_ _) | (with_reducible refine Below.alloc ?_ ?_ _) | exact HB8.out.size | exact Nat.le_trans HB8.out.size (le_alloc _ _) | exact Nat.le_succ_of_le HB8.out.size | (simp only [size_alloc]; have := HB8.out.size; omega)))⟩
                      case measure => simp [intOf]; omega
                    · have HL := Lib.hid (HI.out (by have e := HDD.out; omega))
                      generalize kskTo D e j = r at *
                      go_wp2_with fail
                      go_roundw
                      case rel => exact ⟨j + 1, hlt, by go_num, by rw [HL.out], by rw [HL.out], (by refine Lib.hid ?_; repeat' (first | (with_reducible exact HB8.out) | (with_reducible refine Below.drew ?_) | (with_reducible refine Below.setCell ?_ ?_ _) | (with_reducible refine Below.alloc ?_ ?_ _) | exact HB8.out.size | exact Nat.le_trans HB8.out.size (le_alloc _ _) | exact Nat.le_succ_of_le HB8.out.size | (simp only [size_alloc]; have := HB8.out.size; omega)))⟩
                      case measure => simp [intOf]; omega
                · obtain rfl : j = Q := by omega
                  obtain ⟨Q', rfl⟩ : ∃ q, j = q + 1 := ⟨j - 1, by omega⟩
                  have hr := HE.out
                  rw [skw_eq HP0.out] at hr
                  have HR := Lib.hid hr
                  clear hr
                  generalize kskTo D e (Q' + 1) = r at *
                  go_wp2
                  refine bodyPost_ret (v := lonV ⟨r.1, r.2, 0⟩) (by simp [results, Try.results36, go_sem]) rfl ⟨by rw [HR.out], HB.out.trans ((HN6.out.trans (hb.out.mono HN6.out.size)).mono HB.out.size)⟩
      · have hnd : (c.n != d.n) = true := by simp; omega
        have HR := Lib.hid (skw_arg (e := e) HQ.out HQ2.out (fun h => hnn h.1))
        clear hnn
        go_wp2
        refine bodyPost_ret (v := lonV ⟨0, 0, 1⟩) (by simp [results, Try.results36, go_sem]) rfl ⟨by rw [HR.out], HB.out.trans (HN2.out.mono HB.out.size)⟩
    · have HR := Lib.hid (skw_bad2 (e := e) HQ.out hq)
      generalize chkM d l = q at *
      go_wp2
      refine bodyPost_ret (v := lonV ⟨0, 0, q⟩) (by simp [results, Try.results36, go_sem]) rfl ⟨by rw [HR.out], HB.out.trans (HN2.out.mono HB.out.size)⟩
  · have HR := Lib.hid (skw_bad1 (d := d) (l := l) (e := e) hq)
    generalize chkM c k = q at *
    go_wp2
    refine bodyPost_ret (v := lonV ⟨0, 0, q⟩) (by simp [results, Try.results36, go_sem]) rfl ⟨by rw [HR.out], HB.out.trans (HN1.out.mono HB.out.size)⟩

end Go.Proofs.Ytkahhclmmlkpjaa
