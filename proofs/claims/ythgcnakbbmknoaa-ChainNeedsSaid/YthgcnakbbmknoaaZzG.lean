import Derived.Test.YthgcnakbbmknoaaZzF
/- Texts of one seat, merged: Vh -/
/- Walks of layer 2 (chain): Links of the program. -/
namespace Go.Proofs.Ythgcnakbbmknoaa
open Go.RowKit

theorem rep2 (n : Nat) : (List.replicate n ((0 : Int), (0 : Int))).flatMap spnL = List.replicate (n * 2) (Value.int .i64 0) := by
  induction n with
  | zero => rfl
  | succ n ih =>
    rw [List.replicate_succ, List.flatMap_cons, ih, show (n + 1) * 2 = n * 2 + 1 + 1 by omega, List.replicate_succ, List.replicate_succ]
    rfl

theorem made2 (n : Nat) : (madeCells #[.int .i64 0, .int .i64 0] (n * 2)).toList = (List.replicate n ((0 : Int), (0 : Int))).flatMap spnL := by
  rw [rep2]
  apply List.ext_getElem
  · simp [madeCells]
  · intro j h1 h2
    simp only [madeCells, Array.toList_map, List.getElem_map, List.getElem_replicate]
    have hj : ∀ q : Nat, q < 2 → (#[Value.int .i64 0, Value.int .i64 0] : Array Value)[q]! = Value.int .i64 0 := fun q hq => by
      rcases (by omega : q = 0 ∨ q = 1) with rfl | rfl <;> rfl
    exact hj _ (Nat.mod_lt _ (by decide))

/-- The list while it is made: the first k links, zeros behind. -/
def lnkW (M : Net) (n k : Nat) : List Spn := lnkTo M k ++ List.replicate (n - k) (0, 0)
theorem lnkW_zero (M : Net) (n : Nat) : lnkW M n 0 = List.replicate n (0, 0) := by simp [lnkW, lnkTo]
theorem lnkW_end (M : Net) (n : Nat) : lnkW M n n = lnkTo M n := by simp [lnkW]
theorem lnkW_len (M : Net) {n k : Nat} (h : k ≤ n) : (lnkW M n k).length = n := by simp [lnkW, lnkTo_len]; omega
theorem lnkW_at (M : Net) {n k : Nat} (h : k < n) : (lnkW M n k)[k]? = some (0, 0) := by
  unfold lnkW
  rw [List.getElem?_append_right (by rw [lnkTo_len]; exact Nat.le_refl _), lnkTo_len, Nat.sub_self, List.getElem?_replicate, if_pos (by omega)]
theorem lnkW_set (M : Net) {n k : Nat} (h : k < n) : (lnkW M n k).set k (-M (k + 1) k, M k (k + 1)) = lnkW M n (k + 1) := by
  unfold lnkW
  obtain ⟨d, hd⟩ : ∃ d, n - k = d + 1 := ⟨n - k - 1, by omega⟩
  have hd2 : n - (k + 1) = d := by omega
  rw [hd, hd2, List.set_append_right _ _ (by rw [lnkTo_len]; exact Nat.le_refl _), lnkTo_len, Nat.sub_self, List.replicate_succ, List.set_cons_zero, lnkTo_succ, List.append_assoc]
  rfl

theorem ck00 {c : Chn} {l : List Gau} (h : chkM c l = 0) : CkM c l 0 0 = if agreeB c l = true then 0 else 3 := by
  have n1 := (chk_goks h).1.n1
  unfold CkM
  rw [crun_two h, if_pos (by omega)]
theorem ck00_bad {c : Chn} {l : List Gau} (h : ¬ chkM c l = 0) : CkM c l 0 0 = chkM c l := by unfold CkM; rw [← crun_bad (a := 0) (b := 0) h, if_neg h]

set_option maxRecDepth 100000 in
set_option maxHeartbeats 4000000 in
theorem kLinks_any (c : Chn) (l : List Gau) (v : Value) (w : World) (hv : GaAt w v l) :
    Calls Try.prog 22 #[chnV c, v] w (LnkRes c l w) := by
  have hb0 := (Below.refl w.heap.size w).alloc (Nat.le_refl _) (Obj.cells #[.int .i64 c.n, .int .i64 c.pi, .int .i64 c.li] 23)
  have k0 := block_new w (Obj.cells #[.int .i64 c.n, .int .i64 c.pi, .int .i64 c.li] 23) w.heap.size rfl
  have hsz : (w.alloc (Obj.cells #[.int .i64 c.n, .int .i64 c.pi, .int .i64 c.li] 23)).heap.size = w.heap.size + 1 := size_alloc _ _
  have K0 := Lib.hid k0
  have HB := Lib.hid hb0
  have HSZ := Lib.hid hsz
  clear k0 hb0 hsz
  have HV := Lib.hid (hv.below HB.out (Nat.le_refl _))
  obtain ⟨va, cap, rfl, hn, hcap, hc⟩ := hv
  obtain ⟨i0, hi, hz0, hz1, hz2⟩ := info_parts infoSpan
  clear hc
  by_cases hq : chkM c l = 0
  · have HQ := Lib.hid hq
    obtain ⟨hck1, hck2, hck3⟩ := chk_goks hq
    have n24 := hck1.n2
    have n1 := hck1.n1
    have HC1 := Lib.hid hck1
    have HC2 := Lib.hid hck2
    have hzb := zeroBounds
    have HCK := Lib.hid (ck00 hq)
    clear hck1 hck2 hck3 hq
    go_enter Try.func22, Try.ntmps22
    go_wp2_with fail
    generalize hwA : w.alloc (Obj.cells #[.int .i64 c.n, .int .i64 c.pi, .int .i64 c.li] 23) = wA at *
    clear hwA
    have hce := block_cell K0.out
    go_wp2_with fail
    refine (kcheck_any c l _ _ HV.out).mono ?_
    rintro e w1 ⟨rfl, hb1⟩
    rw [HQ.out]
    clear hce
    have hce := block_cell ((hb1.block _ (lt_of_block K0.out)).trans K0.out)
    have hz := Nat.lt_of_lt_of_le (lt_of_block K0.out) hb1.size
    have HB1 := Lib.hid hb1
    have HV1 := Lib.hid (HV.out.below hb1 (Nat.le_refl _))
    clear hb1
    go_wp2_with fail
    refine (followC_any c l _ _ HV1.out HQ.out).mono ?_
    rintro e w2 ⟨M1, rfl, hb2, hM⟩
    have HBW := Lib.hid (HB.out.trans ((HB1.out.trans (hb2.mono HB1.out.size)).mono HB.out.size))
    have kE := (hb2.block _ hz).trans ((HB1.out.block _ (lt_of_block K0.out)).trans K0.out)
    have KE := Lib.hid kE
    have HM := Lib.hid hM
    have hst := storeBounds M1
    have hs1 := netC_size M1
    clear hb2 hM hce hz kE
    cases hag : agreeB c l
    · have HR := Lib.hid (show CkM c l 0 0 = 3 by rw [HCK.out, if_neg (by rw [hag]; decide)])
      clear hag
      go_wp2
      have hrn := LnkRes.no (c := c) (l := l) (by rw [HR.out]; decide) (HBW.out.alloc HBW.out.size (.cells (netC M1) 106))
      rw [HR.out] at hrn
      exact bodyPost_ret (v := .tuple #[.slice none 0 0, .int .i64 3]) (by simp [results, Try.results22, go_sem]) rfl hrn
    · have HR := Lib.hid (show CkM c l 0 0 = 0 by rw [HCK.out, if_pos hag])
      have HY := Lib.hid (fun (w' : World) (v : Value) => LnkRes.yes (w := w) (w' := w') (v := v) (M := M1) (B := w2.heap.size + 1) HR.out (HM.out hag))
      have HS := Lib.hid (fun i k (hi : i ≤ c.n.toNat) (hk : k ≤ c.n.toNat) => show -335544320000000 ≤ M1 i k ∧ M1 i k ≤ 1099511627776 by rw [HM.out hag i k hi hk]; exact RM_small HC1.out HC2.out hi hk)
      have KB := Lib.hid (show (w2.alloc (.cells (netC M1) 106)).heap[w2.heap.size]? = some (.cells (netC M1) 106) from block_new _ _ _ rfl)
      have KE2 := Lib.hid (block_alloc KE.out (.cells (netC M1) 106))
      have HBB := Lib.hid (HBW.out.alloc HBW.out.size (.cells (netC M1) 106))
      have hce := block_cell (block_alloc KE.out (.cells (netC M1) 106))
      have zc := lt_of_block (block_alloc KE.out (.cells (netC M1) 106))
      have hce0 := block_cell KE.out
      have zc0 := lt_of_block KE.out
      have hsB : (w2.alloc (.cells (netC M1) 106)).heap.size = w2.heap.size + 1 := size_alloc _ _
      have hszw := HBW.out.size
      clear hag
      go_wp2_with (refine wpList_make_full _ rfl (.tmp 26) (.tmp 26) 40 rfl (w2.heap.size + 1) 45 i0 (.agg #[.int .i64 0, .int .i64 0]) 2 Try.underlying40 hi hz0 hz1 .i64 .i64 _ _ c.n.toNat rfl rfl (by omega) (by omega) ?m1 ?m2 (by rw [hsB]; exact Nat.le_refl _) ?_)
      case m1 => rw [hz2]; omega
      case m2 => unfold maxLen; omega
      intro w3 hown hgrow
      rw [made2] at hown
      have hb3 : Below (w2.alloc (.cells (netC M1) 106)).heap.size (w2.alloc (.cells (netC M1) 106)) w3 := (Below.refl _ _).grown hgrow (Nat.le_refl _) (fun k h => by cases h)
      have HB3 := Lib.hid hb3
      have HK3 := Lib.hid ((hb3.block _ (lt_of_block KE2.out)).trans KE2.out)
      have HKB := Lib.hid ((hb3.block _ (lt_of_block KB.out)).trans KB.out)
      have HBW3 := Lib.hid (HBB.out.trans (hb3.mono HBB.out.size))
      obtain ⟨hro, _, _, hcm, _⟩ := SpRow.of_own hown
      have HRO := Lib.hid (show SpRow w3 (w2.heap.size + 1) c.n.toNat (lnkW M1 c.n.toNat 0) by rw [lnkW_zero]; exact hro)
      have hlt3 : w2.heap.size + 1 ≤ w3.heap.size := by have := hb3.size; omega
      clear hce zc hce0 zc0 hst hs1 hzb hown hgrow hb3 hsB hro hi hz0 hz1 hz2
      have hce := block_cell HK3.out
      have zc := lt_of_block HK3.out
      go_wp2_with fail
      clear hce zc
      generalize w2.heap.size = p at *
      go_loopw [30] (fun i wr => ∃ k : Nat, k ≤ c.n.toNat ∧ i = .int .i64 k ∧ Hid (Below (p + 1) w3 wr) ∧ Hid (SpRow wr (p + 1) c.n.toNat (lnkW M1 c.n.toNat k))) (fun i _ => c.n.toNat - (intOf i).toNat)
      case atStart => exact ⟨0, Nat.zero_le _, rfl, Below.refl _ _, HRO.out⟩
      case round =>
        obtain ⟨k, hk, rfl, hb, hrow⟩ := hrel
        by_cases hlt : k < c.n.toNat
        · have s1 := HS.out (k + 1) k (by omega) (by omega)
          have s2 := HS.out k (k + 1) (by omega) (by omega)
          have KBr := Lib.hid ((hb.out.block p (by omega)).trans HKB.out)
          have i1 : (0 : Int) ≤ k := by omega
          have i2 : (k : Int) < c.n.toNat := by omega
          go_wp2_with fail
          refine (brun1 M1 p k (k + 1) _ _ KBr.out (by omega) (by omega) (by omega) (by omega) (by omega)).mono ?_
          rintro e w4 ⟨rfl, hb4⟩
          have hr4 := hrow.out.later hb4
          obtain ⟨q1, q2⟩ := hr4.cell (lnkW_at M1 hlt)
          have f1 := hr4.free (k * 2)
          have f2 := hr4.free (k * 2 + 1)
          have zr : p + 1 < w4.heap.size := by
            obtain ⟨cur, h1, _⟩ := hr4
            exact lt_of_block h1
          have hszr := hb.out.size
          have HS4 := Lib.hid (hr4.set (i := k) (by rw [lnkW_len M1 hk]; exact hlt) (-M1 (k + 1) k, M1 k (k + 1)))
          have HB4 := Lib.hid (((hb.out.trans (hb4.mono (by omega))).setCell (p := ⟨p + 1, k * 2, none⟩) (Nat.le_refl _) (.int .i64 (-M1 (k + 1) k))).setCell (p := ⟨p + 1, k * 2 + 1, none⟩) (Nat.le_refl _) (.int .i64 (M1 k (k + 1))))
          have HW := Lib.hid (lnkW_set M1 hlt)
          clear hr4 hb4
          generalize -M1 (k + 1) k = X at *
          generalize M1 k (k + 1) = Y at *
          go_wp2_with fail
          go_roundw
          case rel => exact ⟨k + 1, hlt, by go_num, HB4.out, by rw [← HW.out]; exact HS4.out⟩
          case measure => simp [intOf]; omega
        · obtain rfl : k = c.n.toNat := by omega
          have hrw := hrow.out
          rw [lnkW_end] at hrw
          have HO := Lib.hid (hrw.own (base := p + 1) (n := c.n.toNat) (Nat.le_refl _) (Nat.le_refl _) hcm (lnkTo_len _ _))
          clear hrw
          go_wp2
          exact bodyPost_ret (by simp [results, Try.results22, go_sem]) rfl (HY.out _ _ (HBW3.out.trans (hb.out.mono (by omega))) (by omega) HO.out)
  · have HR := Lib.hid (ck00_bad hq)
    go_enter Try.func22, Try.ntmps22
    go_wp2_with fail
    generalize hwA : w.alloc (Obj.cells #[.int .i64 c.n, .int .i64 c.pi, .int .i64 c.li] 23) = wA at *
    clear hwA
    have hce := block_cell K0.out
    go_wp2_with fail
    refine (kcheck_any c l _ _ HV.out).mono ?_
    rintro e w1 ⟨rfl, hb1⟩
    have hrn := LnkRes.no (c := c) (l := l) (by rw [HR.out]; exact hq) (HB.out.trans (hb1.mono HB.out.size))
    rw [HR.out] at hrn
    have HN := Lib.hid hrn
    clear hrn
    generalize chkM c l = q at *
    go_wp2
    exact bodyPost_ret (v := .tuple #[.slice none 0 0, .int .i64 q]) (by simp [results, Try.results22, go_sem]) rfl HN.out

end Go.Proofs.Ythgcnakbbmknoaa
