import Derived.Test.YtbiihhokcmdlhaaZzM
import Derived.Maps.AppendAt
/- Texts of one seat, merged: Yc Yd -/
/- Walks of layer 3 (circuit): ValidUpsets of the specification. -/
namespace Go.Proofs.Ytbiihhokcmdlhaa
open Go.RowKit

theorem okU_night {c : Cir} {b x : Ups} (h : ¬ (b.ni ≤ x.ni ∧ x.ni ≤ 1000)) : okU c b x = false := by unfold okU; rw [decide_eq_false h]; simp
theorem okU_kind {c : Cir} {b x : Ups} (h : isU c x = false) : okU c b x = false := by unfold okU; rw [h]; simp
theorem okU_late {c : Cir} {b x : Ups} (h : x.ni = b.ni ∧ x.ki = 1 ∧ b.ki = 2) : okU c b x = false := by unfold okU lateB; rw [decide_eq_true h]; rfl
theorem okU_yes {c : Cir} {b x : Ups} (h1 : ¬ (x.ni = b.ni ∧ x.ki = 1 ∧ b.ki = 2)) (h2 : b.ni ≤ x.ni ∧ x.ni ≤ 1000) (h3 : isU c x = true) : okU c b x = true := by
  unfold okU lateB; rw [decide_eq_false h1, decide_eq_true h2, h3]; rfl

set_option maxRecDepth 100000 in
set_option maxHeartbeats 8000000 in
theorem rvalidU_any (c : Cir) (u : List Ups) (sv wv v : Value) (w : World) (hv : CirAt w sv wv c) (hu : UpAt w v u) (hc : CVal c) :
    Calls Try.prog 53 #[cirV c sv wv, v] w fun e w' => e = .returned (.bool (upsB c u)) ∧ Below w.heap.size w w' := by
  have hb0 := (Below.refl w.heap.size w).alloc (Nat.le_refl _) (cirO c sv wv)
  have HB := Lib.hid hb0
  have K0 := Lib.hid (block_new w (cirO c sv wv) w.heap.size rfl)
  have HV := Lib.hid (hv.below hb0 (Nat.le_refl _))
  have HU := Lib.hid (hu.below hb0 (Nat.le_refl _))
  have HC := Lib.hid hc
  have HNO := Lib.hid (fun k => ups_no (c := c) (u := u) (k := k))
  have HYE := Lib.hid (fun h h2 => ups_yes (c := c) (u := u) h h2)
  obtain ⟨⟨sa, scap, rfl, _⟩, _⟩ := hv
  obtain ⟨ua, ucap, rfl, n1, n2, _⟩ := hu
  have s12 := hc.s2
  have hwn : IntKind.i64.wrap ((c.sw.length : Int) - 1) = (c.sw.length : Int) - 1 := IntWalk.i64_in _ (by omega)
  clear hb0 hc
  by_cases h40 : (40 : Int) < u.length
  · have HR := Lib.hid (ups_many (c := c) (show 40 < u.length by omega))
    go_enter Try.func53, Try.ntmps53
    go_wp2_with fail
    go_ret
    exact ⟨ret_bool HR.out.symm, HB.out⟩
  go_enter Try.func53, Try.ntmps53
  go_wp2_with fail
  generalize w.alloc (cirO c (.slice sa c.sw.length scap) wv) = wA at *
  go_loopw [5] (fun i wr => ∃ k : Nat, k ≤ u.length ∧ i = .int .i64 k ∧ Hid (Below wA.heap.size wA wr) ∧ Hid (∀ j, j < k → okU c (prv u j) (u.getD j Ups.zero) = true)) (fun i _ => u.length - (intOf i).toNat)
  case atStart => exact ⟨0, Nat.zero_le _, rfl, Lib.hid (Below.refl _ _), Lib.hid (fun j hj => by omega)⟩
  case round =>
    obtain ⟨k, hk, rfl, hb, hall⟩ := hrel
    by_cases hlt : k < u.length
    rotate_left
    · obtain rfl : k = u.length := by omega
      have HR := Lib.hid (HYE.out (by omega) hall.out)
      go_wp2_with fail
      go_ret
      exact ⟨ret_bool HR.out.symm, HB.out.trans (hb.out.mono HB.out.size)⟩
    obtain ⟨_, _, e1, _, _, hcc⟩ := HU.out
    injection e1 with e1 e2 e3
    subst e1
    obtain ⟨b, off, rfl, hbl, hcc⟩ := hcc (by omega)
    obtain ⟨g1, g2, g3⟩ := up_at hb.out hbl hcc hlt
    have hbl2 := Nat.lt_of_lt_of_le hbl hb.out.size
    have HPREV := Lib.hid (fun m (hm : m < u.length) => up_at hb.out hbl hcc hm)
    have hni : 0 ≤ (prv u k).ni := by
      cases k with
      | zero => exact Int.le_refl _
      | succ m =>
        have : ∀ j, j < m + 1 → 0 ≤ (u.getD j Ups.zero).ni := by
          intro j
          induction j with
          | zero => intro _; exact (okU_out (hall.out 0 (by omega))).2.1
          | succ j ih => intro hj; exact Int.le_trans (ih (by omega)) (okU_out (hall.out (j + 1) hj)).2.1
        exact this m (by omega)
    have HNX := Lib.hid (fun h => HNO.out k hlt h)
    have HST := Lib.hid (fun (h : okU c (prv u k) (u.getD k Ups.zero) = true) => show ∀ j, j < k + 1 → okU c (prv u j) (u.getD j Ups.zero) = true from fun j hj => by
      by_cases e : j = k
      · rw [e]; exact h
      · exact hall.out j (by omega))
    have HP0 := Lib.hid (show k = 0 → prv u k = ⟨0, 1, 0⟩ from fun h => by rw [h]; rfl)
    have HPM := Lib.hid (fun m (h : k = m + 1) => show prv u k = u.getD m Ups.zero by rw [h]; rfl)
    generalize u.getD k Ups.zero = X at *
    generalize prv u k = B at *
    obtain ⟨xn, xk, xu⟩ := X
    obtain ⟨bn, bk, bu⟩ := B
    have k1 : (0 : Int) ≤ k := by omega
    have k2 : (k : Int) < u.length := by omega
    have kx := block_new wr (upO ⟨xn, xk, xu⟩) wr.heap.size rfl
    have kc := block_alloc (keepZ K0.out hb.out) (upO ⟨xn, xk, xu⟩)
    have bX := (Below.refl wr.heap.size wr).alloc (Nat.le_refl _) (upO ⟨xn, xk, xu⟩)
    clear hcc e2 e3
    dsimp only at g1 g2 g3 hni
    go_upto_region 7 with fail
    generalize wr.alloc (upO ⟨xn, xk, xu⟩) = wX at *
    have KX := Lib.hid kx
    have KC := Lib.hid kc
    have BX := Lib.hid (hb.out.trans (bX.mono hb.out.size))
    have HVX := Lib.hid (HV.out.below BX.out (Nat.le_refl _))
    have y1 := bw_cells (B := wX.heap.size) kx (lt_of_block kx)
    have y2 := bw_cells (B := wX.heap.size) kc (lt_of_block kc)
    have HPR := Lib.hid (fun m (hm : m < u.length) => by
      obtain ⟨p1, p2, p3⟩ := HPREV.out m hm
      exact (⟨(bX.cell hbl2).trans p1, (bX.cell hbl2).trans p2⟩ : wX.cell? ⟨b, off + m * 3, none⟩ = some (.int .i64 (u.getD m Ups.zero).ni) ∧ wX.cell? ⟨b, off + m * 3 + 1, none⟩ = some (.int .i64 (u.getD m Ups.zero).ki)))
    have hblx : b < wX.heap.size := Nat.lt_of_lt_of_le hbl2 bX.size
    clear kx kc bX g1 g2 g3
    obtain ⟨q1, hq1⟩ : ∃ q, decide (0 ≤ xn ∧ xn ≤ 1000) = q := ⟨_, rfl⟩
    have HQ1 := Lib.hid hq1
    cases q1
    · have HR := Lib.hid (HNX.out (okU_night (by simp only [decide_eq_false_iff_not] at hq1; dsimp only; omega)))
      clear hq1
      refine wp_region_below (by kernel_rfl) (by kernel_rfl) (Below.refl wX.heap.size wX) ?_
      repeat ((with_reducible refine wpQuiet_step (fun K hK => ?_)); go_simp; first | (refine hK _ ?_; clear hK K) | (apply Exists.intro; refine ⟨fun _ => ?_, hK _ ?_⟩; ((go_at_call 80; exact bw_same (rwithin_is _ xn 0 1000 _ HQ1.out))); clear hK K))
      refine wpQuiet_nil ?_
      intro wq hwq0
      have hwq := bw_out hwq0
      clear hwq0
      clear y1 y2
      go_wp2_with fail
      go_ret
      exact ⟨ret_bool HR.out.symm, HB.out.trans ((BX.out.trans (hwq.mono BX.out.size)).mono HB.out.size)⟩
    simp only [decide_eq_true_eq] at hq1
    rcases Nat.eq_zero_or_pos k with hk0 | hkp
    · have HB0 := Lib.hid (HP0.out hk0)
      have hb2 : ¬ bk = 2 ∧ bn = 0 := by have := HB0.out; injection this with a1 a2 a3; omega
      have hng : decide ((0 : Int) < k) = false := decide_eq_false (by omega)
      have hnight : bn ≤ xn ∧ xn ≤ 1000 := by omega
      have hnl : ¬ (xn = bn ∧ xk = 1 ∧ bk = 2) := fun h => hb2.1 h.2.2
      refine wp_region_below (by kernel_rfl) (by kernel_rfl) (Below.refl wX.heap.size wX) ?_
      repeat ((with_reducible refine wpQuiet_step (fun K hK => ?_)); go_simp; first | (refine hK _ ?_; clear hK K) | (apply Exists.intro; refine ⟨fun _ => ?_, hK _ ?_⟩; ((go_at_call 80; exact bw_same (rwithin_is _ xn 0 1000 _ HQ1.out))); clear hK K))
      refine wpQuiet_nil ?_
      intro wq hwq0
      have hwq := bw_out hwq0
      clear hwq0
      clear y1 y2
      have kxq := keepZ KX.out hwq
      have kcq := keepZ KC.out hwq
      have BXQ := Lib.hid (BX.out.trans (hwq.mono BX.out.size))
      have KXQ := Lib.hid kxq
      have KCQ := Lib.hid kcq
      have cx := block_cell kxq
      have cc := block_cell kcq
      have y1 := bw_cells (B := wq.heap.size) kxq (lt_of_block kxq)
      have y2 := bw_cells (B := wq.heap.size) kcq (lt_of_block kcq)
      have HVQ := Lib.hid (HV.out.below BXQ.out (Nat.le_refl _))
      clear kxq kcq hwq
      by_cases hk1 : xk = 1
      · subst hk1
        obtain ⟨q2, hq2⟩ : ∃ q, decide (0 ≤ xu ∧ xu ≤ (c.sw.length : Int) - 1) = q := ⟨_, rfl⟩
        have HQ2 := Lib.hid hq2
        have HIS := Lib.hid (isU_one (c := c) (x := ⟨xn, 1, xu⟩) rfl hq2)
        clear hq2
        go_wp2_with fail
        cases q2
        · refine wp_region_below (by kernel_rfl) (by kernel_rfl) (Below.refl wq.heap.size wq) ?_
          repeat ((with_reducible refine wpQuiet_step (fun K hK => ?_)); go_simp; first | (refine hK _ ?_; clear hK K) | (apply Exists.intro; refine ⟨fun _ => ?_, hK _ ?_⟩; ((go_at_call 80; exact bw_same (rwithin_is _ xu 0 ((c.sw.length : Int) - 1) _ HQ2.out))); clear hK K))
          refine wpQuiet_nil ?_
          intro wq hwq0
          have hwq := bw_out hwq0
          clear hwq0
          clear y1 y2 cx cc
          have HR := Lib.hid (HNX.out (okU_kind (HIS.out)))
          go_wp2_with fail
          go_ret
          exact ⟨ret_bool HR.out.symm, HB.out.trans ((BXQ.out.trans (hwq.mono BXQ.out.size)).mono HB.out.size)⟩
        · refine wp_region_below (by kernel_rfl) (by kernel_rfl) (Below.refl wq.heap.size wq) ?_
          repeat ((with_reducible refine wpQuiet_step (fun K hK => ?_)); go_simp; first | (refine hK _ ?_; clear hK K) | (apply Exists.intro; refine ⟨fun _ => ?_, hK _ ?_⟩; ((go_at_call 80; exact bw_same (rwithin_is _ xu 0 ((c.sw.length : Int) - 1) _ HQ2.out))); clear hK K))
          refine wpQuiet_nil ?_
          intro wq hwq0
          have hwq := bw_out hwq0
          clear hwq0
          clear y1 y2 cx cc
          have HALL := Lib.hid (HST.out (okU_yes (fun h => by first | exact hnl h | exact hnl ⟨h.1, trivial, h.2.2⟩) hnight HIS.out))
          have BXN := Lib.hid (BXQ.out.trans (hwq.mono BXQ.out.size))
          clear hwq
          go_wp2_with fail
          go_roundw
          case rel => exact ⟨k + 1, hlt, by go_num, BXN, HALL⟩
          case measure => simp [intOf]; omega
      clear y1 y2
      have hk1b : (xk == 1) = false := by simpa using hk1
      by_cases hk2 : xk = 2
      · have hnl : ¬ (xn = bn ∧ xk = 1 ∧ bk = 2) := fun h => hk1 h.2.1
        have hk2b : (xk == 2) = true := by simpa using hk2
        by_cases h0 : xu = 0
        · have h0b : (xu == 0) = true := by simpa using h0
          have HR := Lib.hid (HNX.out (okU_kind (isU_two (q := false) hk2 (by rw [decide_eq_false (by simpa using h0)]; rfl))))
          go_wp2_with fail
          go_ret
          exact ⟨ret_bool HR.out.symm, HB.out.trans (BXQ.out.mono HB.out.size)⟩
        · have h0b : (xu == 0) = false := by simpa using h0
          obtain ⟨q3, hq3⟩ : ∃ q, setB xu c.hz.toNat = q := ⟨_, rfl⟩
          have HQ3 := Lib.hid hq3
          have HIS := Lib.hid (isU_two (c := c) (x := ⟨xn, xk, xu⟩) (q := q3) hk2 (by rw [decide_eq_true h0, hq3]; rfl))
          clear hq3
          go_wp2_with fail
          refine (rcond_is HQ3.out (rhaz_any c _ wv xu _ HC.out)).mono ?_
          rintro e w5 ⟨rfl, hwq⟩
          clear cx cc
          cases q3
          · have HR := Lib.hid (HNX.out (okU_kind (HIS.out)))
            go_wp2_with fail
            go_ret
            exact ⟨ret_bool HR.out.symm, HB.out.trans ((BXQ.out.trans (hwq.mono BXQ.out.size)).mono HB.out.size)⟩
          · have HALL := Lib.hid (HST.out (okU_yes (fun h => by first | exact hnl h | exact hnl ⟨h.1, trivial, h.2.2⟩) hnight HIS.out))
            have BXN := Lib.hid (BXQ.out.trans (hwq.mono BXQ.out.size))
            clear hwq
            go_wp2_with fail
            go_roundw
            case rel => exact ⟨k + 1, hlt, by go_num, BXN, HALL⟩
            case measure => simp [intOf]; omega
      · have hk2b : (xk == 2) = false := by simpa using hk2
        have HR := Lib.hid (HNX.out (okU_kind (isU_no hk1 hk2)))
        go_wp2_with fail
        go_ret
        exact ⟨ret_bool HR.out.symm, HB.out.trans (BXQ.out.mono HB.out.size)⟩
    · obtain ⟨m, hm⟩ : ∃ m, k = m + 1 := ⟨k - 1, by omega⟩
      have HPMM := Lib.hid (HPM.out m hm)
      obtain ⟨p1, p2⟩ := HPR.out m (by omega)
      rw [← HPMM.out] at p1 p2
      dsimp only at p1 p2
      have HPQ := Lib.hid (And.intro p1 p2)
      have y3 := bw_cell (B := wX.heap.size) p1 hblx
      have y4 := bw_cell (B := wX.heap.size) p2 hblx
      have hwk : IntKind.i64.wrap ((k : Int) - 1) = (m : Int) := by rw [IntWalk.i64_in _ (by omega)]; omega
      have hkp2 : (0 : Int) < k := by omega
      have m1 : (0 : Int) ≤ m := by omega
      have m2 : (m : Int) < u.length := by omega
      clear p1 p2 hm
      by_cases hlt2 : xn < bn
      · have HR := Lib.hid (HNX.out (okU_night (by dsimp only; omega)))
        refine wp_region_below (by kernel_rfl) (by kernel_rfl) (Below.refl wX.heap.size wX) ?_
        repeat ((with_reducible refine wpQuiet_step (fun K hK => ?_)); go_simp; first | (refine hK _ ?_; clear hK K) | (apply Exists.intro; refine ⟨fun _ => ?_, hK _ ?_⟩; ((go_at_call 80; exact bw_same (rwithin_is _ xn 0 1000 _ HQ1.out))); clear hK K))
        refine wpQuiet_nil ?_
        intro wq hwq0
        have hwq := bw_out hwq0
        clear hwq0
        clear y1 y2 y3 y4
        go_wp2_with fail
        go_ret
        exact ⟨ret_bool HR.out.symm, HB.out.trans ((BX.out.trans (hwq.mono BX.out.size)).mono HB.out.size)⟩
      · have hng : decide (xn < bn) = false := decide_eq_false hlt2
        refine wp_region_below (by kernel_rfl) (by kernel_rfl) (Below.refl wX.heap.size wX) ?_
        repeat ((with_reducible refine wpQuiet_step (fun K hK => ?_)); go_simp; first | (refine hK _ ?_; clear hK K) | (apply Exists.intro; refine ⟨fun _ => ?_, hK _ ?_⟩; ((go_at_call 80; exact bw_same (rwithin_is _ xn 0 1000 _ HQ1.out))); clear hK K))
        refine wpQuiet_nil ?_
        intro wq hwq0
        have hwq := bw_out hwq0
        clear hwq0
        have hnight : bn ≤ xn ∧ xn ≤ 1000 := by omega
        have p3 := (hwq.cell (p := ⟨b, off + m * 3, none⟩) hblx).trans HPQ.out.1
        have p4 := (hwq.cell (p := ⟨b, off + m * 3 + 1, none⟩) hblx).trans HPQ.out.2
        have hblq := Nat.lt_of_lt_of_le hblx hwq.size
        clear y1 y2 y3 y4
        have kxq := keepZ KX.out hwq
        have kcq := keepZ KC.out hwq
        have BXQ := Lib.hid (BX.out.trans (hwq.mono BX.out.size))
        have KXQ := Lib.hid kxq
        have KCQ := Lib.hid kcq
        have cx := block_cell kxq
        have cc := block_cell kcq
        have y1 := bw_cells (B := wq.heap.size) kxq (lt_of_block kxq)
        have y2 := bw_cells (B := wq.heap.size) kcq (lt_of_block kcq)
        have HVQ := Lib.hid (HV.out.below BXQ.out (Nat.le_refl _))
        clear kxq kcq hwq
        have y3 := bw_cell (B := wq.heap.size) p3 hblq
        have y4 := bw_cell (B := wq.heap.size) p4 hblq
        clear p3 p4
        by_cases hk1 : xk = 1
        · subst hk1
          obtain ⟨q2, hq2⟩ : ∃ q, decide (0 ≤ xu ∧ xu ≤ (c.sw.length : Int) - 1) = q := ⟨_, rfl⟩
          have HQ2 := Lib.hid hq2
          have HIS := Lib.hid (isU_one (c := c) (x := ⟨xn, 1, xu⟩) rfl hq2)
          clear hq2
          go_wp2_with fail
          cases q2
          · refine wp_region_below (by kernel_rfl) (by kernel_rfl) (Below.refl wq.heap.size wq) ?_
            repeat ((with_reducible refine wpQuiet_step (fun K hK => ?_)); go_simp; first | (refine hK _ ?_; clear hK K) | (apply Exists.intro; refine ⟨fun _ => ?_, hK _ ?_⟩; ((go_at_call 80; exact bw_same (rwithin_is _ xu 0 ((c.sw.length : Int) - 1) _ HQ2.out))); clear hK K))
            refine wpQuiet_nil ?_
            intro wq hwq0
            have hwq := bw_out hwq0
            clear hwq0
            clear y1 y2 cx cc
            have HR := Lib.hid (HNX.out (okU_kind (HIS.out)))
            go_wp2_with fail
            go_ret
            exact ⟨ret_bool HR.out.symm, HB.out.trans ((BXQ.out.trans (hwq.mono BXQ.out.size)).mono HB.out.size)⟩
          · by_cases he : bn = xn
            · have heb : (bn == xn) = true := by simpa using he
              by_cases hd : bk = 2
              · have hdb : (bk == 2) = true := by simpa using hd
                have HLT := Lib.hid (show (⟨xn, 1, xu⟩ : Ups).ni = (⟨bn, bk, bu⟩ : Ups).ni ∧ (1 : Int) = 1 ∧ bk = 2 from ⟨he.symm, rfl, hd⟩)
                refine wp_region_below (by kernel_rfl) (by kernel_rfl) (Below.refl wq.heap.size wq) ?_
                repeat ((with_reducible refine wpQuiet_step (fun K hK => ?_)); go_simp; first | (refine hK _ ?_; clear hK K) | (apply Exists.intro; refine ⟨fun _ => ?_, hK _ ?_⟩; ((go_at_call 80; exact bw_same (rwithin_is _ xu 0 ((c.sw.length : Int) - 1) _ HQ2.out))); clear hK K))
                refine wpQuiet_nil ?_
                intro wq hwq0
                have hwq := bw_out hwq0
                clear hwq0
                clear y1 y2 cx cc
                clear y3 y4
                have HR := Lib.hid (HNX.out (okU_late HLT.out))
                go_wp2_with fail
                go_ret
                exact ⟨ret_bool HR.out.symm, HB.out.trans ((BXQ.out.trans (hwq.mono BXQ.out.size)).mono HB.out.size)⟩
              · have hdb : (bk == 2) = false := by simpa using hd
                have hnl : ¬ (xn = bn ∧ (1 : Int) = 1 ∧ bk = 2) := fun h => hd h.2.2
                refine wp_region_below (by kernel_rfl) (by kernel_rfl) (Below.refl wq.heap.size wq) ?_
                repeat ((with_reducible refine wpQuiet_step (fun K hK => ?_)); go_simp; first | (refine hK _ ?_; clear hK K) | (apply Exists.intro; refine ⟨fun _ => ?_, hK _ ?_⟩; ((go_at_call 80; exact bw_same (rwithin_is _ xu 0 ((c.sw.length : Int) - 1) _ HQ2.out))); clear hK K))
                refine wpQuiet_nil ?_
                intro wq hwq0
                have hwq := bw_out hwq0
                clear hwq0
                clear y1 y2 cx cc
                clear y3 y4
                have HALL := Lib.hid (HST.out (okU_yes (fun h => by first | exact hnl h | exact hnl ⟨h.1, trivial, h.2.2⟩) hnight HIS.out))
                have BXN := Lib.hid (BXQ.out.trans (hwq.mono BXQ.out.size))
                clear hwq
                go_wp2_with fail
                go_roundw
                case rel => exact ⟨k + 1, hlt, by go_num, BXN, HALL⟩
                case measure => simp [intOf]; omega
            · have heb : (bn == xn) = false := by simpa using he
              have hnl : ¬ (xn = bn ∧ (1 : Int) = 1 ∧ bk = 2) := fun h => he h.1.symm
              refine wp_region_below (by kernel_rfl) (by kernel_rfl) (Below.refl wq.heap.size wq) ?_
              repeat ((with_reducible refine wpQuiet_step (fun K hK => ?_)); go_simp; first | (refine hK _ ?_; clear hK K) | (apply Exists.intro; refine ⟨fun _ => ?_, hK _ ?_⟩; ((go_at_call 80; exact bw_same (rwithin_is _ xu 0 ((c.sw.length : Int) - 1) _ HQ2.out))); clear hK K))
              refine wpQuiet_nil ?_
              intro wq hwq0
              have hwq := bw_out hwq0
              clear hwq0
              clear y1 y2 cx cc
              clear y3 y4
              have HALL := Lib.hid (HST.out (okU_yes (fun h => by first | exact hnl h | exact hnl ⟨h.1, trivial, h.2.2⟩) hnight HIS.out))
              have BXN := Lib.hid (BXQ.out.trans (hwq.mono BXQ.out.size))
              clear hwq
              go_wp2_with fail
              go_roundw
              case rel => exact ⟨k + 1, hlt, by go_num, BXN, HALL⟩
              case measure => simp [intOf]; omega
        clear y3 y4
        clear y1 y2
        have hk1b : (xk == 1) = false := by simpa using hk1
        by_cases hk2 : xk = 2
        · have hnl : ¬ (xn = bn ∧ xk = 1 ∧ bk = 2) := fun h => hk1 h.2.1
          have hk2b : (xk == 2) = true := by simpa using hk2
          by_cases h0 : xu = 0
          · have h0b : (xu == 0) = true := by simpa using h0
            have HR := Lib.hid (HNX.out (okU_kind (isU_two (q := false) hk2 (by rw [decide_eq_false (by simpa using h0)]; rfl))))
            go_wp2_with fail
            go_ret
            exact ⟨ret_bool HR.out.symm, HB.out.trans (BXQ.out.mono HB.out.size)⟩
          · have h0b : (xu == 0) = false := by simpa using h0
            obtain ⟨q3, hq3⟩ : ∃ q, setB xu c.hz.toNat = q := ⟨_, rfl⟩
            have HQ3 := Lib.hid hq3
            have HIS := Lib.hid (isU_two (c := c) (x := ⟨xn, xk, xu⟩) (q := q3) hk2 (by rw [decide_eq_true h0, hq3]; rfl))
            clear hq3
            go_wp2_with fail
            refine (rcond_is HQ3.out (rhaz_any c _ wv xu _ HC.out)).mono ?_
            rintro e w5 ⟨rfl, hwq⟩
            clear cx cc
            cases q3
            · have HR := Lib.hid (HNX.out (okU_kind (HIS.out)))
              go_wp2_with fail
              go_ret
              exact ⟨ret_bool HR.out.symm, HB.out.trans ((BXQ.out.trans (hwq.mono BXQ.out.size)).mono HB.out.size)⟩
            · have HALL := Lib.hid (HST.out (okU_yes (fun h => by first | exact hnl h | exact hnl ⟨h.1, trivial, h.2.2⟩) hnight HIS.out))
              have BXN := Lib.hid (BXQ.out.trans (hwq.mono BXQ.out.size))
              clear hwq
              go_wp2_with fail
              go_roundw
              case rel => exact ⟨k + 1, hlt, by go_num, BXN, HALL⟩
              case measure => simp [intOf]; omega
        · have hk2b : (xk == 2) = false := by simpa using hk2
          have HR := Lib.hid (HNX.out (okU_kind (isU_no hk1 hk2)))
          go_wp2_with fail
          go_ret
          exact ⟨ret_bool HR.out.symm, HB.out.trans (BXQ.out.mono HB.out.size)⟩

end Go.Proofs.Ytbiihhokcmdlhaa

/- Walks of layer 3 (circuit): Play of the program. -/
namespace Go.Proofs.Ytbiihhokcmdlhaa
open Go.RowKit

def playE (c : Cir) (l : List Tri) (r : Rot) (u : List Ups) : Int := if chkR c l r = 0 then (if upsB c u = true then 0 else 33) else chkR c l r
def playS (c : Cir) (l : List Tri) (r : Rot) (u : List Ups) : List Int := if playE c l r u = 0 then natL (stuckM c l r u (nN u)) else []
def playP (c : Cir) (l : List Tri) (r : Rot) (u : List Ups) : List Int := if playE c l r u = 0 then natL (passedM c l r u (nN u)) else []
/-- Two lists and an error. -/
def ListsErr (a b : List Int) (er : Int) (w : World) (e : Ending) (w' : World) : Prop := ∃ v v2, e = .returned (.tuple #[v, v2, .int .i64 er]) ∧ InAt w' v a ∧ InAt w' v2 b ∧ Below w.heap.size w w'

/-- Two rows of numbers of one's own, apart from each other. -/
structure TwoRows (w : World) (base : Nat) (v v2 : Value) (A B : List Nat) : Prop where
  a : w.ownsRow base 3 1 v A.length ((natL A).map (Value.int .i64))
  b : w.ownsRow base 3 1 v2 B.length ((natL B).map (Value.int .i64))
  ne : ∀ k, v.ownBlock = some k → v2.ownBlock ≠ some k

theorem TwoRows.swap {w : World} {base : Nat} {v v2 : Value} {A B : List Nat} (h : TwoRows w base v v2 A B) : TwoRows w base v2 v B A :=
  ⟨h.b, h.a, fun k h1 h2 => h.ne k h2 h1⟩

theorem TwoRows.below {w w' : World} {base : Nat} {v v2 : Value} {A B : List Nat} (h : TwoRows w base v v2 A B) (hb : Below w.heap.size w w') : TwoRows w' base v v2 A B :=
  ⟨ownsRow_below h.a hb, ownsRow_below h.b hb, h.ne⟩

theorem own_lt {w : World} {base : Nat} {e : TypeId} {size n : Nat} {v : Value} {xs : List Value} (h : w.ownsRow base e size v n xs) {k : Nat} (hk : v.ownBlock = some k) : k < w.heap.size := by
  obtain ⟨_, h1 | ⟨g, cap, cur, rfl, _, h3, _⟩⟩ := h
  · obtain ⟨rfl, _⟩ := h1; cases hk
  · have : g = k := by simpa [Value.ownBlock] using hk
    subst this
    exact lt_of_block h3

/-- One number more in the first row. -/
theorem TwoRows.more {w w' : World} {base : Nat} {v v' v2 : Value} {A B : List Nat} {k : Nat} (h : TwoRows w base v v2 A B) (h2 : w'.ownsRow base 3 1 v' (A.length + 1) ((natL A).map (Value.int .i64) ++ [.int .i64 k]))
    (hg : w.grownBy w' v.ownBlock) (hv : v'.ownBlock = v.ownBlock ∨ v'.ownBlock = some w.heap.size) : TwoRows w' base v' v2 (A ++ [k]) B := by
  refine ⟨own_snoc h2, World.ownsRow.kept h.b hg ?_, fun b h1 h3 => ?_⟩
  · cases hb : v2.ownBlock with
    | none => exact Or.inl rfl
    | some b => exact Or.inr (fun e => h.ne b e.symm hb)
  · rcases hv with hv | hv
    · exact h.ne b (by rw [← hv]; exact h1) h3
    · rw [hv] at h1
      injection h1 with h1
      subst h1
      exact absurd (own_lt h.b h3) (Nat.lt_irrefl _)

theorem TwoRows.base_le {w : World} {base : Nat} {v v2 : Value} {A B : List Nat} (h : TwoRows w base v v2 A B) : ∀ k, v.ownBlock = some k → base ≤ k := by
  obtain ⟨_, _, _, h⟩ := ownsRow_shape h.a
  exact h

theorem TwoRows.alloc {w : World} {base : Nat} {v v2 : Value} {A B : List Nat} (h : TwoRows w base v v2 A B) (o : Obj) : TwoRows (w.alloc o) base v v2 A B :=
  ⟨World.ownsRow.alloc h.a o, World.ownsRow.alloc h.b o, h.ne⟩

/-- A list of numbers in new memory, of the call's own. -/
def OwnRes (l : List Nat) (w : World) (e : Ending) (w' : World) : Prop := ∃ v, e = .returned v ∧ w'.ownsRow w.heap.size 3 1 v l.length ((natL l).map (Value.int .i64)) ∧ Below w.heap.size w w'

set_option maxRecDepth 100000 in
set_option maxHeartbeats 1000000 in
theorem those_own (K : Nat) (bs cs : Array Value) (n : Nat) (p : Nat → Bool) (w : World) (hn : n ≤ 100000) (hK : Enters K)
    (hg : ∀ (k : Nat) (w1 : World), k < n → Below w.heap.size w w1 → Calls Try.prog K (bs.push (.int .i64 k) ++ cs) w1 fun e w' => e = .returned (.bool (p k)) ∧ Below w1.heap.size w1 w') :
    Calls Try.prog 83 #[.int .i64 n, .func (.func K) bs cs] w (OwnRes ((List.range n).filter p) w) := by
  have HG := Lib.hid hg
  have hk1 := hK
  unfold Enters at hk1
  clear hg hK
  go_enter Try.func83, Try.ntmps83
  go_wp2_with fail
  obtain ⟨i0, hi0, hz0, hz1, hz2⟩ := info_parts infoInt
  go_loopw [5, 8] (fun v x wr => ∃ k : Nat, k ≤ n ∧ x = .int .i64 k ∧ Below w.heap.size w wr ∧ Hid (wr.ownsRow w.heap.size 3 1 v ((List.range k).filter p).length ((natL ((List.range k).filter p)).map (Value.int .i64)))) (fun _ x _ => n - (intOf x).toNat)
  case atStart => exact ⟨0, Nat.zero_le _, rfl, Below.refl _ _, Lib.hid ⟨by simp [natL], Or.inl ⟨rfl, by simp⟩⟩⟩
  case round =>
    obtain ⟨k, hk, rfl, hb, ho⟩ := hrel
    by_cases hlt : k < n
    · go_wp2_with fail
      refine (HG.out k wr hlt hb).mono ?_
      rintro e w1 ⟨rfl, hb1⟩
      have hb2 := hb.trans (hb1.mono hb.size)
      have HO := Lib.hid (ownsRow_below ho.out hb1)
      obtain ⟨a, c, rfl, hown⟩ := ownsRow_shape ho.out
      have HOWN := Lib.hid hown
      clear hb hb1 ho hown
      have hsz := hb2.size
      cases hq : p k
      · have HQ := Lib.hid (filter_no hq)
        clear hq
        go_wp2_with fail
        go_roundw
        case rel => exact ⟨k + 1, hlt, by go_num, hb2, by rw [HQ.out]; exact HO⟩
        case measure => simp [intOf]; omega
      · have HQ := Lib.hid (filter_yes hq)
        clear hq
        have hle := filter_len p k
        generalize hL : (List.range k).filter p = L at *
        have HL := Lib.hid hL
        clear hL
        have hln : (natL L).length = L.length := by simp [natL]
        go_wp2_with (at_builtin; refine wpList_append_own _ rfl (.tmp 14) (.tmp 16) 22 rfl w.heap.size 3 i0 (.int .i64 0) 1 8 Try.underlying22 hi0 hz0 hz1 hz2 rfl (by decide) _ L.length ((natL L).map (Value.int .i64)) rfl ?c0 _ _ _ [.int .i64 k] rfl rfl ?c1 ?c2 ?c3 ?c4 ?c5 ?_)
        case c0 => exact World.ownsRow.alloc HO.out _
        case c1 => exact one_cell _ _ _ rfl
        case c2 => intro u hu; simp only [List.mem_cons, List.not_mem_nil, or_false] at hu; subst hu; rfl
        case c3 => unfold maxLen; omega
        case c4 => omega
        case c5 => exact Nat.le_trans hsz (by rw [size_alloc]; omega)
        intro v2 w4 hown2 hgrow _
        have hbX := below_grown hgrow HOWN.out (Nat.le_trans hsz (by rw [size_alloc]; omega))
        have HBX := Lib.hid (hb2.trans (((Below.refl _ _).alloc hsz _).trans hbX))
        have HN : Hid (w4.ownsRow w.heap.size 3 1 v2 (L ++ [k]).length ((natL (L ++ [k])).map (Value.int .i64))) := by
          have e1 : (L ++ [k]).length = L.length + 1 := by simp
          have e2 : (natL (L ++ [k])).map (Value.int .i64) = (natL L).map (Value.int .i64) ++ [.int .i64 k] := by simp [natL]
          rw [e1, e2]; exact hown2
        obtain ⟨r2, c2, rfl, _⟩ := ownsRow_shape hown2
        clear hown2 hgrow hbX hb2
        go_wp2
        go_roundw
        case rel => exact ⟨k + 1, hlt, by go_num, HBX.out, by rw [HQ.out]; exact HN⟩
        case measure => simp [intOf]; omega
    · obtain rfl : k = n := by omega
      have HO := ho
      obtain ⟨a, c, rfl, _⟩ := ownsRow_shape ho.out
      go_wp2_with fail
      go_ret
      exact ⟨_, rfl, HO.out, hb⟩


theorem own_block {w : World} {base : Nat} {v : Value} {T : List Nat} (h : w.ownsRow base 3 1 v T.length ((natL T).map (Value.int .i64))) (hT : T.length ≠ 0) : ∃ tb cap o, v = .slice (some ⟨tb, 0, none⟩) T.length cap ∧ base ≤ tb ∧ w.heap[tb]? = some o := by
  obtain ⟨_, h1 | ⟨g, cap, cur, rfl, h2, h3, _⟩⟩ := h
  · exact absurd h1.2 hT
  · exact ⟨g, cap, _, rfl, h2, h3⟩

theorem in_same {w w' : World} {tb cap n : Nat} {xs : List Int} {o : Obj} (h : InAt w (.slice (some ⟨tb, 0, none⟩) n cap) xs) (h1 : w.heap[tb]? = some o) (h2 : w'.heap[tb]? = some o) : InAt w' (.slice (some ⟨tb, 0, none⟩) n cap) xs := by
  obtain ⟨a, c, e, g1, g2, g3⟩ := h
  refine ⟨a, c, e, g1, g2, fun hp => ?_⟩
  obtain ⟨b, off, rfl, hb, hc⟩ := g3 hp
  injection e with e1 _ _
  injection e1 with e1
  injection e1 with e1 e2
  subst e1 e2
  refine ⟨tb, 0, rfl, lt_of_block h2, fun i hi => ?_⟩
  have := hc i hi
  rw [← this]
  exact World.cell?_of_block (by rw [h1, h2])

/-! ### Play's literal -/
abbrev slO (v : Value) : Obj := .cells #[v] 63
abbrev inO (n : Int) : Obj := .cells #[.int .i64 n] 3

set_option maxRecDepth 100000 in
set_option maxHeartbeats 2000000 in
theorem play1_any (u : List Ups) (v : Value) (n k gu gn : Nat) (w : World) (hu : UpAt w v u) (hk : k < u.length) (h40 : u.length ≤ 40) (k1 : w.heap[gu]? = some (slO v)) (k2 : w.heap[gn]? = some (inO n)) :
    Calls Try.prog 113 #[.int .i64 k, .pointer (some ⟨gu, 0, none⟩), .pointer (some ⟨gn, 0, none⟩)] w fun e w' => e = .returned (.bool (decide ((u.getD k Ups.zero).ni = n))) ∧ Below w.heap.size w w' := by
  obtain ⟨a, cap, rfl, n1, n2, hc⟩ := hu
  obtain ⟨b, off, rfl, hbl, hc⟩ := hc (by omega)
  obtain ⟨g1, _, _⟩ := up_at (Below.refl _ _) hbl hc hk
  have y1 := bw_cells (B := w.heap.size) k1 (lt_of_block k1)
  have y2 := bw_cells (B := w.heap.size) k2 (lt_of_block k2)
  have y3 := bw_cell (B := w.heap.size) g1 hbl
  have i1 : (0 : Int) ≤ k := by omega
  have i2 : (k : Int) < u.length := by omega
  generalize (u.getD k Ups.zero).ni = q at *
  have HR := Lib.hid (show (q == (n : Int)) = decide (q = n) from rfl)
  clear hc g1 k1 k2
  go_enter Try.func113, Try.ntmps113
  go_wp2_with fail
  refine wp_region_below (by kernel_rfl) (by kernel_rfl) (Below.refl w.heap.size w) ?_
  repeat ((with_reducible refine wpQuiet_step (fun K hK => ?_)); go_simp; first | (refine hK _ ?_; clear hK K) | (apply Exists.intro; refine ⟨fun _ => ?_, hK _ ?_⟩; (fail); clear hK K))
  refine wpQuiet_nil ?_
  intro wq hwq0
  have hwq := bw_out hwq0
  clear hwq0
  go_wp2
  go_ret
  exact ⟨ret_bool HR.out, hwq⟩

theorem enters_play1 : Enters 113 := fun _ _ => by kernel_rfl

theorem behind_is {q : Nat} {c : Cir} {l : List Tri} {ks : List Int} {cl : Nat} {sv wv v kv : Value} {w : World} (h : behM c l ks cl = q) (hv : CirAt w sv wv c) (hl : TrAt w v l) (hk : InAt w kv ks) (ht : TVal c l) (hks : ∀ k ∈ ks, 0 ≤ k ∧ k < l.length) (h2 : cl < 1048576) :
    Calls Try.prog 114 #[cirV c sv wv, v, kv, .int .i64 cl] w fun e w' => e = .returned (.int .i64 (q : Nat)) ∧ Below w.heap.size w w' := by
  subst h
  exact behind_any c l ks cl sv wv v kv w hv hl hk ht hks h2

end Go.Proofs.Ytbiihhokcmdlhaa
