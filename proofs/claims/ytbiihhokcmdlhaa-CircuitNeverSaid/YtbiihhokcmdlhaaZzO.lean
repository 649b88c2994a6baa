import Derived.Test.YtbiihhokcmdlhaaZzN
/- Texts of one seat, merged: Ye -/
/- Walks of layer 3 (circuit): Play of the program. -/
namespace Go.Proofs.Ytbiihhokcmdlhaa
open Go.RowKit

theorem play_bad {c : Cir} {l : List Tri} {r : Rot} {u : List Ups} (h : ¬ chkR c l r = 0) : chkR c l r = playE c l r u ∧ playS c l r u = [] ∧ playP c l r u = [] := by
  have e : playE c l r u = chkR c l r := by unfold playE; rw [if_neg h]
  exact ⟨e.symm, by unfold playS; rw [e, if_neg h], by unfold playP; rw [e, if_neg h]⟩
theorem play_ups {c : Cir} {l : List Tri} {r : Rot} {u : List Ups} (h : chkR c l r = 0) (h2 : upsB c u = false) : playE c l r u = 33 ∧ playS c l r u = [] ∧ playP c l r u = [] := by
  have e : playE c l r u = 33 := by unfold playE; rw [if_pos h, h2]; rfl
  exact ⟨e, by unfold playS; rw [e]; rfl, by unfold playP; rw [e]; rfl⟩
theorem play_ok {c : Cir} {l : List Tri} {r : Rot} {u : List Ups} (h : chkR c l r = 0) (h2 : upsB c u = true) : playE c l r u = 0 ∧ playS c l r u = natL (stuckM c l r u (nN u)) ∧ playP c l r u = natL (passedM c l r u (nN u)) := by
  have e : playE c l r u = 0 := by unfold playE; rw [if_pos h, h2]; rfl
  exact ⟨e, by unfold playS; rw [e]; rfl, by unfold playP; rw [e]; rfl⟩

theorem stuck_len (c : Cir) (l : List Tri) (r : Rot) (u : List Ups) : ∀ n, (stuckM c l r u n).length ≤ n
  | 0 => Nat.le_refl _
  | n + 1 => by
    have := stuck_len c l r u n
    unfold stuckM
    split
    · omega
    · rw [List.length_append]; simp; omega
theorem tod_len (u : List Ups) (n : Nat) : (todM u n).length ≤ u.length := by
  have := List.length_filter_le (fun i => decide ((u.getD i Ups.zero).ni = n)) (List.range u.length)
  unfold todM
  simpa using this
theorem pas_len (c : Cir) (u : List Ups) (cl : Nat) (T : List Nat) : (pasL c u cl T).length ≤ T.length := List.length_filter_le _ _
theorem passed_len {c : Cir} {l : List Tri} {r : Rot} {u : List Ups} : ∀ n, (passedM c l r u n).length ≤ n * u.length
  | 0 => by simp [passedM]
  | n + 1 => by
    have h1 := passed_len (c := c) (l := l) (r := r) (u := u) n
    have h2 := pas_len c u (cloM c l r u (n + 1)) (todM u n)
    have h3 := tod_len u n
    unfold passedM
    rw [List.length_append, Nat.succ_mul]
    omega
theorem nN_le {c : Cir} {u : List Ups} (hu : UVal c u) : nN u ≤ 1001 := by
  unfold nN
  split
  · omega
  · have := (okU_out (hu.ok (u.length - 1) (by omega))).2.2.1
    omega
theorem in_open {w : World} {a : Option Addr} {n cap : Nat} {xs : List Int} (h : InAt w (.slice a n cap) xs) (hp : 0 < xs.length) : ∃ b off, a = some ⟨b, off, none⟩ ∧ b < w.heap.size ∧ ∀ i, i < xs.length → w.cell? ⟨b, off + i, none⟩ = some (.int .i64 (xs.getD i 0)) := by
  obtain ⟨a', c', e, _, _, h3⟩ := h
  injection e with e1 e2 e3
  subst e1
  exact h3 hp

theorem stk_take {u : List Ups} {cl j : Nat} {T : List Nat} (h : j < T.length) : stkL u cl (T.take (j + 1)) = if (u.getD (T.getD j 0) Ups.zero).ki = 1 then stkL u cl (T.take j) ||| 2 ^ (u.getD (T.getD j 0) Ups.zero).nu.toNat else stkL u cl (T.take j) := by
  rw [List.take_succ_eq_append_getElem h, stkL_snoc, List.getD_eq_getElem?_getD (l := T), List.getElem?_eq_getElem h]; rfl
theorem pas_take {c : Cir} {u : List Ups} {cl j : Nat} {T : List Nat} (h : j < T.length) : pasL c u cl (T.take (j + 1)) = if (decide ((u.getD (T.getD j 0) Ups.zero).ki = 2) && passM c (u.getD (T.getD j 0) Ups.zero).nu.toNat cl) = true then pasL c u cl (T.take j) ++ [T.getD j 0] else pasL c u cl (T.take j) := by
  unfold pasL
  rw [List.take_succ_eq_append_getElem h, List.filter_append, List.filter_cons, List.filter_nil, List.getD_eq_getElem?_getD (l := T), List.getElem?_eq_getElem h]
  simp only [Option.getD_some]
  split
  · rfl
  · rw [List.append_nil]

set_option maxRecDepth 100000 in
set_option maxHeartbeats 8000000 in
theorem cplay_any (c : Cir) (l : List Tri) (r : Rot) (u : List Ups) (sv wv v nv uv : Value) (w : World) (hv : CirAt w sv wv c) (hl : TrAt w v l) (hr : NsAt w nv r.nights) (hu : UpAt w uv u) :
    Calls Try.prog 45 #[cirV c sv wv, v, rotV r nv, uv] w (ListsErr (playS c l r u) (playP c l r u) (playE c l r u) w) := by
  have hb0 := blw3 w (cirO c sv wv) (rotO r nv) (slO uv)
  have HB := Lib.hid hb0
  have K0 := Lib.hid (three_0 w (cirO c sv wv) (rotO r nv) (slO uv))
  have K1 := Lib.hid (three_1 w (cirO c sv wv) (rotO r nv) (slO uv))
  have K2 := Lib.hid (three_2 w (cirO c sv wv) (rotO r nv) (slO uv))
  have HV := Lib.hid (hv.below hb0 (Nat.le_refl _))
  have HT := Lib.hid (hl.below hb0 (Nat.le_refl _))
  have HN := Lib.hid (hr.below hb0 (Nat.le_refl _))
  have HU := Lib.hid (hu.below hb0 (Nat.le_refl _))
  obtain ⟨ta, tcap, rfl, _, m2, _⟩ := hl
  obtain ⟨na, ncap, rfl, m3, m4, _⟩ := hr
  obtain ⟨ua, ucap, rfl, m5, m6, _⟩ := hu
  clear hb0 hv
  by_cases hq : chkR c l r = 0
  rotate_left
  · obtain ⟨hE, hS, hP⟩ := play_bad (u := u) hq
    have HE := Lib.hid hE
    have HS := Lib.hid hS
    have HP := Lib.hid hP
    have hqb : (chkR c l r == 0) = false := by simpa using hq
    have hqc : (chkR c l r != 0) = true := by simpa using hq
    clear hq hE hS hP
    go_enter Try.func45, Try.ntmps45
    go_wp2_with fail
    generalize ((w.alloc (cirO c sv wv)).alloc (rotO r (.slice na r.nights.length ncap))).alloc (slO (.slice ua u.length ucap)) = wA at *
    refine (ccheckR_any c l r _ _ _ _ _ HV.out HT.out HN.out).mono ?_
    rintro e w1 ⟨rfl, hb1⟩
    generalize chkR c l r = m at *
    go_wp2
    go_ret3
    exact ⟨.slice none 0 0, .slice none 0 0, by rw [HE.out]; rfl, by rw [HS.out]; exact InAt.nil _, by rw [HP.out]; exact InAt.nil _, HB.out.trans (hb1.mono HB.out.size)⟩
  have HQ := Lib.hid hq
  have HRV := Lib.hid (rval hq)
  cases hub : upsB c u
  · obtain ⟨hE, hS, hP⟩ := play_ups hq hub
    have HE := Lib.hid hE
    have HS := Lib.hid hS
    have HP := Lib.hid hP
    have HUB := Lib.hid hub
    clear hq hE hS hP hub
    go_enter Try.func45, Try.ntmps45
    go_wp2_with fail
    generalize ((w.alloc (cirO c sv wv)).alloc (rotO r (.slice na r.nights.length ncap))).alloc (slO (.slice ua u.length ucap)) = wA at *
    refine (ccheckR_any c l r _ _ _ _ _ HV.out HT.out HN.out).mono ?_
    rintro e w1 ⟨rfl, hb1⟩
    rw [HQ.out]
    have HB1 := Lib.hid hb1
    have c0 := block_cell (keepZ K0.out hb1)
    have c2 := block_cell (keepZ K2.out hb1)
    clear hb1
    go_wp2_with fail
    refine (rcond_is HUB.out (careU_any c u _ wv _ _ (HV.out.below HB1.out (Nat.le_refl _)) (HU.out.below HB1.out (Nat.le_refl _)) HRV.out.t.cv)).mono ?_
    rintro e w2 ⟨rfl, hb2⟩
    clear c0 c2
    go_wp2
    go_ret3
    exact ⟨.slice none 0 0, .slice none 0 0, by rw [HE.out]; rfl, by rw [HS.out]; exact InAt.nil _, by rw [HP.out]; exact InAt.nil _, HB.out.trans ((HB1.out.trans (hb2.mono HB1.out.size)).mono HB.out.size)⟩
  obtain ⟨hE, hS, hP⟩ := play_ok (l := l) (r := r) hq hub
  have HE := Lib.hid hE
  have HS := Lib.hid hS
  have HP := Lib.hid hP
  have HUB := Lib.hid hub
  have HUV := Lib.hid (uval hub)
  have hul := (uval hub).n
  have s12 := (rval hq).t.cv.s2
  have n60 := (rval hq).n2
  have n1 := (rval hq).n1
  have HNN := Lib.hid (nN_le (uval hub))
  have HCL := Lib.hid (fun n => clo_lt (l := l) (r := r) (uval hub) s12 n)
  clear hq hE hS hP hub
  obtain ⟨i0, hi0, hz0, hz1, hz2⟩ := info_parts infoInt
  go_enter Try.func45, Try.ntmps45
  go_wp2_with fail
  generalize ((w.alloc (cirO c sv wv)).alloc (rotO r (.slice na r.nights.length ncap))).alloc (slO (.slice ua u.length ucap)) = wA at *
  refine (ccheckR_any c l r _ _ _ _ _ HV.out HT.out HN.out).mono ?_
  rintro e w1 ⟨rfl, hb1⟩
  rw [HQ.out]
  have HB1 := Lib.hid hb1
  have c0 := block_cell (keepZ K0.out hb1)
  have c2 := block_cell (keepZ K2.out hb1)
  clear hb1
  go_wp2_with fail
  refine (rcond_is HUB.out (careU_any c u _ wv _ _ (HV.out.below HB1.out (Nat.le_refl _)) (HU.out.below HB1.out (Nat.le_refl _)) HRV.out.t.cv)).mono ?_
  rintro e w2 ⟨rfl, hb2⟩
  have HB2 := Lib.hid (HB1.out.trans (hb2.mono HB1.out.size))
  clear hb2
  clear c0 c2
  have c2 := block_cell (keepZ K2.out HB2.out)
  go_wp2_with fail
  refine (nightsOf_any c u _ _ (HU.out.below HB2.out (Nat.le_refl _)) HUV.out).mono ?_
  rintro e w3 ⟨rfl, rfl⟩
  clear c2
  have hnn := HNN.out
  generalize hNN : nN u = NN at *
  clear hNN
  go_wp2_with fail
  go_loopw [8, 9, 12, 32] (fun va vb x i wr => ∃ n : Nat, n ≤ NN ∧ i = .int .i64 n ∧ x = .int .i64 (cloM c l r u n : Nat) ∧ Hid (TwoRows wr w2.heap.size va vb (stuckM c l r u n) (passedM c l r u n)) ∧ Hid (Below w2.heap.size w2 wr)) (fun _ _ _ i _ => NN - (intOf i).toNat)
  case atStart => exact ⟨0, Nat.zero_le _, rfl, rfl, Lib.hid ⟨⟨by simp [stuckM, natL], Or.inl ⟨rfl, rfl⟩⟩, ⟨by simp [passedM, natL], Or.inl ⟨rfl, rfl⟩⟩, fun k h => by cases h⟩, Lib.hid (Below.refl _ _)⟩
  case round =>
    obtain ⟨n, hn, rfl, rfl, hTR, hb⟩ := hrel
    by_cases hlt : n < NN
    rotate_left
    · obtain rfl : n = NN := by omega
      have HI1 := Lib.hid (InAt.of_own hTR.out.a)
      have HI2 := Lib.hid (InAt.of_own hTR.out.b)
      obtain ⟨sa1, sc1, rfl, _⟩ := ownsRow_shape hTR.out.a
      obtain ⟨sa2, sc2, rfl, _⟩ := ownsRow_shape hTR.out.b
      go_wp2_with fail
      go_ret3
      exact ⟨_, _, by rw [HE.out]; rfl, by rw [HS.out]; exact HI1.out, by rw [HP.out]; exact HI2.out, HB.out.trans ((HB2.out.trans (hb.out.mono HB2.out.size)).mono HB.out.size)⟩
    have hszr := hb.out.size
    have HBW := Lib.hid (HB2.out.trans (hb.out.mono HB2.out.size))
    have hb3 := (Below.refl wr.heap.size wr).alloc (Nat.le_refl _) (inO n)
    have KN := Lib.hid (block_new wr (inO n) wr.heap.size rfl)
    have KU3 := Lib.hid (block_alloc (keepZ K2.out HBW.out) (inO n))
    have HB3 := Lib.hid (hb.out.trans (hb3.mono hszr))
    have HTR3 := Lib.hid (hTR.out.alloc (inO n))
    have HOL1 := Lib.hid (fun k h => own_lt hTR.out.a (k := k) h)
    have HOL2 := Lib.hid (fun k h => own_lt hTR.out.b (k := k) h)
    have HSZB := Lib.hid (size_alloc wr (inO n))
    have HBW3 := Lib.hid (HBW.out.trans (hb3.mono HBW.out.size))
    have HUW3 := Lib.hid (HU.out.below HBW3.out (Nat.le_refl _))
    have c2 := block_cell KU3.out
    obtain ⟨sva, scp, rfl, _⟩ := ownsRow_shape hTR.out.a
    obtain ⟨pva, pcp, rfl, _⟩ := ownsRow_shape hTR.out.b
    have hsl := stuck_len c l r u n
    have hpl := passed_len (c := c) (l := l) (r := r) (u := u) n
    have hcl := HCL.out n
    have HST := Lib.hid (show stuckM c l r u (n + 1) = if todM u n = [] then stuckM c l r u n else stuckM c l r u n ++ [cloM c l r u (n + 1)] from rfl)
    have HPT := Lib.hid (show passedM c l r u (n + 1) = passedM c l r u n ++ pasL c u (cloM c l r u (n + 1)) (todM u n) from rfl)
    have HCT := Lib.hid (show behM c l (r.nights.getD (n % r.nights.length) []) (stkL u (cloM c l r u n) (todM u n)) = cloM c l r u (n + 1) from rfl)
    have HCLN := Lib.hid (HCL.out (n + 1))
    have hpl2 : (passedM c l r u n).length ≤ 50000 := by
      have := Nat.mul_le_mul (show n ≤ 1001 by omega) hul
      omega
    generalize stuckM c l r u n = SS at *
    generalize passedM c l r u n = PP at *
    generalize cloM c l r u n = cl at *
    generalize hcl1 : cloM c l r u (n + 1) = cl1 at *
    have HC1 := Lib.hid hcl1
    clear hcl1
    clear hb3 hTR hb hpl
    go_upto_region 10 with fail
    generalize wr.alloc (inO n) = wB at *
    go_wp2_with fail
    refine (those_own _ #[] #[.pointer (some ⟨w.heap.size + 2, 0, none⟩), .pointer (some ⟨wr.heap.size, 0, none⟩)] u.length (fun i => decide ((u.getD i Ups.zero).ni = n)) _ (by omega) enters_play1 (fun i w5 hi5 hb5 => ?_)).mono ?_
    · exact play1_any u _ n i _ _ w5 (HUW3.out.below hb5 (Nat.le_refl _)) hi5 hul (keepZ KU3.out hb5) (keepZ KN.out hb5)
    rintro e w5 ⟨v5, rfl, hin, hb5⟩
    have HOW5 := Lib.hid (show w5.ownsRow wB.heap.size 3 1 v5 (todM u n).length ((natL (todM u n)).map (Value.int .i64)) from hin)
    have HM5 := Lib.hid (InAt.of_own HOW5.out)
    have HTR5 := Lib.hid (HTR3.out.below hb5)
    have HB5 := Lib.hid (HB3.out.trans (hb5.mono HB3.out.size))
    have HBW5 := Lib.hid (HBW3.out.trans (hb5.mono HBW3.out.size))
    have KN5 := Lib.hid (keepZ KN.out hb5)
    have HTL := Lib.hid (fun i (h : i ∈ todM u n) => tod_lt h)
    have hml := tod_len u n
    obtain ⟨ma, mcap, hmv, _⟩ := HM5.out
    subst hmv
    rw [natL_len] at HM5 HOW5 ⊢
    generalize todM u n = T at *
    clear hb5 hin c2
    have c2 := block_cell (keepZ K2.out HBW5.out)
    have HUW5 := Lib.hid (HU.out.below HBW5.out (Nat.le_refl _))
    have HSTK := Lib.hid (fun j (h : j < T.length) => stk_take (u := u) (cl := cl) h)
    have HSLT := Lib.hid (fun j => stkL_lt HUV.out (B := 12) s12 (cl := cl) hcl (T.take j) (fun i hi => HTL.out i (List.mem_of_mem_take hi)))
    go_wp2_with fail
    go_loop [12, 41] (fun x i => ∃ j : Nat, j ≤ T.length ∧ i = .int .i64 j ∧ x = .int .i64 (stkL u cl (T.take j) : Nat)) (fun _ i => T.length - (intOf i).toNat)
    case atStart => exact ⟨0, Nat.zero_le _, rfl, by rw [List.take_zero]; rfl⟩
    case round =>
      obtain ⟨j, hj, rfl, rfl⟩ := hrel
      by_cases hlj : j < T.length
      · have HJ := Lib.hid (HSTK.out j hlj)
        have hx := HSLT.out j
        have hTi := HTL.out _ (getD_mem hlj 0)
        obtain ⟨mb, moff, e1, mbl, mcc⟩ := in_open HM5.out (by rw [natL_len]; omega)
        subst e1
        have q1 := mcc j (by rw [natL_len]; exact hlj)
        rw [natL_getD] at q1
        generalize T.getD j 0 = p at *
        obtain ⟨_, _, e4, _, _, ucc⟩ := HUW5.out
        injection e4 with e4 e5 e6
        subst e4
        obtain ⟨ub, uoff, rfl, ubl, ucc⟩ := ucc (by omega)
        obtain ⟨q2, q3, q4⟩ := up_at (Below.refl _ _) ubl ucc hTi
        have HOKU := Lib.hid (isU_out (okU_out (HUV.out.ok p hTi)).2.2.2)
        generalize u.getD p Ups.zero = X at *
        obtain ⟨xn, xk, xu⟩ := X
        dsimp only at q2 q3 q4 HJ HOKU
        generalize stkL u cl (T.take j) = x at *
        have j1 : (0 : Int) ≤ j := by omega
        have j2 : (j : Int) < T.length := by omega
        have p1 : (0 : Int) ≤ p := by omega
        have p2 : (p : Int) < u.length := by omega
        clear mcc ucc e5 e6
        by_cases hk1 : xk = 1
        · obtain ⟨un, hun⟩ : ∃ un : Nat, xu = un := ⟨xu.toNat, by rcases HOKU.out with h | h <;> omega⟩
          have hu12 : un < 12 := by rcases HOKU.out with h | h <;> omega
          subst hun hk1
          have HJ2 := Lib.hid (HJ.out.trans (if_pos rfl))
          rw [Int.toNat_natCast] at HJ2
          have hpw : 2 ^ un < 1048576 := pow_set (by omega)
          obtain ⟨y, hy⟩ : ∃ y, 2 ^ un = y := ⟨_, rfl⟩
          have HY := Lib.hid hy
          rw [hy] at HJ2 hpw
          have hor := i64_or_nat x y (by omega) (by omega)
          clear hy
          go_wp2_with (go_at_call 86; refine (calone_is y un _ (by omega) HY.out).mono ?_; rintro e w6 ⟨rfl, rfl⟩)
          go_round
          case rel => exact ⟨j + 1, hlj, by go_num, by rw [HJ2.out]⟩
          case measure => simp [intOf]; omega
        · have HJ2 := Lib.hid (HJ.out.trans (if_neg hk1))
          have hk1b : (xk == 1) = false := by simpa using hk1
          go_wp2_with fail
          go_round
          case rel => exact ⟨j + 1, hlj, by go_num, by rw [HJ2.out]⟩
          case measure => simp [intOf]; omega
      · obtain rfl : j = T.length := by omega
        rw [List.take_length]
        have hm : n % r.nights.length < r.nights.length := Nat.mod_lt _ (by omega)
        have hmod : (n : Int).tmod (r.nights.length : Int) = ((n % r.nights.length : Nat) : Int) := tmod_nat n r.nights.length
        obtain ⟨_, _, e1, _, _, ncc⟩ := HN.out
        injection e1 with e1 e2 e3
        subst e1
        obtain ⟨nb, noff, rfl, nbl, ncc⟩ := ncc (by omega)
        obtain ⟨un, q1, q2⟩ := ncc _ hm
        have q1 := (HBW5.out.cell (p := ⟨nb, noff + n % r.nights.length, none⟩) nbl).trans q1
        have nbl2 := Nat.lt_of_lt_of_le nbl HBW5.out.size
        have HKS := Lib.hid (HRV.out.a _ (getD_mem hm []))
        have HIK := Lib.hid (q2.below HBW5.out (Nat.le_refl _))
        obtain ⟨ka, kcap, rfl, _⟩ := q2
        have hl0 : ¬ r.nights = [] := fun h => by rw [h] at n1; simp at n1
        generalize r.nights.getD (n % r.nights.length) [] = ks at *
        generalize n % r.nights.length = m at *
        have hsx := HSLT.out T.length
        rw [List.take_length] at hsx
        generalize stkL u cl T = x at *
        have y0 := bw_cells (B := w5.heap.size) (keepZ K0.out HBW5.out) (lt_of_block (keepZ K0.out HBW5.out))
        have y1 := bw_cells (B := w5.heap.size) (keepZ K1.out HBW5.out) (lt_of_block (keepZ K1.out HBW5.out))
        have y2 := bw_cells (B := w5.heap.size) KN5.out (lt_of_block KN5.out)
        have y3 := bw_cell (B := w5.heap.size) q1 nbl2
        have HVX := Lib.hid (HV.out.below HBW5.out (Nat.le_refl _))
        have HTX := Lib.hid (HT.out.below HBW5.out (Nat.le_refl _))
        have hXc : Hid (∀ x : BW w5.heap.size w5, CirAt x.w sv wv c) := fun x => HVX.out.below x.b (Nat.le_refl _)
        have hXt : Hid (∀ x : BW w5.heap.size w5, TrAt x.w (.slice ta l.length tcap) l) := fun x => HTX.out.below x.b (Nat.le_refl _)
        have hXk : Hid (∀ x : BW w5.heap.size w5, InAt x.w (.slice ka ks.length kcap) ks) := fun x => HIK.out.below x.b (Nat.le_refl _)
        have i1 : (0 : Int) ≤ m := by omega
        have i2 : (m : Int) < r.nights.length := by omega
        clear ncc e2 e3 q1 c2
        go_wp2_with fail
        refine wp_region_below (by kernel_rfl) (by kernel_rfl) (Below.refl w5.heap.size w5) ?_
        repeat ((with_reducible refine wpQuiet_step (fun K hK => ?_)); go_simp; first | (refine hK _ ?_; clear hK K) | (apply Exists.intro; refine ⟨fun _ => ?_, hK _ ?_⟩; ((go_at_call 114; exact bw_call (Nat.le_refl _) (behind_is HCT.out (hXc.out _) (hXt.out _) (hXk.out _) HRV.out.t HKS.out (by omega)))); clear hK K))
        refine wpQuiet_nil ?_
        intro wq hwq0
        have hwq := bw_out hwq0
        clear hwq0
        have HTR6 := Lib.hid (HTR5.out.below hwq)
        have hwqX := Lib.hid hwq
        have HB6 := Lib.hid (HB5.out.trans (hwq.mono HB5.out.size))
        have HBW6 := Lib.hid (HBW5.out.trans (hwq.mono HBW5.out.size))
        have HM6 := Lib.hid (HM5.out.below hwq (Nat.le_refl _))
        have hszq := HB6.out.size
        clear y0 y1 y2 y3 hwq
        by_cases hT0 : T.length = 0
        · have hTn : T = [] := List.eq_nil_of_length_eq_zero hT0
          have HST2 := Lib.hid (HST.out.trans (if_pos hTn))
          have HPT2 := Lib.hid (show passedM c l r u (n + 1) = PP by rw [HPT.out, hTn]; simp [pasL])
          have hgt : ¬ (0 : Int) < T.length := by omega
          clear hTn
          go_wp2_with fail
          go_loop [9, 82] (fun x i => i = .int .i64 0 ∧ x = .slice pva PP.length pcp) (fun _ _ => 0)
          case atStart => exact ⟨rfl, rfl⟩
          case round =>
            obtain ⟨rfl, rfl⟩ := hrel
            go_wp2_with fail
            go_roundw
            case rel => exact ⟨n + 1, hlt, by go_num, by rw [HC1.out], by rw [HST2.out, HPT2.out]; exact HTR6, HB6⟩
            case measure => simp [intOf]; omega
        · have hTn : ¬ T = [] := fun h => hT0 (by rw [h]; rfl)
          have HST2 := Lib.hid (HST.out.trans (if_neg hTn))
          have hgt : (0 : Int) < T.length := by omega
          have hc1 := HCLN.out
          obtain ⟨tb, tcp, oT, htv, htb, hto⟩ := own_block HOW5.out hT0
          injection htv with ht1 _ ht3
          subst ht1 ht3
          have htb5 := lt_of_block hto
          have HTO := Lib.hid ((hwqX.out.block tb htb5).trans hto)
          have htr : wr.heap.size < tb := by have := HSZB.out; omega
          have HN1 := Lib.hid (fun k (h : (Value.slice sva SS.length scp).ownBlock = some k) => show k ≠ tb by have := HOL1.out k h; omega)
          have HN2 := Lib.hid (fun k (h : (Value.slice pva PP.length pcp).ownBlock = some k) => show k ≠ tb by have := HOL2.out k h; omega)
          clear hTn hto
          go_wp2_with (at_builtin; refine wpList_append_own_at _ rfl (.tmp 76) (.tmp 78) 22 rfl w2.heap.size 3 i0 (.int .i64 0) 1 8 Try.underlying22 hi0 hz0 hz1 hz2 rfl (by decide) _ SS.length ((natL SS).map (Value.int .i64)) rfl ?c0 _ _ _ [.int .i64 cl1] rfl rfl ?c1 ?c2 ?c3 ?c4 ?c5 ?_)
          case c0 => exact World.ownsRow.alloc HTR6.out.a _
          try (case c1 => exact one_cell _ _ _ rfl)
          case c2 => first | rfl | (intro u hu; simp only [List.mem_cons, List.not_mem_nil, or_false] at hu; subst hu; rfl)
          case c3 => unfold maxLen; omega
          case c4 => omega
          case c5 => first | exact Nat.le_trans hszq (al_le _ _) | (simp; omega) | omega
          intro v7 w7 hown2 hgrow _ hat
          have HTR7 := Lib.hid (TwoRows.more (HTR6.out.alloc _) hown2 hgrow (hat.imp id (fun h => by rw [size_alloc]; exact h)))
          have hbX := below_grown hgrow HTR6.out.base_le (Nat.le_trans hszq (al_le _ _))
          have HB7 := Lib.hid (HB6.out.trans (((Below.refl _ _).alloc hszq _).trans hbX))
          have hszw := hgrow.size
          have HTO7 := Lib.hid (show w7.heap[tb]? = some oT by
            rw [hgrow.block tb (lt_of_block (block_alloc HTO.out _)) (fun e => HN1.out tb e.symm rfl)]
            exact block_alloc HTO.out _)
          have HNV := Lib.hid (fun k (h : v7.ownBlock = some k) => show k ≠ tb by
            rcases hat with h5 | h5
            · exact HN1.out k (by rw [← h5]; exact h)
            · rw [h] at h5; injection h5 with h5; have := lt_of_block HTO.out; omega)
          have HM7 := Lib.hid (in_same HM6.out HTO.out HTO7.out)
          obtain ⟨r2, rc2, rfl, _⟩ := ownsRow_shape hown2
          clear hown2 hgrow hbX hat
          go_wp2_with fail
          go_loopw [9, 82] (fun v2 i wr => ∃ j : Nat, j ≤ T.length ∧ i = .int .i64 j ∧ Hid (TwoRows wr w2.heap.size (.slice r2 (SS.length + 1) rc2) v2 (SS ++ [cl1]) (PP ++ pasL c u cl1 (T.take j))) ∧ Hid (Below w2.heap.size w2 wr) ∧ Hid (wr.heap[tb]? = some oT) ∧ Hid (∀ k, v2.ownBlock = some k → k ≠ tb)) (fun _ i _ => T.length - (intOf i).toNat)
          case atStart => exact ⟨0, Nat.zero_le _, rfl, by rw [List.take_zero]; simpa [pasL] using HTR7, HB7, HTO7, HN2⟩
          case round =>
            obtain ⟨j, hj, rfl, hTW, hbj, hto, hnb⟩ := hrel
            have HBWJ := Lib.hid (HB2.out.trans (hbj.out.mono HB2.out.size))
            by_cases hlj : j < T.length
            · have HPT3 := Lib.hid (pas_take (c := c) (u := u) (cl := cl1) hlj)
              have hTi := HTL.out _ (getD_mem hlj 0)
              obtain ⟨mb, moff, e1, mbl, mcc⟩ := in_open (in_same HM7.out HTO7.out hto.out) (by rw [natL_len]; omega)
              injection e1 with e1
              injection e1 with e1 e7
              subst e1 e7
              have q1 := mcc j (by rw [natL_len]; exact hlj)
              rw [natL_getD, Nat.zero_add] at q1
              generalize T.getD j 0 = p at *
              obtain ⟨_, _, e4, _, _, ucc⟩ := (HU.out.below HBWJ.out (Nat.le_refl _))
              injection e4 with e4 e5 e6
              subst e4
              obtain ⟨ub, uoff, rfl, ubl, ucc⟩ := ucc (by omega)
              obtain ⟨q2, q3, q4⟩ := up_at (Below.refl _ _) ubl ucc hTi
              have HOKU := Lib.hid (isU_out (okU_out (HUV.out.ok p hTi)).2.2.2)
              generalize u.getD p Ups.zero = X at *
              obtain ⟨xn, xk, xu⟩ := X
              dsimp only at q2 q3 q4 HPT3 HOKU
              have hpz : (PP ++ pasL c u cl1 (T.take j)).length ≤ 60000 := by
                have h1 := pas_len c u cl1 (T.take j)
                have h2 := List.length_take_le j T
                rw [List.length_append]; omega
              generalize hQQ : PP ++ pasL c u cl1 (T.take j) = QQ at *
              have HQQ := Lib.hid hQQ
              obtain ⟨qva, qcp, rfl, _⟩ := ownsRow_shape hTW.out.b
              have y0 := bw_cells (B := wr.heap.size) (keepZ K0.out HBWJ.out) (lt_of_block (keepZ K0.out HBWJ.out))
              have y1 := bw_cells (B := wr.heap.size) (keepZ K2.out HBWJ.out) (lt_of_block (keepZ K2.out HBWJ.out))
              have y2 := bw_cell (B := wr.heap.size) q3 ubl
              have y3 := bw_cell (B := wr.heap.size) q4 ubl
              have HVX2 := Lib.hid (HV.out.below HBWJ.out (Nat.le_refl _))
              have hXc2 : Hid (∀ x : BW wr.heap.size wr, CirAt x.w sv wv c) := fun x => HVX2.out.below x.b (Nat.le_refl _)
              have j1 : (0 : Int) ≤ j := by omega
              have j2 : (j : Int) < T.length := by omega
              have p1 : (0 : Int) ≤ p := by omega
              have p2 : (p : Int) < u.length := by omega
              clear mcc ucc e5 e6 q2 q3 q4 hQQ
              by_cases hk2 : xk = 2
              · obtain ⟨un, hun⟩ : ∃ un : Nat, xu = un ∧ un < 1048576 := by
                  rcases HOKU.out with h | ⟨_, _, h⟩
                  · omega
                  · unfold setB at h
                    rw [decide_eq_true_eq] at h
                    have gp := Nat.pow_le_pow_right (show 0 < 2 by omega) (show c.hz.toNat ≤ 8 by have := HRV.out.t.cv.h2; omega)
                    have : ((2 : Int) ^ c.hz.toNat) = ((2 ^ c.hz.toNat : Nat) : Int) := by simp
                    exact ⟨xu.toNat, by omega, by omega⟩
                obtain ⟨hun, hun20⟩ := hun
                subst hun hk2
                rw [decide_eq_true rfl, Bool.true_and, Int.toNat_natCast] at HPT3
                obtain ⟨q, hq⟩ : ∃ q, passM c un cl1 = q := ⟨_, rfl⟩
                have HPQ := Lib.hid hq
                rw [hq] at HPT3
                clear hq
                go_wp2_with fail
                refine wp_region_below (by kernel_rfl) (by kernel_rfl) (Below.refl wr.heap.size wr) ?_
                repeat ((with_reducible refine wpQuiet_step (fun K hK => ?_)); go_simp; first | (refine hK _ ?_; clear hK K) | (apply Exists.intro; refine ⟨fun _ => ?_, hK _ ?_⟩; ((go_at_call 88; exact bw_call (Nat.le_refl _) (rcond_is HPQ.out (passes_any c sv wv un cl1 _ (hXc2.out _) HRV.out.t.cv hun20 (by omega))))); clear hK K))
                refine wpQuiet_nil ?_
                intro wq hwq0
                have hwq := bw_out hwq0
                clear hwq0
                have HTWQ := Lib.hid (hTW.out.below hwq)
                have HBJQ := Lib.hid (hbj.out.trans (hwq.mono hbj.out.size))
                have HTOQ := Lib.hid ((hwq.block tb (lt_of_block hto.out)).trans hto.out)
                clear hwq y0 y1 y2 y3
                cases q
                · have HN5 := Lib.hid (show PP ++ pasL c u cl1 (T.take (j + 1)) = QQ by rw [HPT3.out]; exact HQQ.out)
                  go_wp2_with fail
                  go_roundw
                  case rel => exact ⟨j + 1, hlj, by go_num, by rw [HN5.out]; exact HTWQ, HBJQ, HTOQ, hnb⟩
                  case measure => simp [intOf]; omega
                · have HN5 := Lib.hid (show PP ++ pasL c u cl1 (T.take (j + 1)) = QQ ++ [p] by rw [HPT3.out, if_pos rfl, ← List.append_assoc, HQQ.out])
                  go_wp2_with (at_builtin; refine wpList_append_own_at _ rfl (.tmp 102) (.tmp 104) 22 rfl w2.heap.size 3 i0 (.int .i64 0) 1 8 Try.underlying22 hi0 hz0 hz1 hz2 rfl (by decide) _ QQ.length ((natL QQ).map (Value.int .i64)) rfl ?d0 _ _ _ [.int .i64 p] rfl rfl ?d1 ?d2 ?d3 ?d4 ?d5 ?_)
                  case d0 => exact World.ownsRow.alloc HTWQ.out.b _
                  try (case d1 => exact one_cell _ _ _ rfl)
                  case d2 => first | rfl | (intro u hu; simp only [List.mem_cons, List.not_mem_nil, or_false] at hu; subst hu; rfl)
                  case d3 => unfold maxLen; omega
                  case d4 => omega
                  case d5 => first | exact Nat.le_trans HBJQ.out.size (al_le _ _) | (have := HBJQ.out.size; simp; omega) | (have := HBJQ.out.size; omega)
                  intro v8 w8 hown2 hgrow _ hat
                  have HTR8 := Lib.hid (TwoRows.more (HTWQ.out.swap.alloc _) hown2 hgrow (hat.imp id (fun h => by rw [size_alloc]; exact h))).swap
                  have hbX := below_grown hgrow HTWQ.out.swap.base_le (Nat.le_trans HBJQ.out.size (al_le _ _))
                  have HB8 := Lib.hid (HBJQ.out.trans (((Below.refl _ _).alloc HBJQ.out.size _).trans hbX))
                  have HTO8 := Lib.hid (show w8.heap[tb]? = some oT by
                    rw [hgrow.block tb (lt_of_block (block_alloc HTOQ.out _)) (fun e => hnb.out tb e.symm rfl)]
                    exact block_alloc HTOQ.out _)
                  have HNV8 := Lib.hid (fun k (h : v8.ownBlock = some k) => show k ≠ tb by
                    rcases hat with h5 | h5
                    · exact hnb.out k (by rw [← h5]; exact h)
                    · rw [h] at h5; injection h5 with h5; have := lt_of_block HTOQ.out; omega)
                  obtain ⟨r3, rc3, rfl, _⟩ := ownsRow_shape hown2
                  clear hown2 hgrow hbX hat
                  go_wp2_with fail
                  go_roundw
                  case rel => exact ⟨j + 1, hlj, by go_num, by rw [HN5.out]; exact HTR8, HB8, HTO8, HNV8⟩
                  case measure => simp [intOf]; omega
              · have hk2b : (xk == 2) = false := by simpa using hk2
                rw [decide_eq_false hk2, Bool.false_and] at HPT3
                have HN5 := Lib.hid (show PP ++ pasL c u cl1 (T.take (j + 1)) = QQ by rw [HPT3.out]; exact HQQ.out)
                go_wp2_with fail
                refine wp_region_below (by kernel_rfl) (by kernel_rfl) (Below.refl wr.heap.size wr) ?_
                repeat ((with_reducible refine wpQuiet_step (fun K hK => ?_)); go_simp; first | (refine hK _ ?_; clear hK K) | (apply Exists.intro; refine ⟨fun _ => ?_, hK _ ?_⟩; (fail); clear hK K))
                refine wpQuiet_nil ?_
                intro wq hwq0
                have hwq := bw_out hwq0
                clear hwq0
                have HTWQ := Lib.hid (hTW.out.below hwq)
                have HBJQ := Lib.hid (hbj.out.trans (hwq.mono hbj.out.size))
                have HTOQ := Lib.hid ((hwq.block tb (lt_of_block hto.out)).trans hto.out)
                clear hwq y0 y1 y2 y3
                go_wp2_with fail
                go_roundw
                case rel => exact ⟨j + 1, hlj, by go_num, by rw [HN5.out]; exact HTWQ, HBJQ, HTOQ, hnb⟩
                case measure => simp [intOf]; omega
            · obtain rfl : j = T.length := by omega
              have HPT4 := Lib.hid (show passedM c l r u (n + 1) = PP ++ pasL c u cl1 (T.take T.length) by rw [List.take_length]; exact HPT.out)
              go_wp2_with fail
              go_roundw
              case rel => exact ⟨n + 1, hlt, by go_num, by rw [HC1.out], by rw [HST2.out, HPT4.out]; exact hTW, hbj⟩
              case measure => simp [intOf]; omega

end Go.Proofs.Ytbiihhokcmdlhaa
