import Derived.Test.YtbiihhokcmdlhaaZzO
import Derived.Deep.CutBlock
import Derived.Test.YtbiihhokcmdlhaaRows
import Derived.ProofKit
import Derived.Deep.Slices
import Derived.ChangeOld
import Derived.Below
import Derived.SizedLaws
/- Texts of one seat, merged: Yf Yg Go -/
/- Walks of layer 3 (circuit): Play of the specification. -/
namespace Go.Proofs.Ytbiihhokcmdlhaa
open Go.RowKit

set_option maxRecDepth 100000 in
set_option maxHeartbeats 8000000 in
theorem rplay_any (c : Cir) (l : List Tri) (r : Rot) (u : List Ups) (sv wv v nv uv : Value) (w : World) (hv : CirAt w sv wv c) (hl : TrAt w v l) (hr : NsAt w nv r.nights) (hu : UpAt w uv u) :
    Calls Try.prog 46 #[cirV c sv wv, v, rotV r nv, uv] w (ListsErr (playS c l r u) (playP c l r u) (playE c l r u) w) := by
  have hb0 := blw2 w (cirO c sv wv) (rotO r nv)
  have HB := Lib.hid hb0
  have K0 := Lib.hid (two_od w (cirO c sv wv) (rotO r nv))
  have K1 := Lib.hid (two_nw w (cirO c sv wv) (rotO r nv))
  have HV := Lib.hid (hv.below hb0 (Nat.le_refl _))
  have HT := Lib.hid (hl.below hb0 (Nat.le_refl _))
  have HN := Lib.hid (hr.below hb0 (Nat.le_refl _))
  have HU := Lib.hid (hu.below hb0 (Nat.le_refl _))
  obtain ⟨ta, tcap, rfl, _, m2, _⟩ := hl
  obtain ⟨na, ncap, rfl, m3, m4, _⟩ := hr
  obtain ⟨ua, ucap, rfl, m5, m6, _⟩ := hu
  have m7 : (l.length : Int) ≤ 9223372036854775807 := by omega
  clear hb0 hv
  by_cases ht : chkT c l = 0
  rotate_left
  · have hq : ¬ chkR c l r = 0 := by rw [← chkR_trial r ht]; exact ht
    obtain ⟨hE, hS, hP⟩ := play_bad (u := u) hq
    have HE := Lib.hid ((chkR_trial r ht).trans hE)
    have HS := Lib.hid hS
    have HP := Lib.hid hP
    have hqb : (chkT c l == 0) = false := by simpa using ht
    have hqc : (chkT c l != 0) = true := by simpa using ht
    clear hq hE hS hP ht
    go_enter Try.func46, Try.ntmps46
    go_wp2_with fail
    generalize (w.alloc (cirO c sv wv)).alloc (rotO r (.slice na r.nights.length ncap)) = wA at *
    refine (rcheckT_any c l _ _ _ _ HV.out HT.out).mono ?_
    rintro e w1 ⟨rfl, hb1⟩
    generalize chkT c l = m at *
    go_wp2
    go_ret3
    exact ⟨.slice none 0 0, .slice none 0 0, by rw [← HE.out]; rfl, by rw [HS.out]; exact InAt.nil _, by rw [HP.out]; exact InAt.nil _, HB.out.trans (hb1.mono HB.out.size)⟩
  have HC := Lib.hid ht
  have l12 := (tval ht).n
  cases hrb : rotB l.length r
  · have hq := chkR_bad ht hrb
    obtain ⟨hE, hS, hP⟩ := play_bad (u := u) (c := c) (l := l) (r := r) (by rw [← hq]; decide)
    have HE := Lib.hid (hq.trans hE)
    have HS := Lib.hid hS
    have HP := Lib.hid hP
    have HRB := Lib.hid hrb
    clear hq hE hS hP ht hrb
    go_enter Try.func46, Try.ntmps46
    go_wp2_with fail
    generalize (w.alloc (cirO c sv wv)).alloc (rotO r (.slice na r.nights.length ncap)) = wA at *
    refine (rcheckT_any c l _ _ _ _ HV.out HT.out).mono ?_
    rintro e w1 ⟨rfl, hb1⟩
    rw [HC.out]
    have c1 := block_cell (keepZ K1.out hb1)
    have HB1 := Lib.hid hb1
    clear hb1
    go_wp2_with fail
    refine (rvalidR_any r l.length _ _ (HN.out.below HB1.out (Nat.le_refl _)) l12).mono ?_
    rintro e w2 ⟨rfl, hb2⟩
    rw [HRB.out]
    clear c1
    go_wp2
    go_ret3
    exact ⟨.slice none 0 0, .slice none 0 0, by rw [← HE.out]; rfl, by rw [HS.out]; exact InAt.nil _, by rw [HP.out]; exact InAt.nil _, HB.out.trans ((HB1.out.trans (hb2.mono HB1.out.size)).mono HB.out.size)⟩
  have hq := (chkR_ok ht hrb).symm
  have HRV := Lib.hid (rval hq)
  have HRB := Lib.hid hrb
  cases hub : upsB c u
  · obtain ⟨hE, hS, hP⟩ := play_ups hq hub
    have HE := Lib.hid hE
    have HS := Lib.hid hS
    have HP := Lib.hid hP
    have HUB := Lib.hid hub
    clear hq hE hS hP hub ht hrb
    go_enter Try.func46, Try.ntmps46
    go_wp2_with fail
    generalize (w.alloc (cirO c sv wv)).alloc (rotO r (.slice na r.nights.length ncap)) = wA at *
    refine (rcheckT_any c l _ _ _ _ HV.out HT.out).mono ?_
    rintro e w1 ⟨rfl, hb1⟩
    rw [HC.out]
    have c1 := block_cell (keepZ K1.out hb1)
    have HB1 := Lib.hid hb1
    clear hb1
    go_wp2_with fail
    refine (rvalidR_any r l.length _ _ (HN.out.below HB1.out (Nat.le_refl _)) l12).mono ?_
    rintro e w2 ⟨rfl, hb2⟩
    rw [HRB.out]
    have HB2 := Lib.hid (HB1.out.trans (hb2.mono HB1.out.size))
    clear hb2
    clear c1
    have c0 := block_cell (keepZ K0.out HB2.out)
    go_wp2_with fail
    refine (rcond_is HUB.out (rvalidU_any c u _ wv _ _ (HV.out.below HB2.out (Nat.le_refl _)) (HU.out.below HB2.out (Nat.le_refl _)) HRV.out.t.cv)).mono ?_
    rintro e w3 ⟨rfl, hb3⟩
    clear c0
    go_wp2
    go_ret3
    exact ⟨.slice none 0 0, .slice none 0 0, by rw [HE.out]; rfl, by rw [HS.out]; exact InAt.nil _, by rw [HP.out]; exact InAt.nil _, HB.out.trans ((HB2.out.trans (hb3.mono HB2.out.size)).mono HB.out.size)⟩
  obtain ⟨hE, hS, hP⟩ := play_ok (l := l) (r := r) hq hub
  have HE := Lib.hid hE
  have HS := Lib.hid hS
  have HP := Lib.hid hP
  have HUB := Lib.hid hub
  have HUV := Lib.hid (uval hub)
  have hul := (uval hub).n
  have s12 := (rval hq).t.cv.s2
  have w24 := (rval hq).t.cv.w2
  have w1' := (rval hq).t.cv.w1
  have n60 := (rval hq).n2
  have n1 := (rval hq).n1
  have HCL := Lib.hid (fun n => clo_lt (l := l) (r := r) (uval hub) s12 n)
  have HSTAY := Lib.hid (fun d => stuck_stay (c := c) (l := l) (r := r) (uval hub) d)
  clear hq hE hS hP hub ht hrb
  obtain ⟨i0, hi0, hz0, hz1, hz2⟩ := info_parts infoInt
  go_enter Try.func46, Try.ntmps46
  go_wp2_with fail
  generalize (w.alloc (cirO c sv wv)).alloc (rotO r (.slice na r.nights.length ncap)) = wA at *
  refine (rcheckT_any c l _ _ _ _ HV.out HT.out).mono ?_
  rintro e w1 ⟨rfl, hb1⟩
  rw [HC.out]
  have c1 := block_cell (keepZ K1.out hb1)
  have HB1 := Lib.hid hb1
  clear hb1
  go_wp2_with fail
  refine (rvalidR_any r l.length _ _ (HN.out.below HB1.out (Nat.le_refl _)) l12).mono ?_
  rintro e w2 ⟨rfl, hb2⟩
  rw [HRB.out]
  have HB2 := Lib.hid (HB1.out.trans (hb2.mono HB1.out.size))
  clear hb2
  clear c1
  have c0 := block_cell (keepZ K0.out HB2.out)
  go_wp2_with fail
  refine (rcond_is HUB.out (rvalidU_any c u _ wv _ _ (HV.out.below HB2.out (Nat.le_refl _)) (HU.out.below HB2.out (Nat.le_refl _)) HRV.out.t.cv)).mono ?_
  rintro e w3 ⟨rfl, hb3⟩
  have HB3 := Lib.hid (HB2.out.trans (hb3.mono HB2.out.size))
  clear hb3
  clear c0
  go_wp2_with fail
  go_loopw [8, 9, 11, 12, 13] (fun va vb x y i wr => ∃ n a : Nat, a ≤ u.length ∧ n ≤ 1001 ∧ i = .int .i64 n ∧ y = .int .i64 a ∧ x = .int .i64 (cloM c l r u n : Nat) ∧ Hid (∀ i, i < a → (u.getD i Ups.zero).ni < n) ∧ Hid (∀ i, a ≤ i → i < u.length → (n : Int) ≤ (u.getD i Ups.zero).ni) ∧ Hid (TwoRows wr w3.heap.size va vb (stuckM c l r u n) (passedM c l r u n)) ∧ Hid (Below w3.heap.size w3 wr)) (fun _ _ _ _ i _ => 1002 - (intOf i).toNat)
  case atStart => exact ⟨0, 0, Nat.zero_le _, by omega, rfl, rfl, rfl, Lib.hid (fun i hi => by omega), Lib.hid (fun i _ hi => HUV.out.ni0 i hi), Lib.hid ⟨⟨by simp [stuckM, natL], Or.inl ⟨rfl, rfl⟩⟩, ⟨by simp [passedM, natL], Or.inl ⟨rfl, rfl⟩⟩, fun k h => by cases h⟩, Lib.hid (Below.refl _ _)⟩
  case round =>
    obtain ⟨n, a, ha, hn, rfl, rfl, rfl, hL, hG, hTR, hb⟩ := hrel
    by_cases hlt : a < u.length
    rotate_left
    · obtain rfl : a = u.length := by omega
      have hle : nN u ≤ n := by
        unfold nN
        split
        · omega
        · have h1 := hL.out (u.length - 1) (by omega)
          have h2 := HUV.out.ni0 (u.length - 1) (by omega)
          omega
      obtain ⟨e1, e2⟩ := HSTAY.out (n - nN u)
      rw [show nN u + (n - nN u) = n by omega] at e1 e2
      have HI1 := Lib.hid (InAt.of_own hTR.out.a)
      have HI2 := Lib.hid (InAt.of_own hTR.out.b)
      rw [e1] at HI1
      rw [e2] at HI2
      obtain ⟨sa1, sc1, rfl, _⟩ := ownsRow_shape hTR.out.a
      obtain ⟨sa2, sc2, rfl, _⟩ := ownsRow_shape hTR.out.b
      clear e1 e2
      go_wp2_with fail
      go_ret3
      exact ⟨_, _, by rw [HE.out]; rfl, by rw [HS.out]; exact HI1.out, by rw [HP.out]; exact HI2.out, HB.out.trans ((HB3.out.trans (hb.out.mono HB3.out.size)).mono HB.out.size)⟩
    have hszr := hb.out.size
    have HBW := Lib.hid (HB3.out.trans (hb.out.mono HB3.out.size))
    have HUW := Lib.hid (HU.out.below HBW.out (Nat.le_refl _))
    have hG0 := hG.out a (Nat.le_refl _) hlt
    have hnu := (okU_out (HUV.out.ok a hlt)).2.2.1
    have hn1000 : n ≤ 1000 := by omega
    have hcl := HCL.out n
    have HSLT := Lib.hid (fun b (h : b ≤ u.length) => stkL_lt HUV.out (B := 12) s12 (cl := cloM c l r u n) (HCL.out n) (seg a b) (fun i hi => by have := (mem_seg.1 hi).2; omega))
    have HST := Lib.hid (show stuckM c l r u (n + 1) = if todM u n = [] then stuckM c l r u n else stuckM c l r u n ++ [cloM c l r u (n + 1)] from rfl)
    have HPT := Lib.hid (show passedM c l r u (n + 1) = passedM c l r u n ++ pasL c u (cloM c l r u (n + 1)) (todM u n) from rfl)
    have HCT := Lib.hid (show cloM c l r u (n + 1) = behM c l (r.nights.getD (n % r.nights.length) []) (stkL u (cloM c l r u n) (todM u n)) from rfl)
    have hsl := stuck_len c l r u n
    have hpl2 : (passedM c l r u n).length ≤ 50000 := by
      have h1 := passed_len (c := c) (l := l) (r := r) (u := u) n
      have := Nat.mul_le_mul (show n ≤ 1001 by omega) hul
      omega
    generalize stuckM c l r u n = SS at *
    generalize passedM c l r u n = PP at *
    generalize cloM c l r u n = cl at *
    obtain ⟨sva, scp, rfl, _⟩ := ownsRow_shape hTR.out.a
    obtain ⟨pva, pcp, rfl, _⟩ := ownsRow_shape hTR.out.b
    obtain ⟨_, _, e1, _, _, ucc⟩ := HUW.out
    injection e1 with e1 e2 e3
    subst e1
    obtain ⟨ub, uoff, rfl, ubl, ucc⟩ := ucc (by omega)
    have HCELL := Lib.hid (fun (w' : World) (i : Nat) (hb : Below wr.heap.size wr w') (hi : i < u.length) => up_at hb ubl ucc hi)
    obtain ⟨q1, q2, q3⟩ := up_at (Below.refl _ _) ubl ucc hlt
    obtain ⟨hr0, hhr⟩ : ∃ b, decide ((u.getD a Ups.zero).ni = n) = b := ⟨_, rfl⟩
    have HHR := Lib.hid hhr
    have hhr2 : ((u.getD a Ups.zero).ni == (n : Int)) = hr0 := hhr
    have a1 : (0 : Int) ≤ a := by omega
    have a2 : (a : Int) < u.length := by omega
    clear ucc e2 e3 hhr
    generalize hX0 : u.getD a Ups.zero = X0 at q1 q2 q3 hhr2
    obtain ⟨x0n, x0k, x0u⟩ := X0
    clear hX0
    dsimp only at q1 q2 q3 hhr2
    go_upto_block 2 with fail
    clear q1 q2 q3 hhr2
    go_cut [11, 12] (fun s11 s12 wx => ∃ b : Nat, a ≤ b ∧ b ≤ u.length ∧ s11 = .int .i64 (stkL u cl (seg a b) : Nat) ∧ s12 = .int .i64 b ∧ Hid (∀ i, a ≤ i → i < b → (u.getD i Ups.zero).ni = n ∧ (u.getD i Ups.zero).ki = 1) ∧ Hid (b < u.length → ¬ ((u.getD b Ups.zero).ni = n ∧ (u.getD b Ups.zero).ki = 1)) ∧ wx = wr)
    case first =>
      go_wp2_with fail
      go_loop [11, 12] (fun x y => ∃ b : Nat, a ≤ b ∧ b ≤ u.length ∧ y = .int .i64 b ∧ x = .int .i64 (stkL u cl (seg a b) : Nat) ∧ Hid (∀ i, a ≤ i → i < b → (u.getD i Ups.zero).ni = n ∧ (u.getD i Ups.zero).ki = 1)) (fun _ y => u.length - (intOf y).toNat)
      case atStart => exact ⟨a, Nat.le_refl _, ha, rfl, by rw [seg_self]; rfl, Lib.hid (fun i h1 h2 => by omega)⟩
      case round =>
        obtain ⟨b, hab, hbn, rfl, rfl, hI⟩ := hrel
        have HJ := Lib.hid (show stkL u cl (seg a (b + 1)) = if (u.getD b Ups.zero).ki = 1 then stkL u cl (seg a b) ||| 2 ^ (u.getD b Ups.zero).nu.toNat else stkL u cl (seg a b) by rw [seg_snoc hab, stkL_snoc])
        have hx := HSLT.out b hbn
        by_cases hlb : b < u.length
        · obtain ⟨p1, p2, p3⟩ := HCELL.out _ b (Below.refl _ _) hlb
          have HOKU := Lib.hid (isU_out (okU_out (HUV.out.ok b hlb)).2.2.2)
          generalize hXX : u.getD b Ups.zero = X at *
          have HXX := Lib.hid hXX
          obtain ⟨xn, xk, xu⟩ := X
          dsimp only at p1 p2 p3 HJ HOKU
          generalize hxe : stkL u cl (seg a b) = x at *
          have HXE := Lib.hid hxe
          clear hxe
          have b1 : (0 : Int) ≤ b := by omega
          have b2 : (b : Int) < u.length := by omega
          clear hXX
          by_cases hn1 : xn = n
          · have hn1b : (xn == (n : Int)) = true := by simpa using hn1
            by_cases hk1 : xk = 1
            · have hk1b : (xk == 1) = true := by simpa using hk1
              obtain ⟨un, hun⟩ : ∃ un : Nat, xu = un := ⟨xu.toNat, by rcases HOKU.out with h | h <;> omega⟩
              have hu12 : un < 12 := by rcases HOKU.out with h | h <;> omega
              have HJ2 := Lib.hid (HJ.out.trans (if_pos hk1))
              subst hun
              rw [Int.toNat_natCast] at HJ2
              have hpw := wrap64_pow (k := un) (by omega)
              have un0 : (0 : Int) ≤ un := by omega
              obtain ⟨y, hy⟩ : ∃ y, 2 ^ un = y := ⟨_, rfl⟩
              have hy20 : y < 1048576 := by rw [← hy]; exact pow_set (by omega)
              rw [hy] at HJ2 hpw
              have hor := i64_or_nat x y (by omega) (by omega)
              have HNI := Lib.hid (And.intro hn1 hk1)
              clear hy
              go_wp2_with fail
              go_round
              case rel => exact ⟨b + 1, by omega, hlb, by go_num, by rw [HJ2.out], Lib.hid (fun i h1 h2 => by
                by_cases e : i = b
                · rw [e, HXX.out]; exact HNI.out
                · exact hI.out i h1 (by omega))⟩
              case measure => simp [intOf]; omega
            · have hk1b : (xk == 1) = false := by simpa using hk1
              have HNI := Lib.hid (fun (h : (⟨xn, xk, xu⟩ : Ups).ni = n ∧ (⟨xn, xk, xu⟩ : Ups).ki = 1) => hk1 h.2)
              go_wp2_with fail
              go_meet
              exact ⟨b, hab, hbn, by rw [HXE.out], rfl, hI, Lib.hid (fun _ => by rw [HXX.out]; exact HNI.out), rfl⟩
          · have hn1b : (xn == (n : Int)) = false := by simpa using hn1
            have HNI := Lib.hid (fun (h : (⟨xn, xk, xu⟩ : Ups).ni = n ∧ (⟨xn, xk, xu⟩ : Ups).ki = 1) => hn1 h.1)
            go_wp2_with fail
            go_meet
            exact ⟨b, hab, hbn, by rw [HXE.out], rfl, hI, Lib.hid (fun _ => by rw [HXX.out]; exact HNI.out), rfl⟩
        · obtain rfl : b = u.length := by omega
          go_wp2_with fail
          go_meet
          exact ⟨u.length, hab, hbn, rfl, rfl, hI, Lib.hid (fun h => absurd h (Nat.lt_irrefl _)), rfl⟩
    case rest =>
      obtain ⟨b, hab, hbn, rfl, rfl, hI, hX, rfl⟩ := hcut
      have hx := HSLT.out b hbn
      obtain ⟨S, hSS⟩ : ∃ S, stkL u cl (seg a b) = S := ⟨_, rfl⟩
      have HSS := Lib.hid hSS
      rw [hSS] at hx ⊢
      clear hSS
      have hm : n % r.nights.length < r.nights.length := Nat.mod_lt _ (by omega)
      have hmod : (n : Int).tmod (r.nights.length : Int) = ((n % r.nights.length : Nat) : Int) := tmod_nat n r.nights.length
      obtain ⟨_, _, e1, _, _, ncc⟩ := HN.out
      injection e1 with e1 e2 e3
      subst e1
      obtain ⟨nb, noff, rfl, nbl, ncc⟩ := ncc (by omega)
      obtain ⟨un', q1, q2⟩ := ncc _ hm
      have q1 := (HBW.out.cell (p := ⟨nb, noff + n % r.nights.length, none⟩) nbl).trans q1
      have nbl2 := Nat.lt_of_lt_of_le nbl HBW.out.size
      have HKS := Lib.hid (HRV.out.a _ (getD_mem hm []))
      have HIK := Lib.hid (q2.below HBW.out (Nat.le_refl _))
      obtain ⟨ka, kcap, rfl, _⟩ := q2
      have hl0 : ¬ r.nights = [] := fun h => by rw [h] at n1; simp at n1
      generalize r.nights.getD (n % r.nights.length) [] = ks at *
      generalize n % r.nights.length = m at *
      have y1 := bw_cells (B := wc.heap.size) (keepZ K1.out HBW.out) (lt_of_block (keepZ K1.out HBW.out))
      have y3 := bw_cell (B := wc.heap.size) q1 nbl2
      have i1 : (0 : Int) ≤ m := by omega
      have i2 : (m : Int) < r.nights.length := by omega
      clear ncc e2 e3 q1
      go_upto_region 16 with fail
      refine wp_region_below (by kernel_rfl) (by kernel_rfl) (Below.refl wc.heap.size wc) ?_
      repeat ((with_reducible refine wpQuiet_step (fun K hK => ?_)); go_simp; first | (refine hK _ ?_; clear hK K) | (apply Exists.intro; refine ⟨fun _ => ?_, hK _ ?_⟩; (fail); clear hK K))
      refine wpQuiet_nil ?_
      intro wq hwq0
      have hwq := bw_out hwq0
      clear hwq0
      have HB6 := Lib.hid (hb.out.trans (hwq.mono hszr))
      have HWQ := Lib.hid hwq
      clear y1 y3 hwq
      go_wp2_with fail
      go_loopw [11, 16] (fun x i wr => ∃ k : Nat, k ≤ ks.length ∧ i = .int .i64 k ∧ x = .int .i64 (behM c l (ks.take k) S : Nat) ∧ Hid (Below wc.heap.size wc wr)) (fun _ i _ => ks.length - (intOf i).toNat)
      case atStart => exact ⟨0, Nat.zero_le _, rfl, by rw [List.take_zero]; rfl, HWQ⟩
      case round =>
        obtain ⟨k, hk, rfl, rfl, hbk⟩ := hrel
        have HBWK := Lib.hid (HBW.out.trans (hbk.out.mono HBW.out.size))
        by_cases hlk : k < ks.length
        · have HBT := Lib.hid (behM_take (c := c) (l := l) (ks := ks) (cl := S) hlk)
          have hcur : behM c l (ks.take k) S < 1048576 := by have := behM_le c l (ks.take k) S; omega
          obtain ⟨kb, koff, e1, kbl, kcc⟩ := in_open (HIK.out.below hbk.out (Nat.le_refl _)) (by omega)
          subst e1
          have q1 := kcc k hlk
          obtain ⟨p1, p2⟩ := HKS.out _ (getD_mem hlk 0)
          obtain ⟨p, hp⟩ : ∃ p : Nat, ks.getD k 0 = p := ⟨(ks.getD k 0).toNat, by omega⟩
          rw [hp] at q1 p1 p2 HBT
          rw [Int.toNat_natCast] at HBT
          have hpl : p < l.length := by omega
          obtain ⟨_, _, e4, _, _, tcc⟩ := (HT.out.below HBWK.out (Nat.le_refl _))
          injection e4 with e4 e5 e6
          subst e4
          obtain ⟨tb, toff, rfl, htl, tcc⟩ := tcc (by omega)
          obtain ⟨g2, g3⟩ := tr_at (Below.refl _ _) htl tcc hpl
          have HTK := Lib.hid (HRV.out.t.t _ (getD_mem hpl Tri.zero))
          generalize l.getD p Tri.zero = t at *
          generalize behM c l (ks.take k) S = cur at *
          have y0 := bw_cells (B := wr.heap.size) (keepZ K0.out HBWK.out) (lt_of_block (keepZ K0.out HBWK.out))
          have y1 := bw_cell (B := wr.heap.size) q1 kbl
          have y2 := bw_cell (B := wr.heap.size) g2 htl
          have y3 := bw_cell (B := wr.heap.size) g3 htl
          have HVK := Lib.hid (HV.out.below HBWK.out (Nat.le_refl _))
          have hXc : Hid (∀ x : BW wr.heap.size wr, CirAt x.w sv wv c) := fun x => HVK.out.below x.b (Nat.le_refl _)
          have k1 : (0 : Int) ≤ k := by omega
          have k2 : (k : Int) < ks.length := by omega
          clear kcc tcc e5 e6 hp g2 g3 q1
          obtain ⟨q, hq⟩ : ∃ q, toldB c t cur = q := ⟨_, rfl⟩
          have HQ := Lib.hid hq
          rw [hq] at HBT
          clear hq
          go_wp2_with fail
          refine wp_region_below (by kernel_rfl) (by kernel_rfl) (Below.refl wr.heap.size wr) ?_
          repeat ((with_reducible refine wpQuiet_step (fun K hK => ?_)); go_simp; first | (refine hK _ ?_; clear hK K) | (apply Exists.intro; refine ⟨fun _ => ?_, hK _ ?_⟩; ((go_at_call 115; exact bw_call (Nat.le_refl _) (rcond_is HQ.out (rtells_any c t sv wv cur _ (hXc.out _) HRV.out.t.cv HTK.out hcur)))); clear hK K))
          refine wpQuiet_nil ?_
          intro wq hwq0
          have hwq := bw_out hwq0
          clear hwq0
          have HBQ := Lib.hid (hbk.out.trans (hwq.mono hbk.out.size))
          clear hwq y0 y1 y2 y3
          cases q
          · go_wp2_with fail
            go_roundw
            case rel => exact ⟨k + 1, hlk, by go_num, by rw [HBT.out]; rfl, HBQ⟩
            case measure => simp [intOf]; omega
          · go_wp2_with fail
            go_roundw
            case rel => exact ⟨k + 1, hlk, by go_num, by rw [HBT.out]; rfl, HBQ⟩
            case measure => simp [intOf]; omega
        · obtain rfl : k = ks.length := by omega
          rw [List.take_length]
          obtain ⟨CC, hCC⟩ : ∃ CC, behM c l ks S = CC := ⟨_, rfl⟩
          have HCC := Lib.hid hCC
          have hcc4 : CC < 4096 := by rw [← hCC]; have := behM_le c l ks S; omega
          rw [hCC]
          clear hCC
          have HTRK := Lib.hid (hTR.out.below hbk.out)
          have HBK := Lib.hid (hb.out.trans (hbk.out.mono hszr))
          obtain ⟨wk, rfl⟩ : ∃ wk : World, wk = wr := ⟨_, rfl⟩
          go_upto_block 6 with fail
          go_cut [9, 12] (fun s9 s12 wx => ∃ d : Nat, b ≤ d ∧ d ≤ u.length ∧ s12 = .int .i64 d ∧ Hid (TwoRows wx w3.heap.size (.slice sva SS.length scp) s9 SS (PP ++ pasL c u CC (seg b d))) ∧ Hid (Below w3.heap.size w3 wx) ∧ Hid (∀ i, b ≤ i → i < d → (u.getD i Ups.zero).ni = n ∧ (u.getD i Ups.zero).ki = 2) ∧ Hid (d < u.length → ¬ (u.getD d Ups.zero).ni = n))
          case first =>
            go_wp2_with fail
            go_loopw [9, 12] (fun v2 y wr => ∃ d : Nat, b ≤ d ∧ d ≤ u.length ∧ y = .int .i64 d ∧ Hid (TwoRows wr w3.heap.size (.slice sva SS.length scp) v2 SS (PP ++ pasL c u CC (seg b d))) ∧ Hid (Below w3.heap.size w3 wr) ∧ Hid (∀ i, b ≤ i → i < d → (u.getD i Ups.zero).ni = n ∧ (u.getD i Ups.zero).ki = 2)) (fun _ y _ => u.length - (intOf y).toNat)
            case atStart => exact ⟨b, Nat.le_refl _, hbn, rfl, by rw [seg_self]; simpa [pasL] using HTRK, HBK, Lib.hid (fun i h1 h2 => by omega)⟩
            case round =>
              obtain ⟨d, hbd, hdn, rfl, hTD, hBD, hID⟩ := hrel
              have HBWD := Lib.hid (HB3.out.trans (hBD.out.mono HB3.out.size))
              by_cases hld : d < u.length
              rotate_left
              · obtain rfl : d = u.length := by omega
                go_wp2_with fail
                go_meet
                exact ⟨u.length, hbd, hdn, rfl, hTD, hBD, hID, Lib.hid (fun h => absurd h (Nat.lt_irrefl _))⟩
              obtain ⟨_, _, e1, _, _, ucc⟩ := (HU.out.below HBWD.out (Nat.le_refl _))
              injection e1 with e1 e2 e3
              obtain ⟨ub2, uoff2, e7, ubl2, ucc⟩ := ucc (by omega)
              rw [e7] at e1
              injection e1 with e1
              injection e1 with e8 e9
              subst e8 e9
              obtain ⟨q1, q2, q3⟩ := up_at (Below.refl _ _) ubl2 ucc hld
              have HDG := Lib.hid (fun (h : (u.getD d Ups.zero).ni = n) => danger_on HUV.out hbd hld h hX.out hID.out)
              have HPS := Lib.hid (fun (h : (u.getD d Ups.zero).ki = 2) => pas_snoc (c := c) (u := u) (cl := CC) hbd h)
              have HOKU := Lib.hid (isU_out (okU_out (HUV.out.ok d hld)).2.2.2)
              generalize hXX : u.getD d Ups.zero = X at *
              have HXX := Lib.hid hXX
              obtain ⟨xn, xk, xu⟩ := X
              dsimp only at q1 q2 q3 HDG HPS HOKU
              have d1 : (0 : Int) ≤ d := by omega
              have d2 : (d : Int) < u.length := by omega
              clear ucc e2 e3 e7 hXX
              by_cases hn1 : xn = n
              rotate_left
              · have hn1b : (xn == (n : Int)) = false := by simpa using hn1
                have HNI := Lib.hid hn1
                go_wp2_with fail
                go_meet
                exact ⟨d, hbd, hdn, rfl, hTD, hBD, hID, Lib.hid (fun _ => by rw [HXX.out]; exact HNI.out)⟩
              have hn1b : (xn == (n : Int)) = true := by simpa using hn1
              have hk2 := HDG.out hn1
              have HPS2 := Lib.hid (HPS.out hk2)
              have HNI := Lib.hid (And.intro hn1 hk2)
              obtain ⟨un, hun, hun20⟩ : ∃ un : Nat, xu = un ∧ un < 1048576 := by
                rcases HOKU.out with h | ⟨_, _, h⟩
                · omega
                · unfold setB at h
                  rw [decide_eq_true_eq] at h
                  have gp := Nat.pow_le_pow_right (show 0 < 2 by omega) (show c.hz.toNat ≤ 8 by have := HRV.out.t.cv.h2; omega)
                  have : ((2 : Int) ^ c.hz.toNat) = ((2 ^ c.hz.toNat : Nat) : Int) := by simp
                  exact ⟨xu.toNat, by omega, by omega⟩
              subst hun
              rw [Int.toNat_natCast] at HPS2
              have hpz : (PP ++ pasL c u CC (seg b d)).length ≤ 60000 := by
                have h1 := pas_len c u CC (seg b d)
                have h2 : (seg b d).length ≤ u.length := by unfold seg; rw [List.length_range']; omega
                rw [List.length_append]; omega
              generalize hQQ : PP ++ pasL c u CC (seg b d) = QQ at *
              have HQQ := Lib.hid hQQ
              obtain ⟨qva, qcp, rfl, _⟩ := ownsRow_shape hTD.out.b
              have y0 := bw_cells (B := wr.heap.size) (keepZ K0.out HBWD.out) (lt_of_block (keepZ K0.out HBWD.out))
              have y1 := bw_cell (B := wr.heap.size) q1 ubl2
              have y2 := bw_cell (B := wr.heap.size) q3 ubl2
              have HVD := Lib.hid (HV.out.below HBWD.out (Nat.le_refl _))
              have hXc : Hid (∀ x : BW wr.heap.size wr, CirAt x.w sv wv c) := fun x => HVD.out.below x.b (Nat.le_refl _)
              have HOKS := Lib.hid (sta_ok hun20 (show CC < 1048576 by omega))
              obtain ⟨q, hq⟩ : ∃ q, passM c un CC = q := ⟨_, rfl⟩
              have HPQ := Lib.hid (show cond c ⟨un, CC, 0⟩ 24 ((0 : Nat) : Int) = q from hq)
              rw [hq] at HPS2
              clear hq hQQ q2 hk2
              go_wp2_with fail
              refine wp_region_below (by kernel_rfl) (by kernel_rfl) (Below.refl wr.heap.size wr) ?_
              repeat ((with_reducible refine wpQuiet_step (fun K hK => ?_)); go_simp; first | (refine hK _ ?_; clear hK K) | (apply Exists.intro; refine ⟨fun _ => ?_, hK _ ?_⟩; ((go_at_call 74; exact bw_call (Nat.le_refl _) (rcond_is HPQ.out (rconducts_any c ⟨un, CC, 0⟩ sv wv HRV.out.t.cv HOKS.out 24 0 _ (by omega) (by omega) (hXc.out _))))); clear hK K))
              refine wpQuiet_nil ?_
              intro wq hwq0
              have hwq := bw_out hwq0
              clear hwq0
              have HTWQ := Lib.hid (hTD.out.below hwq)
              have HBJQ := Lib.hid (hBD.out.trans (hwq.mono hBD.out.size))
              have HID2 := Lib.hid (show ∀ i, b ≤ i → i < d + 1 → (u.getD i Ups.zero).ni = n ∧ (u.getD i Ups.zero).ki = 2 from fun i h1 h2 => by
                by_cases e : i = d
                · rw [e, HXX.out]; exact HNI.out
                · exact hID.out i h1 (by omega))
              clear hwq y0 y1 y2 q1 q3
              cases q
              · have HN5 := Lib.hid (show PP ++ pasL c u CC (seg b (d + 1)) = QQ by rw [HPS2.out]; exact HQQ.out)
                go_wp2_with fail
                go_roundw
                case rel => exact ⟨d + 1, by omega, hld, by go_num, by rw [HN5.out]; exact HTWQ, HBJQ, HID2⟩
                case measure => simp [intOf]; omega
              · have HN5 := Lib.hid (show PP ++ pasL c u CC (seg b (d + 1)) = QQ ++ [d] by rw [HPS2.out, if_pos rfl, ← List.append_assoc, HQQ.out])
                go_wp2_with (at_builtin; refine wpList_append_own_at _ rfl (.tmp 123) (.tmp 125) 22 rfl w3.heap.size 3 i0 (.int .i64 0) 1 8 Try.underlying22 hi0 hz0 hz1 hz2 rfl (by decide) _ QQ.length ((natL QQ).map (Value.int .i64)) rfl ?d0 _ _ _ [.int .i64 d] rfl rfl ?d1 ?d2 ?d3 ?d4 ?d5 ?_)
                case d0 => exact World.ownsRow.alloc HTWQ.out.b _
                try (case d1 => exact one_cell _ _ _ rfl)
                case d2 => first | rfl | (intro u hu; simp only [List.mem_cons, List.not_mem_nil, or_false] at hu; subst hu; rfl)
                case d3 => unfold maxLen; omega
                case d4 => omega
                case d5 => first | exact Nat.le_trans HBJQ.out.size (al_le _ _) | (have := HBJQ.out.size; simp; omega) | (have := HBJQ.out.size; omega)
                intro v8 w8 hown2 hgrow _ hat
                have HTR8 := Lib.hid (TwoRows.more (HTWQ.out.swap.alloc _) hown2 hgrow (hat.imp id (fun h => by rw [size_alloc]; exact h))).swap
                have hbX := below_grown hgrow HTWQ.out.swap.base_le (Nat.le_trans HBJQ.out.size (al_le _ _))
                have HB8 := Lib.hid (HBJQ.out.trans (((Below.refl _ _).alloc HBJQ.out.size _).trans hbX))
                obtain ⟨r3, rc3, rfl, _⟩ := ownsRow_shape hown2
                clear hown2 hgrow hbX hat
                go_wp2_with fail
                go_roundw
                case rel => exact ⟨d + 1, by omega, hld, by go_num, by rw [HN5.out]; exact HTR8, HB8, HID2⟩
                case measure => simp [intOf]; omega
          case rest =>
            obtain ⟨d, hbd, hdn, rfl, hTD, hBD, hID, hXD⟩ := hcut
            generalize hqq : PP ++ pasL c u CC (seg b d) = QQ at *
            have hadd : ∀ i, a ≤ i → i < d → (u.getD i Ups.zero).ni = n := fun i h1 h2 => by
              by_cases h : i < b
              · exact (hI.out i h1 h).1
              · exact (hID.out i (by omega) h2).1
            have hbeh : ∀ i, d ≤ i → i < u.length → (n : Int) + 1 ≤ (u.getD i Ups.zero).ni := fun i h1 h2 => by
              have h3 := hXD.out (by omega)
              have h4 := hG.out d (by omega) (by omega)
              have h5 := HUV.out.le h1 h2
              omega
            have hseg : todM u n = seg a d := tod_seg hdn (by omega) (fun i hi => by have := hL.out i hi; omega) hadd (fun i h1 h2 => by have := hbeh i h1 h2; omega)
            have hstk : stkL u cl (seg a d) = S := by
              rw [stk_seg hab hbd (fun i h1 h2 => by have := (hID.out i h1 h2).2; omega)]; exact HSS.out
            have hC1 : cloM c l r u (n + 1) = CC := by rw [HCT.out, hseg, hstk]; exact HCC.out
            have hP1 : passedM c l r u (n + 1) = QQ := by
              rw [HPT.out, hC1, hseg, pas_seg hab hbd (fun i h1 h2 => by have := (hI.out i h1 h2).2; omega)]; exact hqq
            have HC1 := Lib.hid hC1
            have HP1 := Lib.hid hP1
            have HL2 := Lib.hid (show ∀ i, i < d → (u.getD i Ups.zero).ni < ((n + 1 : Nat) : Int) from fun i hi => by
              by_cases h : i < a
              · have := hL.out i h; omega
              · have := hadd i (by omega) hi; omega)
            have HG2 := Lib.hid (show ∀ i, d ≤ i → i < u.length → (((n + 1 : Nat)) : Int) ≤ (u.getD i Ups.zero).ni from fun i h1 h2 => by have := hbeh i h1 h2; omega)
            obtain ⟨qva, qcp, rfl, _⟩ := ownsRow_shape hTD.out.b
            have HSTN := Lib.hid (show stuckM c l r u (n + 1) = if seg a d = [] then SS else SS ++ [CC] by rw [HST.out, hseg, hC1])
            have hhere : hr0 = true ↔ a < d := by
              rw [← HHR.out, decide_eq_true_eq]
              constructor
              · intro h
                apply Nat.lt_of_not_le
                intro hle
                have e : a = d := by omega
                rw [e] at h
                exact hXD.out (by omega) h
              · intro h; exact hadd a (Nat.le_refl _) h
            clear hC1 hP1 hstk hseg hadd hbeh hqq
            cases hr0
            · have hda : d = a := by
                have : ¬ a < d := fun h => by have := hhere.2 h; cases this
                omega
              have HST2 := Lib.hid (show stuckM c l r u (n + 1) = SS by rw [HSTN.out, hda, seg_self, if_pos rfl])
              clear hda hhere
              go_wp2_with fail
              go_roundw
              case rel => exact ⟨n + 1, d, hdn, by omega, by go_num, rfl, by rw [HC1.out], HL2, HG2, by rw [HST2.out, HP1.out]; exact hTD, hBD⟩
              case measure => simp [intOf]; omega
            · have had := hhere.1 rfl
              have HST2 := Lib.hid (show stuckM c l r u (n + 1) = SS ++ [CC] by
                rw [HSTN.out, if_neg]
                intro h
                have : a ∈ seg a d := mem_seg.2 ⟨Nat.le_refl _, had⟩
                rw [h] at this; cases this)
              clear hhere had
              go_wp2_with (at_builtin; refine wpList_append_own_at _ rfl (.tmp 130) (.tmp 132) 22 rfl w3.heap.size 3 i0 (.int .i64 0) 1 8 Try.underlying22 hi0 hz0 hz1 hz2 rfl (by decide) _ SS.length ((natL SS).map (Value.int .i64)) rfl ?e0 _ _ _ [.int .i64 CC] rfl rfl ?e1 ?e2 ?e3 ?e4 ?e5 ?_)
              case e0 => exact World.ownsRow.alloc hTD.out.a _
              try (case e1 => exact one_cell _ _ _ rfl)
              case e2 => first | rfl | (intro u hu; simp only [List.mem_cons, List.not_mem_nil, or_false] at hu; subst hu; rfl)
              case e3 => unfold maxLen; omega
              case e4 => omega
              case e5 => first | exact Nat.le_trans hBD.out.size (al_le _ _) | (have := hBD.out.size; simp; omega) | (have := hBD.out.size; omega)
              intro v8 w8 hown2 hgrow _ hat
              have HTR8 := Lib.hid (TwoRows.more (hTD.out.alloc _) hown2 hgrow (hat.imp id (fun h => by rw [size_alloc]; exact h)))
              have hbX := below_grown hgrow hTD.out.base_le (Nat.le_trans hBD.out.size (al_le _ _))
              have HB8 := Lib.hid (hBD.out.trans (((Below.refl _ _).alloc hBD.out.size _).trans hbX))
              obtain ⟨r3, rc3, rfl, _⟩ := ownsRow_shape hown2
              clear hown2 hgrow hbX hat
              go_wp2_with fail
              go_roundw
              case rel => exact ⟨n + 1, d, hdn, by omega, by go_num, rfl, by rw [HC1.out], HL2, HG2, by rw [HST2.out, HP1.out]; exact HTR8, HB8⟩
              case measure => simp [intOf]; omega

end Go.Proofs.Ytbiihhokcmdlhaa

/- CircuitPlays walked. -/
namespace Go.Proofs.Ytbiihhokcmdlhaa
open Go.RowKit

abbrev kepO' (tv nv : Value) (gap : Int) : Obj := .cells #[tv, nv, .int .i64 gap] 62

set_option maxRecDepth 100000 in
set_option maxHeartbeats 8000000 in
theorem lawPlays_any (c : Cir) (sv wv : Value) (l : List Tri) (tv : Value) (r : Rot) (nv : Value) (u : List Ups) (uv : Value) (w : World) (hv : CirAt w sv wv c) (hl : TrAt w tv l) (hr : NsAt w nv r.nights) (hu : UpAt w uv u) :
    Calls Try.prog 8 #[cirV c sv wv, .agg #[tv, nv, .int .i64 r.gap], uv] w fun e w' => e = .returned (.bool true) ∧ Below w.heap.size w w' := by
  have hb0 := blw2 w (cirO c sv wv) (kepO' tv nv r.gap)
  have HB := Lib.hid hb0
  have K0 := Lib.hid (two_od w (cirO c sv wv) (kepO' tv nv r.gap))
  have K1 := Lib.hid (two_nw w (cirO c sv wv) (kepO' tv nv r.gap))
  have HV := Lib.hid (hv.below hb0 (Nat.le_refl _))
  have HT := Lib.hid (hl.below hb0 (Nat.le_refl _))
  have HN := Lib.hid (hr.below hb0 (Nat.le_refl _))
  have HU := Lib.hid (hu.below hb0 (Nat.le_refl _))
  obtain ⟨ta, tcap, rfl, _, m2, _⟩ := hl
  obtain ⟨ua, ucap, rfl, _, m6, _⟩ := hu
  obtain ⟨na, ncap, rfl, m3, m4, _⟩ := hr
  have m7 : (l.length : Int) ≤ 9223372036854775807 := by omega
  have m8 : (u.length : Int) ≤ 9223372036854775807 := by omega
  clear hb0 hv
  go_enter Try.func8, Try.ntmps8
  go_wp2_with fail
  generalize (w.alloc (cirO c sv wv)).alloc (kepO' (.slice ta l.length tcap) (.slice na r.nights.length ncap) r.gap) = wA at *
  refine (far_any c _ wv _ HV.out).mono ?_
  rintro e w1 ⟨q, rfl, hb1⟩
  have HB1 := Lib.hid hb1
  clear hb1
  cases q
  rotate_left
  · go_wp2_with fail
    refine (works_any _).mono ?_
    rintro e wz ⟨rfl, hbz⟩
    go_wp2_with fail
    go_ret
    exact ⟨rfl, HB.out.trans ((HB1.out.trans (hbz.mono HB1.out.size)).mono HB.out.size)⟩
  have c1 := block_cell (keepZ K1.out HB1.out)
  by_cases h20 : (20 : Int) < l.length
  · go_wp2_with fail
    refine (works_any _).mono ?_
    rintro e wz ⟨rfl, hbz⟩
    go_wp2_with fail
    go_ret
    exact ⟨rfl, HB.out.trans ((HB1.out.trans (hbz.mono HB1.out.size)).mono HB.out.size)⟩
  go_wp2_with fail
  refine (farRota_any r _ _ (HN.out.below HB1.out (Nat.le_refl _))).mono ?_
  rintro e w2 ⟨q, rfl, hb2⟩
  have HB2 := Lib.hid (HB1.out.trans (hb2.mono HB1.out.size))
  clear hb2
  clear c1
  cases q
  rotate_left
  · go_wp2_with fail
    refine (works_any _).mono ?_
    rintro e wz ⟨rfl, hbz⟩
    go_wp2_with fail
    go_ret
    exact ⟨rfl, HB.out.trans ((HB2.out.trans (hbz.mono HB2.out.size)).mono HB.out.size)⟩
  by_cases h60 : (60 : Int) < u.length
  · go_wp2_with fail
    refine (works_any _).mono ?_
    rintro e wz ⟨rfl, hbz⟩
    go_wp2_with fail
    go_ret
    exact ⟨rfl, HB.out.trans ((HB2.out.trans (hbz.mono HB2.out.size)).mono HB.out.size)⟩
  have c0 := block_cell (keepZ K0.out HB2.out)
  have c1 := block_cell (keepZ K1.out HB2.out)
  go_wp2_with fail
  refine (cplay_any c l r u _ wv _ _ _ _ (HV.out.below HB2.out (Nat.le_refl _)) (HT.out.below HB2.out (Nat.le_refl _)) (HN.out.below HB2.out (Nat.le_refl _)) (HU.out.below HB2.out (Nat.le_refl _))).mono ?_
  rintro e w3 ⟨v1, v2, rfl, hi1, hi2, hb3⟩
  have HB3 := Lib.hid (HB2.out.trans (hb3.mono HB2.out.size))
  clear hb3
  have HI1 := Lib.hid hi1
  have HI2 := Lib.hid hi2
  obtain ⟨a1, p1, rfl, _⟩ := hi1
  obtain ⟨a2, p2, rfl, _⟩ := hi2
  clear c0 c1
  have c0 := block_cell (keepZ K0.out HB3.out)
  have c1 := block_cell (keepZ K1.out HB3.out)
  go_wp2_with fail
  refine (rplay_any c l r u _ wv _ _ _ _ (HV.out.below HB3.out (Nat.le_refl _)) (HT.out.below HB3.out (Nat.le_refl _)) (HN.out.below HB3.out (Nat.le_refl _)) (HU.out.below HB3.out (Nat.le_refl _))).mono ?_
  rintro e w4 ⟨v3, v4, rfl, hi3, hi4, hb4⟩
  have H1 := Lib.hid (HI1.out.below hb4 (Nat.le_refl _))
  have H2 := Lib.hid (HI2.out.below hb4 (Nat.le_refl _))
  have H3 := Lib.hid hi3
  have H4 := Lib.hid hi4
  obtain ⟨a3, p3, rfl, _⟩ := hi3
  obtain ⟨a4, p4, rfl, _⟩ := hi4
  have HB4 := Lib.hid (HB3.out.trans (hb4.mono HB3.out.size))
  clear hb4
  clear c0 c1 HI1 HI2
  generalize playE c l r u = E at *
  generalize playS c l r u = S at *
  generalize playP c l r u = P at *
  go_wp2_with fail
  refine (sameInts_any _ _ _ _ H1.out H3.out).mono ?_
  rintro e w5 ⟨rfl, hb5⟩
  have H5 := Lib.hid (H2.out.below hb5 (Nat.le_refl _))
  have H6 := Lib.hid (H4.out.below hb5 (Nat.le_refl _))
  have HB5 := Lib.hid (HB4.out.trans (hb5.mono HB4.out.size))
  clear hb5
  go_wp2_with fail
  refine (sameInts_any _ _ _ _ H5.out H6.out).mono ?_
  rintro e w6 ⟨rfl, hb6⟩
  have HB6 := Lib.hid (HB5.out.trans (hb6.mono HB5.out.size))
  clear hb6
  go_wp2_with fail
  refine (works_any _).mono ?_
  rintro e wz ⟨rfl, hbz⟩
  go_wp2_with fail
  go_ret
  exact ⟨rfl, HB.out.trans ((HB6.out.trans (hbz.mono HB6.out.size)).mono HB.out.size)⟩

end Go.Proofs.Ytbiihhokcmdlhaa

/- How arguments read: slices of elements of m cells, of ints, structs; and what their readings weigh. What the rows of every layer use. -/
namespace Go.Proofs.Ytbiihhokcmdlhaa
open Go.ChangeShapes Go.WideShapes Go.ChangeAt Go.RowKit Go.Deep

section
variable {H : Type} {enc : TypeId × Value → H} {P : Program} {w : World} {base : Nat} {spare : Nat → Bool} {held : Bool}

theorem fieldOf {t : TypeId} {fs : Array Field} {fuel : Nat} {cs : List Value} {x : DataW H × List MemPlace} (ht : P.underlying t = some (.struct fs)) (h : DataW.trod enc P w base spare held fuel t cs = some x) :
    ∃ n, cs.length = P.cellsOf t ∧ ∃ parts : List (DataW H), x.1 = .agg parts ∧ ∀ (i : Nat) (f : Field), fs[i]? = some f → ∃ y, DataW.trod enc P w base spare held n f.type ((cs.drop f.offset).take (P.cellsOf f.type)) = some y ∧ parts[i]? = some y.1 := by
  obtain ⟨xs, n, _, hxe, hl, hx, hf⟩ := DataW.trod_struct ht h
  refine ⟨n, hl, xs.map (·.1), by rw [hxe], fun i f hi => ?_⟩
  have hlt : i < fs.size := (Array.getElem?_eq_some_iff.1 hi).1
  exact ⟨xs[i]'(by omega), by rw [hf i f hi]; exact List.getElem?_eq_getElem (by omega), by rw [List.getElem?_map, List.getElem?_eq_getElem (by omega)]; rfl⟩

theorem intAt {t : TypeId} {k : IntKind} {fuel : Nat} {cs : List Value} {x : DataW H × List MemPlace} (ht : P.underlying t = some (.int k)) (h : DataW.trod enc P w base spare held fuel t cs = some x) : ∃ n, cs = [.int k n] := by
  obtain ⟨n, h1, _, _⟩ := DataW.trod_int ht h
  exact ⟨n, h1⟩

theorem boolAt {t : TypeId} {fuel : Nat} {cs : List Value} {x : DataW H × List MemPlace} (ht : P.underlying t = some .bool) (h : DataW.trod enc P w base spare held fuel t cs = some x) : ∃ n, cs = [.bool n] := by
  obtain ⟨n, h1, _⟩ := DataW.trod_bool ht h
  exact ⟨n, h1⟩

/-- The datum of a slice of n elements. -/
def SlShape (d : DataW H) (n : Nat) : Prop := (d = .nil ∧ n = 0) ∨ ∃ elems sp, d = .slice elems sp ∧ elems.length = n

theorem SlShape.weight {d : DataW H} {n : Nat} (h : SlShape d n) {t e : TypeId} (hu : P.underlying t = some (.slice e)) (hw : ∀ k ∈ d.weights P t, k ≤ reachBytes) : n * P.bytesOf e ≤ reachBytes := by
  rcases h with ⟨rfl, rfl⟩ | ⟨elems, sp, rfl, rfl⟩
  · simp
  · have := hw ((elems.length + sp.length) * P.bytesOf e) (by simp [DataW.weights, hu])
    exact Nat.le_trans (Nat.mul_le_mul_right _ (Nat.le_add_right _ _)) this

theorem weights_part {t : TypeId} {fs : Array Field} {parts : List (DataW H)} {i : Nat} {f : Field} {d : DataW H} (hu : P.underlying t = some (.struct fs)) (hf : fs[i]? = some f) (hd : parts[i]? = some d) (hw : ∀ k ∈ (DataW.agg parts).weights P t, k ≤ reachBytes) :
    ∀ k ∈ d.weights P f.type, k ≤ reachBytes := fun k hk => by
  refine hw k ?_
  simp only [DataW.weights, hu]
  exact DataW.weights_mem_each (j := i) (by rw [List.getElem?_map, Array.getElem?_toList, hf]; rfl) hd k hk

theorem weights_arg {ts : List TypeId} {ds : List (DataW H)} (h : (DataW.weightsEach P ts ds).all (· ≤ reachBytes) = true) {j : Nat} {t : TypeId} {d : DataW H} (ht : ts[j]? = some t) (hd : ds[j]? = some d) : ∀ k ∈ d.weights P t, k ≤ reachBytes := fun k hk => by
  have := List.all_eq_true.1 h k (DataW.weights_mem_each ht hd k hk)
  simpa using this

theorem addPlain (b off i : Nat) : (⟨b, off, none⟩ : Addr).add i = ⟨b, off + i, none⟩ := by unfold Addr.add; split <;> simp_all

end

section
variable {H : Type} {enc : TypeId × Value → H} {P : Program} {W : World}

theorem elemsOf {α : Type} [Inhabited α] {f : α → List Value} {m : Nat} {ts te : TypeId} (ht : P.underlying ts = some (.slice te)) (hm : P.cellsOf te = m) (hm0 : 0 < m) (hf : ∀ x, (f x).length = m)
    (dec : ∀ (n : Nat) (cs : List Value) (x : DataW H × List MemPlace), DataW.trod enc P W 0 (fun _ => true) true n te cs = some x → ∃ a, cs = f a)
    {fuel : Nat} {v : Value} {x : DataW H × List MemPlace} (h : DataW.trod enc P W 0 (fun _ => true) true fuel ts [v] = some x) : ∃ xs : List α, ElAt m f W v xs ∧ SlShape x.1 xs.length := by
  subst hm
  rcases open_slice ht h with ⟨h0, hx⟩ | ⟨a, len, cap, m, n, D, Pl, hcs, _, hl, hcap, hm, hx, hel⟩
  · simp only [List.cons.injEq, and_true] at h0
    subst h0
    exact ⟨[], ElAt.nil W, .inl ⟨by rw [hx], rfl⟩⟩
  · simp only [List.cons.injEq, and_true] at hcs
    subst hcs
    simp only [if_true] at hm
    subst hm
    have key : ∀ i, i < len → ∃ q : α, ∀ j u, (f q)[j]? = some u → W.cell? ((a.add (i * P.cellsOf te)).add j) = some u := by
      intro i hi
      obtain ⟨cs, hc, htr⟩ := hel i (by omega)
      obtain ⟨_, hlen, hat⟩ := World.cells?_some hc
      obtain ⟨q, rfl⟩ := dec _ _ _ htr
      refine ⟨q, fun j u hu => ?_⟩
      have hj : j < P.cellsOf te := by rw [← hf q]; exact (List.getElem?_eq_some_iff.1 hu).1
      rw [hat j hj, hu]
    obtain ⟨g, hg⟩ := choose_lt key
    refine ⟨(List.range len).map g, ⟨some a, m, by simp, by simpa using hl, by unfold maxLen at hcap; omega, fun hpos => ?_⟩, .inr ⟨_, _, by rw [hx], by simp⟩⟩
    have hpos' : 0 < len := by simpa using hpos
    have hl0 : 0 < (f (g 0)).length := by rw [hf]; exact hm0
    have hu0 : (f (g 0))[0]? = some (f (g 0))[0] := List.getElem?_eq_getElem hl0
    have h00 := hg 0 hpos' 0 _ hu0
    have hspot : a.spot = none := by simpa [Addr.add] using World.cell?_spot h00
    obtain ⟨b, off, spot⟩ := a
    subst hspot
    have hb : b < W.heap.size := by
      have := cell_lt h00
      rw [addPlain, addPlain] at this
      exact this
    refine ⟨b, off, rfl, hb, fun i x hxi j u hu => ?_⟩
    have hi' : i < len := by simpa using (List.getElem?_eq_some_iff.1 hxi).1
    rw [List.getElem?_map, List.getElem?_range hi'] at hxi
    obtain rfl : g i = x := by simpa using hxi
    have := hg i hi' j u hu
    rw [addPlain, addPlain] at this
    exact this

theorem intsOf {ts te : TypeId} (ht : P.underlying ts = some (.slice te)) (hte : P.underlying te = some (.int .i64)) (hm : P.cellsOf te = 1)
    {fuel : Nat} {v : Value} {x : DataW H × List MemPlace} (h : DataW.trod enc P W 0 (fun _ => true) true fuel ts [v] = some x) : ∃ xs : List Int, InAt W v xs ∧ SlShape x.1 xs.length := by
  obtain ⟨xs, h1, h2⟩ := elemsOf (f := fun n : Int => [Value.int .i64 n]) ht hm (by decide) (fun _ => rfl) (fun n cs x h => intAt hte h) h
  refine ⟨xs, ?_, h2⟩
  obtain ⟨a, cap, rfl, h3, h4, h5⟩ := h1
  refine ⟨a, cap, rfl, h3, h4, fun hp => ?_⟩
  obtain ⟨b, off, rfl, hb, hc⟩ := h5 hp
  refine ⟨b, off, rfl, hb, fun i hi => ?_⟩
  have := hc i _ (getD_get? hi 0) 0 _ rfl
  simpa using this
end

end Go.Proofs.Ytbiihhokcmdlhaa
