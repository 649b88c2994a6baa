import Derived.Test.YthgcnakbbmknoaaZzG
import Derived.Deep.RegionHeld3
/- Texts of one seat, merged: Wz -/
/- ChainNarrows, the walk. -/
namespace Go.Proofs.Ythgcnakbbmknoaa
open Go.RowKit

theorem lnk_at {c : Chn} {l : List Gau} {w w' : World} {e : Ending} (h : LnkRes c l w e w') : ∃ v, e = .returned (.tuple #[v, .int .i64 (CkM c l 0 0)]) ∧ SpAt w' v (lnkL c l) ∧ Below w.heap.size w w' := by
  obtain ⟨v, rfl, hb, ho⟩ := h
  exact ⟨v, rfl, ElAt.of_own (m := 2) (f := spnL) (xs := lnkL c l) (fun _ => rfl) ho, hb⟩
theorem sp_sh {w : World} {v : Value} {xs : List Spn} (h : SpAt w v xs) : ∃ a c, v = .slice a xs.length c := by
  obtain ⟨a, c, rfl, _⟩ := h
  exact ⟨a, c, rfl⟩
theorem lnkL_ok {c : Chn} {l : List Gau} (h : chkM c l = 0) (ha : agreeB c l = true) : lnkL c l = lnkTo (RM c l) c.n.toNat := by
  unfold lnkL
  rw [if_pos]
  rw [ck00 h, if_pos ha]
theorem lnkTo_at (M : Net) {n i : Nat} (h : i < n) : (lnkTo M n).getD i Spn.zero = (-M (i + 1) i, M i (i + 1)) := by
  unfold lnkTo
  rw [List.getD_eq_getElem?_getD, List.getElem?_map, List.getElem?_range h]
  rfl
theorem run_ok {c : Chn} {l : List Gau} (h : chkM c l = 0) (ha : agreeB c l = true) {a b : Nat} (hab : a ≤ b) (hb : b ≤ c.n.toNat) : runM c l a b = ⟨lowM c l a b, highM c l a b, 0⟩ := by
  have hc : crunM c l a b = 0 := by
    unfold crunM
    rw [if_pos h, if_pos]
    have := (chk_goks h).1.n1
    omega
  unfold runM
  rw [if_pos hc, if_pos ha]
  simp

theorem sp_pos {w : World} {a : Option Addr} {n c : Nat} {l : List Spn} (h : SpAt w (.slice a n c) l) (hp : 0 < l.length) : ∃ b off, a = some ⟨b, off, none⟩ ∧ b < w.heap.size ∧ ∀ i x, l[i]? = some x → ∀ j u, (spnL x)[j]? = some u → w.cell? ⟨b, off + i * 2 + j, none⟩ = some u := by
  obtain ⟨a', cap, e, h1, h2, h3⟩ := h
  injection e with e1 e2 e3
  subst e1
  exact h3 hp

theorem ga_sh {w : World} {v : Value} {l : List Gau} (h : GaAt w v l) : ∃ a c, v = .slice a l.length c := by
  obtain ⟨a, c, rfl, _⟩ := h
  exact ⟨a, c, rfl⟩

def narB (c : Chn) (l : List Gau) (g : Gau) : Bool := decide (42 < l.length) || (chkM c (l ++ [g]) != 0)
abbrev gauO (g : Gau) : Obj := .cells #[.int .i64 g.a, .int .i64 g.b, .int .i64 g.lo, .int .i64 g.hi] 53
abbrev sidO (n pi li : Int) (v : Value) : Obj := .cells #[.int .i64 n, .int .i64 pi, .int .i64 li, v] 38
abbrev chO (n pi li : Int) : Obj := .cells #[.int .i64 n, .int .i64 pi, .int .i64 li] 23

theorem gau_infoN : (Try.prog.info? 53).map (fun i => (i.zero, i.size, i.bytes)) = some (some (.agg #[.int .i64 0, .int .i64 0, .int .i64 0, .int .i64 0]), 4, 32) := by kernel_rfl

set_option maxRecDepth 100000 in
set_option maxHeartbeats 16000000 in
theorem narrows_any (n pi li : Int) (v : Value) (l : List Gau) (g : Gau) (a b m : Int) (w : World) (hv : GaAt w v l) (hn : l.length * 32 ≤ 140737488351232) :
    Calls Try.prog 6 #[.agg #[.int .i64 n, .int .i64 pi, .int .i64 li, v], .agg #[.int .i64 g.a, .int .i64 g.b, .int .i64 g.lo, .int .i64 g.hi], .agg #[.int .i64 a, .int .i64 b, .int .i64 m]] w fun e w' => e = .returned (.bool true) ∧ Below w.heap.size w w' := by
  have hb0 := blw3 w (sidO n pi li v) (gauO g) (Obj.cells #[.int .i64 a, .int .i64 b, .int .i64 m] 26)
  have k0 := three_0 w (sidO n pi li v) (gauO g) (Obj.cells #[.int .i64 a, .int .i64 b, .int .i64 m] 26)
  have k1 := three_1 w (sidO n pi li v) (gauO g) (Obj.cells #[.int .i64 a, .int .i64 b, .int .i64 m] 26)
  have k2 := three_2 w (sidO n pi li v) (gauO g) (Obj.cells #[.int .i64 a, .int .i64 b, .int .i64 m] 26)
  have HV := Lib.hid (hv.below hb0 (Nat.le_refl _))
  obtain ⟨ka, cap, rfl, hn1, hcap, hc⟩ := hv
  obtain ⟨g0, hg0, hy0, hy1, hy2⟩ := info_parts gau_infoN
  have hf : ∀ x : Gau, (gauL x).length = 4 := fun _ => rfl
  have hf1 : ∀ x : Gau, ∀ u ∈ gauL x, u.oneCell' = true := fun x u hu => by simp at hu; rcases hu with rfl | rfl | rfl | rfl <;> rfl
  have HB := Lib.hid hb0
  have K0 := Lib.hid k0
  have K1 := Lib.hid k1
  have K2 := Lib.hid k2
  clear hc hb0 k0 k1 k2
  go_enter Try.func6, Try.ntmps6
  go_upto_region 1 with fail
  generalize ((w.alloc (sidO n pi li (.slice ka l.length cap))).alloc (gauO g)).alloc (Obj.cells #[.int .i64 a, .int .i64 b, .int .i64 m] 26) = wA at *
  have c0 := block_cell K0.out
  have z0 := lt_of_block K0.out
  go_region
  have hbs : Below wA.heap.size wA ((wA.alloc (chO n pi li)).drew) := ((Below.refl _ _).alloc (Nat.le_refl _) _).drew
  have HB := Lib.hid (HB.out.trans (hbs.mono HB.out.size))
  have HV := Lib.hid (HV.out.below hbs (Nat.le_refl _))
  have KC := Lib.hid (show ((wA.alloc (chO n pi li)).drew).heap[wA.heap.size]? = some (chO n pi li) from block_new wA _ _ rfl)
  have K1 := Lib.hid ((hbs.block _ (lt_of_block K1.out)).trans K1.out)
  have K2 := Lib.hid ((hbs.block _ (lt_of_block K2.out)).trans K2.out)
  clear c0 z0 hbs K0
  go_upto_region 2 with fail
  generalize hpc : wA.heap.size = pc at *
  generalize (wA.alloc (chO n pi li)).drew = wB at *
  have D : ∀ w', Below wB.heap.size wB w' → ((w'.cell? ⟨w.heap.size + 1, 0, none⟩ = some (.int .i64 g.a) ∧ w'.cell? ⟨w.heap.size + 1, 1, none⟩ = some (.int .i64 g.b) ∧ w'.cell? ⟨w.heap.size + 1, 2, none⟩ = some (.int .i64 g.lo) ∧ w'.cell? ⟨w.heap.size + 1, 3, none⟩ = some (.int .i64 g.hi)) ∧ Below wB.heap.size wB w') := by
    intro w' h
    have c1 := block_cell ((h.block _ (lt_of_block K1.out)).trans K1.out)
    exact ⟨⟨c1 0, c1 1, c1 2, c1 3⟩, h⟩
  have hm1 : l.length + [g].length ≤ maxLen := by unfold maxLen; simp only [List.length_singleton]; omega
  have hm2 : (l.length + [g].length) * 32 ≤ 140737488355328 := by simp only [List.length_singleton]; omega
  go_cut [9] (fun s9 wx => ∃ v9, s9 = v9 ∧ Hid (GaAt wx v9 (l ++ [g])) ∧ Hid (Below wB.heap.size wB wx))
  case first =>
    go_region_held3 (fun w' => (w'.cell? ⟨w.heap.size + 1, 0, none⟩ = some (.int .i64 g.a) ∧ w'.cell? ⟨w.heap.size + 1, 1, none⟩ = some (.int .i64 g.b) ∧ w'.cell? ⟨w.heap.size + 1, 2, none⟩ = some (.int .i64 g.lo) ∧ w'.cell? ⟨w.heap.size + 1, 3, none⟩ = some (.int .i64 g.hi)) ∧ Below wB.heap.size wB w')
      (first | (with_reducible exact D _ (Below.drew (Below.refl _ _))) | (with_reducible exact D _ hB2) | (with_reducible exact D _ hB1) | (refine D _ ?_; repeat' (first | (with_reducible exact hB1) | (with_reducible exact Below.refl _ _) | (with_reducible refine Below.drew ?_) | (with_reducible refine Below.alloc ?_ ?_ _) | exact Nat.le_refl _ | exact hB1.size)) | fail)
      (first | (go_at_call 14; have hB0 := And.right ‹_ ∧ Below wB.heap.size wB _›; with_reducible refine (copyGauges_any _ l _ (HV.out.below hB0 (Nat.le_refl _)) hn).mono ?_; rintro e w3 ⟨v3, rfl, ho3, hb3⟩; have hB1 := hB0.trans (hb3.mono hB0.size); have HO3 := Lib.hid (ownsRow_mono ho3 hB0.size)) | (refine step_app_elAt rfl (.tmp 28) (.tmp 30) 24 rfl wB.heap.size 53 g0 (.agg #[.int .i64 0, .int .i64 0, .int .i64 0, .int .i64 0]) 4 32 Try.underlying24 hg0 hy0 hy1 hy2 rfl (by decide) gauL hf hf1 _ l [g] rfl (by first | exact HO3.out | exact World.ownsRow.alloc HO3.out _) _ rfl (by first | exact gau_one (block_new _ _ _ rfl) | exact gau_one (keepZ (show ((wB.alloc (gauO g)).drew).heap[wB.heap.size]? = some (gauO g) from block_new wB _ _ rfl) hb3)) hm1 hm2 (by first | exact hB1.size | exact Nat.le_trans hB1.size (al_le _ _)) ?_; intro v4 w4 ho4 hb4; have hB2 : Below wB.heap.size wB w4 := (by first | exact Below.trans hB1 hb4 | exact Below.trans (Below.alloc hB1 hB1.size _) hb4)) | fail)
    all_goals
      go_wp2_with fail
      go_meet
      exact ⟨_, rfl, Lib.hid (ElAt.of_own (m := 4) (f := gauL) (xs := l ++ [g]) (fun _ => rfl) ho4), Lib.hid hB2⟩
  case rest =>
    obtain ⟨v9, e9, H9, HN0⟩ := hcut
    obtain ⟨a9, c9, rfl⟩ := ga_sh H9.out
    subst e9
    clear D hm1 hm2
    have HNB := Lib.hid (show narB ⟨n, pi, li⟩ l g = (decide (42 < l.length) || (chkM ⟨n, pi, li⟩ (l ++ [g]) != 0)) from rfl)
    generalize hL : l ++ [g] = L at *
    have HLE := Lib.hid hL
    clear hL
    have c2 := block_cell ((HN0.out.block _ (lt_of_block K2.out)).trans K2.out)
    have cc := block_cell ((HN0.out.block _ (lt_of_block KC.out)).trans KC.out)
    have z2 := Nat.lt_of_lt_of_le (lt_of_block K2.out) HN0.out.size
    have zc := Nat.lt_of_lt_of_le (lt_of_block KC.out) HN0.out.size
    have HVW := Lib.hid (HV.out.below HN0.out (Nat.le_refl _))
    have HRK := Lib.hid (rcheck_any ⟨n, pi, li⟩ L _ _ H9.out)
    go_upto_region 3 with fail
    go_cut [39] (fun s wx => s = .bool (narB ⟨n, pi, li⟩ l g) ∧ Hid (Below wc.heap.size wc wx) ∧ Hid (Below wB.heap.size wB wx))
    case first =>
      cases hf1 : decide (42 < l.length)
      · have HF1 := Lib.hid hf1
        have HT2 := Lib.hid (show narB ⟨n, pi, li⟩ l g = (chkM ⟨n, pi, li⟩ L != 0) by rw [HNB.out, hf1]; rfl)
        clear hf1
        generalize chkM ⟨n, pi, li⟩ L = p at *
        go_wp2_with (first | (go_at_call 11; refine (far_any l _ _ HVW.out).mono ?_; rintro e w' ⟨rfl, rfl⟩; rw [HF1.out]) | (go_at_call 21; refine HRK.out.mono ?_; rintro e w1 ⟨rfl, hb1⟩))
        go_meet
        exact ⟨by rw [HT2.out], Lib.hid hb1, Lib.hid (HN0.out.trans (hb1.mono HN0.out.size))⟩
      · have HF1 := Lib.hid hf1
        have HT3 := Lib.hid (show narB ⟨n, pi, li⟩ l g = true by rw [HNB.out, hf1]; rfl)
        clear hf1
        go_wp2_with (go_at_call 11; refine (far_any l _ _ HVW.out).mono ?_; rintro e w' ⟨rfl, rfl⟩; rw [HF1.out])
        go_meet
        exact ⟨by rw [HT3.out], Lib.hid (Below.refl _ _), HN0⟩
    case rest =>
      obtain ⟨rfl, HNX, HN1⟩ := hcut
      have HV9 := Lib.hid (fun w1 (h : Below wB.heap.size wB w1) => HV.out.below h (Nat.le_refl _))
      cases htb : narB ⟨n, pi, li⟩ l g
      · have p2 : chkM ⟨n, pi, li⟩ L = 0 := by
          rw [HNB.out] at htb
          simp only [Bool.or_eq_false_iff, bne_eq_false_iff_eq] at htb
          exact htb.2
        have p1 : chkM ⟨n, pi, li⟩ l = 0 := chk_less (g := g) (by rw [HLE.out]; exact p2)
        have n1 := (chk_goks p1).1.n1
        have n2 := (chk_goks p1).1.n2
        simp only at n1 n2
        obtain ⟨n, rfl⟩ : ∃ j : Nat, n = j := ⟨n.toNat, by omega⟩
        have HLL := Lib.hid (fun w1 (h : Below wB.heap.size wB w1) => kLinks_any (CN n pi li) l (.slice ka l.length cap) w1 (HV9.out w1 h))
        have H9L := Lib.hid (fun w1 (h : Below wc.heap.size wc w1) => kLinks_any (CN n pi li) L (.slice a9 L.length c9) w1 ((H9.out.below HNX.out (Nat.le_refl _)).below h (Nat.le_refl _)))
        clear htb HNB c2 cc z2 zc
        have c2 := block_cell ((HN1.out.block _ (lt_of_block K2.out)).trans K2.out)
        have cc := block_cell ((HN1.out.block _ (lt_of_block KC.out)).trans KC.out)
        have z2 := Nat.lt_of_lt_of_le (lt_of_block K2.out) HN1.out.size
        have zc := Nat.lt_of_lt_of_le (lt_of_block KC.out) HN1.out.size
        have k1 := ck00 p1
        have k2 := ck00 p2
        cases hag : agreeB (CN n pi li) L
        · have K3 := Lib.hid (show CkM (CN n pi li) L 0 0 = 3 by rw [show CkM (CN n pi li) L 0 0 = _ from k2, hag]; rfl)
          clear hag k1 k2 p1 p2
          go_wp2_with fail
          refine (HLL.out _ HN1.out).mono ?_
          rintro e w3 hres
          obtain ⟨v3, rfl, h3, hb3⟩ := lnk_at hres
          obtain ⟨a3, c3, rfl⟩ := sp_sh h3
          have HB3 := Lib.hid hb3
          clear hres h3
          have HN2 := Lib.hid (HN1.out.trans (hb3.mono HN1.out.size))
          clear hb3 c2 cc z2 zc
          have c2 := block_cell ((HN2.out.block _ (lt_of_block K2.out)).trans K2.out)
          have cc := block_cell ((HN2.out.block _ (lt_of_block KC.out)).trans KC.out)
          have z2 := Nat.lt_of_lt_of_le (lt_of_block K2.out) HN2.out.size
          have zc := Nat.lt_of_lt_of_le (lt_of_block KC.out) HN2.out.size
          generalize CkM (CN n pi li) l 0 0 = E at *
          go_wp2_with fail
          refine (H9L.out _ HB3.out).mono ?_
          rintro e w4 hres
          obtain ⟨v4, rfl, h4, hb4⟩ := lnk_at hres
          obtain ⟨a4, c4, rfl⟩ := sp_sh h4
          rw [K3.out]
          clear hres h4
          have HN3 := Lib.hid (HN2.out.trans (hb4.mono HN2.out.size))
          clear hb4 c2 cc z2 zc
          have c2 := block_cell ((HN3.out.block _ (lt_of_block K2.out)).trans K2.out)
          have cc := block_cell ((HN3.out.block _ (lt_of_block KC.out)).trans KC.out)
          have z2 := Nat.lt_of_lt_of_le (lt_of_block K2.out) HN3.out.size
          have zc := Nat.lt_of_lt_of_le (lt_of_block KC.out) HN3.out.size
          go_wp2_with fail
          refine (works_any _).mono ?_
          rintro e wz ⟨rfl, hbz⟩
          go_wp2_with fail
          go_ret
          exact ⟨rfl, HB.out.trans ((HN3.out.trans (hbz.mono HN3.out.size)).mono HB.out.size)⟩
        · have hal : agreeB (CN n pi li) l = true := agree_less (g := g) (by rw [HLE.out]; exact p2) (by rw [HLE.out]; exact hag)
          have HK3 := Lib.hid (show CkM (CN n pi li) L 0 0 = 0 by rw [show CkM (CN n pi li) L 0 0 = _ from k2, hag]; rfl)
          have HK4 := Lib.hid (show CkM (CN n pi li) l 0 0 = 0 by rw [show CkM (CN n pi li) l 0 0 = _ from k1, hal]; rfl)
          have HLA := Lib.hid (lnkL_ok p1 hal)
          have HLB := Lib.hid (lnkL_ok p2 hag)
          have HLE1 := Lib.hid (fun i j (hi : i ≤ n) (hj : j ≤ n) => show RM (CN n pi li) L i j ≤ RM (CN n pi li) l i j by
            have := RM_less (c := CN n pi li) (l := l) (g := g) (by rw [HLE.out]; exact p2) (by rw [HLE.out]; exact hag) (i := i) (j := j) (by simpa [CN] using hi) (by simpa [CN] using hj)
            rw [HLE.out] at this
            exact this)
          have HRT := Lib.hid (fun i k j (hi : i ≤ n) (hk : k ≤ n) (hj : j ≤ n) => show RM (CN n pi li) l i j ≤ RM (CN n pi li) l i k + RM (CN n pi li) l k j from RM_tri p1 hal (i := i) (m := k) (j := j) (by simpa [CN] using hi) (by simpa [CN] using hk) (by simpa [CN] using hj))
          have HRS := Lib.hid (fun i j (hi : i ≤ n) (hj : j ≤ n) => agree_small p1 hi hj)
          have HR1 := Lib.hid (fun x y (h1 : x ≤ y) (h2 : y ≤ n) => run_ok p1 hal (a := x) (b := y) h1 (by simpa [CN] using h2))
          have HR2 := Lib.hid (fun x y (h1 : x ≤ y) (h2 : y ≤ n) => run_ok p2 hag (a := x) (b := y) h1 (by simpa [CN] using h2))
          have HCN := Lib.hid (show (CN n pi li).n.toNat = n by simp)
          clear k1 k2 p1 p2 hag hal
          go_wp2_with fail
          refine (HLL.out _ HN1.out).mono ?_
          rintro e w3 hres
          obtain ⟨v3, rfl, h3, hb3⟩ := lnk_at hres
          rw [HK4.out]
          rw [HLA.out, HCN.out] at h3
          obtain ⟨a3, c3, rfl⟩ := sp_sh h3
          rw [lnkTo_len] at h3
          rw [lnkTo_len]
          have H3 := Lib.hid h3
          have HB3 := Lib.hid hb3
          clear hres h3
          have HN2 := Lib.hid (HN1.out.trans (hb3.mono HN1.out.size))
          clear hb3 c2 cc z2 zc
          have c2 := block_cell ((HN2.out.block _ (lt_of_block K2.out)).trans K2.out)
          have cc := block_cell ((HN2.out.block _ (lt_of_block KC.out)).trans KC.out)
          have z2 := Nat.lt_of_lt_of_le (lt_of_block K2.out) HN2.out.size
          have zc := Nat.lt_of_lt_of_le (lt_of_block KC.out) HN2.out.size
          go_wp2_with fail
          refine (H9L.out _ HB3.out).mono ?_
          rintro e w4 hres
          obtain ⟨v4, rfl, h4, hb4⟩ := lnk_at hres
          rw [HK3.out]
          rw [HLB.out, HCN.out] at h4
          obtain ⟨a4, c4, rfl⟩ := sp_sh h4
          rw [lnkTo_len] at h4
          rw [lnkTo_len]
          have H4 := Lib.hid h4
          have H3 := Lib.hid (H3.out.below hb4 (Nat.le_refl _))
          have H9D := Lib.hid (((H9.out.below HNX.out (Nat.le_refl _)).below HB3.out (Nat.le_refl _)).below hb4 (Nat.le_refl _))
          clear hres h4
          have HN3 := Lib.hid (HN2.out.trans (hb4.mono HN2.out.size))
          clear hb4 c2 cc z2 zc
          have c2 := block_cell ((HN3.out.block _ (lt_of_block K2.out)).trans K2.out)
          have cc := block_cell ((HN3.out.block _ (lt_of_block KC.out)).trans KC.out)
          have z2 := Nat.lt_of_lt_of_le (lt_of_block K2.out) HN3.out.size
          have zc := Nat.lt_of_lt_of_le (lt_of_block KC.out) HN3.out.size
          have hz0 : (0 : Int) ≤ n := by omega
          go_wp2_with fail
          have HNL := HN3
          go_loopw [14] (fun i wr => ∃ k : Nat, k ≤ n ∧ i = .int .i64 k ∧ Hid (Below w4.heap.size w4 wr)) (fun i _ => n - (intOf i).toNat)
          case atStart => exact ⟨0, Nat.zero_le _, rfl, Lib.hid (Below.refl _ _)⟩
          case round =>
            obtain ⟨k, hk, rfl, hb⟩ := hrel
            have HN4 := Lib.hid (HN3.out.trans (hb.out.mono HN3.out.size))
            clear c2 cc z2 zc
            have cc := block_cell ((HN4.out.block _ (lt_of_block KC.out)).trans KC.out)
            by_cases hlt : k < n
            · obtain ⟨b3, o3, e3, l3, q3⟩ := sp_pos H3.out (by rw [lnkTo_len]; omega)
              obtain ⟨b4, o4, e4, l4, q4⟩ := sp_pos H4.out (by rw [lnkTo_len]; omega)
              subst e3
              subst e4
              obtain ⟨f1, f2⟩ := sp_at hb.out l3 q3 (k := k) (by rw [lnkTo_len]; exact hlt)
              obtain ⟨f3, f4⟩ := sp_at hb.out l4 q4 (k := k) (by rw [lnkTo_len]; exact hlt)
              rw [lnkTo_at _ hlt] at f1 f2 f3 f4
              have d1 := HLE1.out (k + 1) k (by omega) (by omega)
              have d2 := HLE1.out k (k + 1) (by omega) (by omega)
              dsimp only at f1 f2 f3 f4
              generalize RM (CN n pi li) l (k + 1) k = x1 at *
              generalize RM (CN n pi li) l k (k + 1) = x2 at *
              generalize RM (CN n pi li) L (k + 1) k = x3 at *
              generalize RM (CN n pi li) L k (k + 1) = x4 at *
              have t1 : ¬ -x3 < -x1 := by omega
              have t2 : ¬ x2 < x4 := by omega
              have j0 : (0 : Int) ≤ k := by omega
              have j1 : (k : Int) < n := by omega
              clear q3 q4 d1 d2
              generalize -x1 = y1 at *
              generalize -x3 = y3 at *
              go_wp2_with fail
              go_quiet (fail)
              go_wp2
              go_roundw
              case rel => exact ⟨k + 1, hlt, by go_num, Lib.hid (below_drewN hb.out _)⟩
              case measure => simp [intOf]; omega
            · obtain rfl : n = k := by omega
              have c2 := block_cell ((HN4.out.block _ (lt_of_block K2.out)).trans K2.out)
              have z2 := Nat.lt_of_lt_of_le (lt_of_block K2.out) HN4.out.size
              have zc := Nat.lt_of_lt_of_le (lt_of_block KC.out) HN4.out.size
              clear hlt
              by_cases hs : 0 ≤ a ∧ a ≤ b ∧ b ≤ n
              · obtain ⟨s1, s2, s3⟩ := hs
                obtain ⟨a, rfl⟩ : ∃ j : Nat, a = j := ⟨a.toNat, by omega⟩
                obtain ⟨b, rfl⟩ : ∃ j : Nat, b = j := ⟨b.toNat, by omega⟩
                have hd1 : ¬ (a : Int) < 0 := by omega
                have hd2 : ¬ (b : Int) < a := by omega
                have hd3 : ¬ (n : Int) < b := by omega
                obtain ⟨lo, hi, q1, q2, q3⟩ : ∃ lo hi : Int, runM (CN n pi li) l a b = ⟨lo, hi, 0⟩ ∧ lo = -RM (CN n pi li) l b a ∧ hi = RM (CN n pi li) l a b := ⟨_, _, HR1.out a b (by omega) (by omega), rfl, rfl⟩
                obtain ⟨lo2, hi2, q4, q5, q6⟩ : ∃ lo hi : Int, runM (CN n pi li) L a b = ⟨lo, hi, 0⟩ ∧ lo = -RM (CN n pi li) L b a ∧ hi = RM (CN n pi li) L a b := ⟨_, _, HR2.out a b (by omega) (by omega), rfl, rfl⟩
                have d1 := HLE1.out b a (by omega) (by omega)
                have d2 := HLE1.out a b (by omega) (by omega)
                have t1 : ¬ lo2 < lo := by omega
                have t2 : ¬ hi < hi2 := by omega
                have HQ1 := Lib.hid q1
                have HQ2 := Lib.hid q4
                have HLO := Lib.hid q2
                have HHI := Lib.hid q3
                have H9E := Lib.hid (H9D.out.below hb.out (Nat.le_refl _))
                clear q1 q2 q3 q4 q5 q6 d1 d2
                go_wp2_with fail
                refine (krun_any (CN n pi li) l _ _ _ _ (HV9.out _ HN4.out)).mono ?_
                rintro e w5 ⟨rfl, hb5⟩
                rw [HQ1.out]
                have H9F := Lib.hid (H9E.out.below hb5 (Nat.le_refl _))
                have HN5 := Lib.hid (HN4.out.trans (hb5.mono HN4.out.size))
                clear hb5 c2 cc z2 zc
                have c2 := block_cell ((HN5.out.block _ (lt_of_block K2.out)).trans K2.out)
                have cc := block_cell ((HN5.out.block _ (lt_of_block KC.out)).trans KC.out)
                have z2 := Nat.lt_of_lt_of_le (lt_of_block K2.out) HN5.out.size
                have zc := Nat.lt_of_lt_of_le (lt_of_block KC.out) HN5.out.size
                go_wp2_with fail
                have hx : Below w5.heap.size w5 (w5.alloc (Obj.cells #[.int .i64 lo, .int .i64 hi] 45)) := (Below.refl _ _).alloc (Nat.le_refl _) _
                have H9G := Lib.hid (H9F.out.below hx (Nat.le_refl _))
                have HN6 := Lib.hid (HN5.out.trans (hx.mono HN5.out.size))
                clear hx c2 cc z2 zc
                have c2 := block_cell ((HN6.out.block _ (lt_of_block K2.out)).trans K2.out)
                have cc := block_cell ((HN6.out.block _ (lt_of_block KC.out)).trans KC.out)
                have z2 := Nat.lt_of_lt_of_le (lt_of_block K2.out) HN6.out.size
                have zc := Nat.lt_of_lt_of_le (lt_of_block KC.out) HN6.out.size
                have KX := Lib.hid (block_new w5 (Obj.cells #[.int .i64 lo, .int .i64 hi] 45) w5.heap.size rfl)
                generalize w5.alloc (Obj.cells #[.int .i64 lo, .int .i64 hi] 45) = w6 at *
                refine (krun_any (CN n pi li) L _ _ _ _ H9G.out).mono ?_
                rintro e w7 ⟨rfl, hb7⟩
                rw [HQ2.out]
                have KX7 := Lib.hid (keepZ KX.out hb7)
                have HN7 := Lib.hid (HN6.out.trans (hb7.mono HN6.out.size))
                clear hb7 c2 cc z2 zc
                have c2 := block_cell ((HN7.out.block _ (lt_of_block K2.out)).trans K2.out)
                have cc := block_cell ((HN7.out.block _ (lt_of_block KC.out)).trans KC.out)
                have z2 := Nat.lt_of_lt_of_le (lt_of_block K2.out) HN7.out.size
                have zc := Nat.lt_of_lt_of_le (lt_of_block KC.out) HN7.out.size
                have cx := block_cell (block_alloc KX7.out (Obj.cells #[.int .i64 lo2, .int .i64 hi2] 45))
                have zx := lt_of_block KX7.out
                by_cases hm2 : (a : Int) ≤ m ∧ m ≤ b
                · obtain ⟨u1, u2⟩ := hm2
                  obtain ⟨m, rfl⟩ : ∃ j : Nat, m = j := ⟨m.toNat, by omega⟩
                  obtain ⟨lo3, hi3, q1, q2, q3⟩ : ∃ lo hi : Int, runM (CN n pi li) l a m = ⟨lo, hi, 0⟩ ∧ lo = -RM (CN n pi li) l m a ∧ hi = RM (CN n pi li) l a m := ⟨_, _, HR1.out a m (by omega) (by omega), rfl, rfl⟩
                  obtain ⟨lo4, hi4, q4, q5, q6⟩ : ∃ lo hi : Int, runM (CN n pi li) l m b = ⟨lo, hi, 0⟩ ∧ lo = -RM (CN n pi li) l b m ∧ hi = RM (CN n pi li) l m b := ⟨_, _, HR1.out m b (by omega) (by omega), rfl, rfl⟩
                  have d1 := HRT.out b m a (by omega) (by omega) (by omega)
                  have d2 := HRT.out a m b (by omega) (by omega) (by omega)
                  have d3 := HRS.out m a (by omega) (by omega)
                  have d4 := HRS.out a m (by omega) (by omega)
                  have d5 := HRS.out b m (by omega) (by omega)
                  have d6 := HRS.out m b (by omega) (by omega)
                  have hlo := HLO.out
                  have hhi := HHI.out
                  have t3 : lo3 + lo4 ≤ lo := by omega
                  have t4 : hi ≤ hi3 + hi4 := by omega
                  have v1 : -1000000000000000 ≤ lo3 ∧ lo3 ≤ 1000000000000000 := by omega
                  have v2 : -1000000000000000 ≤ lo4 ∧ lo4 ≤ 1000000000000000 := by omega
                  have v3 : -1000000000000000 ≤ hi3 ∧ hi3 ≤ 1000000000000000 := by omega
                  have v4 : -1000000000000000 ≤ hi4 ∧ hi4 ≤ 1000000000000000 := by omega
                  obtain ⟨v1, v1'⟩ := v1
                  obtain ⟨v2, v2'⟩ := v2
                  obtain ⟨v3, v3'⟩ := v3
                  obtain ⟨v4, v4'⟩ := v4
                  have hm3 : ¬ (m : Int) < a := by omega
                  have hm4 : ¬ (b : Int) < m := by omega
                  have HQ3 := Lib.hid q1
                  have HQ4 := Lib.hid q4
                  clear q1 q2 q3 q4 q5 q6 d1 d2 d3 d4 d5 d6 hlo hhi
                  go_wp2_with fail
                  have hx : Below w7.heap.size w7 (w7.alloc (Obj.cells #[.int .i64 lo2, .int .i64 hi2] 45)) := (Below.refl _ _).alloc (Nat.le_refl _) _
                  have HN8 := Lib.hid (HN7.out.trans (hx.mono HN7.out.size))
                  clear hx c2 cc z2 zc
                  have c2 := block_cell ((HN8.out.block _ (lt_of_block K2.out)).trans K2.out)
                  have cc := block_cell ((HN8.out.block _ (lt_of_block KC.out)).trans KC.out)
                  have z2 := Nat.lt_of_lt_of_le (lt_of_block K2.out) HN8.out.size
                  have zc := Nat.lt_of_lt_of_le (lt_of_block KC.out) HN8.out.size
                  have KX8 := Lib.hid (block_alloc KX7.out (Obj.cells #[.int .i64 lo2, .int .i64 hi2] 45))
                  clear cx zx
                  generalize w7.alloc (Obj.cells #[.int .i64 lo2, .int .i64 hi2] 45) = w8 at *
                  refine (krun_any (CN n pi li) l _ _ _ _ (HV9.out _ HN8.out)).mono ?_
                  rintro e w9 ⟨rfl, hb9⟩
                  rw [HQ3.out]
                  have KX9 := Lib.hid (keepZ KX8.out hb9)
                  have HN9 := Lib.hid (HN8.out.trans (hb9.mono HN8.out.size))
                  clear hb9 c2 cc z2 zc
                  have c2 := block_cell ((HN9.out.block _ (lt_of_block K2.out)).trans K2.out)
                  have cc := block_cell ((HN9.out.block _ (lt_of_block KC.out)).trans KC.out)
                  have z2 := Nat.lt_of_lt_of_le (lt_of_block K2.out) HN9.out.size
                  have zc := Nat.lt_of_lt_of_le (lt_of_block KC.out) HN9.out.size
                  go_wp2_with fail
                  have hx : Below w9.heap.size w9 (w9.alloc (Obj.cells #[.int .i64 lo3, .int .i64 hi3] 45)) := (Below.refl _ _).alloc (Nat.le_refl _) _
                  have HN10 := Lib.hid (HN9.out.trans (hx.mono HN9.out.size))
                  clear hx c2 cc z2 zc
                  have c2 := block_cell ((HN10.out.block _ (lt_of_block K2.out)).trans K2.out)
                  have cc := block_cell ((HN10.out.block _ (lt_of_block KC.out)).trans KC.out)
                  have z2 := Nat.lt_of_lt_of_le (lt_of_block K2.out) HN10.out.size
                  have zc := Nat.lt_of_lt_of_le (lt_of_block KC.out) HN10.out.size
                  have KX10 := Lib.hid (block_alloc KX9.out (Obj.cells #[.int .i64 lo3, .int .i64 hi3] 45))
                  have KY10 := Lib.hid (block_new w9 (Obj.cells #[.int .i64 lo3, .int .i64 hi3] 45) w9.heap.size rfl)
                  generalize w9.alloc (Obj.cells #[.int .i64 lo3, .int .i64 hi3] 45) = w10 at *
                  refine (krun_any (CN n pi li) l _ _ _ _ (HV9.out _ HN10.out)).mono ?_
                  rintro e w11 ⟨rfl, hb11⟩
                  rw [HQ4.out]
                  have KX11 := Lib.hid (keepZ KX10.out hb11)
                  have KY11 := Lib.hid (keepZ KY10.out hb11)
                  have HN11 := Lib.hid (HN10.out.trans (hb11.mono HN10.out.size))
                  clear hb11 c2 cc z2 zc
                  have c2 := block_cell ((HN11.out.block _ (lt_of_block K2.out)).trans K2.out)
                  have cc := block_cell ((HN11.out.block _ (lt_of_block KC.out)).trans KC.out)
                  have z2 := Nat.lt_of_lt_of_le (lt_of_block K2.out) HN11.out.size
                  have zc := Nat.lt_of_lt_of_le (lt_of_block KC.out) HN11.out.size
                  have cx := block_cell (block_alloc KX11.out (Obj.cells #[.int .i64 lo4, .int .i64 hi4] 45))
                  have zx := lt_of_block KX11.out
                  have cy := block_cell (block_alloc KY11.out (Obj.cells #[.int .i64 lo4, .int .i64 hi4] 45))
                  have zy := lt_of_block KY11.out
                  have HN12 := Lib.hid (HN11.out.alloc HN11.out.size (Obj.cells #[.int .i64 lo4, .int .i64 hi4] 45))
                  go_wp2_with fail
                  refine (works_any _).mono ?_
                  rintro e wz ⟨rfl, hbz⟩
                  go_wp2_with fail
                  go_ret
                  exact ⟨rfl, HB.out.trans ((HN12.out.trans (hbz.mono HN12.out.size)).mono HB.out.size)⟩
                · have hm5 : m < a ∨ (¬ m < a ∧ (b : Int) < m) := by omega
                  have HN8 := Lib.hid (HN7.out.alloc HN7.out.size (Obj.cells #[.int .i64 lo2, .int .i64 hi2] 45))
                  clear hm2
                  rcases hm5 with h1 | ⟨h1, h2⟩
                  all_goals
                    go_wp2_with fail
                    refine (works_any _).mono ?_
                    rintro e wz ⟨rfl, hbz⟩
                    go_wp2_with fail
                    go_ret
                    exact ⟨rfl, HB.out.trans ((HN8.out.trans (hbz.mono HN8.out.size)).mono HB.out.size)⟩
              · have hs2 : a < 0 ∨ (¬ a < 0 ∧ b < a) ∨ (¬ a < 0 ∧ ¬ b < a ∧ (n : Int) < b) := by omega
                clear hs
                rcases hs2 with h1 | ⟨h1, h2⟩ | ⟨h1, h2, h3⟩
                all_goals
                  go_wp2_with fail
                  refine (works_any _).mono ?_
                  rintro e wz ⟨rfl, hbz⟩
                  go_wp2_with fail
                  go_ret
                  exact ⟨rfl, HB.out.trans ((HN4.out.trans (hbz.mono HN4.out.size)).mono HB.out.size)⟩
      · clear htb HNB
        clear c2 cc z2 zc
        go_wp2_with fail
        refine (works_any _).mono ?_
        rintro e wz ⟨rfl, hbz⟩
        go_wp2_with fail
        go_ret
        exact ⟨rfl, HB.out.trans ((HN1.out.trans (hbz.mono HN1.out.size)).mono HB.out.size)⟩

end Go.Proofs.Ythgcnakbbmknoaa
