/- Walks of layer 2 (chain): Witness of the program. -/
import Derived.Test.YtkahhclmmlkpjaaKg
import Derived.Test.YtkahhclmmlkpjaaKh
import Derived.Test.YtkahhclmmlkpjaaGx
import Derived.Test.YtkahhclmmlkpjaaGr
import Derived.Deep.RegionHeld3
import Derived.Deep.DeepCutAuto
namespace Go.Proofs.Ytkahhclmmlkpjaa
open Go.RowKit

/-- The answer of Witness: the error, and the lengths. -/
def witE (c : Chn) (l : List Gau) (a b m : Int) : Int := if (runM c l a b).e = 0 then (if (runM c l a b).lo ≤ m ∧ m ≤ (runM c l a b).hi then 0 else 1) else (runM c l a b).e
def witG (c : Chn) (l : List Gau) (a b m : Int) : List Int := if witE c l a b m = 0 then witM c (l ++ [gEx a.toNat b.toNat m]) else []


theorem run_zero {c : Chn} {l : List Gau} {a b : Int} (h : (runM c l a b).e = 0) : crunM c l a b = 0 ∧ agreeB c l = true ∧ (runM c l a b).lo = lowM c l a.toNat b.toNat ∧ (runM c l a b).hi = highM c l a.toNat b.toNat := by
  unfold runM at h ⊢
  by_cases h1 : crunM c l a b = 0
  · rw [if_pos h1] at h ⊢
    by_cases h2 : agreeB c l = true
    · rw [if_pos h2]; exact ⟨h1, h2, rfl, rfl⟩
    · rw [if_neg h2] at h; exact absurd h (by decide)
  · rw [if_neg h1] at h; exact absurd h h1

theorem gau_one {w : World} {b : Nat} {g : Gau} (h : w.heap[b]? = some (.cells #[.int .i64 g.a, .int .i64 g.b, .int .i64 g.lo, .int .i64 g.hi] 74 (0, 0))) : GaAt w (.slice (some ⟨b, 0, none⟩) 1 1) [g] := by
  refine ⟨some ⟨b, 0, none⟩, 1, rfl, Nat.le_refl _, by decide, fun _ => ⟨b, 0, rfl, lt_of_block h, fun i x hx j u hu => ?_⟩⟩
  obtain rfl : i = 0 := by have := (List.getElem?_eq_some_iff.1 hx).1; simpa using this
  obtain rfl : x = g := by simpa using hx.symm
  rw [show 0 + 0 * 4 + j = j by omega, block_cell h]
  have := hu
  match j with
  | 0 => exact hu
  | 1 => exact hu
  | 2 => exact hu
  | 3 => exact hu
  | j + 4 => simp at hu

abbrev zB : Obj := Obj.cells (netC fun _ _ => 0) 100
abbrev gB (a b : Nat) (m : Int) : Obj := Obj.cells #[.int .i64 (a : Int), .int .i64 (b : Int), .int .i64 m, .int .i64 m] 74
abbrev mB (va : Option Addr) (n cap bg : Nat) : Obj := Obj.cells #[.slice va n cap, .slice (some ⟨bg, 0, none⟩) 1 1] 24

/-- The call of Concat, in a world whose blocks bg and bm are the gauge and the two slices; a block p is kept. -/
theorem concat_in {w : World} {n cap : Nat} {va : Option Addr} {l : List Gau} (h : GaAt w (.slice va n cap) l) (hl : l.length ≤ 40) (a b : Nat) (m : Int) (W : World) (hb : Below w.heap.size w W) (bm bg _p : Nat) (kg : W.heap[bg]? = some (gB a b m)) (km : W.heap[bm]? = some (mB va n cap bg))
    (R : World → Prop) (hR : ∀ w', Below W.heap.size W w' → R w') :
    Calls Try.prog 73 #[.slice (some ⟨bm, 0, none⟩) 2 2] W.drew fun e w' => ∃ v, e = .returned v ∧ GaAt w' v (l ++ [gEx a b m]) ∧ Below w.heap.size w w' ∧ R w' := by
  have hc := block_cell km
  have hz := lt_of_block km
  have he1 := gau_one (g := gEx a b m) kg
  have he0 := h.below hb (Nat.le_refl _)
  refine (cg_concat bm (.slice va n cap) (.slice (some ⟨bg, 0, none⟩) 1 1) l [gEx a b m] W.drew (hc 0) (hc 1) hz he0 he1 (by simp) (by omega) (by simp)).mono ?_
  rintro e w' ⟨v, rfl, he, hb'⟩
  have hb2 : Below W.heap.size W w' := below_undrew hb'
  exact ⟨v, rfl, he, hb.trans (hb2.mono hb.size), hR _ hb2⟩



theorem netC_ones (M : Net) : ∀ v ∈ (netC M).toList, v.oneCell' = true := fun v hv => (Array.all_eq_true_iff_forall_mem.1 (netC_one M)) v (by simpa using hv)
theorem netC_ll (M : Net) : (netC M).toList.length = 625 := by rw [Array.length_toList, netC_size]

theorem bounds_there {W : World} {p : Nat} {M : Net} (k : W.heap[p]? = some (.cells (netC M) 100)) (M' : Net) : W.there p 0 (netC M').toList.length := fun j hj => by
  rw [netC_ll] at hj
  refine ⟨?_, block_free k _⟩
  rw [block_cell k, Array.getElem?_eq_getElem (by rw [netC_size]; omega)]
  rfl

theorem bounds_info : (Try.prog.info? 100).map (fun i => i.size) = some 625 := by kernel_rfl

theorem bel_setCells {B b : Nat} {a : World} (hb : B ≤ b) : ∀ (vs : List Value) (o : Nat) (w : World), Below B a w → Below B a (w.setCells b o vs)
  | [], _, _, h => h
  | v :: vs, o, _w, h => bel_setCells hb vs (o + 1) _ (h.setCell (p := ⟨b, o, none⟩) hb v)

theorem bounds_over {W : World} {p : Nat} {M : Net} (k : W.heap[p]? = some (.cells (netC M) 100)) (M' : Net) : (W.setCells p 0 (netC M').toList).heap[p]? = some (.cells (netC M') 100) := by
  have h1 := run_storeCells_cells (P := Try.prog) p 0 (netC M').toList 0 W (fun j hj => by simpa using (bounds_there k M' j hj).1) (fun j hj => by simpa using (bounds_there k M' j hj).2) (netC_ones M')
  have h2 := run_storeCells_at Try.prog p 0 100 (netC M').toList 0 (netC M) W k (by rw [netC_ll, netC_size]; omega) (netC_ones M')
  have e : (W.setCells p 0 (netC M').toList) = W.setRow p (netC M') := by
    have h3 := h1.symm.trans h2
    injection h3 with _ h4
    rw [h4]
    congr 1
    apply Array.toList_inj.1
    simp [netC_size]
  rw [e]
  exact setRow_heap W p (netC M) (netC M') _ _ k

theorem follow_more {n : Nat} {pi li : Int} {l : List Gau} {v : Value} {w : World} (hv : GaAt w v l) (h1 : COk (CN n pi li)) (h2 : GOks (CN n pi li) l) (h3 : l.length ≤ 100) :
    Calls Try.prog 66 #[.agg #[.int .i64 (n : Int), .int .i64 pi, .int .i64 li], v, .func (.func 67) #[] #[]] w (FollowRes n pi li l w) := by
  have := followAll_any n pi li l v (fun _ => true) w hv h1 h2 h3 (fun j w1 _ _ => all_any _ _)
  rw [sel_all] at this
  exact this

theorem spanField0 (x y : Value) (w : World) : (Instr.field 37 (.agg #[x, y]) 0).run Try.prog w = .ok x w := by kernel_rfl
theorem spanField1 (x y : Value) (w : World) : (Instr.field 37 (.agg #[x, y]) 1).run Try.prog w = .ok y w := by kernel_rfl

/-- The run from the end 0. -/
theorem brun0 (M : Net) (b k : Nat) (kI : Int) (w : World) (h : Bd w b M) (hkI : kI = k) (hk : k < 25) (h1 : -1000000000000000 ≤ M k 0) (h2 : M k 0 ≤ 1000000000000000) :
    Calls Try.prog 68 #[.pointer (some ⟨b, 0, none⟩), .int .i64 0, .int .i64 kI] w fun e w' => e = .returned (.agg #[.int .i64 (-M k 0), .int .i64 (M 0 k)]) ∧ Below w.heap.size w w' := by
  subst hkI
  exact brun_any M b 0 k w h (by omega) hk h1 h2

def WitRel (M1 : Net) (n : Nat) (wA wr : World) (p bl k : Nat) : Prop :=
  Below wA.heap.size wA wr ∧ Bd wr p M1 ∧ ∃ f, RowAt wr bl 3 n f ∧ ∀ i, i < k → f i = -M1 (i + 1) 0 - -M1 i 0

set_option maxRecDepth 100000 in
set_option maxHeartbeats 2000000 in
theorem kwit_any (c : Chn) (l : List Gau) (v : Value) (a b m : Int) (w : World) (hv : GaAt w v l) :
    Calls Try.prog 29 #[chnV c, v, .int .i64 a, .int .i64 b, .int .i64 m] w fun e w' => ∃ v', e = .returned (.tuple #[v', .int .i64 (witE c l a b m)]) ∧ InAt w' v' (witG c l a b m) ∧ Below w.heap.size w w' := by
  have hb0 := (Below.refl w.heap.size w).alloc (Nat.le_refl _) (Obj.cells #[.int .i64 c.n, .int .i64 c.pi, .int .i64 c.li] 23)
  have k0 := block_new w (Obj.cells #[.int .i64 c.n, .int .i64 c.pi, .int .i64 c.li] 23) w.heap.size rfl
  have hsz : (w.alloc (Obj.cells #[.int .i64 c.n, .int .i64 c.pi, .int .i64 c.li] 23)).heap.size = w.heap.size + 1 := size_alloc _ _
  have K0 := Lib.hid k0
  have HB := Lib.hid hb0
  have HSZ := Lib.hid hsz
  clear k0 hb0 hsz
  have HV := Lib.hid (hv.below HB.out (Nat.le_refl _))
  have HK := Lib.hid (fun (v' : Value) (w' : World) (h : GaAt w' v' l) => krun_any c l v' a b w' h)
  obtain ⟨va, cap, rfl, hn, hcap, hc⟩ := hv
  clear hc
  by_cases hq : (runM c l a b).e = 0
  · obtain ⟨q1, q2, q3, q4⟩ := run_zero hq
    by_cases hm : (runM c l a b).lo ≤ m ∧ m ≤ (runM c l a b).hi
    · have HW := Lib.hid (show witE c l a b m = 0 by unfold witE; rw [if_pos hq, if_pos hm])
      have HG := Lib.hid (show witG c l a b m = witM c (l ++ [gEx a.toNat b.toNat m]) by unfold witG; rw [HW.out, if_pos rfl])
      have HQ := Lib.hid hq
      have HM := Lib.hid (show decide ((runM c l a b).lo ≤ m ∧ m ≤ (runM c l a b).hi) = true by simpa using hm)
      rw [q3, q4] at hm
      obtain ⟨hchk, ha, hab, hbn⟩ := crun_zero q1
      clear q1 q3 q4 hq
      generalize runM c l a b = r at *
      obtain ⟨lo, hi, e0⟩ := r
      dsimp only at HQ HM HK
      obtain rfl := HQ.out
      obtain ⟨n, pi, li⟩ := c
      obtain ⟨n, rfl⟩ : ∃ m : Nat, n = m := ⟨n.toNat, by dsimp only at hbn; omega⟩
      obtain ⟨a, rfl⟩ : ∃ m : Nat, a = m := ⟨a.toNat, by omega⟩
      obtain ⟨b, rfl⟩ : ∃ m : Nat, b = m := ⟨b.toNat, by omega⟩
      dsimp only at hbn
      simp only [Int.toNat_natCast] at hm HG
      obtain ⟨hC1, hC2, hC3⟩ := chk_goks hchk
      have n24 : n ≤ 24 := by have := hC1.n2; dsimp only at this; omega
      have hagr := (agreeB_iff hC1 hC2).1 q2
      have hbn' : b ≤ (CN n pi li).n.toNat := by simp; omega
      have hl' : GOks (CN n pi li) (l ++ [gEx a b m]) := GOks.append hC2 (GOks.one (gEx_ok hC1 hC2 hagr (by omega) hbn' hm.1 hm.2))
      have HAG := Lib.hid ((agreeB_iff hC1 hl').2 (between hC1 hC2 hagr (by omega) hbn' hm.1 hm.2))
      have HL := Lib.hid hl'
      have HC := Lib.hid (show COk (CN n pi li) from hC1)
      clear hm hchk q2 hC1 hC2 hagr hbn' hl' HQ
      go_enter Try.func29, Try.ntmps29
      go_wp2_with fail
      generalize hwA : w.alloc (Obj.cells #[.int .i64 n, .int .i64 pi, .int .i64 li] 23) = wA at *
      clear hwA
      go_wp2_with fail
      refine (HK.out _ _ HV.out).mono ?_
      rintro e w1 ⟨rfl, hb1⟩
      go_upto_region 7 with (go_at_call 60; refine (kwithin_is _ m lo hi _ HM.out).mono ?_; rintro e w' ⟨rfl, rfl⟩)
      have kC := (hb1.block _ (lt_of_block K0.out)).trans K0.out
      have hGA := HV.out.below hb1 (Nat.le_refl _)
      have hbw1 := HB.out.trans (hb1.mono HB.out.size)
      have zC := lt_of_block kC
      clear hb1
      have bd : Below w1.heap.size w1 ((w1.alloc (Obj.cells #[.int .i64 lo, .int .i64 hi] 37)).alloc (Obj.cells #[.int .i64 a, .int .i64 b, .int .i64 m, .int .i64 m] 74)) := ((Below.refl _ _).alloc (Nat.le_refl _) _).alloc (by simp) _
      have kG := two_nw w1 (Obj.cells #[.int .i64 lo, .int .i64 hi] 37) (Obj.cells #[.int .i64 a, .int .i64 b, .int .i64 m, .int .i64 m] 74)
      have kC2 := (bd.block _ zC).trans kC
      have hGA2 := hGA.below bd (Nat.le_refl _)
      generalize (w1.alloc (Obj.cells #[.int .i64 lo, .int .i64 hi] 37)).alloc (Obj.cells #[.int .i64 a, .int .i64 b, .int .i64 m, .int .i64 m] 74) = wd at *
      have bd0 := bd
      have zG := lt_of_block kG
      have zC2 := lt_of_block kC2
      have D : ∀ w', Below wd.heap.size wd w' → ((w'.cell? ⟨w.heap.size, 0, none⟩ = some (.int .i64 n) ∧ w'.cell? ⟨w.heap.size, 1, none⟩ = some (.int .i64 pi) ∧ w'.cell? ⟨w.heap.size, 2, none⟩ = some (.int .i64 li)) ∧
          (w'.cell? ⟨w1.heap.size + 1, 0, none⟩ = some (.int .i64 a) ∧ w'.cell? ⟨w1.heap.size + 1, 1, none⟩ = some (.int .i64 b) ∧ w'.cell? ⟨w1.heap.size + 1, 2, none⟩ = some (.int .i64 m) ∧ w'.cell? ⟨w1.heap.size + 1, 3, none⟩ = some (.int .i64 m))) ∧ Below wd.heap.size wd w' := by
        intro w' h
        have c1 := block_cell ((h.block _ zC2).trans kC2)
        have c2 := block_cell ((h.block _ zG).trans kG)
        exact ⟨⟨⟨c1 0, c1 1, c1 2⟩, ⟨c2 0, c2 1, c2 2, c2 3⟩⟩, h⟩
      have HA := Lib.hid (concat_in hGA2 hC3 a b m _ (blw2 wd _ _) (wd.heap.size + 1) wd.heap.size 0 (two_od wd (gB a b m) (mB va l.length cap wd.heap.size)) (two_nw wd _ _) (fun _ => True) (fun _ _ => trivial))
      have HB2 := Lib.hid (concat_in hGA2 hC3 a b m _ (blw3 wd _ _ _) (wd.heap.size + 2) (wd.heap.size + 1) 0 (three_1 wd zB (gB a b m) (mB va l.length cap (wd.heap.size + 1))) (three_2 wd _ _ _) (fun w' => w'.heap[wd.heap.size]? = some zB) (fun _ h => keepZ (three_0 wd _ _ _) h))
      have HB3 := Lib.hid (concat_in hGA2 hC3 a b m _ (blw3 wd _ _ _) (wd.heap.size + 2) wd.heap.size 0 (three_0 wd (gB a b m) zB (mB va l.length cap wd.heap.size)) (three_2 wd _ _ _) (fun w' => w'.heap[wd.heap.size + 1]? = some zB) (fun _ h => keepZ (three_1 wd _ _ _) h))
      have HB4 := Lib.hid (concat_in hGA2 hC3 a b m _ (blw3 wd _ _ _) (wd.heap.size + 1) wd.heap.size 0 (three_0 wd (gB a b m) (mB va l.length cap wd.heap.size) zB) (three_1 wd _ _ _) (fun w' => w'.heap[wd.heap.size + 2]? = some zB) (fun _ h => keepZ (three_2 wd _ _ _) h))
      have HF := Lib.hid (fun (v' : Value) (w' : World) (h : GaAt w' v' (l ++ [gEx a b m])) => follow_more h HC.out HL.out (by simp; omega))
      have hzb := zeroBounds
      clear kC hGA bd hGA2
      go_cut [15] (fun s15 wx => ∃ p, s15 = .pointer (some ⟨p, 0, none⟩) ∧ Hid (∃ M1, wx.heap[p]? = some (Obj.cells (netC M1) 100) ∧ ∀ i k, i ≤ n → k ≤ n → M1 i k = RM (CN n pi li) (l ++ [gEx a b m]) i k) ∧ Hid (Below wd.heap.size wd wx))
      case first =>
        go_region_held3 (fun w' => ((w'.cell? ⟨w.heap.size, 0, none⟩ = some (.int .i64 n) ∧ w'.cell? ⟨w.heap.size, 1, none⟩ = some (.int .i64 pi) ∧ w'.cell? ⟨w.heap.size, 2, none⟩ = some (.int .i64 li)) ∧
          (w'.cell? ⟨w1.heap.size + 1, 0, none⟩ = some (.int .i64 a) ∧ w'.cell? ⟨w1.heap.size + 1, 1, none⟩ = some (.int .i64 b) ∧ w'.cell? ⟨w1.heap.size + 1, 2, none⟩ = some (.int .i64 m) ∧ w'.cell? ⟨w1.heap.size + 1, 3, none⟩ = some (.int .i64 m))) ∧ Below wd.heap.size wd w')
          (first | (with_reducible exact D _ (Below.drew (Below.refl _ _))) | (with_reducible exact D _ hB1) | (refine D _ ?_; repeat' (first | (with_reducible exact hB1) | (with_reducible exact Below.refl _ _) | (with_reducible refine Below.drew ?_) | (with_reducible refine Below.alloc ?_ ?_ _) | (with_reducible refine bel_setCells ?_ _ _ _ ?_) | exact Nat.le_refl _ | exact Nat.le_succ _ | exact al_le _ _ | exact hB1.size | exact hBa | exact Nat.le_trans (al_le _ _) (al_le _ _) | exact Nat.le_add_right _ _ | exact Nat.le_succ_of_le (Nat.le_succ _))) | fail)
          (first | (go_at_call 73; (first | with_reducible refine HA.out.mono ?_ | with_reducible refine HB2.out.mono ?_ | with_reducible refine HB3.out.mono ?_ | with_reducible refine HB4.out.mono ?_); rintro e w2 ⟨v2, rfl, hE2, hB1, hZ⟩; have hBa := hB1.size) | (go_at_call 66; (first | with_reducible refine (HF.out _ _ hE2).mono ?_ | with_reducible refine (HF.out _ _ (hE2.below ((Below.refl _ _).alloc (Nat.le_refl _) zB) (Nat.le_refl _))).mono ?_); rintro e w3 ⟨M1, rfl, hb3, hM⟩; (first | (have hz3 := keepZ hZ hb3) | (have hz3 := keepZ (block_new w2 zB _ rfl) hb3) | (have hz3 := block_new w3 zB _ rfl)); (first | (have hB1 := hB1.trans (hb3.mono hB1.size)) | (have hB1 := hB1.trans ((below_unalloc hb3).mono hB1.size))); have hM := hM HAG.out; have hone := netC_ones M1; have hll := netC_ll M1; have hth := bounds_there hz3 M1; have hsi := bounds_info; have hov := bounds_over hz3 M1))
        all_goals
          go_wp2_with fail
          go_meet
          exact ⟨_, rfl, ⟨M1, hov, hM⟩, Lib.hid (by repeat' (first | (with_reducible exact hB1) | (with_reducible exact Below.refl _ _) | (with_reducible refine Below.drew ?_) | (with_reducible refine Below.alloc ?_ ?_ _) | (with_reducible refine bel_setCells ?_ _ _ _ ?_) | exact Nat.le_refl _ | exact Nat.le_succ _ | exact al_le _ _ | exact hB1.size | exact hBa | exact Nat.le_trans (al_le _ _) (al_le _ _) | exact Nat.le_add_right _ _ | exact Nat.le_succ_of_le (Nat.le_succ _)))⟩
      case rest =>
        obtain ⟨p, rfl, hM0, hbx⟩ := hcut
        obtain ⟨M1, kb, hM⟩ := hM0.out
        have kC3 := (hbx.out.block _ zC2).trans kC2
        have hce := block_cell kC3
        have hmk := run_make_row' (P := Try.prog) 44 3 (.int .i64 0) 8 Try.underlying44 (by kernel_rfl) rfl .i64 .i64 n (by omega) (by omega)
        have HMM := Lib.hid hM
        have HBW := Lib.hid (hbw1.trans ((bd0.trans (hbx.out.mono bd0.size)).mono hbw1.size))
        have R0 := Lib.hid (show WitRel M1 n wc (wc.alloc (.cells (madeCells #[.int .i64 0] n) 3)) p wc.heap.size 0 from
          ⟨(Below.refl _ _).alloc (Nat.le_refl _) _, block_alloc kb _, fun _ => 0, by rw [rowC_zero]; exact block_new _ _ _ rfl, fun i hi => by omega⟩)
        have hce2 := block_cell (block_alloc kC3 (.cells (madeCells #[.int .i64 0] n) 3))
        have zp := lt_of_block kb
        clear hM kb kC3 hM0 kC2 kG D HA HB2 HB3 HB4 HF hzb
        go_wp2_with fail
        go_loopw [58] (fun v wr => ∃ k : Nat, k ≤ n ∧ v = .int .i64 k ∧ Hid (WitRel M1 n wc wr p wc.heap.size k)) (fun v _ => n - (intOf v).toNat)
        case atStart => exact ⟨0, by omega, rfl, R0.out⟩
        case round =>
          obtain ⟨k, hk, rfl, hR⟩ := hrel
          by_cases hlt : k < n
          · obtain ⟨h1, h2, f, h3, h4⟩ := hR.out
            have u0 := HMM.out 0 (k + 1) (by omega) (by omega)
            have e1 := HMM.out (k + 1) 0 (by omega) (by omega)
            have e0 := HMM.out k 0 (by omega) (by omega)
            have r1 := RM_small HC.out HL.out (i := k + 1) (k := 0) (by simp; omega) (Nat.zero_le _)
            have r0 := RM_small HC.out HL.out (i := k) (k := 0) (by simp; omega) (Nat.zero_le _)
            rw [← e1] at r1
            rw [← e0] at r0
            have k1 : (0 : Int) ≤ k := by omega
            have k2 : (k : Int) < n := by omega
            have k3 : ((k : Int)).toNat = k := by omega
            have hw1 : IntKind.i64.wrap ((k : Int) + 1) = (k + 1 : Nat) := by rw [IntKind.wrap_i64]; omega
            have HV2 := Lib.hid (show wrap64 (-M1 (k + 1) 0 + M1 k 0) = -M1 (k + 1) 0 - -M1 k 0 by unfold wrap64; omega)
            have c1 := h3.at hlt
            have f1 := block_free h3 k
            clear u0 e1 e0
            have hf0 := spanField0
            go_wp2_with fail
            refine (brun0 M1 p (k + 1) _ _ h2 (by omega) (by omega) (by omega) (by omega)).mono ?_
            rintro e w4 ⟨rfl, hb4⟩
            have h2' := (hb4.block _ (lt_of_block h2)).trans h2
            go_wp2_with fail
            refine (brun0 M1 p k _ _ h2' rfl (by omega) (by omega) (by omega)).mono ?_
            rintro e w5 ⟨rfl, hb5⟩
            have hb45 := hb4.trans (hb5.mono hb4.size)
            have c5 := (hb45.cell (p := ⟨wc.heap.size, k, none⟩) (lt_of_block h3)).trans c1
            have f5 := (hb45.frozen (p := ⟨wc.heap.size, k, none⟩) (lt_of_block h3)).trans f1
            have q1 := (h1.trans (hb45.mono h1.size)).setCell (p := ⟨wc.heap.size, k, none⟩) (Nat.le_refl _) (.int .i64 (-M1 (k + 1) 0 - -M1 k 0))
            have q2 := block_set_other ((hb45.block _ (lt_of_block h2)).trans h2) (p := ⟨wc.heap.size, k, none⟩) (by show p ≠ wc.heap.size; omega) (.int .i64 (-M1 (k + 1) 0 - -M1 k 0))
            have q3 := RowAt.set (show RowAt w5 wc.heap.size 3 n f from (hb45.block _ (lt_of_block h3)).trans h3) k (-M1 (k + 1) 0 - -M1 k 0)
            have q4 : ∀ i, i < k + 1 → (fun j => if j = k then -M1 (k + 1) 0 - -M1 k 0 else f j) i = -M1 (i + 1) 0 - -M1 i 0 := fun i hi => by
              dsimp only
              by_cases e : i = k
              · rw [if_pos e, e]
              · rw [if_neg e]; exact h4 i (by omega)
            have HQ := Lib.hid (show WitRel M1 n wc _ p wc.heap.size (k + 1) from ⟨q1, q2, _, q3, q4⟩)
            clear q1 q2 q3 q4 h1 h2 h2' h3 h4 hb4 hb5 hb45 r1 r0 c1 f1
            go_wp2_with fail
            go_roundw
            case rel => exact ⟨k + 1, hlt, by go_num, by rw [HV2.out]; exact HQ⟩
            case measure => simp [intOf]; omega
          · obtain rfl : k = n := by omega
            obtain ⟨h1, h2, f, h3, h4⟩ := hR.out
            have HI := Lib.hid (h3.in_ (by omega))
            have HE := Lib.hid (show (List.range k).map f = witG ⟨k, pi, li⟩ l a b m by
              rw [HG.out]
              unfold witM nearM lowM
              simp only [Int.toNat_natCast]
              refine List.map_congr_left fun i hi => ?_
              rw [List.mem_range] at hi
              rw [h4 i hi, HMM.out (i + 1) 0 (by omega) (by omega), HMM.out i 0 (by omega) (by omega)])
            have HZ := Lib.hid (HBW.out.trans (h1.mono (Nat.le_trans HBW.out.size (Nat.le_refl _))))
            clear h1 h2 h3 h4
            go_wp2_with fail
            refine bodyPost_ret (v := .tuple #[.slice (some ⟨wc.heap.size, 0, none⟩) k k, .int .i64 0]) ?_ rfl ⟨_, by rw [HW.out], by rw [← HE.out]; exact HI.out, HZ.out⟩
            simp [results, Try.results29, go_sem]
    · have HW := Lib.hid (show witE c l a b m = 1 by unfold witE; rw [if_pos hq, if_neg hm])
      have HG := Lib.hid (show witG c l a b m = [] by unfold witG; rw [HW.out, if_neg (by decide)])
      have HQ := Lib.hid hq
      have HM := Lib.hid (show decide ((runM c l a b).lo ≤ m ∧ m ≤ (runM c l a b).hi) = false by simpa using hm)
      clear hq hm q1 q2 q3 q4
      generalize runM c l a b = r at *
      obtain ⟨lo, hi, e0⟩ := r
      dsimp only at *
      obtain rfl := HQ.out
      go_enter Try.func29, Try.ntmps29
      go_wp2_with fail
      generalize hwA : w.alloc (Obj.cells #[.int .i64 c.n, .int .i64 c.pi, .int .i64 c.li] 23) = wA at *
      clear hwA
      go_wp2_with fail
      refine (HK.out _ _ HV.out).mono ?_
      rintro e w1 ⟨rfl, hb1⟩
      have HBW := Lib.hid (HB.out.trans (hb1.mono HB.out.size))
      clear hb1
      go_wp2_with (go_at_call 60; refine (kwithin_is _ m lo hi _ HM.out).mono ?_; rintro e w' ⟨rfl, rfl⟩)
      refine bodyPost_ret (v := .tuple #[.slice none 0 0, .int .i64 1]) ?_ rfl ⟨_, by rw [HW.out], by rw [HG.out]; exact InAt.nil _, ?_⟩
      · simp [results, Try.results29, go_sem]
      · have hzz := HBW.out.size
        repeat' (first | exact HBW.out | (with_reducible refine Below.drew ?_) | (with_reducible refine Below.alloc ?_ ?_ _) | (with_reducible refine Below.setCell ?_ ?_ _))
        all_goals (first | omega | (simp; done) | (simp; omega))
  · have HW := Lib.hid (show witE c l a b m = (runM c l a b).e by unfold witE; rw [if_neg hq])
    have HG := Lib.hid (show witG c l a b m = [] by unfold witG; rw [HW.out, if_neg hq])
    generalize runM c l a b = r at *
    obtain ⟨lo, hi, e0⟩ := r
    dsimp only at *
    go_enter Try.func29, Try.ntmps29
    go_wp2_with fail
    generalize hwA : w.alloc (Obj.cells #[.int .i64 c.n, .int .i64 c.pi, .int .i64 c.li] 23) = wA at *
    clear hwA
    go_wp2_with fail
    refine (HK.out _ _ HV.out).mono ?_
    rintro e w1 ⟨rfl, hb1⟩
    have HBW := Lib.hid (HB.out.trans (hb1.mono HB.out.size))
    clear hb1
    go_wp2_with fail
    refine bodyPost_ret (v := .tuple #[.slice none 0 0, .int .i64 e0]) ?_ rfl ⟨_, by rw [HW.out], by rw [HG.out]; exact InAt.nil _, ?_⟩
    · simp [results, Try.results29, go_sem]
    · have hzz := HBW.out.size
      repeat' (first | exact HBW.out | (with_reducible refine Below.drew ?_) | (with_reducible refine Below.alloc ?_ ?_ _) | (with_reducible refine Below.setCell ?_ ?_ _))
      all_goals (first | omega | (simp; done) | (simp; omega))

end Go.Proofs.Ytkahhclmmlkpjaa
