import Derived.Test.YthgcnakbbmknoaaZzD
import Derived.Deep.RegionHeld3
import Derived.Deep.RegionLaw
import Derived.Maps.AppendAt
import Derived.Deep.DeepCutAuto
import Derived.Deep.RegionHeld
/- Texts of one seat, merged: Wa Wb Wr Gd Wt Ws Gy Wc Wp Wq Wu -/
/- Walks of layer 2 (chain): Witness of the specification. -/
namespace Go.Proofs.Ythgcnakbbmknoaa
open Go.RowKit

theorem wit_ck {c : Chn} {l : List Gau} {a b m : Int} (h : CkM c l a b ≠ 0) : witE c l a b m = CkM c l a b := by
  unfold witE
  rw [← run_bad h, if_neg h]
theorem wit_arg {c : Chn} {l : List Gau} {a b m : Int} (h : CkM c l a b = 0) (hm : ¬ (lowM c l a.toNat b.toNat ≤ m ∧ m ≤ highM c l a.toNat b.toNat)) : witE c l a b m = 1 := by
  unfold witE
  rw [← run_good h, if_pos rfl, if_neg hm]
theorem wit_ok {c : Chn} {l : List Gau} {a b m : Int} (h : CkM c l a b = 0) (hm : lowM c l a.toNat b.toNat ≤ m ∧ m ≤ highM c l a.toNat b.toNat) : witE c l a b m = 0 := by
  unfold witE
  rw [← run_good h, if_pos rfl, if_pos hm]

/-- The gauges with which the specification begins. -/
def begL (l : List Gau) (a b : Nat) (m : Int) : List Gau := if a < b then l ++ [gEx a b m] else l
theorem begL_len (l : List Gau) (a b : Nat) (m : Int) : (begL l a b m).length ≤ l.length + 1 := by unfold begL; split <;> simp

theorem beg_facts {c : Chn} {l : List Gau} (h : chkM c l = 0) (hag : agreeB c l = true) {a b : Nat} (hab : a ≤ b) (hb : b ≤ c.n.toNat) {m : Int} (h1 : lowM c l a b ≤ m) (h2 : m ≤ highM c l a b) :
    GOks c (begL l a b m) ∧ Agree c (begL l a b m) ∧ witM c (begL l a b m) = witM c (l ++ [gEx a b m]) := by
  obtain ⟨hc, hl, _⟩ := chk_goks h
  have ag := (agreeB_iff hc hl).1 hag
  have hl' : GOks c (l ++ [gEx a b m]) := GOks.append hl (GOks.one (gEx_ok hc hl ag hab hb h1 h2))
  have ag' := between hc hl ag hab hb h1 h2
  unfold begL
  by_cases e : a < b
  · rw [if_pos e]; exact ⟨hl', ag', rfl⟩
  · rw [if_neg e]
    refine ⟨hl, ag, ?_⟩
    obtain rfl : a = b := by omega
    have hz := (closedR hc hl ag).self a hb
    have hm : m = 0 := by
      unfold lowM at h1; unfold highM at h2
      rw [hz] at h1 h2; omega
    subst hm
    unfold witM nearM lowM
    refine List.map_congr_left fun i hi => ?_
    rw [List.mem_range] at hi
    rw [RM_same hc hl hl' (fun x => none_same.symm) ag (i := i + 1) (j := 0) (by omega) (by omega), RM_same hc hl hl' (fun x => none_same.symm) ag (i := i) (j := 0) (by omega) (by omega)]

/-- The links that the specification has chosen. -/
def witTo (c : Chn) (l : List Gau) (k : Nat) : List Int := (List.range k).map fun i => nearM c l (i + 1) - nearM c l i
theorem witTo_succ (c : Chn) (l : List Gau) (k : Nat) : witTo c l (k + 1) = witTo c l k ++ [nearM c l (k + 1) - nearM c l k] := by simp [witTo, List.range_succ]
theorem witTo_len (c : Chn) (l : List Gau) (k : Nat) : (witTo c l k).length = k := by simp [witTo]

abbrev GIRow (w : World) (base : Nat) (vg vi : Value) (A : List Gau) (B : List Int) : Prop := Two w base 53 4 vg A.length (A.flatMap gauL) 3 1 vi B.length (B.map (Value.int .i64))

theorem gau_infoG : (Try.prog.info? 53).map (fun i => (i.zero, i.size, i.bytes)) = some (some (.agg #[.int .i64 0, .int .i64 0, .int .i64 0, .int .i64 0]), 4, 32) := by kernel_rfl

theorem gau_snoc (l : List Gau) (g : Gau) : (l ++ [g]).flatMap gauL = l.flatMap gauL ++ [.int .i64 g.a, .int .i64 g.b, .int .i64 g.lo, .int .i64 g.hi] := by simp
theorem ints_snoc (l : List Int) (x : Int) : (l ++ [x]).map (Value.int .i64) = l.map (Value.int .i64) ++ [.int .i64 x] := by simp

set_option maxRecDepth 100000 in
set_option maxHeartbeats 8000000 in
theorem rwit_any (c : Chn) (l : List Gau) (v : Value) (a b m : Int) (w : World) (hv : GaAt w v l) :
    Calls Try.prog 15 #[chnV c, v, .int .i64 a, .int .i64 b, .int .i64 m] w fun e w' => ∃ v', e = .returned (.tuple #[v', .int .i64 (witE c l a b m)]) ∧ InAt w' v' (witG c l a b m) ∧ Below w.heap.size w w' := by
  have hb0 := (Below.refl w.heap.size w).alloc (Nat.le_refl _) (Obj.cells #[.int .i64 c.n, .int .i64 c.pi, .int .i64 c.li] 23)
  have k0 := block_new w (Obj.cells #[.int .i64 c.n, .int .i64 c.pi, .int .i64 c.li] 23) w.heap.size rfl
  have hsz : (w.alloc (Obj.cells #[.int .i64 c.n, .int .i64 c.pi, .int .i64 c.li] 23)).heap.size = w.heap.size + 1 := size_alloc _ _
  have K0 := Lib.hid k0
  have HB := Lib.hid hb0
  have HSZ := Lib.hid hsz
  clear k0 hb0 hsz
  have HV := Lib.hid (hv.below HB.out (Nat.le_refl _))
  obtain ⟨va, cap, rfl, hn, hcap, hc⟩ := hv
  obtain ⟨i0, hi0, hz0, hz1, hz2⟩ := info_parts infoInt
  obtain ⟨g0, hg0, hy0, hy1, hy2⟩ := info_parts gau_infoG
  have hf : ∀ x, (gauL x).length = 4 := fun _ => rfl
  have hf1 : ∀ x, ∀ u ∈ gauL x, u.oneCell' = true := fun x u hu => by simp at hu; rcases hu with rfl | rfl | rfl | rfl <;> rfl
  clear hc
  go_enter Try.func15, Try.ntmps15
  go_wp2_with fail
  generalize hwA : w.alloc (Obj.cells #[.int .i64 c.n, .int .i64 c.pi, .int .i64 c.li] 23) = wA at *
  clear hwA
  have hce := block_cell K0.out
  go_wp2_with fail
  refine (rchecked_any c l _ _ _ _ HV.out).mono ?_
  rintro e w1 ⟨hb1, h⟩
  have HBW := Lib.hid (HB.out.trans (hb1.mono HB.out.size))
  have HK := Lib.hid ((hb1.block _ (lt_of_block K0.out)).trans K0.out)
  have HV1 := Lib.hid (HV.out.below hb1 (Nat.le_refl _))
  clear hb1 hce
  rcases h with ⟨hm, rfl⟩ | ⟨hm, hd, cp, G, C, M, rfl, hN, hM⟩
  · have HW := Lib.hid (wit_ck (m := m) hm)
    have HG := Lib.hid (show witG c l a b m = [] by unfold witG; rw [HW.out, if_neg hm])
    generalize CkM c l a b = q at *
    go_wp2
    exact bodyPost_ret (v := .tuple #[.slice none 0 0, .int .i64 q]) (by simp [results, Try.results15, go_sem]) rfl ⟨_, by rw [HW.out], by rw [HG.out]; exact InAt.nil _, HBW.out⟩
  · obtain ⟨hcr, hag⟩ := ck_zero hm
    obtain ⟨hchk, ha, hab, hbn⟩ := crun_zero hcr
    obtain ⟨hC1, hC2, hC3⟩ := chk_goks hchk
    have n24 := hC1.n2
    have n1 := hC1.n1
    obtain ⟨a, rfl⟩ : ∃ m : Nat, a = m := ⟨a.toNat, by omega⟩
    obtain ⟨b, rfl⟩ : ∃ m : Nat, b = m := ⟨b.toNat, by omega⟩
    have m1 := hM b a (by omega) (by omega)
    have m2 := hM a b (by omega) (by omega)
    have r1 := ck_small hm (i := b) (k := a) (by omega) (by omega)
    rw [← m1] at r1
    have HL1 := Lib.hid (show lowM c l a b = -M b a by rw [m1]; rfl)
    have HL2 := Lib.hid (show highM c l a b = M a b by rw [m2]; rfl)
    have HWA := Lib.hid (@wit_arg c l a b m hm)
    have HWO := Lib.hid (@wit_ok c l a b m hm)
    have HBF := Lib.hid (fun h1 h2 => @beg_facts c l hchk hag a b (by omega) (by omega) m h1 h2)
    have HN := Lib.hid hN
    have HC := Lib.hid hC1
    clear m1 m2 hM hN hm hchk hC1 hC2 hcr hag
    simp only [Int.toNat_natCast] at HWA HWO
    rw [HL1.out, HL2.out] at HWA HWO HBF
    go_wp2_with fail
    refine (nrun_any M c.n.toNat hd cp G C a b _ HN.out (by omega) (by omega) (by omega) (by omega) (by omega)).mono ?_
    rintro e w3 ⟨rfl, hb3⟩
    have HBW3 := Lib.hid (HBW.out.trans (hb3.mono HBW.out.size))
    have HK3 := Lib.hid ((hb3.block _ (lt_of_block HK.out)).trans HK.out)
    have HV3 := Lib.hid (HV1.out.below hb3 (Nat.le_refl _))
    clear hb3 r1
    generalize -M b a = lo at *
    generalize M a b = hi at *
    by_cases hq : lo ≤ m ∧ m ≤ hi
    · have HQ := Lib.hid (show decide (lo ≤ m ∧ m ≤ hi) = true from decide_eq_true hq)
      have HWE := Lib.hid (HWO.out hq)
      obtain ⟨b1, b2, b3⟩ := HBF.out hq.1 hq.2
      have HB1 := Lib.hid b1
      have HB2 := Lib.hid b2
      have HWG := Lib.hid (show witG c l a b m = witM c (begL l a b m) by unfold witG; rw [HWE.out, if_pos rfl, b3]; simp)
      have hlen := begL_len l a b m
      clear hq b1 b2 b3 HBF
      go_upto_region 7 with (go_at_call 56; refine (rfrom_is true m lo hi _ HQ.out).mono ?_; rintro e w' ⟨rfl, rfl⟩)
      have hbs : Below w3.heap.size w3 (w3.alloc (Obj.cells #[.int .i64 lo, .int .i64 hi] 45)) := (Below.refl _ _).alloc (Nat.le_refl _) _
      have HBW4 := Lib.hid (HBW3.out.trans (hbs.mono HBW3.out.size))
      have HK4 := Lib.hid ((hbs.block _ (lt_of_block HK3.out)).trans HK3.out)
      have HV4 := Lib.hid (HV3.out.below hbs (Nat.le_refl _))
      clear hbs
      generalize w3.alloc (Obj.cells #[.int .i64 lo, .int .i64 hi] 45) = w4 at *
      have hb5 := (Below.refl w4.heap.size w4).alloc (Nat.le_refl _) (.cells #[] 53)
      have k5 := block_new w4 (.cells #[] 53) w4.heap.size rfl
      have HOX := Lib.hid (show (w4.alloc (.cells #[] 53)).ownsRow w4.heap.size 53 4 (.slice (some ⟨w4.heap.size, 0, none⟩) 0 0) 0 ([].flatMap gauL) from
        ⟨by simp, .inr ⟨w4.heap.size, 0, #[], rfl, Nat.le_refl _, k5, Nat.le_refl _, by decide, by simp, by simp⟩⟩)
      have HV5 := Lib.hid (HV4.out.below hb5 (Nat.le_refl _))
      have HB5 := Lib.hid hb5
      have HSZ5 := Lib.hid (show w4.heap.size ≤ (w4.alloc (.cells #[] 53)).heap.size from hb5.size)
      clear k5 hb5
      go_upto_if 46 with (at_builtin; refine app_elAt rfl (.tmp 41) (.tmp 42) 24 rfl w4.heap.size 53 g0 (.agg #[.int .i64 0, .int .i64 0, .int .i64 0, .int .i64 0]) 4 32 Try.underlying24 hg0 hy0 hy1 hy2 rfl (by decide) gauL hf hf1 _ [] l rfl HOX.out _ rfl HV5.out (by unfold maxLen; simp; omega) (by simp; omega) HSZ5.out ?_; intro v6 w6 ho6 hb6; have HO6 := Lib.hid ho6; have HB6 := Lib.hid (HB5.out.trans hb6); obtain ⟨a6, c6, rfl, hob6⟩ := ownsRow_shape ho6; clear ho6 hb6)
      have hs6 := HB6.out.size
      go_cut [15] (fun s15 wx => ∃ vv, s15 = vv ∧ Hid (wx.ownsRow w4.heap.size 53 4 vv (begL l a b m).length ((begL l a b m).flatMap gauL)) ∧ Hid (Below w4.heap.size w4 wx))
      case first =>
        by_cases hab2 : a < b
        · have hab3 : (a : Int) < b := by omega
          have HBL := Lib.hid (show begL l a b m = l ++ [gEx a b m] by unfold begL; rw [if_pos hab2])
          clear hab2
          go_wp2_with (at_builtin; refine wpList_append_own _ rfl (.tmp 47) (.tmp 54) 24 rfl w4.heap.size 53 g0 (.agg #[.int .i64 0, .int .i64 0, .int .i64 0, .int .i64 0]) 4 32 Try.underlying24 hg0 hy0 hy1 hy2 rfl (by decide) _ ([] ++ l).length (([] ++ l).flatMap gauL) rfl ?g0 _ _ _ [.int .i64 a, .int .i64 b, .int .i64 m, .int .i64 m] rfl rfl ?g1 ?g2 ?g3 ?g4 ?g5 ?_)
          case g0 => exact World.ownsRow.alloc HO6.out _
          case g1 => exact cells_newL _ [.int .i64 a, .int .i64 b, .int .i64 m, .int .i64 m] _ (by simp)
          case g2 => intro u hu; simp only [List.mem_cons, List.not_mem_nil, or_false] at hu; rcases hu with rfl | rfl | rfl | rfl <;> rfl
          case g3 => unfold maxLen; simp; omega
          case g4 => simp; omega
          case g5 => exact Nat.le_trans hs6 (le_alloc _ _)
          intro v7 w7 hown7 hgrow7 _
          have hbX := below_grown hgrow7 hob6 (Nat.le_trans hs6 (le_alloc _ _))
          have HB7 := Lib.hid (HB6.out.trans (((Below.refl _ _).alloc hs6 _).trans hbX))
          have HO7 := Lib.hid (show w7.ownsRow w4.heap.size 53 4 v7 (begL l a b m).length ((begL l a b m).flatMap gauL) by rw [HBL.out, gau_snoc]; simpa [gEx] using hown7)
          clear hown7 hgrow7 hbX
          go_wp2
          go_meet
          exact ⟨_, rfl, HO7, HB7⟩
        · have hab3 : ¬ (a : Int) < b := by omega
          have HBL := Lib.hid (show begL l a b m = l by unfold begL; rw [if_neg hab2])
          clear hab2
          go_wp2
          go_meet
          exact ⟨_, rfl, Lib.hid (by rw [HBL.out]; exact HO6.out), HB6⟩
      case rest =>
        obtain ⟨v7, e7, HO7, HB7⟩ := hcut
        obtain ⟨a7, c7, rfl, hob7⟩ := ownsRow_shape HO7.out
        subst e7
        clear hs6 HO6 HB6 hob6 HOX HV5 HB5 HSZ5
        have HBW7 := Lib.hid (HBW4.out.trans (HB7.out.mono HBW4.out.size))
        have HAG := HB2
        have HGO := HB1
        generalize hL' : begL l a b m = L at *
        clear hL'
        have HCO := Lib.hid (fun i hi => chosen_ok HC.out HGO.out HAG.out i hi)
        have HCA := Lib.hid (fun i => chosen_agree HC.out HGO.out HAG.out i)
        have HCL := Lib.hid (fun i (hi : i < c.n.toNat) => chosen_low HC.out HGO.out HAG.out hi)
        have HCB := Lib.hid (fun i (hi : i ≤ c.n.toNat) => (agreeB_iff HC.out (HCO.out i hi)).2 (HCA.out i))
        have HSM := Lib.hid (fun i (hi : i ≤ c.n.toNat) p q (hp : p ≤ c.n.toNat) (hq : q ≤ c.n.toNat) => RM_small HC.out (HCO.out i hi) hp hq)
        have HT0 := Lib.hid (show GIRow wc w4.heap.size (.slice a7 L.length c7) (.slice none 0 0) (chosen c L 0) (witTo c L 0) from Two.first HO7.out)
        go_wp2_with fail
        go_loopw [15, 16, 17] (fun vg vi i wr => ∃ k : Nat, k ≤ c.n.toNat ∧ i = .int .i64 k ∧ Hid (GIRow wr w4.heap.size vg vi (chosen c L k) (witTo c L k)) ∧ Hid (Below w4.heap.size w4 wr)) (fun _ _ i _ => c.n.toNat - (intOf i).toNat)
        case atStart => exact ⟨0, Nat.zero_le _, rfl, HT0, HB7⟩
        case round =>
          obtain ⟨k, hk, rfl, hT, hb⟩ := hrel
          have kc := (hb.out.block _ (lt_of_block HK4.out)).trans HK4.out
          have hce := block_cell kc
          have zc := lt_of_block kc
          have HKC := Lib.hid kc
          have hszr := hb.out.size
          obtain ⟨sa, sc, rfl, hob1⟩ := ownsRow_shape hT.out.a
          obtain ⟨ta, tc, rfl, hob2⟩ := ownsRow_shape hT.out.b
          have hl1 : (chosen c L k).length ≤ 100 := by rw [chosen_len]; omega
          have hl2 : (witTo c L k).length ≤ 100 := by rw [witTo_len]; omega
          clear kc
          by_cases hlt : k < c.n.toNat
          · have HAGK := Lib.hid (HCB.out k hk)
            have HLW := Lib.hid (HCL.out k hlt)
            have HS1 := Lib.hid (HSM.out k hk (k + 1) k (by omega) (by omega))
            have HCH := Lib.hid (show chosen c L (k + 1) = chosen c L k ++ [gEx k (k + 1) (nearM c L (k + 1) - nearM c L k)] from rfl)
            have HWT := Lib.hid (witTo_succ c L k)
            generalize nearM c L (k + 1) - nearM c L k = X at *
            have HBC := Lib.hid (rbuildC_any c (chosen c L k) (.slice sa (chosen c L k).length sc) wr (ElAt.of_own (m := 4) (f := gauL) (xs := chosen c L k) (fun _ => rfl) hT.out.a) HC.out (HCO.out k hk) (by omega))
            generalize chosen c L k = CK at *
            generalize witTo c L k = WK at *
            go_wp2_with fail
            refine HBC.out.mono ?_
            rintro e w8 ⟨hd8, cp8, G8, C8, M8, rfl, hb8, hN8, hM8⟩
            have m8 := hM8 HAGK.out (k + 1) k (by omega) (by omega)
            have s8 := HS1.out
            have l8 := HLW.out
            unfold lowM at l8
            rw [← m8] at s8 l8
            have HN8 := Lib.hid hN8
            have HB8 := Lib.hid (hb.out.trans (hb8.mono hb.out.size))
            have HT8 := Lib.hid (hT.out.below hb8)
            have HK8 := Lib.hid (keepZ HKC.out hb8)
            clear hb8 hN8 hM8 m8 hce HBC
            go_wp2_with fail
            refine (nrun1 M8 c.n.toNat hd8 cp8 G8 C8 k (k + 1) _ _ HN8.out (by omega) (by omega) (by omega) (by omega) (by omega) (by omega)).mono ?_
            rintro e w9 ⟨rfl, hb9⟩
            rw [l8]
            have HB9 := Lib.hid (HB8.out.trans (hb9.mono HB8.out.size))
            have HT9 := Lib.hid (HT8.out.below hb9)
            have hs9 := HB9.out.size
            clear hb9 l8 s8
            have hf0 := spanField0
            go_wp2_with (at_builtin; refine wpList_append_own_at _ rfl (.tmp 74) (.tmp 76) 29 rfl w4.heap.size 3 i0 (.int .i64 0) 1 8 Try.underlying29 hi0 hz0 hz1 hz2 rfl (by decide) _ WK.length (WK.map (Value.int .i64)) rfl ?c0 _ _ _ [.int .i64 X] rfl rfl ?c1 ?c2 ?c3 ?c4 ?c5 ?_)
            case c0 => exact World.ownsRow.alloc HT9.out.b _
            case c1 => exact one_cell _ _ _ rfl
            case c2 => intro u hu; simp only [List.mem_cons, List.not_mem_nil, or_false] at hu; subst hu; rfl
            case c3 => unfold maxLen; omega
            case c4 => omega
            case c5 => exact Nat.le_trans hs9 (al_le _ _)
            intro v10 w10 hown10 hgrow10 _ hat10
            have HT10 := Lib.hid (Two.more (HT9.out.swap.alloc _) hown10 hgrow10 (hat10.imp id (fun h => by rw [size_alloc]; exact h))).swap
            have hbX10 := below_grown hgrow10 HT9.out.swap.base_le (Nat.le_trans hs9 (al_le _ _))
            have HB10 := Lib.hid (HB9.out.trans (((Below.refl _ _).alloc hs9 _).trans hbX10))
            have hs10 := HB10.out.size
            obtain ⟨t2, tc2, rfl, _⟩ := ownsRow_shape hown10
            clear hown10 hgrow10 hat10 hbX10
            have w1e : IntKind.i64.wrap ((k : Int) + 1) = (k + 1 : Nat) := by rw [IntKind.wrap_i64]; omega
            go_wp2_with (at_builtin; refine wpList_append_own_at _ rfl (.tmp 78) (.tmp 86) 24 rfl w4.heap.size 53 g0 (.agg #[.int .i64 0, .int .i64 0, .int .i64 0, .int .i64 0]) 4 32 Try.underlying24 hg0 hy0 hy1 hy2 rfl (by decide) _ CK.length (CK.flatMap gauL) rfl ?d0 _ _ _ [.int .i64 k, .int .i64 (k + 1 : Nat), .int .i64 X, .int .i64 X] rfl rfl ?d1 ?d2 ?d3 ?d4 ?d5 ?_)
            case d0 => exact World.ownsRow.alloc HT10.out.a _
            case d1 => exact cells_newL _ [.int .i64 k, .int .i64 (k + 1 : Nat), .int .i64 X, .int .i64 X] _ (by simp)
            case d2 => intro u hu; simp only [List.mem_cons, List.not_mem_nil, or_false] at hu; rcases hu with rfl | rfl | rfl | rfl <;> rfl
            case d3 => unfold maxLen; omega
            case d4 => omega
            case d5 => exact Nat.le_trans hs10 (al_le _ _)
            intro v11 w11 hown11 hgrow11 _ hat11
            have HT11 := Lib.hid (Two.more (HT10.out.alloc _) hown11 hgrow11 (hat11.imp id (fun h => by rw [size_alloc]; exact h)))
            have hbX11 := below_grown hgrow11 HT10.out.base_le (Nat.le_trans hs10 (al_le _ _))
            have HB11 := Lib.hid (HB10.out.trans (((Below.refl _ _).alloc hs10 _).trans hbX11))
            obtain ⟨s2, sc2, rfl, _⟩ := ownsRow_shape hown11
            clear hown11 hgrow11 hat11 hbX11
            have HT12 := Lib.hid (show GIRow w11 w4.heap.size (.slice s2 (CK.length + 1) sc2) (.slice t2 (WK.length + 1) tc2) (chosen c L (k + 1)) (witTo c L (k + 1)) by
              rw [HCH.out, HWT.out]
              unfold GIRow
              rw [gau_snoc, ints_snoc]
              simpa [gEx] using HT11.out)
            go_wp2
            go_roundw
            case rel => exact ⟨k + 1, hlt, by go_num, HT12, HB11⟩
            case measure => simp [intOf]; omega
          · obtain rfl : k = c.n.toNat := by omega
            have HIN := Lib.hid (InAt.of_own hT.out.b)
            have HBZ := Lib.hid (HBW4.out.trans (hb.out.mono HBW4.out.size))
            go_wp2_with fail
            refine bodyPost_ret (v := .tuple #[.slice ta (witTo c L c.n.toNat).length tc, .int .i64 0]) (by simp [results, Try.results15, go_sem]) rfl ⟨_, by rw [HWE.out], by rw [HWG.out]; exact HIN.out, HBZ.out⟩
    · have HQ := Lib.hid (show decide (lo ≤ m ∧ m ≤ hi) = false from decide_eq_false hq)
      have HWE := Lib.hid (HWA.out hq)
      have HG := Lib.hid (show witG c l a b m = [] by unfold witG; rw [HWE.out, if_neg (by decide)])
      clear hq
      go_wp2_with (go_at_call 56; refine (rfrom_is false m lo hi _ HQ.out).mono ?_; rintro e w' ⟨rfl, rfl⟩)
      refine bodyPost_ret (v := .tuple #[.slice none 0 0, .int .i64 1]) (by simp [results, Try.results15, go_sem]) rfl ⟨_, by rw [HWE.out], by rw [HG.out]; exact InAt.nil _, ?_⟩
      have hzz := HBW3.out.size
      repeat' (first | exact HBW3.out | (with_reducible refine Below.drew ?_) | (with_reducible refine Below.alloc ?_ ?_ _) | (with_reducible refine Below.setCell ?_ ?_ _))
      all_goals (first | omega | (simp; done) | (simp; omega))

end Go.Proofs.Ythgcnakbbmknoaa

/- Walks of layer 2 (chain): without, holds, needed of the specification. -/
namespace Go.Proofs.Ythgcnakbbmknoaa
open Go.RowKit

set_option maxRecDepth 100000 in
set_option maxHeartbeats 4000000 in
theorem rwithout_any (l : List Gau) (v : Value) (ns : List Nat) (u : Value) (one : Int) (w : World) (hv : GaAt w v l) (hu : InAt w u (nats ns)) (hn : ∀ i, i < ns.length → ns.getD i 0 < l.length) (hl : ns.length ≤ 40) :
    Calls Try.prog 101 #[v, u, .int .i64 one] w fun e w' => ∃ v', e = .returned v' ∧ GaAt w' v' (wo l ns one ns.length) ∧ Below w.heap.size w w' := by
  obtain ⟨va, cap, rfl, hn1, hcap, hc⟩ := hv
  obtain ⟨ua, ucap, rfl, hn2, hucap, hd⟩ := hu
  obtain ⟨g0, hg0, hy0, hy1, hy2⟩ := info_parts gau_infoG
  have HC := Lib.hid hc
  have HD := Lib.hid hd
  have HN := Lib.hid hn
  rw [nats_len] at *
  clear hc hd hn
  go_enter Try.func101, Try.ntmps101
  go_wp2_with fail
  go_loopw [7, 8] (fun s i wr => ∃ k : Nat, k ≤ ns.length ∧ i = .int .i64 k ∧ Hid (Below w.heap.size w wr) ∧ Hid (wr.ownsRow w.heap.size 53 4 s (wo l ns one k).length ((wo l ns one k).flatMap gauL))) (fun _ i _ => ns.length - (intOf i).toNat)
  case atStart => exact ⟨0, Nat.zero_le _, rfl, Lib.hid (Below.refl _ _), Lib.hid ⟨by simp [wo], .inl ⟨rfl, by simp [wo]⟩⟩⟩
  case round =>
    obtain ⟨k, hk, rfl, hb, ho⟩ := hrel
    obtain ⟨sa, sc, rfl, hob⟩ := ownsRow_shape ho.out
    have hwl : (wo l ns one k).length ≤ 40 := Nat.le_trans (wo_len k) (by omega)
    have hszr := hb.out.size
    by_cases hlt : k < ns.length
    · obtain ⟨b2, o2, rfl, l2, hd2⟩ := HD.out (by first | omega | (rw [nats_len]; omega))
      have hx := HN.out k hlt
      have g2 := (hb.out.cell (p := ⟨b2, o2 + k, none⟩) l2).trans (hd2 k (by first | omega | (rw [nats_len]; omega)))
      rw [nats_getD] at g2
      have HW := Lib.hid (show wo l ns one (k + 1) = wo l ns one k ++ (if (k : Int) = one then [] else [l.getD (ns.getD k 0) Gau.zero]) from rfl)
      obtain ⟨b1, o1, rfl, l1, hc1⟩ := HC.out (by omega)
      obtain ⟨q1, q2, q3, q4⟩ := ga_at hb.out l1 hc1 hx
      clear hc1 hd2
      generalize ns.getD k 0 = x at *
      generalize l.getD x Gau.zero = G at *
      generalize wo l ns one k = WO at *
      have j0 : (0 : Int) ≤ k := by omega
      have j1 : (k : Int) < ns.length := by omega
      have x0 : (0 : Int) ≤ x := by omega
      have x1 : (x : Int) < l.length := by omega
      by_cases hq : (k : Int) = one
      · have hqb : ((k : Int) != one) = false := by simpa using hq
        have HW2 := Lib.hid (HW.out.trans (by rw [if_pos hq, List.append_nil]))
        clear hq
        go_wp2
        go_roundw
        case rel => exact ⟨k + 1, hlt, by go_num, hb, by rw [HW2.out]; exact ho⟩
        case measure => simp [intOf]; omega
      · have hqb : ((k : Int) != one) = true := by simpa using hq
        have HW2 := Lib.hid (HW.out.trans (by rw [if_neg hq]))
        clear hq
        go_wp2_with (at_builtin; refine wpList_append_own _ rfl (.tmp 18) (.tmp 26) 24 rfl w.heap.size 53 g0 (.agg #[.int .i64 0, .int .i64 0, .int .i64 0, .int .i64 0]) 4 32 Try.underlying24 hg0 hy0 hy1 hy2 rfl (by decide) _ WO.length (WO.flatMap gauL) rfl ?g0 _ _ _ [.int .i64 G.a, .int .i64 G.b, .int .i64 G.lo, .int .i64 G.hi] rfl rfl ?g1 ?g2 ?g3 ?g4 ?g5 ?_)
        case g0 => exact World.ownsRow.alloc ho.out _
        case g1 => exact cells_newL _ [.int .i64 G.a, .int .i64 G.b, .int .i64 G.lo, .int .i64 G.hi] _ (by simp)
        case g2 => intro u hu; simp only [List.mem_cons, List.not_mem_nil, or_false] at hu; rcases hu with rfl | rfl | rfl | rfl <;> rfl
        case g3 => unfold maxLen; omega
        case g4 => omega
        case g5 => exact Nat.le_trans hszr (le_alloc _ _)
        intro v7 w7 hown7 hgrow7 _
        have hbX := below_grown hgrow7 hob (Nat.le_trans hszr (le_alloc _ _))
        have HB7 := Lib.hid (hb.out.trans (((Below.refl _ _).alloc hszr _).trans hbX))
        have HO7 := Lib.hid (show w7.ownsRow w.heap.size 53 4 v7 (wo l ns one (k + 1)).length ((wo l ns one (k + 1)).flatMap gauL) by rw [HW2.out, gau_snoc]; simpa using hown7)
        obtain ⟨sb, sd, rfl, _⟩ := ownsRow_shape hown7
        clear hown7 hgrow7 hbX
        go_wp2
        go_roundw
        case rel => exact ⟨k + 1, hlt, by go_num, HB7, HO7⟩
        case measure => simp [intOf]; omega
    · obtain rfl : k = ns.length := by omega
      have HE := Lib.hid (ElAt.of_own (m := 4) (f := gauL) (xs := wo l ns one ns.length) (fun _ => rfl) ho.out)
      go_wp2
      go_ret
      exact ⟨_, rfl, HE.out, hb.out⟩

end Go.Proofs.Ythgcnakbbmknoaa

/- Walks of layer 2 (chain): holds, needed of the specification. -/
namespace Go.Proofs.Ythgcnakbbmknoaa
open Go.RowKit

/-- A claim. -/
structure Clm where
  c : Chn
  a : Int
  b : Int
  m : Int
  apart : Bool
abbrev clmO (x : Clm) : Obj := .cells #[.int .i64 x.c.n, .int .i64 x.c.pi, .int .i64 x.c.li, .int .i64 x.a, .int .i64 x.b, .int .i64 x.m, .bool x.apart] 121
abbrev clmV (x : Clm) : Value := .agg #[.int .i64 x.c.n, .int .i64 x.c.pi, .int .i64 x.c.li, .int .i64 x.a, .int .i64 x.b, .int .i64 x.m, .bool x.apart]
def Clm.holds (x : Clm) (l : List Gau) : Bool := !agreeB x.c l || (!x.apart && decide (RM x.c l x.a.toNat x.b.toNat ≤ x.m))
structure ClmOk (x : Clm) : Prop where
  c : COk x.c
  a0 : 0 ≤ x.a
  a1 : x.a ≤ x.c.n
  b0 : 0 ≤ x.b
  b1 : x.b ≤ x.c.n

set_option maxRecDepth 100000 in
set_option maxHeartbeats 4000000 in
theorem rholds_any (x : Clm) (l : List Gau) (v : Value) (w : World) (hv : GaAt w v l) (hx : ClmOk x) (hl : GOks x.c l) (h100 : l.length ≤ 100) :
    Calls Try.prog 61 #[clmV x, v] w fun e w' => e = .returned (.bool (x.holds l)) ∧ Below w.heap.size w w' := by
  have hb0 := (Below.refl w.heap.size w).alloc (Nat.le_refl _) (clmO x)
  have K0 := Lib.hid (block_new w (clmO x) w.heap.size rfl)
  have HB := Lib.hid hb0
  have HV := Lib.hid (hv.below hb0 (Nat.le_refl _))
  obtain ⟨va, cap, rfl, hn, hcap, hc⟩ := hv
  obtain ⟨hC, a0, a1, b0, b1⟩ := hx
  obtain ⟨a, ha⟩ : ∃ m : Nat, x.a = m := ⟨x.a.toNat, by omega⟩
  obtain ⟨b, hb⟩ : ∃ m : Nat, x.b = m := ⟨x.b.toNat, by omega⟩
  have HH := Lib.hid (show x.holds l = (!agreeB x.c l || (!x.apart && decide (RM x.c l a b ≤ x.m))) by unfold Clm.holds; rw [ha, hb]; simp)
  have HC := Lib.hid hC
  have HL := Lib.hid hl
  have n24 := hC.n2
  rw [ha] at a1
  rw [hb] at b1
  have HA := Lib.hid ha
  have HBB := Lib.hid hb
  clear hb0 hc hC hl a0 b0 ha hb
  go_enter Try.func61, Try.ntmps61
  go_wp2_with fail
  generalize w.alloc (clmO x) = wA at *
  have c0 := block_cell K0.out
  go_wp2_with fail
  refine (rbuildC_any x.c l _ _ HV.out HC.out HL.out h100).mono ?_
  rintro e w8 ⟨hd8, cp8, G8, C8, M8, rfl, hb8, hN8, hM8⟩
  have K8 := Lib.hid (keepZ K0.out hb8)
  have HB8 := Lib.hid (HB.out.trans (hb8.mono HB.out.size))
  have HM8 := Lib.hid hM8
  have HN8 := Lib.hid hN8
  clear hb8 hN8 hM8 c0
  cases hag : agreeB x.c l
  · have HS2 := Lib.hid (show x.holds l = true by rw [HH.out, hag]; rfl)
    clear hag
    go_upto_region 2 with fail
    go_quiet (fail)
    go_wp2
    go_ret
    exact ⟨ret_bool HS2.out.symm, below_drewN HB8.out _⟩
  · cases hap : x.apart
    · have HS2 := Lib.hid (show x.holds l = decide (RM x.c l a b ≤ x.m) by rw [HH.out, hag, hap]; rfl)
      have m1 := HM8.out hag a b (by omega) (by omega)
      rw [← m1] at HS2
      obtain ⟨q1, q2, q3⟩ := HN8.out.2.1 a (by omega)
      obtain ⟨q4, q5⟩ := HN8.out.2.2.2 a b (by omega) (by omega)
      have q6 := HN8.out.1
      have c0 := block_cell K8.out
      rw [HA.out, HBB.out, hap] at c0
      have z0 := lt_of_block K8.out
      have i1 : (0 : Int) ≤ a := by omega
      have i2 : (0 : Int) ≤ b := by omega
      have i3 : (a : Int) < ((x.c.n.toNat + 1 : Nat) : Int) := by omega
      have i4 : (b : Int) < ((x.c.n.toNat + 1 : Nat) : Int) := by omega
      clear hag m1
      go_upto_region 2 with fail
      go_quiet (fail)
      go_wp2
      go_ret
      exact ⟨ret_bool (by rw [HS2.out]), below_drewN HB8.out _⟩
    · have HS2 := Lib.hid (show x.holds l = false by rw [HH.out, hag, hap]; rfl)
      have c0 := block_cell K8.out
      rw [hap] at c0
      have z0 := lt_of_block K8.out
      clear hag
      go_upto_region 2 with fail
      go_quiet (fail)
      go_wp2
      go_ret
      exact ⟨ret_bool HS2.out.symm, below_drewN HB8.out _⟩

end Go.Proofs.Ythgcnakbbmknoaa

/- append of a slice of elements to a row that is owned, as a step of a region that draws its order: what every layer uses. -/
namespace Go.Proofs.Ythgcnakbbmknoaa
open Go.RowKit

theorem step_app_elAt {P : Program} {w : World} {ops : Array Oper} {o : Oper} {a : Act} {K : Act → World → Prop} {Q : Exit → Act → World → Prop} {E : Prop} (hgd : o.guard = none) (s x : Operand) (t : TypeId)
    (ho : o.op = .call { callee := .builtin .append, args := #[s, x], argTypes := #[t, t] })
    (base : Nat) (e : TypeId) (i : TypeInfo) (z : Value) (size bytes : Nat) (ht : P.underlying t = some (.slice e)) (hi : P.info? e = some i) (hz : i.zero = some z)
    (hsize : i.size = size) (hby : i.bytes = bytes) (hzs : z.cells.size = size) (hsz : 0 < size)
    {α : Type} (f : α → List Value) (hf : ∀ x, (f x).length = size) (hf1 : ∀ x, ∀ u ∈ f x, u.oneCell' = true)
    (v : Value) (xs ys : List α) (hs : a.eval s = v) (hown : w.ownsRow base e size v xs.length (xs.flatMap f)) (vx : Value) (hx : a.eval x = vx) (hy : ElAt size f w vx ys)
    (h63 : xs.length + ys.length ≤ maxLen) (hbytes : (xs.length + ys.length) * bytes ≤ 140737488355328) (hbase : base ≤ w.heap.size)
    (h : ∀ v' w', w'.ownsRow base e size v' (xs ++ ys).length ((xs ++ ys).flatMap f) → Below base w w' → K (a.put o.dst v') w') :
    if Region.wanted o (yielded ops a.tmps) = true then Oper.wp P o a w K Q else E := by
  have hw : Region.wanted o (yielded ops a.tmps) = true := by simp [Region.wanted, hgd]
  rw [if_pos hw]
  obtain ⟨ao, cap, rfl, h1, h2, h3⟩ := hy
  cases ao with
  | none =>
    have hy0 : ys = [] := by
      rcases Nat.eq_zero_or_pos ys.length with h0 | h0
      · exact List.eq_nil_of_length_eq_zero h0
      · obtain ⟨b, off, e1, _⟩ := h3 h0
        cases e1
    subst hy0
    have hrun : (Builtin.append_ #[t, t] o.type #[v, .slice none 0 cap]).run P w = .ok v w := by
      rcases hown.2 with ⟨rfl, h0⟩ | ⟨g, cap', cur, rfl, _, _, hnc, _⟩
      · simp [Builtin.append_, run_underlying ht, sizeOf, typeInfo, hi, Builtin.lenOf, Builtin.firstCells]
      · simp [Builtin.append_, run_underlying ht, sizeOf, typeInfo, hi, Builtin.lenOf, Builtin.firstCells, hnc, storeCells]
    unfold Oper.wp
    simp only [List.length_nil] at hx
    simp [execOp, ho, resolve, invoke, builtin, hs, hx, hrun, Result.andThen]
    exact h v w (by simpa using hown) (Below.refl _ _)
  | some ad =>
    refine wp_append_own w s x t ho base e i z size bytes ht hi hz hsize hby hzs hsz v xs.length _ hs hown ad ys.length cap (ys.flatMap f) hx (flat_len hf ys) ?_ ?_ h63 hbytes hbase
      (fun v' w' o g _ => h v' w' (by rw [List.length_append, List.flatMap_append]; exact o) (below_grown g (own_base hown) hbase))
    · rcases Nat.eq_zero_or_pos ys.length with h0 | h0
      · have : ys = [] := List.eq_nil_of_length_eq_zero h0
        subst this
        intro j u hj
        simp at hj
      · obtain ⟨b, off, e1, _⟩ := h3 h0
        obtain rfl := Option.some.inj e1
        exact ElAt.news hf ⟨_, cap, rfl, h1, h2, h3⟩ h0
    · intro u hu
      obtain ⟨x, _, hx⟩ := List.mem_flatMap.1 hu
      exact hf1 x u hx

end Go.Proofs.Ythgcnakbbmknoaa

/- Walks of layer 2 (chain): parts of lists of numbers; append of numbers, run. -/
namespace Go.Proofs.Ythgcnakbbmknoaa
open Go.RowKit

abbrev in1 (x : Int) : List Value := [.int .i64 x]
theorem InAt.el {w : World} {v : Value} {xs : List Int} (h : InAt w v xs) : ElAt 1 in1 w v xs := by
  obtain ⟨a, cap, rfl, h1, h2, h3⟩ := h
  refine ⟨a, cap, rfl, h1, h2, fun hp => ?_⟩
  obtain ⟨b, off, rfl, hb, hc⟩ := h3 hp
  refine ⟨b, off, rfl, hb, fun i x hx j u hu => ?_⟩
  have hi : i < xs.length := (List.getElem?_eq_some_iff.1 hx).1
  match j with
  | 0 =>
    have h9 := hc i hi
    rw [List.getD_eq_getElem?_getD, hx] at h9
    have hu' : u = .int .i64 x := by simpa using hu.symm
    rw [hu', show off + i * 1 + 0 = off + i by omega]
    exact h9
  | j + 1 => simp at hu

theorem in_pos {w : World} {a : Option Addr} {n c : Nat} {xs : List Int} (h : InAt w (.slice a n c) xs) (hp : 0 < xs.length) : ∃ b off, a = some ⟨b, off, none⟩ ∧ b < w.heap.size ∧ ∀ i, i < xs.length → w.cell? ⟨b, off + i, none⟩ = some (.int .i64 (xs.getD i 0)) := by
  obtain ⟨a', cap, e, h1, h2, h3⟩ := h
  injection e with e1 e2 e3
  subst e1
  exact h3 hp

theorem in_take {w : World} {a : Option Addr} {n c : Nat} {ns : List Nat} (h : InAt w (.slice a n c) (nats ns)) {t : Nat} (ht : t ≤ ns.length) : InAt w (.slice a t c) (nats (ns.take t)) := by
  obtain ⟨a', cap, e, h1, h2, h3⟩ := h
  injection e with e1 e2 e3
  subst e1 e3
  rw [nats_len] at *
  have hl : (nats (ns.take t)).length = t := by rw [nats_len, List.length_take]; omega
  refine ⟨a, c, by rw [hl], by rw [hl]; omega, h2, fun hp => ?_⟩
  obtain ⟨b, off, e1, hb, hc⟩ := h3 (by omega)
  refine ⟨b, off, e1, hb, fun i hi => ?_⟩
  rw [hl] at hi
  rw [hc i (by omega), nats_getD, nats_getD, List.getD_eq_getElem?_getD, List.getD_eq_getElem?_getD, List.getElem?_take, if_pos hi]

theorem in_drop {w : World} {b off n c : Nat} {ns : List Nat} (h : InAt w (.slice (some ⟨b, off, none⟩) n c) (nats ns)) {t : Nat} (ht : t ≤ ns.length) : InAt w (.slice (some ⟨b, off + t, none⟩) (n - t) (c - t)) (nats (ns.drop t)) := by
  obtain ⟨a', cap, e, h1, h2, h3⟩ := h
  injection e with e1 e2 e3
  subst e1 e2 e3
  rw [nats_len] at *
  have hl : (nats (ns.drop t)).length = ns.length - t := by rw [nats_len, List.length_drop]
  refine ⟨_, c - t, by rw [hl], by rw [hl]; omega, by omega, fun hp => ?_⟩
  rw [hl] at hp
  obtain ⟨b', off', e1, hb, hc⟩ := h3 (by omega)
  injection e1 with e1
  injection e1 with e1 e2
  subst e1 e2
  refine ⟨b, off + t, rfl, hb, fun i hi => ?_⟩
  rw [hl] at hi
  rw [show off + t + i = off + (t + i) by omega, hc (t + i) (by omega), nats_getD, nats_getD, List.getD_eq_getElem?_getD, List.getD_eq_getElem?_getD, List.getElem?_drop]

theorem in_drop2 {w : World} {b off n c : Nat} {ns : List Nat} {t : Nat} (h : InAt w (.slice (some ⟨b, off + t, none⟩) (n - t) (c - t)) (nats (ns.drop t))) {A : Option Addr} {N C : Nat} (hA : A = some ⟨b, off + t, none⟩ ∨ N = 0) (hN : N = ns.length - t) (hNC : N ≤ C) (hC : C ≤ 9223372036854775807) : InAt w (.slice A N C) (nats (ns.drop t)) := by
  have hl : (nats (ns.drop t)).length = N := by rw [nats_len, List.length_drop, hN]
  obtain ⟨a', cap, e, h1, h2, h3⟩ := h
  injection e with e1 e2 e3
  refine ⟨A, C, by rw [hl], by rw [hl]; exact hNC, hC, fun hp => ?_⟩
  rcases hA with rfl | h0
  · rw [e1]; exact h3 hp
  · omega

theorem own_empty (W : World) : (W.alloc (.cells #[] 3)).ownsRow W.heap.size 3 1 (.slice (some ⟨W.heap.size, 0, none⟩) 0 0) ([] : List Int).length (([] : List Int).flatMap in1) :=
  ⟨by simp, .inr ⟨W.heap.size, 0, #[], rfl, Nat.le_refl _, block_new _ _ _ rfl, Nat.le_refl _, by decide, by simp, by simp⟩⟩

theorem flat_in1 (ys : List Int) : ys.flatMap in1 = ys.map (Value.int .i64) := by
  induction ys with
  | nil => rfl
  | cons y ys ih => rw [List.flatMap_cons, ih]; rfl

/-- append of numbers to a row of one's own, run. -/
theorem run_app_in {W : World} {base : Nat} {v : Value} {xs : List Int} (ho : W.ownsRow base 3 1 v xs.length (xs.flatMap in1)) {a : Option Addr} {n c : Nat} {ys : List Int} (hy : InAt W (.slice a n c) ys) (hl : xs.length + ys.length ≤ 1000) (hb : base ≤ W.heap.size) :
    ∃ v' W', (Builtin.append_ #[29, 29] 29 #[v, .slice a n c]).run Try.prog W = .ok v' W' ∧ W'.ownsRow base 3 1 v' (xs ++ ys).length ((xs ++ ys).flatMap in1) ∧ Below base W W' := by
  obtain ⟨i0, hi0, hz0, hz1, hz2⟩ := info_parts infoInt
  have hfl : ∀ x : Int, (in1 x).length = 1 := fun _ => rfl
  obtain ⟨ao, cap, e, h1, h2, h3⟩ := hy.el
  injection e with e1 e2 e3
  subst e1
  subst e2
  subst e3
  cases a with
  | none =>
    have hy0 : ys = [] := by
      rcases Nat.eq_zero_or_pos ys.length with h0 | h0
      · exact List.eq_nil_of_length_eq_zero h0
      · obtain ⟨b, off, e1, _⟩ := h3 h0
        cases e1
    subst hy0
    refine ⟨v, W, ?_, by simpa using ho, Below.refl _ _⟩
    rcases ho.2 with ⟨rfl, h0⟩ | ⟨g, cap', cur, rfl, _, _, hnc, _⟩
    · simp [Builtin.append_, run_underlying Try.underlying29, sizeOf, typeInfo, hi0, Builtin.lenOf, Builtin.firstCells]
    · simp [Builtin.append_, run_underlying Try.underlying29, sizeOf, typeInfo, hi0, Builtin.lenOf, Builtin.firstCells, hnc, storeCells]
  | some ad =>
    have hc : ∀ j u, (ys.map (Value.int .i64))[j]? = some u → W.cell? (ad.add j) = some u := by
      intro j u hu
      have hp : 0 < ys.length := by
        rcases Nat.eq_zero_or_pos ys.length with h0 | h0
        · have : ys = [] := List.eq_nil_of_length_eq_zero h0
          subst this; simp at hu
        · exact h0
      obtain ⟨b, off, e1, _, hcc⟩ := h3 hp
      obtain rfl : ad = ⟨b, off, none⟩ := Option.some.inj e1
      rw [List.getElem?_map] at hu
      cases hx : ys[j]? with
      | none => rw [hx] at hu; cases hu
      | some x =>
        rw [hx] at hu
        have hu := Option.some.inj hu
        have h9 := hcc j x hx 0 (.int .i64 x) rfl
        rw [← hu]
        have e9 : (⟨b, off, none⟩ : Addr).add j = ⟨b, off + j, none⟩ := by unfold Addr.add; split <;> simp_all
        rw [e9]
        rw [show off + j * 1 + 0 = off + j by omega] at h9
        exact h9
    obtain ⟨v', W', hr, k1, k2, _, _⟩ := run_append_own_at (P := Try.prog) W base 29 29 3 i0 (.int .i64 0) 1 8 Try.underlying29 hi0 hz0 hz1 hz2 rfl (by decide) v xs.length _ ho ad ys.length c (ys.map (Value.int .i64)) (by simp) hc (fun u hu => by
      obtain ⟨x, _, rfl⟩ := List.mem_map.1 hu
      rfl) (by unfold maxLen; omega) (by omega) hb
    exact ⟨v', W', hr, by rw [List.length_append, List.flatMap_append, flat_in1 ys]; exact k1, below_grown k2 (own_base ho) hb⟩

end Go.Proofs.Ythgcnakbbmknoaa

/- Walks of layer 2 (chain): needed of the specification. -/
namespace Go.Proofs.Ythgcnakbbmknoaa
open Go.RowKit

theorem range_idx : ∀ n, idxTo (fun _ => true) n = List.range n
  | 0 => rfl
  | n + 1 => by simp only [idxTo, if_true]; rw [range_idx n, List.range_succ]

/-- What is left behind the numbers below i. -/
def lefM (hh : List Gau → Bool) (l : List Gau) (i : Nat) : List Nat := idxTo (keepF (fun q => hh (selTo l q l.length)) i) l.length
def atM (hh : List Gau → Bool) (l : List Gau) (i : Nat) : Nat := (idxTo (keepF (fun q => hh (selTo l q l.length)) i) i).length
theorem lef_len (hh : List Gau → Bool) (l : List Gau) {i : Nat} (hi : i ≤ l.length) : (lefM hh l i).length = atM hh l i + (l.length - i) := keep_len hi
theorem lef_end (hh : List Gau → Bool) (l : List Gau) : lefM hh l l.length = leftM hh l := rfl
theorem lef_lt (hh : List Gau → Bool) (l : List Gau) {i p : Nat} (hp : p < (lefM hh l i).length) : (lefM hh l i).getD p 0 < l.length := by
  obtain ⟨j, h1, h2, h3, h4⟩ := idxTo_at hp
  have : (lefM hh l i).getD p 0 = j := h3
  omega
theorem lef_wo (hh : List Gau → Bool) (l : List Gau) {i : Nat} : ∃ q, wo l (lefM hh l i) (atM hh l i : Nat) (lefM hh l i).length = selTo l q l.length := ⟨_, wo_but keep_same _⟩
theorem lef_yes {hh : List Gau → Bool} {l : List Gau} {i : Nat} (hi : i < l.length) (h : hh (wo l (lefM hh l i) (atM hh l i : Nat) (lefM hh l i).length) = true) :
    (lefM hh l i).take (atM hh l i) ++ (lefM hh l i).drop (atM hh l i + 1) = lefM hh l (i + 1) ∧ atM hh l (i + 1) = atM hh l i := by
  unfold lefM atM at h
  rw [wo_but keep_same] at h
  exact left_yes (h := fun q => hh (selTo l q l.length)) hi h
theorem lef_no {hh : List Gau → Bool} {l : List Gau} {i : Nat} (h : hh (wo l (lefM hh l i) (atM hh l i : Nat) (lefM hh l i).length) = false) :
    lefM hh l i = lefM hh l (i + 1) ∧ atM hh l (i + 1) = atM hh l i + 1 := by
  unfold lefM atM at h
  rw [wo_but keep_same] at h
  exact left_no (h := fun q => hh (selTo l q l.length)) h

def slLen : Value → Nat
  | .slice _ n _ => n
  | _ => 0

set_option maxRecDepth 100000 in
set_option maxHeartbeats 4000000 in
theorem rneeded_any (x : Clm) (l : List Gau) (v : Value) (w : World) (hv : GaAt w v l) (hx : ClmOk x) (hl : GOks x.c l) (h40 : l.length ≤ 40) :
    Calls Try.prog 62 #[v, clmV x] w fun e w' => ∃ v', e = .returned v' ∧ InAt w' v' (nats (leftM x.holds l)) ∧ Below w.heap.size w w' := by
  have hb0 := (Below.refl w.heap.size w).alloc (Nat.le_refl _) (clmO x)
  have K0 := Lib.hid (block_new w (clmO x) w.heap.size rfl)
  have HB := Lib.hid hb0
  have HV := Lib.hid (hv.below hb0 (Nat.le_refl _))
  obtain ⟨va, cap, rfl, hn, hcap, hc⟩ := hv
  obtain ⟨i0, hi0, hz0, hz1, hz2⟩ := info_parts infoInt
  have HW := Lib.hid (fun (ns : List Nat) (u : Value) (one : Int) (w1 : World) h1 h2 h3 h4 => rwithout_any l (.slice va l.length cap) ns u one w1 h1 h2 h3 h4)
  have HH := Lib.hid (fun (k : List Gau) (v : Value) (w1 : World) (h1 : GaAt w1 v k) (h2 : GOks x.c k) (h3 : k.length ≤ 100) => rholds_any x k v w1 h1 hx h2 h3)
  have HGS := Lib.hid (fun (q : Nat → Bool) => hl.sel q (Nat.le_refl l.length))
  clear hb0 hc hx hl
  go_enter Try.func62, Try.ntmps62
  go_wp2_with fail
  generalize w.alloc (clmO x) = wA at *
  go_loopw [5, 6] (fun s i wr => ∃ k : Nat, k ≤ l.length ∧ i = .int .i64 k ∧ Hid (Below wA.heap.size wA wr) ∧ Hid (wr.ownsRow wA.heap.size 3 1 s (nats (List.range k)).length ((nats (List.range k)).map (Value.int .i64)))) (fun _ i _ => l.length - (intOf i).toNat)
  case atStart => exact ⟨0, Nat.zero_le _, rfl, Lib.hid (Below.refl _ _), Lib.hid ⟨by simp [nats], .inl ⟨rfl, by simp [nats]⟩⟩⟩
  case round =>
    obtain ⟨k, hk, rfl, hb, ho⟩ := hrel
    obtain ⟨sa, sc, rfl, hob⟩ := ownsRow_shape ho.out
    have hszr := hb.out.size
    have hl1 : (nats (List.range k)).length ≤ 40 := by rw [nats_len]; simp; omega
    by_cases hlt : k < l.length
    · have HN := Lib.hid (show nats (List.range (k + 1)) = nats (List.range k) ++ [(k : Int)] by rw [List.range_succ, nats_append]; rfl)
      generalize nats (List.range k) = R at *
      go_wp2_with (at_builtin; refine wpList_append_own _ rfl (.tmp 14) (.tmp 16) 29 rfl wA.heap.size 3 i0 (.int .i64 0) 1 8 Try.underlying29 hi0 hz0 hz1 hz2 rfl (by decide) _ R.length (R.map (Value.int .i64)) rfl ?c0 _ _ _ [.int .i64 k] rfl rfl ?c1 ?c2 ?c3 ?c4 ?c5 ?_)
      case c0 => exact World.ownsRow.alloc ho.out _
      case c1 => exact one_cell _ _ _ rfl
      case c2 => intro u hu; simp only [List.mem_cons, List.not_mem_nil, or_false] at hu; subst hu; rfl
      case c3 => unfold maxLen; omega
      case c4 => omega
      case c5 => exact Nat.le_trans hszr (al_le _ _)
      intro v7 w7 hown7 hgrow7 _
      have hbX := below_grown hgrow7 hob (Nat.le_trans hszr (le_alloc _ _))
      have HB7 := Lib.hid (hb.out.trans (((Below.refl _ _).alloc hszr _).trans hbX))
      have HO7 := Lib.hid (show w7.ownsRow wA.heap.size 3 1 v7 (nats (List.range (k + 1))).length ((nats (List.range (k + 1))).map (Value.int .i64)) by rw [HN.out]; simpa using hown7)
      obtain ⟨sb, sd, rfl, _⟩ := ownsRow_shape hown7
      clear hown7 hgrow7 hbX
      go_wp2
      go_roundw
      case rel => exact ⟨k + 1, hlt, by go_num, HB7, HO7⟩
      case measure => simp [intOf]; omega
    · obtain rfl : k = l.length := by omega
      have HI0 := Lib.hid (show InAt wr (.slice sa (nats (List.range l.length)).length sc) (nats (lefM x.holds l 0)) by
        have := InAt.of_own ho.out
        unfold lefM
        rw [show (keepF (fun q => x.holds (selTo l q l.length)) 0) = fun _ => true from rfl, range_idx]
        exact this)
      have HB0 := hb
      clear hl1 ho hob
      go_wp2_with fail
      go_loopw [5, 7] (fun s i wr => ∃ k : Nat, k ≤ l.length ∧ i = .int .i64 (atM x.holds l k : Nat) ∧ Hid (Below wA.heap.size wA wr) ∧ Hid (InAt wr s (nats (lefM x.holds l k)))) (fun s i _ => slLen s - (intOf i).toNat)
      case atStart => exact ⟨0, Nat.zero_le _, rfl, HB0, HI0⟩
      case round =>
        obtain ⟨k, hk, rfl, hb, hi⟩ := hrel
        clear HI0 HB0
        have HI := hi
        obtain ⟨a5, c5, rfl, m1, m2, m3⟩ := hi.out
        have HLL := Lib.hid (lef_len x.holds l hk)
        rw [nats_len] at *
        clear m3
        by_cases hlt : k < l.length
        · have hw40 : (lefM x.holds l k).length ≤ 40 := by have : (lefM x.holds l k).length ≤ l.length := idxTo_len _ _; omega
          have HW1 := Lib.hid (fun (w1 : World) (h : Below wr.heap.size wr w1) => HW.out (lefM x.holds l k) (.slice a5 (lefM x.holds l k).length c5) (atM x.holds l k : Nat) w1 (HV.out.below (hb.out.trans (h.mono hb.out.size)) (Nat.le_refl _)) (HI.out.below h (Nat.le_refl _)) (fun i hi => lef_lt _ _ hi) hw40)
          have HSE := Lib.hid (show GOks x.c (wo l (lefM x.holds l k) (atM x.holds l k : Nat) (lefM x.holds l k).length) by obtain ⟨q, hq⟩ := lef_wo x.holds l (i := k); rw [hq]; exact HGS.out q)
          have HLN := Lib.hid (show (wo l (lefM x.holds l k) (atM x.holds l k : Nat) (lefM x.holds l k).length).length ≤ 100 from Nat.le_trans (wo_len _) (by omega))
          have HY := Lib.hid (fun h => @lef_yes x.holds l k hlt h)
          have HNO := Lib.hid (fun h => @lef_no x.holds l k h)
          have HLL2 := Lib.hid (lef_len x.holds l (i := k + 1) hlt)
          have ht : ((atM x.holds l k : Nat) : Int) < (lefM x.holds l k).length := by have := HLL.out; omega
          generalize wo l (lefM x.holds l k) (atM x.holds l k : Nat) (lefM x.holds l k).length = WO at *
          generalize hL1 : lefM x.holds l k = L1 at *
          generalize hL2 : lefM x.holds l (k + 1) = L2 at *
          generalize atM x.holds l k = t at *
          generalize hT2 : atM x.holds l (k + 1) = t2 at *
          obtain ⟨q, hq⟩ : ∃ q, x.holds WO = q := ⟨_, rfl⟩
          have HQ := Lib.hid hq
          have KX := Lib.hid ((hb.out.block _ (lt_of_block K0.out)).trans K0.out)
          have D : ∀ w', Below wr.heap.size wr w' → ((w'.cell? ⟨w.heap.size, 0, none⟩ = some (.int .i64 x.c.n) ∧ w'.cell? ⟨w.heap.size, 1, none⟩ = some (.int .i64 x.c.pi) ∧ w'.cell? ⟨w.heap.size, 2, none⟩ = some (.int .i64 x.c.li) ∧ w'.cell? ⟨w.heap.size, 3, none⟩ = some (.int .i64 x.a) ∧ w'.cell? ⟨w.heap.size, 4, none⟩ = some (.int .i64 x.b) ∧ w'.cell? ⟨w.heap.size, 5, none⟩ = some (.int .i64 x.m) ∧ w'.cell? ⟨w.heap.size, 6, none⟩ = some (.bool x.apart)) ∧ Below wr.heap.size wr w') := by
            intro w' h
            have c1 := block_cell ((h.block _ (lt_of_block KX.out)).trans KX.out)
            exact ⟨⟨c1 0, c1 1, c1 2, c1 3, c1 4, c1 5, c1 6⟩, h⟩
          clear hq
          go_upto_region 8 with fail
          go_cut [27] (fun s27 wx => s27 = .bool q ∧ Hid (Below wr.heap.size wr wx))
          case first =>
            go_region_held3 (fun w' => (w'.cell? ⟨w.heap.size, 0, none⟩ = some (.int .i64 x.c.n) ∧ w'.cell? ⟨w.heap.size, 1, none⟩ = some (.int .i64 x.c.pi) ∧ w'.cell? ⟨w.heap.size, 2, none⟩ = some (.int .i64 x.c.li) ∧ w'.cell? ⟨w.heap.size, 3, none⟩ = some (.int .i64 x.a) ∧ w'.cell? ⟨w.heap.size, 4, none⟩ = some (.int .i64 x.b) ∧ w'.cell? ⟨w.heap.size, 5, none⟩ = some (.int .i64 x.m) ∧ w'.cell? ⟨w.heap.size, 6, none⟩ = some (.bool x.apart)) ∧ Below wr.heap.size wr w')
              (first | (with_reducible exact D _ (Below.drew (Below.refl _ _))) | (with_reducible exact D _ hB1) | (with_reducible exact D _ hB2) | fail)
              (first | (go_at_call 101; have hB0 := And.right ‹_ ∧ Below wr.heap.size wr _›; refine (HW1.out _ hB0).mono ?_; rintro e w3 ⟨v3, rfl, hE3, hb3⟩; have hB1 := hB0.trans (hb3.mono hB0.size)) | (go_at_call 61; refine (HH.out WO _ _ hE3 HSE.out HLN.out).mono ?_; rintro e w4 ⟨rfl, hb4⟩; rw [HQ.out]; have hB2 := hB1.trans (hb4.mono hB1.size)))
            all_goals
              go_wp2_with fail
              go_meet
              exact ⟨rfl, And.right ‹_ ∧ Below wr.heap.size wr _›⟩
          case rest =>
            obtain ⟨rfl, hbq⟩ := hcut
            have HB8 := Lib.hid (hb.out.trans (hbq.out.mono hb.out.size))
            have HI8 := Lib.hid (HI.out.below hbq.out (Nat.le_refl _))
            clear D
            cases q
            · obtain ⟨e1, e2⟩ := HNO.out HQ.out
              subst e1
              subst e2
              go_wp2
              go_roundw
              case rel => exact ⟨k + 1, hlt, by rw [hT2]; go_num, HB8, by rw [hL2]; exact HI8⟩
              case measure => have h1 := HLL.out; have h2 := HLL2.out; simp [intOf, slLen]; omega
            · obtain ⟨e1, e2⟩ := HY.out HQ.out
              subst e2
              have E1 := Lib.hid e1
              clear e1
              have HP0 := Lib.hid (fun w1 h => in_take (HI8.out.below (w' := w1) h (Nat.le_refl _)) (t := t2) (by omega))
              have hsz8 := HB8.out.size
              obtain ⟨b5, o5, rfl, _, _⟩ := in_pos HI8.out (by rw [nats_len]; omega)
              have HP1 := Lib.hid (fun w1 h => in_drop (HI8.out.below (w' := w1) h (Nat.le_refl _)) (t := t2 + 1) (by omega))
              have t0 : (0 : Int) ≤ t2 := by omega
              have t1 : (t2 : Int) ≤ c5 := by omega
              have t1' : (t2 : Int) ≤ L1.length := by omega
              have t4 : (0 : Int) ≤ (t2 : Int) + 1 := by omega
              have t5 : (t2 : Int) + 1 ≤ (L1.length : Int) := by omega
              have t6 : (t2 : Int) + 1 ≤ (c5 : Int) := by omega
              have t7 : ((t2 : Int) + 1).toNat = t2 + 1 := by omega
              have t3 : IntKind.i64.wrap ((t2 : Int) + 1) = (t2 : Int) + 1 := by rw [IntKind.wrap_i64]; omega
              go_upto_region 9 with fail
              have hlt2 : t2 + 1 ≤ L1.length := by omega
              have l1 : (nats (L1.take t2)).length ≤ 40 := by rw [nats_len, List.length_take]; omega
              have l2 : (nats (L1.drop (t2 + 1))).length ≤ 40 := by rw [nats_len, List.length_drop]; omega
              have hf : ∀ x : Int, (in1 x).length = 1 := fun _ => rfl
              have hf1 : ∀ x : Int, ∀ u ∈ in1 x, u.oneCell' = true := fun x u hu => by simp at hu; subst hu; rfl
              have HX1 := Lib.hid (fun w1 h => InAt.el (HP0.out w1 h))
              have HX2 := Lib.hid (fun (w1 : World) (h : Below wc.heap.size wc w1) (A : Option Addr) (N C : Nat) (hA : A = some ⟨b5, o5 + (t2 + 1), none⟩ ∨ N = 0) (hN : N = L1.length - (t2 + 1)) (hNC : N ≤ C) (hC : C ≤ 9223372036854775807) => show ElAt 1 in1 w1 (.slice A N C) (nats (L1.drop (t2 + 1))) from InAt.el (in_drop2 (HP1.out w1 h) hA hN hNC hC))
              have hm1 : ([] : List Int).length + (nats (L1.take t2)).length ≤ maxLen := by unfold maxLen; simp only [List.length_nil]; omega
              have hm2 : (([] : List Int).length + (nats (L1.take t2)).length) * 8 ≤ 140737488355328 := by simp only [List.length_nil]; omega
              have hm3 : ([] ++ nats (L1.take t2)).length + (nats (L1.drop (t2 + 1))).length ≤ maxLen := by rw [List.length_append]; unfold maxLen; simp only [List.length_nil]; omega
              have hm4 : (([] ++ nats (L1.take t2)).length + (nats (L1.drop (t2 + 1))).length) * 8 ≤ 140737488355328 := by rw [List.length_append]; simp only [List.length_nil]; omega
              have hB0 : Below wc.heap.size wc ((wc.alloc (.cells #[] 3)).drew) := Below.drew (Below.alloc (Below.refl _ _) (Nat.le_refl _) _)
              go_region_held3 (fun w' => Below wc.heap.size wc w')
                (first | (with_reducible exact Below.drew (Below.refl _ _)) | (with_reducible exact hB2) | (with_reducible exact hB1) | (with_reducible exact hB0) | fail)
                (first | (refine step_app_elAt rfl (.tmp 28) (.tmp 31) 29 rfl wc.heap.size 3 i0 (.int .i64 0) 1 8 Try.underlying29 hi0 hz0 hz1 hz2 rfl (by decide) in1 hf hf1 _ [] (nats (L1.take t2)) rfl (own_empty wc) _ rfl (HX1.out _ hB0) hm1 hm2 (al_le _ _) ?_; intro v2 w2 ho2 hb2; have hB1 := Below.trans hB0 hb2; have HO2 := Lib.hid ho2; have hB1z := hB1.size) | (refine step_app_elAt rfl (.tmp 32) (.tmp 36) 29 rfl wc.heap.size 3 i0 (.int .i64 0) 1 8 Try.underlying29 hi0 hz0 hz1 hz2 rfl (by decide) in1 hf hf1 _ ([] ++ nats (L1.take t2)) (nats (L1.drop (t2 + 1))) rfl HO2.out _ rfl (HX2.out _ hB1 _ _ _ (by first | exact Or.inl rfl | exact Or.inr (by omega) | (split <;> first | exact Or.inl rfl | exact Or.inr (by omega))) (by omega) (by omega) (by omega)) hm3 hm4 hB1z ?_; intro v3 w3 ho3 hb3; have hB2 := Below.trans hB1 hb3; have HO3 := Lib.hid ho3) | fail)
              all_goals
                have HI3 := Lib.hid (show InAt w3 v3 (nats L2) by
                  have h9 := HO3.out
                  rw [flat_in1, List.nil_append, ← nats_append, E1.out] at h9
                  exact InAt.of_own h9)
                have HB3 := Lib.hid (HB8.out.trans (hB2.mono hsz8))
                obtain ⟨a3, c3, rfl, _⟩ := ownsRow_shape ho3
                have hlen3 : ([] ++ nats (List.take t2 L1) ++ nats (List.drop (t2 + 1) L1)).length = L2.length := by rw [List.nil_append, ← nats_append, E1.out, nats_len]
                rw [hlen3] at HI3
                have HL3 := Lib.hid hlen3
                clear hB0 hB1 hB2 ho3 hb3 hm1 hm2 hm3 hm4 HO3 hlen3
                go_wp2_with fail
                go_roundw
                case rel => exact ⟨k + 1, hlt, by rw [hT2], HB3, by rw [hL2, HL3.out]; exact HI3⟩
                case measure => have h1 := HLL.out; have h2 := HLL2.out; have h3 := HL3.out; simp only [intOf, slLen]; rw [h3]; simp; omega
        · obtain rfl : k = l.length := by omega
          have HE := Lib.hid (show InAt wr (.slice a5 (lefM x.holds l l.length).length c5) (nats (leftM x.holds l)) from HI.out)
          have HBZ := Lib.hid (HB.out.trans (hb.out.mono HB.out.size))
          have hLZ : ¬ ((atM x.holds l l.length : Nat) : Int) < (lefM x.holds l l.length).length := by have := HLL.out; omega
          go_wp2
          go_ret
          exact ⟨_, rfl, HE.out, HBZ.out⟩

end Go.Proofs.Ythgcnakbbmknoaa

/- Rows of Bools in a block of their own: what every layer uses. -/
namespace Go.Proofs.Ythgcnakbbmknoaa
open Go.RowKit

/-! ### rows of Bools in a block of their own -/
def BoRow (w : World) (g m : Nat) (f : Nat → Bool) : Prop := ∃ cur, w.heap[g]? = some (.cells cur 4 (0, 0)) ∧ cur.size = m ∧ ∀ s, s < m → cur[s]? = some (.bool (f s))

theorem BoRow.lt {w : World} {g m : Nat} {f : Nat → Bool} (h : BoRow w g m f) : g < w.heap.size := by obtain ⟨_, h1, _⟩ := h; exact lt_of_block h1
theorem BoRow.cell {w : World} {g m : Nat} {f : Nat → Bool} (h : BoRow w g m f) {s : Nat} (hs : s < m) : w.cell? ⟨g, s, none⟩ = some (.bool (f s)) := by
  obtain ⟨cur, h1, _, h3⟩ := h
  rw [block_cell h1]; exact h3 s hs
theorem BoRow.free {w : World} {g m : Nat} {f : Nat → Bool} (h : BoRow w g m f) (o : Nat) : w.frozen? ⟨g, o, none⟩ = false := by obtain ⟨_, h1, _⟩ := h; exact block_free h1 o
theorem BoRow.later {w w' : World} {g m B : Nat} {f : Nat → Bool} (h : BoRow w g m f) (hb : Below B w w') (hg : g < B) : BoRow w' g m f := by
  obtain ⟨cur, h1, h2⟩ := h
  exact ⟨cur, (hb.block g hg).trans h1, h2⟩
theorem BoRow.alloc {w : World} {g m : Nat} {f : Nat → Bool} (h : BoRow w g m f) (o : Obj) : BoRow (w.alloc o) g m f := by
  obtain ⟨cur, h1, h2⟩ := h
  exact ⟨cur, block_alloc h1 o, h2⟩
theorem BoRow.congr {w : World} {g m : Nat} {f f' : Nat → Bool} (h : BoRow w g m f) (he : ∀ s, s < m → f s = f' s) : BoRow w g m f' := by
  obtain ⟨cur, h1, h2, h3⟩ := h
  exact ⟨cur, h1, h2, fun s hs => by rw [← he s hs]; exact h3 s hs⟩
theorem BoRow.set {w : World} {g m : Nat} {f : Nat → Bool} (h : BoRow w g m f) {x : Nat} (hx : x < m) (v : Bool) : BoRow (w.setCell ⟨g, x, none⟩ (.bool v)) g m (fun s => if s = x then v else f s) := by
  obtain ⟨cur, h1, h2, h3⟩ := h
  refine ⟨cur.setIfInBounds x (.bool v), block_set h1 x _, by simpa using h2, fun s hs => ?_⟩
  rw [Array.getElem?_setIfInBounds]
  by_cases e : x = s
  · subst e
    rw [if_pos rfl, if_pos (by omega)]
    simp
  · rw [if_neg e, h3 s hs]
    show some (Value.bool (f s)) = some (Value.bool (if s = x then v else f s))
    rw [if_neg (by omega)]
theorem BoRow.set_other {w : World} {g m b : Nat} {f : Nat → Bool} (h : BoRow w g m f) (hne : g ≠ b) (x : Nat) (v : Value) : BoRow (w.setCell ⟨b, x, none⟩ v) g m f := by
  obtain ⟨cur, h1, h2⟩ := h
  exact ⟨cur, block_set_other (p := ⟨b, x, none⟩) h1 hne v, h2⟩
theorem BoRow.drew {w : World} {g m : Nat} {f : Nat → Bool} (h : BoRow w g m f) : BoRow w.drew g m f := h

theorem BoRow.int_ne {w : World} {g m b o : Nat} {f : Nat → Bool} (h : BoRow w g m f) {n : Int} (hc : w.cell? ⟨b, o, none⟩ = some (.int .i64 n)) : b ≠ g := by
  intro e
  subst e
  obtain ⟨cur, h1, h2, h3⟩ := h
  rw [block_cell h1] at hc
  have ho : o < m := by
    have := (Array.getElem?_eq_some_iff.1 hc).1
    omega
  rw [h3 o ho] at hc
  cases hc
theorem InAt.put {w : World} {g m : Nat} {f : Nat → Bool} {v : Value} {xs : List Int} (hx : InAt w v xs) (h : BoRow w g m f) (o : Nat) (u : Value) : InAt (w.setCell ⟨g, o, none⟩ u) v xs := by
  obtain ⟨a, cap, rfl, h1, h2, h3⟩ := hx
  refine ⟨a, cap, rfl, h1, h2, fun hp => ?_⟩
  obtain ⟨b, off, rfl, hb, hc⟩ := h3 hp
  have hne := h.int_ne (hc 0 hp)
  exact ⟨b, off, rfl, by simpa using hb, fun i hi => by rw [World.cell?_setCell_far _ _ _ _ (by show g ≠ b; exact Ne.symm hne)]; exact hc i hi⟩

theorem madeB (n s : Nat) (h : s < n) : (madeCells #[Value.bool false] n)[s]? = some (.bool false) := by
  rw [madeCells]
  simp [h, Nat.mod_one]
theorem madeB_size (n : Nat) : (madeCells #[Value.bool false] n).size = n := by simp [madeCells]
theorem BoRow.new (w : World) (n : Nat) {g : Nat} (hg : g = w.heap.size) : BoRow (w.alloc (.cells (madeCells #[.bool false] n) 4)) g n (fun _ => false) := by
  subst hg
  exact ⟨_, block_new _ _ _ rfl, madeB_size n, fun s hs => madeB n s hs⟩

theorem infoBool : (Try.prog.info? 4).map (fun i => (i.zero, i.size, i.bytes)) = some (some (.bool false), 1, 1) := by kernel_rfl

theorem make_bools (n : Nat) (hn : n ≤ 1000) (W : World) : (Instr.makeSlice 164 (.int .i64 n) (.int .i64 n)).run Try.prog W = .ok (.slice (some ⟨W.heap.size, 0, none⟩) n n) (W.alloc (.cells (madeCells #[.bool false] n) 4)) := by
  obtain ⟨i, hi, hz, hs, hby⟩ := info_parts infoBool
  have h := run_make (P := Try.prog) (w := W) 164 4 i (.bool false) Try.underlying164 hi hz .i64 .i64 n n (by omega) (by omega) (by rw [hby]; omega) (by omega)
  rw [h]
  simp only [Int.toNat_natCast, hs, Nat.mul_one]
  rfl

end Go.Proofs.Ythgcnakbbmknoaa

/- Walks of layer 2 (chain): needed, Conflict, Why of the program. -/
namespace Go.Proofs.Ythgcnakbbmknoaa
open Go.RowKit

/-- A call of K enters it. -/
def Enters (K : Nat) : Prop := ∀ (args : Array Value) (w : World), (callFunc K args).run Try.prog w = .ok (.enter K args) w

abbrev pt (p : Nat) : Value := .pointer (some ⟨p, 0, none⟩)

/-- Which gauges are left: the variable and its row. -/
def GoneB (w : World) (pg g n : Nat) (q : Nat → Bool) : Prop := w.heap[pg]? = some (.cells #[.slice (some ⟨g, 0, none⟩) n n] 164 (0, 0)) ∧ BoRow w g n (fun j => !q j)

theorem GoneB.below {w w' : World} {B pg g n : Nat} {q : Nat → Bool} (h : GoneB w pg g n q) (hb : Below B w w') (hB : w.heap.size ≤ B) : GoneB w' pg g n q :=
  ⟨(hb.block _ (Nat.lt_of_lt_of_le (lt_of_block h.1) hB)).trans h.1, h.2.later hb (Nat.lt_of_lt_of_le h.2.lt hB)⟩

set_option maxHeartbeats 400000 in
theorem needed1_any (pg g n j : Nat) (q : Nat → Bool) (w : World) (h : GoneB w pg g n q) (hj : j < n) :
    Calls Try.prog 100 #[.int .i64 j, .pointer (some ⟨pg, 0, none⟩)] w fun e w' => e = .returned (.bool (q j)) ∧ w = w' := by
  have c0 := block_cell h.1
  have c1 := h.2.cell hj
  have j0 : (0 : Int) ≤ j := by omega
  have j1 : (j : Int) < n := by omega
  clear h
  go_enter Try.func100, Try.ntmps100
  go_wp2
  go_ret
  exact ⟨ret_bool (by simp), rfl⟩

set_option maxRecDepth 100000 in
set_option maxHeartbeats 8000000 in
theorem followLeft_any (n : Nat) (pi li : Int) (l : List Gau) (v : Value) (q : Nat → Bool) (pg : Nat) (w : World) (hv : GaAt w v l) (hc : COk (CN n pi li)) (hl : GOks (CN n pi li) l) (hlen : l.length ≤ 100)
    (hq : ∀ (j : Nat) (w1 : World), j < l.length → Below w.heap.size w w1 → Calls Try.prog 100 #[.int .i64 j, .pointer (some ⟨pg, 0, none⟩)] w1 fun e w' => e = .returned (.bool (q j)) ∧ w1 = w') :
    Calls Try.prog 50 #[chnV (CN n pi li), v, .func (.func 100) #[] #[.pointer (some ⟨pg, 0, none⟩)]] w (FollowRes n pi li (selTo l q l.length) w) := by
  have hb0 := (Below.refl w.heap.size w).alloc (Nat.le_refl _) (Obj.cells #[.int .i64 n, .int .i64 pi, .int .i64 li] 23)
  have hb1 := hb0.alloc (by simp only [size_alloc]; omega) (Obj.cells (netC fun _ _ => 0) 106)
  have k0 := block_alloc (block_new w (Obj.cells #[.int .i64 n, .int .i64 pi, .int .i64 li] 23) w.heap.size rfl) (Obj.cells (netC fun _ _ => 0) 106)
  have k1 := block_new (w.alloc (Obj.cells #[.int .i64 n, .int .i64 pi, .int .i64 li] 23)) (Obj.cells (netC fun _ _ => 0) 106) (w.heap.size + 1) (by simp only [size_alloc])
  have HQ := Lib.hid hq
  have HC := Lib.hid hc
  have HL := Lib.hid hl
  have n24 := hc.n2
  have hzb := zeroBounds
  have hu := boundsUnder
  obtain ⟨a, cap, rfl, hn, hcap, hcc⟩ := hv
  have HV := Lib.hid hcc
  have HB := Lib.hid hb1
  have K0 := Lib.hid k0
  have K1 := Lib.hid k1
  clear hq hc hl hcc hb0 hb1 k0 k1
  go_enter Try.func50, Try.ntmps50
  go_wp2_with fail
  refine (blinks_any n pi li _ _ _ K1.out HC.out).mono ?_
  rintro e w1 ⟨rfl, hb2, M1, h3, h4⟩
  have R0 := Lib.hid (show FoRel n pi li l q w w1 0 from ⟨HB.out.trans (hb2.mono (by omega)), (hb2.block _ (by omega)).trans K0.out, M1, h3, h4⟩)
  clear hb2 h3 h4 hzb
  go_wp2_with fail
  go_loopw [13] (fun v wr => ∃ k : Nat, k ≤ l.length ∧ v = .int .i64 k ∧ Hid (FoRel n pi li l q w wr k)) (fun v _ => l.length - (intOf v).toNat)
  case atStart => exact ⟨0, by omega, rfl, R0.out⟩
  case round =>
    obtain ⟨k, hk, rfl, hR⟩ := hrel
    by_cases hlt : k < l.length
    · go_wp2_with fail
      refine (HQ.out k wr hlt hR.out.1).mono ?_
      rintro e w2 ⟨rfl, rfl⟩
      cases hqk : q k
      · have HK := Lib.hid hqk
        clear hqk
        go_wp2
        go_roundw
        case rel => exact ⟨k + 1, hlt, by go_num, hR.out.skip HK.out rfl⟩
        case measure => simp [intOf]; omega
      · have HK := Lib.hid hqk
        clear hqk
        obtain ⟨b, off, rfl, hbl, hcc⟩ := HV.out (by omega)
        obtain ⟨g1, g2, g3, g4⟩ := ga_at hR.out.1 hbl hcc hlt
        have hg := HL.out _ (gau_getD_mem hlt)
        clear hcc
        generalize hg0 : l.getD k Gau.zero = g at g1 g2 g3 g4 hg
        have HG := Lib.hid hg0
        clear hg0
        obtain ⟨a0, ab, bn, lo0, lh, h0, _⟩ := hg
        dsimp only [CN] at bn
        obtain ⟨ga, hga⟩ : ∃ ga : Nat, g.a = ga := ⟨g.a.toNat, by omega⟩
        obtain ⟨gb, hgb⟩ : ∃ gb : Nat, g.b = gb := ⟨g.b.toNat, by omega⟩
        have HA := Lib.hid (show g.a.toNat = ga by omega)
        have HE := Lib.hid (show g.b.toNat = gb by omega)
        rw [hga] at g1 a0 ab
        rw [hgb] at g2 ab bn
        clear hga hgb
        have k1 : (0 : Int) ≤ k := by omega
        have k2 : (k : Int) < l.length := by omega
        have hz1 : b < wr.heap.size := by have := hR.out.1.size; omega
        go_wp2_with fail
        refine wp_region_still_tail 15 (by kernel_rfl) (by kernel_rfl) ?_
        change wpStill _ _ (World.drew _) (fun a' => wpList _ _ _ _ a' (World.drew _)) _ _
        simp only [List.take_succ_cons, List.take_zero, List.drop_succ_cons, List.drop_zero]
        repeat still_step
        refine wpStill_nil ?_
        go_wp2_with fail
        go_simp
        obtain ⟨r1, r2, M1, r3, r4⟩ := hR.out
        have Q1 := Lib.hid r1
        have Q2 := Lib.hid r2
        have Q3 := Lib.hid r3
        have Q4 := Lib.hid r4
        clear r1 r2 r3 r4 g1 g2 g3 g4
        refine (badd_any M1 _ ga gb g.lo g.hi _ (show Bd wr.drew _ M1 from Q3.out) (by omega) (by omega) (by omega) (by omega)).mono ?_
        rintro e w2 ⟨rfl, hb3, h5⟩
        have HR2 := Lib.hid (FoRel.take (l := l) (q := q) (w1 := w2) Q1.out Q2.out Q4.out HK.out HG.out HA.out HE.out (by omega) (by omega) (below_undrew hb3) h5)
        clear hb3 h5
        go_wp2
        go_roundw
        case rel => exact ⟨k + 1, hlt, by go_num, HR2.out⟩
        case measure => simp [intOf]; omega
    · obtain rfl : k = l.length := by omega
      obtain ⟨r1, r2, M1, r3, r4⟩ := hR.out
      have c0 := block_cell r2
      have Q1 := Lib.hid r1
      have Q2 := Lib.hid r2
      have Q3 := Lib.hid r3
      have Q4 := Lib.hid r4
      clear r1 r2 r3
      go_wp2_with fail
      have HNK : Hid (NetOk n (addGs (prog0 (CN n pi li)) (selTo l q l.length))) := by
        have := netP_ok HC.out (HL.out.sel q (Nat.le_refl _))
        rw [show (CN n pi li).n.toNat = n by simp] at this
        exact this
      refine (btight_any n M1 (addGs (prog0 (CN n pi li)) (selTo l q l.length)) _ _ Q3.out (by omega) HNK.out Q4.out).mono ?_
      rintro e w2 ⟨rfl, hb3, M2, h5, h6⟩
      have hb4 := Q1.out.trans (hb3.mono (Nat.le_succ _))
      have HF := Lib.hid (FollowRes.mk (l := selTo l q l.length) hb4 h6)
      have H5 := Lib.hid h5
      clear h5 h6 hb3 hb4 c0
      have hq1 : decide (Good n (addGs (prog0 (CN n pi li)) (selTo l q l.length)) (n + 1)) = agreeB (CN n pi li) (selTo l q l.length) := rfl
      rw [hq1]
      clear hq1
      generalize agreeB (CN n pi li) (selTo l q l.length) = ag at *
      go_wp2_with fail
      refine wp_load_row _ _ rfl (w.heap.size + 1) rfl _ (netC M2) (0, 0) _ H5.out hu rfl (boundsSize M2) ?_
      have hst := storeSame H5.out
      have hs1 := netC_size M2
      have hld := loadSame H5.out
      go_wp2_with fail
      exact bodyPost_ret (v := .tuple #[.agg (netC M2), .bool ag]) (by simp [results, Try.results50, asAddr, hld]) rfl HF.out

/-- What follow answers for the gauges k. -/
def FolC (c : Chn) (k : List Gau) (w : World) (e : Ending) (w' : World) : Prop :=
  ∃ M1 : Net, e = .returned (.tuple #[.agg (netC M1), .bool (agreeB c k)]) ∧ Below w.heap.size w w' ∧ (agreeB c k = true → ∀ i j, i ≤ c.n.toNat → j ≤ c.n.toNat → M1 i j = RM c k i j)

theorem followL_any (c : Chn) (l : List Gau) (v : Value) (q : Nat → Bool) (pg g : Nat) (w : World) (hv : GaAt w v l) (h : chkM c l = 0) (hg : GoneB w pg g l.length q) :
    Calls Try.prog 50 #[chnV c, v, .func (.func 100) #[] #[.pointer (some ⟨pg, 0, none⟩)]] w (FolC c (selTo l q l.length) w) := by
  obtain ⟨n, pi, li⟩ := c
  obtain ⟨h1, h2, h3⟩ := chk_goks h
  obtain ⟨n, rfl⟩ : ∃ m : Nat, n = m := ⟨n.toNat, by have := h1.n1; dsimp only at this; omega⟩
  exact followLeft_any n pi li l v q pg w hv h1 h2 (by omega) (fun j w1 hj hb => needed1_any pg g l.length j q w1 (hg.below hb (Nat.le_refl _)) hj)

abbrev gsO (v : Value) : Obj := .cells #[v] 24

theorem enters_conflict1 : Enters 59 := fun _ _ => by kernel_rfl
theorem enters_why1 : Enters 64 := fun _ _ => by kernel_rfl

set_option maxHeartbeats 2000000 in
theorem conflict1_any (c : Chn) (l k : List Gau) (v : Value) (F : Value) (pc pl : Nat) (w : World) (kc : w.heap[pc]? = some (Obj.cells #[.int .i64 c.n, .int .i64 c.pi, .int .i64 c.li] 23)) (kl : w.heap[pl]? = some (gsO v)) (hv : GaAt w v l)
    (hF : ∀ w1 : World, Below w.heap.size w w1 → Calls Try.prog 50 #[chnV c, v, F] w1 (FolC c k w1)) :
    Calls Try.prog 59 #[F, .pointer (some ⟨pc, 0, none⟩), .pointer (some ⟨pl, 0, none⟩)] w fun e w' => e = .returned (.bool (clashB c k)) ∧ Below w.heap.size w w' := by
  have HF := Lib.hid (hF w (Below.refl _ _))
  have c0 := block_cell kc
  have c1 := block_cell kl
  obtain ⟨a, cap, rfl, _, _, _⟩ := hv
  have hzb := zeroBounds
  clear hF kc kl
  go_enter Try.func59, Try.ntmps59
  go_wp2_with fail
  refine HF.out.mono ?_
  rintro e w2 ⟨M1, rfl, hb2, hM⟩
  have HBW := Lib.hid hb2
  have hst := storeBounds M1
  have hs1 := netC_size M1
  clear hb2 hM c0 c1
  go_wp2
  go_ret
  exact ⟨rfl, HBW.out.alloc HBW.out.size _⟩

theorem own_setCell {w : World} {base : Nat} {e : TypeId} {size n : Nat} {v : Value} {xs : List Value} (h : w.ownsRow base e size v n xs) {p : Addr} (hp : p.block < base) (x : Value) : (w.setCell p x).ownsRow base e size v n xs := by
  obtain ⟨h0, h1 | ⟨g, cap, cur, rfl, hb, h3, h4⟩⟩ := h
  · exact ⟨h0, .inl h1⟩
  · exact ⟨h0, .inr ⟨g, cap, cur, rfl, hb, block_set_other h3 (by omega) x, h4⟩⟩

theorem GoneB.put {w : World} {pg g n k : Nat} {q : Nat → Bool} (h : GoneB w pg g n q) (hk : k < n) (hne : pg ≠ g) (b : Bool) : GoneB (w.setCell ⟨g, k, none⟩ (.bool (!b))) pg g n (upd q k b) := by
  refine ⟨block_set_other (p := ⟨g, k, none⟩) h.1 hne _, (h.2.set hk (!b)).congr fun s hs => ?_⟩
  unfold upd
  by_cases e : s = k
  · rw [if_pos e, if_pos e]
  · rw [if_neg e, if_neg e]

theorem upd_back (q : Nat → Bool) (k : Nat) (b c : Bool) (h : q k = c) : upd (upd q k b) k c = q := by
  funext j
  unfold upd
  by_cases e : j = k
  · rw [if_pos e, e, h]
  · rw [if_neg e, if_neg e]

theorem GoneB.later {w w' : World} {B pg g n : Nat} {q : Nat → Bool} (h : GoneB w pg g n q) (hb : Below B w w') (h1 : pg < B) (h2 : g < B) : GoneB w' pg g n q :=
  ⟨(hb.block _ h1).trans h.1, h.2.later hb h2⟩
theorem GoneB.size {w : World} {pg g n : Nat} {q : Nat → Bool} (h : GoneB w pg g n q) : pg < w.heap.size ∧ g < w.heap.size := ⟨lt_of_block h.1, h.2.lt⟩

def NeedRel (h : (Nat → Bool) → Bool) (n : Nat) (w wr : World) (v : Value) (k : Nat) : Prop :=
  GoneB wr (w.heap.size + 1) w.heap.size n (keepF h k) ∧ Below w.heap.size w wr ∧ wr.ownsRow (w.heap.size + 2) 3 1 v (nats (idxTo (keepF h k) k)).length ((nats (idxTo (keepF h k) k)).map (Value.int .i64))

set_option maxRecDepth 100000 in
set_option maxHeartbeats 4000000 in
theorem needed_any (K : Nat) (cs : Array Value) (n : Nat) (h : (Nat → Bool) → Bool) (w : World) (hn : n ≤ 40) (hK : Enters K)
    (hg : ∀ (q : Nat → Bool) (pg g : Nat) (w1 : World), Below w.heap.size w w1 → GoneB w1 pg g n q → Calls Try.prog K (#[.func (.func 100) #[] #[.pointer (some ⟨pg, 0, none⟩)]] ++ cs) w1 fun e w' => e = .returned (.bool (h q)) ∧ Below w1.heap.size w1 w') :
    Calls Try.prog 60 #[.int .i64 n, .func (.func K) #[] cs] w fun e w' => ∃ v, e = .returned v ∧ InAt w' v (nats (idxTo (keepF h n) n)) ∧ Below w.heap.size w w' := by
  have HG := Lib.hid hg
  have hk1 := hK
  unfold Enters at hk1
  obtain ⟨i0, hi0, hz0, hz1, hz2⟩ := info_parts infoInt
  have hmk := make_bools n (by omega)
  have HR0 := Lib.hid (show NeedRel h n w ((w.alloc (.cells (madeCells #[.bool false] n) 4)).alloc (.cells #[.slice (some ⟨w.heap.size, 0, none⟩) n n] 164)) (.slice none 0 0) 0 from
    ⟨⟨two_nw _ _ _, ((BoRow.new w n rfl).alloc _).congr fun s _ => rfl⟩, blw2 _ _ _, ⟨by simp [idxTo, nats], Or.inl ⟨rfl, by simp [idxTo, nats]⟩⟩⟩)
  clear hg hK
  go_enter Try.func60, Try.ntmps60
  go_wp2_with fail
  go_loopw [7, 8, 13] (fun v x i wr => ∃ k : Nat, k ≤ n ∧ i = .int .i64 k ∧ Hid (NeedRel h n w wr v k)) (fun _ _ i _ => n - (intOf i).toNat)
  case atStart => exact ⟨0, Nat.zero_le _, rfl, HR0⟩
  case round =>
    obtain ⟨k, hk, rfl, hR⟩ := hrel
    clear hmk
    by_cases hlt : k < n
    · have c0 := block_cell hR.out.1.1
      have c1 := hR.out.1.2.cell hlt
      have c2 := hR.out.1.2.free k
      have j0 : (0 : Int) ≤ k := by omega
      have j1 : (k : Int) < n := by omega
      have HG1 := Lib.hid (hR.out.1.put hlt (by omega) false)
      have HB1 := Lib.hid (hR.out.2.1.setCell (p := ⟨w.heap.size, k, none⟩) (Nat.le_refl _) (.bool true))
      have HO1 := Lib.hid (own_setCell (p := ⟨w.heap.size, k, none⟩) hR.out.2.2 (by show w.heap.size < _; omega) (.bool true))
      go_wp2_with fail
      refine (HG.out _ _ _ _ HB1.out HG1.out).mono ?_
      rintro e w2 ⟨rfl, hb2⟩
      have HG2 := Lib.hid (HG1.out.below hb2 (Nat.le_refl _))
      have HB2 := Lib.hid (HB1.out.trans (hb2.mono HB1.out.size))
      have HO2 := Lib.hid (ownsRow_below HO1.out hb2)
      clear hb2 c0 c1 c2 HG1 HB1 HO1 hR
      cases hq : h (upd (keepF h k) k false)
      · have HY1 := Lib.hid (idx_no hq)
        have HY2 := Lib.hid (keep_no hq)
        clear hq
        have c0 := block_cell HG2.out.1
        have c1 := HG2.out.2.cell hlt
        have c2 := HG2.out.2.free k
        have HG3 := Lib.hid (show GoneB (w2.setCell ⟨w.heap.size, k, none⟩ (.bool false)) _ _ n _ from HG2.out.put hlt (by omega) true)
        have HB3 := Lib.hid (HB2.out.setCell (p := ⟨w.heap.size, k, none⟩) (Nat.le_refl _) (.bool false))
        have HO3 := Lib.hid (own_setCell (p := ⟨w.heap.size, k, none⟩) HO2.out (by show w.heap.size < _; omega) (.bool false))
        rw [upd_back _ _ _ _ keep_same] at HG3
        have hsz := HG2.out.size.1
        have hl40 : (nats (idxTo (keepF h k) k)).length ≤ 40 := by rw [nats_len]; have := idxTo_len (keepF h k) k; omega
        obtain ⟨ra, ca, rfl, hob⟩ := ownsRow_shape HO3.out
        generalize hL : nats (idxTo (keepF h k) k) = L at *
        go_wp2_with (at_builtin; refine wpList_append_own _ rfl (.tmp 26) (.tmp 28) 29 rfl (w.heap.size + 2) 3 i0 (.int .i64 0) 1 8 Try.underlying29 hi0 hz0 hz1 hz2 rfl (by decide) _ L.length (L.map (Value.int .i64)) rfl ?c0 _ _ _ [.int .i64 k] rfl rfl ?c1 ?c2 ?c3 ?c4 ?c5 ?_)
        case c0 => exact World.ownsRow.alloc HO3.out _
        try (case c1 => exact one_cell _ _ _ (by simp))
        case c2 => first | rfl | (intro u hu; simp only [List.mem_cons, List.not_mem_nil, or_false] at hu; subst hu; rfl)
        case c3 => unfold maxLen; omega
        case c4 => omega
        case c5 => simp; omega
        intro v4 w4 hown hgrow _
        have hbX := below_grown hgrow hob (by simp; omega)
        have hbY := (((Below.refl (w.heap.size + 2) (w2.setCell ⟨w.heap.size, k, none⟩ (.bool false))).alloc (by simp; omega) (.cells #[.int .i64 k] 3)).trans hbX)
        have HG4 := Lib.hid (HG3.out.later hbY (by omega) (by omega))
        have HB4 := Lib.hid (HB3.out.trans (hbY.mono (by omega)))
        have HO4 := Lib.hid (show w4.ownsRow (w.heap.size + 2) 3 1 v4 (nats (idxTo (keepF h (k + 1)) (k + 1))).length ((nats (idxTo (keepF h (k + 1)) (k + 1))).map (Value.int .i64)) by
          rw [HY1.out, nats_append, hL, List.length_append, List.map_append]; exact hown)
        obtain ⟨rb, cb, rfl, _⟩ := ownsRow_shape hown
        clear hown hgrow hbX hbY c0 c1 c2
        go_wp2
        go_roundw
        case rel => exact ⟨k + 1, hlt, by go_num, Lib.hid ⟨by rw [HY2.out]; exact HG4.out, HB4.out, HO4.out⟩⟩
        case measure => simp [intOf]; omega
      · have HY1 := Lib.hid (idx_yes hq)
        have HY2 := Lib.hid (keep_yes hq)
        clear hq
        go_wp2
        go_roundw
        case rel => exact ⟨k + 1, hlt, by go_num, Lib.hid ⟨by rw [HY2.out]; exact HG2.out, HB2.out, by rw [HY1.out]; exact HO2.out⟩⟩
        case measure => simp [intOf]; omega
    · obtain rfl : k = n := by omega
      go_wp2
      go_ret
      exact ⟨_, rfl, InAt.of_own hR.out.2.2, hR.out.2.1⟩

end Go.Proofs.Ythgcnakbbmknoaa

/- Walks of layer 2 (chain): Conflict of the program. -/
namespace Go.Proofs.Ythgcnakbbmknoaa
open Go.RowKit

/-- A list of numbers and an error. -/
def ListErr (a : List Int) (er : Int) (w : World) (e : Ending) (w' : World) : Prop := ∃ v, e = .returned (.tuple #[v, .int .i64 er]) ∧ InAt w' v a ∧ Below w.heap.size w w'

theorem app1_2 (a b c : Value) : (#[a] ++ #[b, c] : Array Value) = #[a, b, c] := by simp
theorem app1_5 (a b c d e f : Value) : (#[a] ++ #[b, c, d, e, f] : Array Value) = #[a, b, c, d, e, f] := by simp

theorem con_bad {c : Chn} {l : List Gau} (h : ¬ chkM c l = 0) : conE c l = chkM c l ∧ conL c l = [] := by
  have e : conE c l = chkM c l := by unfold conE; rw [if_neg h]
  exact ⟨e, by unfold conL; rw [e, if_neg h]⟩
theorem con_none {c : Chn} {l : List Gau} (h : chkM c l = 0) (h2 : clashB c l = false) : conE c l = 3 ∧ conL c l = [] := by
  have e : conE c l = 3 := by unfold conE; rw [if_pos h, h2, if_neg (by decide)]
  exact ⟨e, by unfold conL; rw [e, if_neg (by decide)]⟩
theorem con_ok {c : Chn} {l : List Gau} (h : chkM c l = 0) (h2 : clashB c l = true) : conE c l = 0 ∧ conL c l = nats (leftM (clashB c) l) := by
  have e : conE c l = 0 := by unfold conE; rw [if_pos h, h2, if_pos rfl]
  exact ⟨e, by unfold conL; rw [e, if_pos rfl]⟩

set_option maxRecDepth 100000 in
set_option maxHeartbeats 4000000 in
theorem kConflict_any (c : Chn) (l : List Gau) (v : Value) (w : World) (hv : GaAt w v l) :
    Calls Try.prog 17 #[chnV c, v] w (ListErr (conL c l) (conE c l) w) := by
  have hb0 := blw2 w (Obj.cells #[.int .i64 c.n, .int .i64 c.pi, .int .i64 c.li] 23) (gsO v)
  have HV := Lib.hid (hv.below hb0 (Nat.le_refl _))
  have hv0 := hv
  obtain ⟨va, cap, rfl, hn, hcap, hc⟩ := hv
  have HB := Lib.hid hb0
  have K0 := Lib.hid (two_od w (Obj.cells #[.int .i64 c.n, .int .i64 c.pi, .int .i64 c.li] 23) (gsO (.slice va l.length cap)))
  have K1 := Lib.hid (two_nw w (Obj.cells #[.int .i64 c.n, .int .i64 c.pi, .int .i64 c.li] 23) (gsO (.slice va l.length cap)))
  clear hc hb0 hv0
  go_enter Try.func17, Try.ntmps17
  go_wp2_with fail
  generalize (w.alloc (Obj.cells #[.int .i64 c.n, .int .i64 c.pi, .int .i64 c.li] 23)).alloc (gsO (.slice va l.length cap)) = wA at *
  have c0 := block_cell K0.out
  have c1 := block_cell K1.out
  go_wp2_with fail
  refine (kcheck_any c l _ _ HV.out).mono ?_
  rintro e w1 ⟨rfl, hb1⟩
  have HB1 := Lib.hid (HB.out.trans (hb1.mono HB.out.size))
  have HV1 := Lib.hid (HV.out.below hb1 (Nat.le_refl _))
  have K01 := Lib.hid (keepZ K0.out hb1)
  have K11 := Lib.hid (keepZ K1.out hb1)
  clear hb1 c0 c1
  have c0 := block_cell K01.out
  have c1 := block_cell K11.out
  by_cases hq : chkM c l = 0
  · have HQ := Lib.hid hq
    rw [hq]
    have hck := chk_goks hq
    have hl40 := hck.2.2
    have hk1 := enters_conflict1
    unfold Enters at hk1
    have HC := Lib.hid (fun (w1 : World) (h : GaAt w1 (.slice va l.length cap) l) => followC_any c l _ w1 h hq)
    have HL := Lib.hid (fun (q : Nat → Bool) (pg g : Nat) (w1 : World) (h : GaAt w1 (.slice va l.length cap) l) (hg : GoneB w1 pg g l.length q) => followL_any c l _ q pg g w1 h hq hg)
    clear hck
    go_wp2_with fail
    refine (conflict1_any c l l _ _ _ _ _ K01.out K11.out HV1.out (fun w2 hb => HC.out w2 (HV1.out.below hb (Nat.le_refl _)))).mono ?_
    rintro e w2 ⟨rfl, hb2⟩
    have HB2 := Lib.hid (HB1.out.trans (hb2.mono HB1.out.size))
    have HV2 := Lib.hid (HV1.out.below hb2 (Nat.le_refl _))
    have K02 := Lib.hid (keepZ K01.out hb2)
    have K12 := Lib.hid (keepZ K11.out hb2)
    clear hb2 c0 c1
    have c1 := block_cell K12.out
    cases hcl : clashB c l
    · obtain ⟨e1, e2⟩ := con_none HQ.out hcl
      have E1 := Lib.hid e1
      have E2 := Lib.hid e2
      clear hcl e1 e2
      go_wp2
      refine bodyPost_ret (v := .tuple #[.slice none 0 0, .int .i64 3]) (by simp [results, Try.results17, go_sem]) rfl ⟨_, by rw [E1.out], by rw [E2.out]; exact InAt.nil _, HB2.out⟩
    · obtain ⟨e1, e2⟩ := con_ok HQ.out hcl
      have E1 := Lib.hid e1
      have E2 := Lib.hid e2
      clear hcl e1 e2
      go_wp2_with fail
      refine (needed_any _ _ l.length (fun q => clashB c (selTo l q l.length)) _ hl40 enters_conflict1 ?hg).mono ?_
      case hg =>
        intro q pg g w3 hb hg
        rw [app1_2]
        exact conflict1_any c l _ _ _ _ _ _ (keepZ K02.out hb) (keepZ K12.out hb) (HV2.out.below hb (Nat.le_refl _)) (fun w4 hb4 => HL.out q pg g w4 ((HV2.out.below hb (Nat.le_refl _)).below hb4 (Nat.le_refl _)) (hg.below hb4 (Nat.le_refl _)))
      rintro e w3 ⟨v3, rfl, hi3, hb3⟩
      have HI := Lib.hid hi3
      have HB3 := Lib.hid (HB2.out.trans (hb3.mono HB2.out.size))
      obtain ⟨a3, c3, rfl, _, _, _⟩ := hi3
      go_wp2
      refine bodyPost_ret (v := .tuple #[_, .int .i64 0]) ?_ rfl ⟨_, by rw [E1.out], by rw [E2.out]; exact HI.out, HB3.out⟩
      simp [results, Try.results17, go_sem]
  · obtain ⟨e1, e2⟩ := con_bad hq
    have E1 := Lib.hid e1
    have E2 := Lib.hid e2
    have hz : (chkM c l != 0) = true := by simpa using hq
    clear hq e1 e2
    generalize chkM c l = q at *
    go_wp2
    refine bodyPost_ret (v := .tuple #[.slice none 0 0, .int .i64 q]) (by simp [results, Try.results17, go_sem]) rfl ⟨_, by rw [E1.out], by rw [E2.out]; exact InAt.nil _, HB1.out⟩

end Go.Proofs.Ythgcnakbbmknoaa

/- Walks of layer 2 (chain): Why of the program. -/
namespace Go.Proofs.Ythgcnakbbmknoaa
open Go.RowKit

/-! ### Why -/
set_option maxHeartbeats 2000000 in
theorem why1_any (c : Chn) (l k : List Gau) (v : Value) (F : Value) (a b : Nat) (m : Int) (pc pl pa pb pm : Nat) (w : World) (kc : w.heap[pc]? = some (Obj.cells #[.int .i64 c.n, .int .i64 c.pi, .int .i64 c.li] 23)) (kl : w.heap[pl]? = some (gsO v)) (ka : w.heap[pa]? = some (.cells #[.int .i64 a] 3)) (kb : w.heap[pb]? = some (.cells #[.int .i64 b] 3)) (km : w.heap[pm]? = some (.cells #[.int .i64 m] 3)) (hv : GaAt w v l)
    (hc : COk c) (hk : GOks c k) (ha : a ≤ c.n.toNat) (hb : b ≤ c.n.toNat)
    (hF : ∀ w1 : World, Below w.heap.size w w1 → Calls Try.prog 50 #[chnV c, v, F] w1 (FolC c k w1)) :
    Calls Try.prog 64 #[F, .pointer (some ⟨pc, 0, none⟩), .pointer (some ⟨pl, 0, none⟩), .pointer (some ⟨pa, 0, none⟩), .pointer (some ⟨pb, 0, none⟩), .pointer (some ⟨pm, 0, none⟩)] w fun e w' => e = .returned (.bool (shortB c a b m k)) ∧ Below w.heap.size w w' := by
  have HF := Lib.hid (hF w (Below.refl _ _))
  have c0 := block_cell kc
  have c1 := block_cell kl
  have n24 := hc.n2
  have s1 := RM_small hc hk hb ha
  have KA := Lib.hid ka
  have KB := Lib.hid kb
  have KM := Lib.hid km
  have hss : shortB c a b m k = (!agreeB c k || decide (RM c k a b ≤ m)) := rfl
  have HSS := Lib.hid hss
  obtain ⟨va, cap, rfl, _, _, _⟩ := hv
  have hzb := zeroBounds
  clear hF kc kl hss ka kb km
  go_enter Try.func64, Try.ntmps64
  go_wp2_with fail
  refine HF.out.mono ?_
  rintro e w2 ⟨M1, rfl, hb2, hM⟩
  have HBW := Lib.hid hb2
  have HM := Lib.hid hM
  have ka2 := keepZ KA.out hb2
  have kb2 := keepZ KB.out hb2
  have km2 := keepZ KM.out hb2
  have hst := storeBounds M1
  have hs1 := netC_size M1
  clear hb2 hM c0 c1
  cases hag : agreeB c k
  · have HS2 := Lib.hid (show shortB c a b m k = true by rw [HSS.out, hag]; rfl)
    clear hag s1 HM
    go_upto_region 2 with fail
    go_quiet (fail)
    go_wp2
    go_ret
    exact ⟨ret_bool HS2.out.symm, below_drewN (HBW.out.alloc HBW.out.size _) _⟩
  · have HS2 := Lib.hid (show shortB c a b m k = decide (RM c k a b ≤ m) by rw [HSS.out, hag]; rfl)
    have m1 := HM.out hag a b ha hb
    have m2 := HM.out hag b a hb ha
    rw [← m2] at s1
    rw [← m1] at HS2
    have HB3 := Lib.hid (show Below w2.heap.size w2 (w2.alloc (.cells (netC M1) 106)) from (Below.refl _ _).alloc (Nat.le_refl _) _)
    have KK := Lib.hid (show Bd (w2.alloc (.cells (netC M1) 106)) w2.heap.size M1 from block_new _ _ _ rfl)
    have KA3 := Lib.hid (keepZ ka2 HB3.out)
    have KB3 := Lib.hid (keepZ kb2 HB3.out)
    have KM3 := Lib.hid (keepZ km2 HB3.out)
    have ca := block_cell (keepZ ka2 HB3.out)
    have cb := block_cell (keepZ kb2 HB3.out)
    have cm := block_cell (keepZ km2 HB3.out)
    clear hag m1 m2 HM ka2 kb2 km2
    go_upto_region 2 with fail
    generalize w2.alloc (.cells (netC M1) 106) = w3 at *
    have xa := bw_cells (B := w3.heap.size) KA3.out (lt_of_block KA3.out)
    have xb := bw_cells (B := w3.heap.size) KB3.out (lt_of_block KB3.out)
    have xm := bw_cells (B := w3.heap.size) KM3.out (lt_of_block KM3.out)
    clear ca cb cm
    have hf1 := spanField1
    refine wp_region_below (by kernel_rfl) (by kernel_rfl) (Below.refl w3.heap.size w3) ?_
    repeat ((with_reducible refine wpQuiet_step (fun K hK => ?_)); go_simp; first | (refine hK _ ?_; clear hK K) | (apply Exists.intro; refine ⟨fun _ => ?_, hK _ ?_⟩; ((go_at_call 53; exact bw_call (Nat.le_refl _) (brun_any M1 w2.heap.size a b _ (((BW.b _).block _ (lt_of_block KK.out)).trans KK.out) (by omega) (by omega) (by omega) (by omega)))); clear hK K))
    refine wpQuiet_nil ?_
    intro wq hwq0
    have hwq := bw_out hwq0
    clear hwq0
    go_wp2
    go_ret
    exact ⟨ret_bool (by rw [HS2.out]), HBW.out.trans ((HB3.out.trans (hwq.mono HB3.out.size)).mono HBW.out.size)⟩

theorem why_bad {c : Chn} {l : List Gau} {a b m : Int} (h : ¬ crunM c l a b = 0) : whyE c l a b m = crunM c l a b ∧ whyL c l a b m = [] := by
  have e : whyE c l a b m = crunM c l a b := by unfold whyE; rw [if_neg h]
  exact ⟨e, by unfold whyL; rw [e, if_neg h]⟩
theorem why_none {c : Chn} {l : List Gau} {a b m : Int} (h : crunM c l a b = 0) (h2 : shortB c a.toNat b.toNat m l = false) : whyE c l a b m = 3 ∧ whyL c l a b m = [] := by
  have e : whyE c l a b m = 3 := by unfold whyE; rw [if_pos h, h2, if_neg (by decide)]
  exact ⟨e, by unfold whyL; rw [e, if_neg (by decide)]⟩
theorem why_ok {c : Chn} {l : List Gau} {a b m : Int} (h : crunM c l a b = 0) (h2 : shortB c a.toNat b.toNat m l = true) : whyE c l a b m = 0 ∧ whyL c l a b m = nats (leftM (shortB c a.toNat b.toNat m) l) := by
  have e : whyE c l a b m = 0 := by unfold whyE; rw [if_pos h, h2, if_pos rfl]
  exact ⟨e, by unfold whyL; rw [e, if_pos rfl]⟩

abbrev inO (n : Int) : Obj := .cells #[.int .i64 n] 3

theorem five_0 (w : World) (a b c d e : Obj) : (((((w.alloc a).alloc b).alloc c).alloc d).alloc e).heap[w.heap.size]? = some a := block_alloc (block_alloc (three_0 _ _ _ _) _) _
theorem five_1 (w : World) (a b c d e : Obj) : (((((w.alloc a).alloc b).alloc c).alloc d).alloc e).heap[w.heap.size + 1]? = some b := block_alloc (block_alloc (three_1 _ _ _ _) _) _
theorem five_2 (w : World) (a b c d e : Obj) : (((((w.alloc a).alloc b).alloc c).alloc d).alloc e).heap[w.heap.size + 2]? = some c := block_alloc (block_alloc (three_2 _ _ _ _) _) _
theorem five_3 (w : World) (a b c d e : Obj) : (((((w.alloc a).alloc b).alloc c).alloc d).alloc e).heap[w.heap.size + 3]? = some d := block_alloc (block_new _ _ _ (by simp only [size_alloc])) _
theorem five_4 (w : World) (a b c d e : Obj) : (((((w.alloc a).alloc b).alloc c).alloc d).alloc e).heap[w.heap.size + 4]? = some e := block_new _ _ _ (by simp only [size_alloc])
theorem blw5 (w : World) (a b c d e : Obj) : Below w.heap.size w (((((w.alloc a).alloc b).alloc c).alloc d).alloc e) := ((blw3 w a b c).alloc (Nat.le_trans (al_le _ _) (Nat.le_trans (al_le _ _) (al_le _ _))) _).alloc (Nat.le_trans (al_le _ _) (Nat.le_trans (al_le _ _) (Nat.le_trans (al_le _ _) (al_le _ _)))) _

set_option maxRecDepth 100000 in
set_option maxHeartbeats 4000000 in
theorem kWhy_any (c : Chn) (l : List Gau) (v : Value) (a b m : Int) (w : World) (hv : GaAt w v l) :
    Calls Try.prog 19 #[chnV c, v, .int .i64 a, .int .i64 b, .int .i64 m] w (ListErr (whyL c l a b m) (whyE c l a b m) w) := by
  have hb0 := blw5 w (Obj.cells #[.int .i64 c.n, .int .i64 c.pi, .int .i64 c.li] 23) (gsO v) (inO a) (inO b) (inO m)
  have HV := Lib.hid (hv.below hb0 (Nat.le_refl _))
  obtain ⟨va, cap, rfl, hn, hcap, hc⟩ := hv
  have HB := Lib.hid hb0
  have K0 := Lib.hid (five_0 w (Obj.cells #[.int .i64 c.n, .int .i64 c.pi, .int .i64 c.li] 23) (gsO (.slice va l.length cap)) (inO a) (inO b) (inO m))
  have K1 := Lib.hid (five_1 w (Obj.cells #[.int .i64 c.n, .int .i64 c.pi, .int .i64 c.li] 23) (gsO (.slice va l.length cap)) (inO a) (inO b) (inO m))
  have K2 := Lib.hid (five_2 w (Obj.cells #[.int .i64 c.n, .int .i64 c.pi, .int .i64 c.li] 23) (gsO (.slice va l.length cap)) (inO a) (inO b) (inO m))
  have K3 := Lib.hid (five_3 w (Obj.cells #[.int .i64 c.n, .int .i64 c.pi, .int .i64 c.li] 23) (gsO (.slice va l.length cap)) (inO a) (inO b) (inO m))
  have K4 := Lib.hid (five_4 w (Obj.cells #[.int .i64 c.n, .int .i64 c.pi, .int .i64 c.li] 23) (gsO (.slice va l.length cap)) (inO a) (inO b) (inO m))
  clear hc hb0
  go_enter Try.func19, Try.ntmps19
  go_wp2_with fail
  generalize ((((w.alloc (Obj.cells #[.int .i64 c.n, .int .i64 c.pi, .int .i64 c.li] 23)).alloc (gsO (.slice va l.length cap))).alloc (inO a)).alloc (inO b)).alloc (inO m) = wA at *
  have c0 := block_cell K0.out
  have c1 := block_cell K1.out
  have c2 := block_cell K2.out
  have c3 := block_cell K3.out
  go_wp2_with fail
  refine (kcrun_any c l _ _ _ _ HV.out).mono ?_
  rintro e w1 ⟨rfl, hb1⟩
  have HB1 := Lib.hid (HB.out.trans (hb1.mono HB.out.size))
  have HV1 := Lib.hid (HV.out.below hb1 (Nat.le_refl _))
  have K0 := Lib.hid (keepZ K0.out hb1)
  have K1 := Lib.hid (keepZ K1.out hb1)
  have K2 := Lib.hid (keepZ K2.out hb1)
  have K3 := Lib.hid (keepZ K3.out hb1)
  have K4 := Lib.hid (keepZ K4.out hb1)
  clear hb1 c0 c1 c2 c3
  have c1 := block_cell K1.out
  by_cases hq : crunM c l a b = 0
  · have HQ := Lib.hid hq
    rw [hq]
    obtain ⟨hchk, ha, hab, hbn⟩ := crun_zero hq
    obtain ⟨hC1, hC2, hl40⟩ := chk_goks hchk
    obtain ⟨a, rfl⟩ : ∃ m : Nat, a = m := ⟨a.toNat, by omega⟩
    obtain ⟨b, rfl⟩ : ∃ m : Nat, b = m := ⟨b.toNat, by omega⟩
    have ha' : a ≤ c.n.toNat := by omega
    have hb' : b ≤ c.n.toNat := by omega
    have hk1 := enters_why1
    unfold Enters at hk1
    have HC := Lib.hid (fun (w1 : World) (h : GaAt w1 (.slice va l.length cap) l) => followC_any c l _ w1 h hchk)
    have HL := Lib.hid (fun (q : Nat → Bool) (pg g : Nat) (w1 : World) (h : GaAt w1 (.slice va l.length cap) l) (hg : GoneB w1 pg g l.length q) => followL_any c l _ q pg g w1 h hchk hg)
    have HGS := Lib.hid (fun (q : Nat → Bool) => hC2.sel q (Nat.le_refl l.length))
    have HN := Lib.hid (fun h => @why_none c l a b m hq h)
    have HO := Lib.hid (fun h => @why_ok c l a b m hq h)
    simp only [Int.toNat_natCast] at HN HO
    go_wp2_with fail
    refine (why1_any c l l _ _ a b m _ _ _ _ _ _ K0.out K1.out K2.out K3.out K4.out HV1.out hC1 hC2 ha' hb' (fun w2 hb => HC.out w2 (HV1.out.below hb (Nat.le_refl _)))).mono ?_
    rintro e w2 ⟨rfl, hb2⟩
    have HB2 := Lib.hid (HB1.out.trans (hb2.mono HB1.out.size))
    have HV2 := Lib.hid (HV1.out.below hb2 (Nat.le_refl _))
    have K0 := Lib.hid (keepZ K0.out hb2)
    have K1 := Lib.hid (keepZ K1.out hb2)
    have K2 := Lib.hid (keepZ K2.out hb2)
    have K3 := Lib.hid (keepZ K3.out hb2)
    have K4 := Lib.hid (keepZ K4.out hb2)
    clear hb2 c1
    have c1 := block_cell K1.out
    cases hcl : shortB c a b m l
    · obtain ⟨e1, e2⟩ := HN.out hcl
      have E1 := Lib.hid e1
      have E2 := Lib.hid e2
      clear hcl e1 e2
      go_wp2
      refine bodyPost_ret (v := .tuple #[.slice none 0 0, .int .i64 3]) (by simp [results, Try.results19, go_sem]) rfl ⟨_, by rw [E1.out], by rw [E2.out]; exact InAt.nil _, HB2.out⟩
    · obtain ⟨e1, e2⟩ := HO.out hcl
      have E1 := Lib.hid e1
      have E2 := Lib.hid e2
      clear hcl e1 e2
      go_wp2_with fail
      refine (needed_any _ _ l.length (fun q => shortB c a b m (selTo l q l.length)) _ hl40 enters_why1 ?hg).mono ?_
      case hg =>
        intro q pg g w3 hb hg
        rw [app1_5]
        exact why1_any c l _ _ _ a b m _ _ _ _ _ _ (keepZ K0.out hb) (keepZ K1.out hb) (keepZ K2.out hb) (keepZ K3.out hb) (keepZ K4.out hb) (HV2.out.below hb (Nat.le_refl _)) hC1 (HGS.out q) ha' hb' (fun w4 hb4 => HL.out q pg g w4 ((HV2.out.below hb (Nat.le_refl _)).below hb4 (Nat.le_refl _)) (hg.below hb4 (Nat.le_refl _)))
      rintro e w3 ⟨v3, rfl, hi3, hb3⟩
      have HI := Lib.hid hi3
      have HB3 := Lib.hid (HB2.out.trans (hb3.mono HB2.out.size))
      obtain ⟨a3, c3, rfl, _, _, _⟩ := hi3
      go_wp2
      refine bodyPost_ret (v := .tuple #[_, .int .i64 0]) ?_ rfl ⟨_, by rw [E1.out], by rw [E2.out]; exact HI.out, HB3.out⟩
      simp [results, Try.results19, go_sem]
  · obtain ⟨e1, e2⟩ := why_bad (m := m) hq
    have E1 := Lib.hid e1
    have E2 := Lib.hid e2
    have hz : (crunM c l a b != 0) = true := by simpa using hq
    clear hq e1 e2
    generalize crunM c l a b = q at *
    go_wp2
    refine bodyPost_ret (v := .tuple #[.slice none 0 0, .int .i64 q]) (by simp [results, Try.results19, go_sem]) rfl ⟨_, by rw [E1.out], by rw [E2.out]; exact InAt.nil _, HB1.out⟩

end Go.Proofs.Ythgcnakbbmknoaa

/- Walks of layer 2 (chain): Conflict, Why of the specification. -/
namespace Go.Proofs.Ythgcnakbbmknoaa
open Go.RowKit

theorem clm_clash (c : Chn) : Clm.holds ⟨c, 0, 0, 0, true⟩ = clashB c := by
  funext l; unfold Clm.holds clashB; simp
theorem clm_short (c : Chn) (a b m : Int) : Clm.holds ⟨c, a, b, m, false⟩ = shortB c a.toNat b.toNat m := by
  funext l; unfold Clm.holds shortB; simp

set_option maxRecDepth 100000 in
set_option maxHeartbeats 4000000 in
theorem rConflict_any (c : Chn) (l : List Gau) (v : Value) (w : World) (hv : GaAt w v l) :
    Calls Try.prog 18 #[chnV c, v] w (ListErr (conL c l) (conE c l) w) := by
  have hb0 := (Below.refl w.heap.size w).alloc (Nat.le_refl _) (Obj.cells #[.int .i64 c.n, .int .i64 c.pi, .int .i64 c.li] 23)
  have k0 := block_new w (Obj.cells #[.int .i64 c.n, .int .i64 c.pi, .int .i64 c.li] 23) w.heap.size rfl
  have hsz : (w.alloc (Obj.cells #[.int .i64 c.n, .int .i64 c.pi, .int .i64 c.li] 23)).heap.size = w.heap.size + 1 := size_alloc _ _
  have K0 := Lib.hid k0
  have HB := Lib.hid hb0
  have HSZ := Lib.hid hsz
  clear k0 hb0 hsz
  have HV := Lib.hid (hv.below HB.out (Nat.le_refl _))
  obtain ⟨va, cap, rfl, hn, hcap, hc⟩ := hv
  clear hc
  go_enter Try.func18, Try.ntmps18
  go_wp2_with fail
  generalize hwA : w.alloc (Obj.cells #[.int .i64 c.n, .int .i64 c.pi, .int .i64 c.li] 23) = wA at *
  clear hwA
  have hce := block_cell K0.out
  go_wp2_with fail
  refine (rcheck_any c l _ _ HV.out).mono ?_
  rintro e w1 ⟨rfl, hb1⟩
  have HB1 := Lib.hid (HB.out.trans (hb1.mono HB.out.size))
  have HV1 := Lib.hid (HV.out.below hb1 (Nat.le_refl _))
  have HK := Lib.hid (keepZ K0.out hb1)
  clear hb1 hce
  have hce := block_cell HK.out
  by_cases hq : chkM c l = 0
  · have HQ := Lib.hid hq
    obtain ⟨hC1, hC2, hl40⟩ := chk_goks hq
    have hok : ClmOk ⟨c, 0, 0, 0, true⟩ := ⟨hC1, Int.le_refl _, by have := hC1.n1; show (0 : Int) ≤ c.n; omega, Int.le_refl _, by have := hC1.n1; show (0 : Int) ≤ c.n; omega⟩
    have HH := Lib.hid (fun (v : Value) (w1 : World) (h1 : GaAt w1 v l) => rholds_any ⟨c, 0, 0, 0, true⟩ l v w1 h1 hok hC2 (by omega))
    have HN := Lib.hid (fun (v : Value) (w1 : World) (h1 : GaAt w1 v l) => rneeded_any ⟨c, 0, 0, 0, true⟩ l v w1 h1 hok hC2 hl40)
    rw [clm_clash] at HH HN
    rw [hq]
    clear hC1 hC2 hok
    have hbs : Below w1.heap.size w1 (w1.alloc (clmO ⟨c, 0, 0, 0, true⟩)) := (Below.refl _ _).alloc (Nat.le_refl _) _
    have HB2 := Lib.hid (HB1.out.trans (hbs.mono HB1.out.size))
    have HV2 := Lib.hid (HV1.out.below hbs (Nat.le_refl _))
    have KX := Lib.hid (block_new w1 (clmO ⟨c, 0, 0, 0, true⟩) _ rfl)
    clear hbs
    go_upto_region 5 with fail
    generalize w1.alloc (clmO ⟨c, 0, 0, 0, true⟩) = w2 at *
    clear hce
    have cx := block_cell KX.out
    go_wp2_with fail
    refine (HH.out _ _ HV2.out).mono ?_
    rintro e w3 ⟨rfl, hb3⟩
    have HB3 := Lib.hid (HB2.out.trans (hb3.mono HB2.out.size))
    have HV3 := Lib.hid (HV2.out.below hb3 (Nat.le_refl _))
    have KX3 := Lib.hid (keepZ KX.out hb3)
    clear hb3 cx
    have cx := block_cell KX3.out
    cases hcl : clashB c l
    · obtain ⟨e1, e2⟩ := con_none HQ.out hcl
      have E1 := Lib.hid e1
      have E2 := Lib.hid e2
      clear hcl e1 e2
      go_wp2
      refine bodyPost_ret (v := .tuple #[.slice none 0 0, .int .i64 3]) (by simp [results, Try.results18, go_sem]) rfl ⟨_, by rw [E1.out], by rw [E2.out]; exact InAt.nil _, HB3.out⟩
    · obtain ⟨e1, e2⟩ := con_ok HQ.out hcl
      have E1 := Lib.hid e1
      have E2 := Lib.hid e2
      clear hcl e1 e2
      go_wp2_with fail
      refine (HN.out _ _ HV3.out).mono ?_
      rintro e w4 ⟨v4, rfl, hi4, hb4⟩
      have HI := Lib.hid hi4
      have HB4 := Lib.hid (HB3.out.trans (hb4.mono HB3.out.size))
      obtain ⟨a4, c4, rfl, _, _, _⟩ := hi4
      go_wp2
      refine bodyPost_ret (v := .tuple #[_, .int .i64 0]) ?_ rfl ⟨_, by rw [E1.out], by rw [E2.out]; exact HI.out, HB4.out⟩
      simp [results, Try.results18, go_sem]
  · obtain ⟨e1, e2⟩ := con_bad hq
    have E1 := Lib.hid e1
    have E2 := Lib.hid e2
    have hz : (chkM c l != 0) = true := by simpa using hq
    clear hq e1 e2
    generalize chkM c l = q at *
    go_wp2
    refine bodyPost_ret (v := .tuple #[.slice none 0 0, .int .i64 q]) (by simp [results, Try.results18, go_sem]) rfl ⟨_, by rw [E1.out], by rw [E2.out]; exact InAt.nil _, HB1.out⟩

theorem wcr_chk {c : Chn} {l : List Gau} {a b : Int} (h : ¬ chkM c l = 0) : crunM c l a b = chkM c l := by unfold crunM; rw [if_neg h]
theorem wcr_arg {c : Chn} {l : List Gau} {a b : Int} (h : chkM c l = 0) (h2 : ¬ (0 ≤ a ∧ a ≤ b ∧ b ≤ c.n)) : crunM c l a b = 1 := by unfold crunM; rw [if_pos h, if_neg h2]
theorem wcr_ok {c : Chn} {l : List Gau} {a b : Int} (h : chkM c l = 0) (h2 : 0 ≤ a ∧ a ≤ b ∧ b ≤ c.n) : crunM c l a b = 0 := by unfold crunM; rw [if_pos h, if_pos h2]

set_option maxRecDepth 100000 in
set_option maxHeartbeats 4000000 in
theorem rWhy_any (c : Chn) (l : List Gau) (v : Value) (a b m : Int) (w : World) (hv : GaAt w v l) :
    Calls Try.prog 20 #[chnV c, v, .int .i64 a, .int .i64 b, .int .i64 m] w (ListErr (whyL c l a b m) (whyE c l a b m) w) := by
  have hb0 := (Below.refl w.heap.size w).alloc (Nat.le_refl _) (Obj.cells #[.int .i64 c.n, .int .i64 c.pi, .int .i64 c.li] 23)
  have k0 := block_new w (Obj.cells #[.int .i64 c.n, .int .i64 c.pi, .int .i64 c.li] 23) w.heap.size rfl
  have hsz : (w.alloc (Obj.cells #[.int .i64 c.n, .int .i64 c.pi, .int .i64 c.li] 23)).heap.size = w.heap.size + 1 := size_alloc _ _
  have K0 := Lib.hid k0
  have HB := Lib.hid hb0
  have HSZ := Lib.hid hsz
  clear k0 hb0 hsz
  have HV := Lib.hid (hv.below HB.out (Nat.le_refl _))
  obtain ⟨va, cap, rfl, hn, hcap, hc⟩ := hv
  clear hc
  go_enter Try.func20, Try.ntmps20
  go_wp2_with fail
  generalize hwA : w.alloc (Obj.cells #[.int .i64 c.n, .int .i64 c.pi, .int .i64 c.li] 23) = wA at *
  clear hwA
  have hce := block_cell K0.out
  go_wp2_with fail
  refine (rcheck_any c l _ _ HV.out).mono ?_
  rintro e w1 ⟨rfl, hb1⟩
  have HB1 := Lib.hid (HB.out.trans (hb1.mono HB.out.size))
  have HV1 := Lib.hid (HV.out.below hb1 (Nat.le_refl _))
  have HK := Lib.hid (keepZ K0.out hb1)
  clear hb1 hce
  have hce := block_cell HK.out
  by_cases hq : chkM c l = 0
  · by_cases hr : 0 ≤ a ∧ a ≤ b ∧ b ≤ c.n
    · have HQ := Lib.hid (wcr_ok hq hr)
      obtain ⟨hC1, hC2, hl40⟩ := chk_goks hq
      obtain ⟨r1, r2, r3⟩ := hr
      have hok : ClmOk ⟨c, a, b, m, false⟩ := ⟨hC1, r1, Int.le_trans r2 r3, Int.le_trans r1 r2, r3⟩
      have HH := Lib.hid (fun (v : Value) (w1 : World) (h1 : GaAt w1 v l) => rholds_any ⟨c, a, b, m, false⟩ l v w1 h1 hok hC2 (by omega))
      have HN := Lib.hid (fun (v : Value) (w1 : World) (h1 : GaAt w1 v l) => rneeded_any ⟨c, a, b, m, false⟩ l v w1 h1 hok hC2 hl40)
      rw [clm_short] at HH HN
      rw [hq]
      clear hC1 hC2 hok
      have hbs : Below w1.heap.size w1 (w1.alloc (clmO ⟨c, a, b, m, false⟩)) := (Below.refl _ _).alloc (Nat.le_refl _) _
      have HB2 := Lib.hid (HB1.out.trans (hbs.mono HB1.out.size))
      have HV2 := Lib.hid (HV1.out.below hbs (Nat.le_refl _))
      have KX := Lib.hid (block_new w1 (clmO ⟨c, a, b, m, false⟩) _ rfl)
      have hd1 : ¬ a < 0 := by omega
      have hd2 : ¬ b < a := by omega
      have hd3 : ¬ c.n < b := by omega
      clear hbs
      go_upto_region 7 with fail
      generalize w1.alloc (clmO ⟨c, a, b, m, false⟩) = w2 at *
      clear hce
      have cx := block_cell KX.out
      go_wp2_with fail
      refine (HH.out _ _ HV2.out).mono ?_
      rintro e w3 ⟨rfl, hb3⟩
      have HB3 := Lib.hid (HB2.out.trans (hb3.mono HB2.out.size))
      have HV3 := Lib.hid (HV2.out.below hb3 (Nat.le_refl _))
      have KX3 := Lib.hid (keepZ KX.out hb3)
      clear hb3 cx
      have cx := block_cell KX3.out
      cases hcl : shortB c a.toNat b.toNat m l
      · obtain ⟨e1, e2⟩ := why_none HQ.out hcl
        have E1 := Lib.hid e1
        have E2 := Lib.hid e2
        clear hcl e1 e2
        go_wp2
        refine bodyPost_ret (v := .tuple #[.slice none 0 0, .int .i64 3]) (by simp [results, Try.results20, go_sem]) rfl ⟨_, by rw [E1.out], by rw [E2.out]; exact InAt.nil _, HB3.out⟩
      · obtain ⟨e1, e2⟩ := why_ok HQ.out hcl
        have E1 := Lib.hid e1
        have E2 := Lib.hid e2
        clear hcl e1 e2
        go_wp2_with fail
        refine (HN.out _ _ HV3.out).mono ?_
        rintro e w4 ⟨v4, rfl, hi4, hb4⟩
        have HI := Lib.hid hi4
        have HB4 := Lib.hid (HB3.out.trans (hb4.mono HB3.out.size))
        obtain ⟨a4, c4, rfl, _, _, _⟩ := hi4
        go_wp2
        refine bodyPost_ret (v := .tuple #[_, .int .i64 0]) ?_ rfl ⟨_, by rw [E1.out], by rw [E2.out]; exact HI.out, HB4.out⟩
        simp [results, Try.results20, go_sem]
    · have HE := wcr_arg hq hr
      obtain ⟨e1, e2⟩ := why_bad (m := m) (show ¬ crunM c l a b = 0 by rw [HE]; decide)
      have E1 := Lib.hid (e1.trans HE)
      have E2 := Lib.hid e2
      rw [hq]
      clear e1 e2 HE
      go_upto_region 4 with fail
      by_cases h0 : a < 0
      · go_wp2
        refine bodyPost_ret (v := .tuple #[.slice none 0 0, .int .i64 1]) (by simp [results, Try.results20, go_sem]) rfl ⟨_, by rw [E1.out], by rw [E2.out]; exact InAt.nil _, HB1.out⟩
      · by_cases h1 : b < a
        · go_wp2
          refine bodyPost_ret (v := .tuple #[.slice none 0 0, .int .i64 1]) (by simp [results, Try.results20, go_sem]) rfl ⟨_, by rw [E1.out], by rw [E2.out]; exact InAt.nil _, HB1.out⟩
        · have h2 : c.n < b := by omega
          go_wp2
          refine bodyPost_ret (v := .tuple #[.slice none 0 0, .int .i64 1]) (by simp [results, Try.results20, go_sem]) rfl ⟨_, by rw [E1.out], by rw [E2.out]; exact InAt.nil _, HB1.out⟩
  · have HE := wcr_chk (a := a) (b := b) hq
    obtain ⟨e1, e2⟩ := why_bad (m := m) (show ¬ crunM c l a b = 0 by rw [HE]; exact hq)
    have E1 := Lib.hid (e1.trans HE)
    have E2 := Lib.hid e2
    have hz : (chkM c l != 0) = true := by simpa using hq
    clear hq e1 e2 HE
    generalize chkM c l = q at *
    go_wp2
    refine bodyPost_ret (v := .tuple #[.slice none 0 0, .int .i64 q]) (by simp [results, Try.results20, go_sem]) rfl ⟨_, by rw [E1.out], by rw [E2.out]; exact InAt.nil _, HB1.out⟩

end Go.Proofs.Ythgcnakbbmknoaa
