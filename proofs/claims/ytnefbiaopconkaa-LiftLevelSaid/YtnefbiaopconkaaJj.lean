/- LiftLevel walked. -/
import Derived.Test.YtnefbiaopconkaaJa
import Derived.Test.YtnefbiaopconkaaJl
namespace Go.Proofs.Ytnefbiaopconkaa
open Go.RowKit

theorem off_bd {L : Lif} (hl : 0 ≤ L.lev) (f : Int) (l : List Int) (k : Nat) : -L.lev ≤ offK L f l k ∧ offK L f l k ≤ L.lev := by
  unfold offK
  split
  · rename_i h
    have := inB_iff.1 (show inB (sinkM L f (lvK L f l k) (l.getD k 0)) (-L.lev) L.lev = true from h)
    exact this
  · omega

theorem offL_get {L : Lif} {f : Int} {l : List Int} {n k : Nat} (hk : k < n) : (offL L f l n).getD k 0 = offK L f l k := by
  unfold offL
  rw [List.getD_eq_getElem?_getD, List.getElem?_map, List.getElem?_range hk]
  rfl

/-- Behind which loads the car levels again: not the first one, and it is then off by nothing. -/
theorem aga_in {L : Lif} (hL : LOk L) {f : Int} {l : List Int} {x : Int} (hx : x ∈ agaL L f l l.length) : 1 ≤ x ∧ x < l.length ∧ offK L f l x.toNat = 0 := by
  unfold agaL natL at hx
  rw [List.mem_map] at hx
  obtain ⟨n, hn, rfl⟩ := hx
  rw [List.mem_filter, List.mem_range] at hn
  obtain ⟨h1, h2⟩ := hn
  have h3 : neaK L f l n = false := by simpa using h2
  refine ⟨?_, by show (n : Int) < l.length; omega, ?_⟩
  · rcases Nat.eq_zero_or_pos n with h0 | h0
    · subst h0
      have h4 : neaK L f l 0 = true := by
        unfold neaK nearB
        rw [inB_iff]
        have h5 : sinkM L f (lvK L f l 0) (l.getD 0 0) = 0 := by
          unfold sinkM
          simp only [lvK]
          rw [Int.sub_self, Int.zero_mul, Int.zero_tdiv]
        rw [h5]
        have := hL.l1
        omega
      rw [h4] at h3
      cases h3
    · show (1 : Int) ≤ (n : Int)
      omega
  · show offK L f l (Int.toNat (n : Int)) = 0
    rw [Int.toNat_natCast]
    unfold offK
    rw [h3]
    rfl

set_option maxRecDepth 100000 in
set_option maxHeartbeats 4000000 in
theorem lawLevel_any (L : Lif) (fv : Value) (f : Int) (l : List Int) (v : Value) (w : World) (hv : InAt w fv L.fl) (hl : InAt w v l) :
    Calls Try.prog 11 #[lifV L fv, .int .i64 f, v] w fun e w' => e = .returned (.bool true) ∧ Below w.heap.size w w' := by
  have HB := Lib.hid ((Below.refl w.heap.size w).alloc (Nat.le_refl _) (lifO L fv))
  have K0 := Lib.hid (block_new w (lifO L fv) w.heap.size rfl)
  have HSZ := Lib.hid (size_alloc w (lifO L fv))
  have HV := Lib.hid (hv.below HB.out (Nat.le_refl _))
  have HLv := Lib.hid (hl.below HB.out (Nat.le_refl _))
  obtain ⟨la, lcap, rfl, ln, lcp, lc⟩ := hl
  clear lc hv
  go_enter Try.func11, Try.ntmps11
  go_wp2_with fail
  generalize w.alloc (lifO L fv) = wA at *
  have c0 := block_cell K0.out
  go_wp2_with fail
  refine (far_any L fv _ HV.out).mono ?_
  rintro e w1 ⟨rfl, hb1⟩
  have HB1 := Lib.hid hb1
  clear hb1
  cases hfar : decide (30 < (L.fl.length : Int))
  rotate_left
  · go_wp2_with fail
    refine (works_any _).mono ?_
    rintro e w2 ⟨rfl, hb2⟩
    go_wp2
    go_ret
    exact ⟨rfl, HB.out.trans ((HB1.out.trans (hb2.mono HB1.out.size)).mono HB.out.size)⟩
  clear hfar
  by_cases hlen : 80 < (l.length : Int)
  · have HBW := Lib.hid (HB.out.trans (HB1.out.mono HB.out.size))
    go_wp2_with fail
    refine (works_any _).mono ?_
    rintro e wz ⟨rfl, hbz⟩
    go_wp2
    go_ret
    exact ⟨rfl, (HBW.out).trans (hbz.mono (HBW.out).size)⟩
  clear c0
  have c0 := block_cell (keepZ K0.out HB1.out)
  cases hok : okB L
  · have HK := Lib.hid (chkE_no (x := 0) hok).symm
    clear hok
    go_wp2_with fail
    refine (int_is HK.out (rCheck_any L fv _ (HV.out.below HB1.out (Nat.le_refl _)))).mono ?_
    rintro e w2 ⟨rfl, hb2⟩
    have HB2 := Lib.hid (HB.out.trans ((HB1.out.trans (hb2.mono HB1.out.size)).mono HB.out.size))
    go_wp2_with fail
    refine (works_any _).mono ?_
    rintro e wz ⟨rfl, hbz⟩
    go_wp2
    go_ret
    exact ⟨rfl, (HB2.out).trans (hbz.mono (HB2.out).size)⟩
  have HK := Lib.hid (chkE_ok (x := 0) hok).symm
  have hL := ok_of hok
  have HE := Lib.hid (show levE L f l = fitE (inB f 0 ((L.fl.length : Int) - 1) && inB (l.length : Int) 1 60 && loadsB L l) from (chkE_ok hok).symm)
  go_wp2_with fail
  refine (int_is HK.out (rCheck_any L fv _ (HV.out.below HB1.out (Nat.le_refl _)))).mono ?_
  rintro e w2 ⟨rfl, hb2⟩
  have HB2 := Lib.hid (HB1.out.trans (hb2.mono HB1.out.size))
  clear c0 hb2 hok
  have c0 := block_cell (keepZ K0.out HB2.out)
  go_wp2_with fail
  refine (lLevels_any L fv _ f l _ (HV.out.below HB2.out (Nat.le_refl _)) (HLv.out.below HB2.out (Nat.le_refl _))).mono ?_
  rintro e w3 ⟨va, vb, rfl, hia, hib, hb3⟩
  have HB3 := Lib.hid (HB2.out.trans (hb3.mono HB2.out.size))
  clear c0 hb3
  rw [HE.out]
  cases hq : (inB f 0 ((L.fl.length : Int) - 1) && inB (l.length : Int) 1 60 && loadsB L l)
  · have HBW := Lib.hid (HB.out.trans (HB3.out.mono HB.out.size))
    obtain ⟨xa, xc, rfl, _⟩ := hia
    obtain ⟨ya, yc, rfl, _⟩ := hib
    simp only [fitE, Bool.false_eq_true, if_false]
    clear hq hL
    go_wp2_with fail
    refine (works_any _).mono ?_
    rintro e wz ⟨rfl, hbz⟩
    go_wp2
    go_ret
    exact ⟨rfl, (HBW.out).trans (hbz.mono (HBW.out).size)⟩
  have hE : levE L f l = 0 := by rw [HE.out, hq]; rfl
  obtain ⟨_, i1, i2, _⟩ := lev_in hE
  simp only [fitE, if_true]
  rw [show levO L f l = offL L f l l.length from if_pos hE] at hia
  rw [show levA L f l = agaL L f l l.length from if_pos hE] at hib
  have hlo := offL_len L f l l.length
  have hla := agaL_len L f l l.length
  have HOG := Lib.hid (fun k hk => @offL_get L f l l.length k hk)
  have HOB := Lib.hid (fun k => off_bd hL.l1 f l k)
  have HAG := Lib.hid (fun k (hk : k < (agaL L f l l.length).length) => aga_in hL (getD_mem hk 0))
  have hlv1 := hL.l1
  have hlv2 := hL.l2
  generalize offL L f l l.length = OL at *
  generalize agaL L f l l.length = AL at *
  obtain ⟨xa, xc, rfl, xn, xm, hxc⟩ := hia
  obtain ⟨ya, yc, rfl, yn, ym, hyc⟩ := hib
  have HXC := Lib.hid hxc
  have HYC := Lib.hid hyc
  have HN := Lib.hid hlo
  have hln1 : ((OL.length : Int) != (l.length : Int)) = false := by rw [hlo]; simp
  have hol : OL.length ≤ 80 := by omega
  have hol2 : 1 ≤ OL.length := by omega
  have hal : AL.length ≤ 80 := by omega
  clear hq hE hL hxc hyc hlo hla i1 i2 HE
  go_wp2_with fail
  clear hln1
  generalize w3 = wB at *
  go_loopw [10] (fun i wr => ∃ k : Nat, k ≤ OL.length ∧ i = .int .i64 k ∧ Hid (Below wB.heap.size wB wr)) (fun i _ => OL.length - (intOf i).toNat)
  case atStart => exact ⟨0, Nat.zero_le _, rfl, Lib.hid (Below.refl _ _)⟩
  case round =>
    obtain ⟨k, hk, rfl, hb⟩ := hrel
    by_cases hlt : k < OL.length
    · obtain ⟨b, off, rfl, hbl, hcc⟩ := HXC.out (by omega)
      have g1 := in_at hb.out hbl hcc hlt
      have hx := HOG.out k (by have := HN.out; omega)
      rw [hx] at g1
      obtain ⟨o1, o2⟩ := HOB.out k
      generalize offK L f l k = x at *
      have hbx := HB3.out.trans (hb.out.mono HB3.out.size)
      have c0 := block_cell (keepZ K0.out hbx)
      have j0 : (0 : Int) ≤ k := by omega
      have j1 : (k : Int) < OL.length := by omega
      have d1 : decide (L.lev < x) = false := decide_eq_false (by omega)
      have d2 : decide (L.lev < -x) = false := decide_eq_false (by omega)
      have e1 : IntKind.i64.wrap (-x) = -x := wrap_i64_in (by omega) (by omega)
      clear hcc hx hbx
      go_wp2_with fail
      go_quiet (fail)
      go_wp2_with fail
      go_roundw
      case rel => exact ⟨k + 1, hlt, by go_num, Lib.hid (below_drewN hb.out _)⟩
      case measure => simp [intOf]; omega
    · have HBY := Lib.hid (HB3.out.trans (hb.out.mono HB3.out.size))
      generalize wr = wD at *
      go_wp2_with fail
      go_loopw [11] (fun i wr => ∃ k : Nat, k ≤ AL.length ∧ i = .int .i64 k ∧ Hid (Below wD.heap.size wD wr)) (fun i _ => AL.length - (intOf i).toNat)
      case atStart => exact ⟨0, Nat.zero_le _, rfl, Lib.hid (Below.refl _ _)⟩
      case round =>
        obtain ⟨j, hj, rfl, hb2⟩ := hrel
        by_cases hlt2 : j < AL.length
        · obtain ⟨b, off, rfl, hbl, hcc⟩ := HYC.out (by omega)
          obtain ⟨b2, off2, rfl, hbl2, hcc2⟩ := HXC.out (by omega)
          have hbw := hb.out.trans (hb2.out.mono hb.out.size)
          have g1 := in_at hbw hbl hcc hlt2
          obtain ⟨a1, a2, a3⟩ := HAG.out j hlt2
          generalize AL.getD j 0 = x at *
          have g2 := in_at hbw hbl2 hcc2 (show x.toNat < OL.length by have := HN.out; omega)
          have hx2 := HOG.out x.toNat (by omega)
          rw [hx2, a3] at g2
          have j0 : (0 : Int) ≤ j := by omega
          have j1 : (j : Int) < AL.length := by omega
          have j2 : (0 : Int) ≤ x := by omega
          have j3 : x < (OL.length : Int) := by have := HN.out; omega
          have d1 : decide (x < 1) = false := decide_eq_false (by omega)
          have d2 : decide ((OL.length : Int) ≤ x) = false := decide_eq_false (by omega)
          clear hcc hcc2 hx2 a3
          go_wp2_with fail
          go_roundw
          case rel => exact ⟨j + 1, hlt2, by go_num, hb2⟩
          case measure => simp [intOf]; omega
        · have HBX := Lib.hid (HB.out.trans ((HBY.out.trans (hb2.out.mono HBY.out.size)).mono HB.out.size))
          go_wp2_with fail
          refine (works_any _).mono ?_
          rintro e wz ⟨rfl, hbz⟩
          go_wp2
          go_ret
          exact ⟨rfl, (HBX.out).trans (hbz.mono (HBX.out).size)⟩

end Go.Proofs.Ytnefbiaopconkaa
