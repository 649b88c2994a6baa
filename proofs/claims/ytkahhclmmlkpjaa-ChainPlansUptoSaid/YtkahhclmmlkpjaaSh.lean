/- Walks of layer 2 (chain), parts: the specification's Last. -/
import Derived.Test.YtkahhclmmlkpjaaSg
namespace Go.Proofs.Ytkahhclmmlkpjaa
open Go.RowKit

theorem last_bad {P : Prt} {l k : List Us} (h : ¬ partM P (l ++ k) = 0) : lastM P l k = (0, partM P (l ++ k)) := by unfold lastM; rw [if_neg h]
theorem last_arg {P : Prt} {l k : List Us} (h : partM P (l ++ k) = 0) (h2 : k.any (fun u => u.m) = true) : lastM P l k = (0, 1) := by unfold lastM; rw [if_pos h, if_pos h2]
theorem last_none {P : Prt} {l k : List Us} (h : partM P (l ++ k) = 0) (h2 : k.any (fun u => u.m) = false) (h3 : reachN P (l ++ k) < (l ++ k).length) : lastM P l k = (0, 3) := by unfold lastM; rw [if_pos h, if_neg (by rw [h2]; simp), if_pos h3]
theorem last_all {P : Prt} {l k : List Us} (h : partM P (l ++ k) = 0) (h2 : k.any (fun u => u.m) = false) (h3 : ¬ reachN P (l ++ k) < (l ++ k).length) (h4 : firstM P (l ++ k) true < 0) : lastM P l k = ((k.length : Int), 0) := by unfold lastM; rw [if_pos h, if_neg (by rw [h2]; simp), if_neg h3, if_pos h4]
theorem last_some {P : Prt} {l k : List Us} (h : partM P (l ++ k) = 0) (h2 : k.any (fun u => u.m) = false) (h3 : ¬ reachN P (l ++ k) < (l ++ k).length) (h4 : ¬ firstM P (l ++ k) true < 0) : lastM P l k = (max (firstM P (l ++ k) true - l.length) (-1), 0) := by unfold lastM; rw [if_pos h, if_neg (by rw [h2]; simp), if_neg h3, if_neg h4]

theorem firstM_bd (P : Prt) (l : List Us) (g : Bool) : -1 ≤ firstM P l g ∧ firstM P l g ≤ l.length := by
  unfold firstM
  have := (spentN_spec P l g).1
  split <;> omega

theorem any_m {l : List Us} : l.any (fun u => u.m) = false ↔ ∀ i, i < l.length → (l.getD i Us.zero).m = false := by
  constructor
  · intro h i hi
    cases e : (l.getD i Us.zero).m
    · rfl
    · rw [any_true_of (d := Us.zero) (p := fun u => u.m) hi e] at h; cases h
  · exact any_false_of

set_option maxRecDepth 100000 in
set_option maxHeartbeats 8000000 in
theorem rlast_any (P : Prt) (l pl : List Us) (bv v pv : Value) (w : World) (hv : SpAt w bv P.rs) (hl : UsAt w v l) (hp : UsAt w pv pl) (hn : (l.length + pl.length) * 48 ≤ 140737488351232) :
    Calls Try.prog 51 #[prtV P bv, v, pv] w fun e w' => e = .returned (lifeV (lastM P l pl)) ∧ Below w.heap.size w w' := by
  obtain ⟨i0, hi, hz0, hz1, hz2⟩ := info_parts copyUses_any_info
  have hf : ∀ x, (usL x).length = 6 := fun _ => rfl
  have hf1 : ∀ x, ∀ u ∈ usL x, u.oneCell' = true := fun x u hu => by simp at hu; rcases hu with rfl | rfl | rfl | rfl | rfl | rfl <;> rfl
  have HU0 := Lib.hid hl
  have HP0 := Lib.hid hp
  have HV0 := Lib.hid hv
  obtain ⟨a, cap, rfl, hrn, hcap, hc⟩ := hv
  obtain ⟨ua, ucap, rfl, un, ucl, uc⟩ := hl
  obtain ⟨pa, pcap, rfl, pn, pcl, pc⟩ := hp
  have HPC := Lib.hid pc
  have hb2 := blw2 w (Obj.cells #[Value.slice a P.rs.length cap, .int .i64 P.wo, .int .i64 P.tu, .int .i64 P.ag] 54) (.cells #[] 89)
  have k0 := two_od w (Obj.cells #[Value.slice a P.rs.length cap, .int .i64 P.wo, .int .i64 P.tu, .int .i64 P.ag] 54) (.cells #[] 89)
  have hs2 : ((w.alloc (Obj.cells #[Value.slice a P.rs.length cap, .int .i64 P.wo, .int .i64 P.tu, .int .i64 P.ag] 54)).alloc (.cells #[] 89)).heap.size = w.heap.size + 2 := by simp only [size_alloc]
  have hox : ((w.alloc (Obj.cells #[Value.slice a P.rs.length cap, .int .i64 P.wo, .int .i64 P.tu, .int .i64 P.ag] 54)).alloc (.cells #[] 89)).ownsRow (w.heap.size + 1) 89 6 (.slice (some ⟨w.heap.size + 1, 0, none⟩) 0 0) 0 ([].flatMap usL) :=
    ⟨by simp, .inr ⟨w.heap.size + 1, 0, #[], rfl, Nat.le_refl _, two_nw _ _ _, Nat.le_refl _, by decide, by simp, by simp⟩⟩
  have E1 := Lib.hid (HU0.out.below hb2 (Nat.le_refl _))
  have EV := Lib.hid (HV0.out.below hb2 (Nat.le_refl _))
  have HOX := Lib.hid hox
  have K0 := Lib.hid k0
  have HB := Lib.hid hb2
  have HSZ := Lib.hid (show w.heap.size + 1 ≤ ((w.alloc (Obj.cells #[Value.slice a P.rs.length cap, .int .i64 P.wo, .int .i64 P.tu, .int .i64 P.ag] 54)).alloc (.cells #[] 89)).heap.size by rw [hs2]; omega)
  clear hc uc pc k0 hs2 hb2 hox
  obtain ⟨al, hal⟩ : ∃ al, l ++ pl = al := ⟨_, rfl⟩
  have HAL := Lib.hid hal
  have HLEN := Lib.hid (show al.length = l.length + pl.length by rw [← hal]; exact List.length_append)
  clear hal
  go_enter Try.func51, Try.ntmps51
  go_wp2_with (first | (at_builtin; refine app_elAt rfl (.tmp 13) (.tmp 14) 55 rfl (w.heap.size + 1) 89 i0 (.agg #[.int .i64 0, .int .i64 0, .int .i64 0, .bool false, .int .i64 0, .int .i64 0]) 6 48 Try.underlying55 hi hz0 hz1 hz2 rfl (by decide) usL hf hf1 _ [] l rfl HOX.out _ rfl E1.out (by unfold maxLen; simp; omega) (by simp; omega) HSZ.out ?_; intro v2 w2 ho2 hb2; have HO2 := Lib.hid ho2; have HB2 := Lib.hid hb2; obtain ⟨a2, c2, rfl, _⟩ := ownsRow_shape ho2; clear ho2 hb2) |
    (at_builtin; refine app_elAt rfl (.tmp 15) (.tmp 16) 55 rfl (w.heap.size + 1) 89 i0 (.agg #[.int .i64 0, .int .i64 0, .int .i64 0, .bool false, .int .i64 0, .int .i64 0]) 6 48 Try.underlying55 hi hz0 hz1 hz2 rfl (by decide) usL hf hf1 _ l pl rfl HO2.out _ rfl (HP0.out.below (HB.out.trans (HB2.out.mono (Nat.le_succ _))) (Nat.le_refl _)) (by unfold maxLen; omega) (by omega) (Nat.le_trans HSZ.out HB2.out.size) ?_; intro v3 w3 ho3 hb3; rw [HAL.out] at ho3; have HO3 := Lib.hid ho3; have HB3 := Lib.hid (HB2.out.trans hb3); obtain ⟨a3, c3, rfl, _⟩ := ownsRow_shape ho3; have hce := block_cell ((HB3.out.block _ (Nat.lt_succ_self _)).trans K0.out); clear ho3 hb3))
  have k3 := (HB3.out.block _ (Nat.lt_succ_self _)).trans K0.out
  have hbw3 := HB.out.trans (HB3.out.mono (Nat.le_succ _))
  have hall := ElAt.of_own (m := 6) (f := usL) (xs := al) (fun _ => rfl) HO3.out
  have HV3 := Lib.hid (HV0.out.below hbw3 (Nat.le_refl _))
  have HP3 := Lib.hid (HP0.out.below hbw3 (Nat.le_refl _))
  have HA3 := Lib.hid hall
  have K3 := Lib.hid k3
  have HBW3 := Lib.hid hbw3
  have HPC3 := Lib.hid (fun (h : 0 < pl.length) => HPC.out h)
  clear k3 hbw3 hall HO2 HB2 HO3 HB3 HOX E1 EV HSZ HB K0
  refine (rcheckPart_any P al _ _ _ HV3.out HA3.out).mono ?_
  rintro e w4 ⟨rfl, hb4⟩
  clear hce
  have hce := block_cell ((hb4.block _ (lt_of_block K3.out)).trans K3.out)
  have HB4 := Lib.hid hb4
  have HBW4 := Lib.hid (HBW3.out.trans (hb4.mono HBW3.out.size))
  clear hb4
  by_cases hq : partM P al = 0
  · have HQ := Lib.hid hq
    obtain ⟨hP, h40, hU⟩ := partM_ok hq
    have HPK := Lib.hid hP
    have HUO := Lib.hid hU
    have HLA := Lib.hid (fun h => last_arg (P := P) (l := l) (k := pl) (by rw [HAL.out]; exact hq) h)
    have HLN := Lib.hid (fun h => (show _ → _ from by have := last_none (P := P) (l := l) (k := pl); rw [HAL.out] at this; exact this hq) h)
    have HLL := Lib.hid (fun h => (show _ → _ from by have := last_all (P := P) (l := l) (k := pl); rw [HAL.out] at this; exact this hq) h)
    have HLS := Lib.hid (fun h => (show _ → _ from by have := last_some (P := P) (l := l) (k := pl); rw [HAL.out] at this; exact this hq) h)
    rw [hq]
    clear hq hP hU
    go_wp2_with fail
    go_loop [10] (fun i => ∃ k : Nat, k ≤ pl.length ∧ i = .int .i64 k ∧ Hid (∀ j, j < k → (pl.getD j Us.zero).m = false)) (fun i => pl.length - (intOf i).toNat)
    case atStart => exact ⟨0, Nat.zero_le _, rfl, fun j hj => by omega⟩
    case round =>
      obtain ⟨k, hk, rfl, hf⟩ := hrel
      by_cases hlt : k < pl.length
      · obtain ⟨b, off, rfl, hbl, hc⟩ := HPC3.out (by omega)
        obtain ⟨_, _, _, g4, _, _⟩ := us_at HBW4.out hbl hc hlt
        have hz2 : b < w4.heap.size := by have := HBW4.out.size; omega
        have k1 : (0 : Int) ≤ k := by omega
        have k2 : (k : Int) < pl.length := by omega
        clear hc
        cases hm : (pl.getD k Us.zero).m
        · have HM := Lib.hid hm
          rw [hm] at g4
          clear hm
          go_wp2
          go_round
          case rel => exact ⟨k + 1, hlt, by go_num, fun j hj => by
            by_cases hjk : j = k
            · rw [hjk]; exact HM.out
            · exact hf.out j (by omega)⟩
          case measure => simp [intOf]; omega
        · have HE := Lib.hid (HLA.out (any_true_of (d := Us.zero) (p := fun u => u.m) hlt hm))
          rw [hm] at g4
          clear hm
          go_wp2
          go_ret2
          exact ⟨congrArg (fun r => Ending.returned (lifeV r)) HE.out.symm, HBW4.out⟩
      · have HNM := Lib.hid (any_m.2 (fun i hi => hf.out i (by omega)))
        go_wp2_with fail
        refine (rwear0_any P al _ _ _ (HV3.out.below HB4.out (Nat.le_refl _)) (HA3.out.below HB4.out (Nat.le_refl _)) HQ.out).mono ?_
        rintro e w5 ⟨hb5, ⟨hr, rfl⟩ | ⟨hr, v5, rfl, ho⟩⟩
        · have HE := Lib.hid (HLN.out HNM.out hr)
          clear hr
          go_wp2
          go_ret2
          exact ⟨congrArg (fun r => Ending.returned (lifeV r)) HE.out.symm, HBW4.out.trans (hb5.mono HBW4.out.size)⟩
        · have hrn : ¬ reachN P al < al.length := by omega
          have HL1 := Lib.hid (fun h => HLL.out HNM.out hrn h)
          have HL2 := Lib.hid (fun h => HLS.out HNM.out hrn h)
          have hel := ElAt.of_own (m := 2) (f := spnL) (xs := wearL P al) (fun _ => rfl) (by rw [wearL_len]; exact ho)
          have HEL := Lib.hid hel
          obtain ⟨a5, c5, rfl, _⟩ := ownsRow_shape ho
          have hb35 := HB4.out.trans (hb5.mono HB4.out.size)
          have HB35 := Lib.hid hb35
          have HBW5 := Lib.hid (HBW4.out.trans (hb5.mono HBW4.out.size))
          clear hce
          have hce := block_cell ((hb35.block _ (lt_of_block K3.out)).trans K3.out)
          clear hr hrn hel ho hb5 hb35
          go_wp2_with fail
          refine (rbeyondHi_any P al _ _ _ _ (HV3.out.below HB35.out (Nat.le_refl _)) (HA3.out.below HB35.out (Nat.le_refl _)) HEL.out HPK.out HUO.out h40).mono ?_
          rintro e w6 ⟨rfl, hb6⟩
          have HBW6 := Lib.hid (HBW5.out.trans (hb6.mono HBW5.out.size))
          obtain ⟨f1, f2⟩ := firstM_bd P al true
          clear hb6 hce
          generalize firstM P al true = f at *
          by_cases hneg : f < 0
          · have HE := Lib.hid (HL1.out hneg)
            go_wp2
            go_ret2
            exact ⟨congrArg (fun r => Ending.returned (lifeV r)) HE.out.symm, HBW6.out⟩
          · have HE := Lib.hid (HL2.out (by omega))
            go_wp2
            all_goals
              go_ret2
              refine ⟨?_, HBW6.out⟩
              rw [HE.out]
              refine congrArg Ending.returned ?_
              refine congrArg Value.tuple ?_
              simp
              omega
  · have HE := Lib.hid (show lastM P l pl = (0, partM P al) by have := last_bad (P := P) (l := l) (k := pl); rw [HAL.out] at this; exact this hq)
    generalize partM P al = f at *
    go_wp2
    go_ret2
    exact ⟨congrArg (fun r => Ending.returned (lifeV r)) HE.out.symm, HBW4.out⟩

end Go.Proofs.Ytkahhclmmlkpjaa
