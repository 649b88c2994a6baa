/- Walks of layer 2 (chain), parts: the program's Last. -/
import Derived.Test.YtkahhclmmlkpjaaSi
namespace Go.Proofs.Ytkahhclmmlkpjaa
open Go.RowKit

theorem life_nope {P : Prt} {l : List Us} {g : Bool} (h : partM P l = 0) (h2 : reachN P l < l.length) : lifeM P l g = (0, 3) := by unfold lifeM; rw [if_pos h, if_pos h2]
theorem life_yes {P : Prt} {l : List Us} {g : Bool} (h : partM P l = 0) (h2 : ¬ reachN P l < l.length) : lifeM P l g = (firstM P l g, 0) := by unfold lifeM; rw [if_pos h, if_neg h2]

set_option maxRecDepth 100000 in
set_option maxHeartbeats 8000000 in
theorem klast_any (P : Prt) (l pl : List Us) (bv v pv : Value) (w : World) (hv : SpAt w bv P.rs) (hl : UsAt w v l) (hp : UsAt w pv pl) (hn1 : l.length ≤ 2000000) (hn2 : pl.length ≤ 2000000) :
    Calls Try.prog 50 #[prtV P bv, v, pv] w fun e w' => e = .returned (lifeV (lastM P l pl)) ∧ Below w.heap.size w w' := by
  have HU0 := Lib.hid hl
  have HP0 := Lib.hid hp
  have HV0 := Lib.hid hv
  obtain ⟨a, cap, rfl, hrn, hcap, hc⟩ := hv
  obtain ⟨ua, ucap, rfl, un, ucl, uc⟩ := hl
  obtain ⟨pa, pcap, rfl, pn, pcl, pc⟩ := hp
  obtain ⟨al, hal⟩ : ∃ al, l ++ pl = al := ⟨_, rfl⟩
  have HAL := Lib.hid hal
  have HLEN := Lib.hid (show al.length = l.length + pl.length by rw [← hal]; exact List.length_append)
  have hb2 := blw2 w (Obj.cells #[Value.slice a P.rs.length cap, .int .i64 P.wo, .int .i64 P.tu, .int .i64 P.ag] 54) (.cells #[.slice ua l.length ucap, .slice pa pl.length pcap] 55)
  have k0 := two_od w (Obj.cells #[Value.slice a P.rs.length cap, .int .i64 P.wo, .int .i64 P.tu, .int .i64 P.ag] 54) (.cells #[.slice ua l.length ucap, .slice pa pl.length pcap] 55)
  have k1 := two_nw w (Obj.cells #[Value.slice a P.rs.length cap, .int .i64 P.wo, .int .i64 P.tu, .int .i64 P.ag] 54) (.cells #[.slice ua l.length ucap, .slice pa pl.length pcap] 55)
  have K0 := Lib.hid k0
  have K1 := Lib.hid k1
  have HB := Lib.hid hb2
  clear hc uc pc k0 k1 hb2 hal
  go_enter Try.func50, Try.ntmps50
  go_wp2_with fail
  generalize (w.alloc (Obj.cells #[Value.slice a P.rs.length cap, .int .i64 P.wo, .int .i64 P.tu, .int .i64 P.ag] 54)).alloc (.cells #[.slice ua l.length ucap, .slice pa pl.length pcap] 55) = wA at *
  have c1 := block_cell K1.out
  refine (cu_concat (w.heap.size + 1) _ _ l pl _ (c1 0) (c1 1) (lt_of_block K1.out) (HU0.out.below HB.out (Nat.le_refl _)) (HP0.out.below HB.out (Nat.le_refl _)) hn1 hn2).mono ?_
  rintro e w3 ⟨v3, rfl, h3, hb3⟩
  rw [HAL.out] at h3
  have HA3 := Lib.hid h3
  have HBW3 := Lib.hid (HB.out.trans (hb3.mono HB.out.size))
  have K3 := Lib.hid ((hb3.block _ (lt_of_block K0.out)).trans K0.out)
  have HV3 := Lib.hid (HV0.out.below HBW3.out (Nat.le_refl _))
  have HP3 := Lib.hid (HP0.out.below HBW3.out (Nat.le_refl _))
  obtain ⟨a3, c3, rfl, _, _, _⟩ := h3
  clear hb3 c1
  have hce := block_cell K3.out
  go_wp2_with fail
  refine (kcheckPart_any P al _ _ _ HV3.out HA3.out).mono ?_
  rintro e w4 ⟨rfl, hb4⟩
  clear hce
  have hce := block_cell ((hb4.block _ (lt_of_block K3.out)).trans K3.out)
  have HB4 := Lib.hid hb4
  have HBW4 := Lib.hid (HBW3.out.trans (hb4.mono HBW3.out.size))
  clear hb4
  by_cases hq : partM P al = 0
  · have HLA := Lib.hid (fun h => last_arg (P := P) (l := l) (k := pl) (by rw [HAL.out]; exact hq) h)
    have HLN := Lib.hid (fun h => (show _ → _ from by have := last_none (P := P) (l := l) (k := pl); rw [HAL.out] at this; exact this hq) h)
    have HLL := Lib.hid (fun h => (show _ → _ from by have := last_all (P := P) (l := l) (k := pl); rw [HAL.out] at this; exact this hq) h)
    have HLS := Lib.hid (fun h => (show _ → _ from by have := last_some (P := P) (l := l) (k := pl); rw [HAL.out] at this; exact this hq) h)
    have HE1 := Lib.hid (fun h => life_nope (P := P) (l := al) (g := true) hq h)
    have HE2 := Lib.hid (fun h => life_yes (P := P) (l := al) (g := true) hq h)
    rw [hq]
    clear hq
    cases hm : pl.any (fun u => u.m)
    · have HM := Lib.hid hm
      clear hm
      go_wp2_with fail
      refine (containsUs_any _ pl _ _ _ (HP3.out.below HB4.out (Nat.le_refl _)) HM.out (fun x w1 _ _ => isM_any x w1)).mono ?_
      rintro e w5 ⟨rfl, hb5⟩
      have HB5 := Lib.hid (HB4.out.trans (hb5.mono HB4.out.size))
      have HBW5 := Lib.hid (HBW4.out.trans (hb5.mono HBW4.out.size))
      clear hce
      have hce := block_cell ((HB5.out.block _ (lt_of_block K3.out)).trans K3.out)
      clear hb5
      go_wp2_with fail
      refine (kbeyond_any P al _ _ _ (HV3.out.below HB5.out (Nat.le_refl _)) (HA3.out.below HB5.out (Nat.le_refl _))).mono ?_
      rintro e w6 ⟨rfl, hb6⟩
      have HBW6 := Lib.hid (HBW5.out.trans (hb6.mono HBW5.out.size))
      clear hb6 hce
      by_cases hr : reachN P al < al.length
      · have HE := Lib.hid (HLN.out HM.out hr)
        rw [HE1.out hr]
        clear hr
        go_wp2
        go_ret2
        exact ⟨congrArg (fun r => Ending.returned (lifeV r)) HE.out.symm, HBW6.out⟩
      · have HL1 := Lib.hid (fun h => HLL.out HM.out hr h)
        have HL2 := Lib.hid (fun h => HLS.out HM.out hr h)
        rw [HE2.out hr]
        obtain ⟨f1, f2⟩ := firstM_bd P al true
        have h40 : al.length ≤ 4000000 := by have := HLEN.out; omega
        clear hr
        generalize firstM P al true = f at *
        by_cases hneg : f < 0
        · have HE := Lib.hid (HL1.out hneg)
          go_wp2
          go_ret2
          exact ⟨congrArg (fun r => Ending.returned (lifeV r)) HE.out.symm, HBW6.out⟩
        · have HE := Lib.hid (HL2.out (by omega))
          go_wp2
          all_goals
            go_ret2
            refine ⟨?_, HBW6.out⟩
            rw [HE.out]
            refine congrArg Ending.returned ?_
            refine congrArg Value.tuple ?_
            simp
            omega
    · have HM := Lib.hid hm
      have HE := Lib.hid (HLA.out hm)
      clear hm
      go_wp2_with fail
      refine (containsUs_any _ pl _ _ _ (HP3.out.below HB4.out (Nat.le_refl _)) HM.out (fun x w1 _ _ => isM_any x w1)).mono ?_
      rintro e w5 ⟨rfl, hb5⟩
      go_wp2
      go_ret2
      exact ⟨congrArg (fun r => Ending.returned (lifeV r)) HE.out.symm, HBW4.out.trans (hb5.mono HBW4.out.size)⟩
  · have HE := Lib.hid (show lastM P l pl = (0, partM P al) by have := last_bad (P := P) (l := l) (k := pl); rw [HAL.out] at this; exact this hq)
    generalize partM P al = f at *
    go_wp2
    go_ret2
    exact ⟨congrArg (fun r => Ending.returned (lifeV r)) HE.out.symm, HBW4.out⟩

end Go.Proofs.Ytkahhclmmlkpjaa
