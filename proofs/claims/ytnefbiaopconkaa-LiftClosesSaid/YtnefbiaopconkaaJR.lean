/- LiftCloses walked. -/
import Derived.Test.YtnefbiaopconkaaJQ
import Derived.Test.YtnefbiaopconkaaJO
import Derived.Test.YtnefbiaopconkaaJD
namespace Go.Proofs.Ytnefbiaopconkaa
open Go.RowKit

set_option maxRecDepth 100000 in
set_option maxHeartbeats 8000000 in
theorem lawCloses_any (d : Dor) (l : List Int) (v : Value) (n : Int) (w : World) (hv : InAt w v l) :
    Calls Try.prog 14 #[dorV d, v, .int .i64 n] w fun e w' => e = .returned (.bool true) ∧ Below w.heap.size w w' := by
  have HB := Lib.hid ((Below.refl w.heap.size w).alloc (Nat.le_refl _) (dorO d))
  have K0 := Lib.hid (block_new w (dorO d) w.heap.size rfl)
  have HV := Lib.hid (hv.below HB.out (Nat.le_refl _))
  obtain ⟨la, lcap, rfl, ln, lcp, lc⟩ := hv
  clear lc
  go_enter Try.func14, Try.ntmps14
  go_upto_region 1 with fail
  generalize w.alloc (dorO d) = wA at *
  have c0 := block_cell K0.out
  by_cases hbig : (20 : Int) < (l.length : Int)
  · go_wp2_with fail
    refine (works_any _).mono ?_
    rintro e wz ⟨rfl, hbz⟩
    go_wp2
    go_ret
    exact ⟨rfl, (HB.out).trans (hbz.mono (HB.out).size)⟩
  cases hd : dorB d
  · have HD := Lib.hid (@dorE_no d true hd).symm
    clear hd
    go_wp2_with (go_at_call 46; refine (int_is HD.out (rCheckDoor_any d _)).mono ?_; rintro e w1 ⟨rfl, hb1⟩)
    have HB1 := Lib.hid (HB.out.trans (hb1.mono HB.out.size))
    refine (works_any _).mono ?_
    rintro e wz ⟨rfl, hbz⟩
    go_wp2
    go_ret
    exact ⟨rfl, (HB1.out).trans (hbz.mono (HB1.out).size)⟩
  have HD := Lib.hid (@dorE_ok d true hd).symm
  have HDB := Lib.hid hd
  obtain ⟨d1, d2, d3, d4⟩ := dor_of hd
  clear hd
  by_cases n0 : n < 0
  · go_wp2_with (go_at_call 46; refine (int_is HD.out (rCheckDoor_any d _)).mono ?_; rintro e w1 ⟨rfl, hb1⟩)
    have HB1 := Lib.hid (HB.out.trans (hb1.mono HB.out.size))
    refine (works_any _).mono ?_
    rintro e wz ⟨rfl, hbz⟩
    go_wp2
    go_ret
    exact ⟨rfl, (HB1.out).trans (hbz.mono (HB1.out).size)⟩
  by_cases n1 : 20 < n
  · go_wp2_with (go_at_call 46; refine (int_is HD.out (rCheckDoor_any d _)).mono ?_; rintro e w1 ⟨rfl, hb1⟩)
    have HB1 := Lib.hid (HB.out.trans (hb1.mono HB.out.size))
    refine (works_any _).mono ?_
    rintro e wz ⟨rfl, hbz⟩
    go_wp2
    go_ret
    exact ⟨rfl, (HB1.out).trans (hbz.mono (HB1.out).size)⟩
  obtain ⟨N, rfl⟩ : ∃ N : Nat, n = (N : Int) := ⟨n.toNat, by omega⟩
  go_upto_region 3 with (go_at_call 46; refine (int_is HD.out (rCheckDoor_any d _)).mono ?_; rintro e w1 ⟨rfl, hb1⟩)
  have HB1 := Lib.hid hb1
  have HV1 := Lib.hid (HV.out.below HB1.out (Nat.le_refl _))
  clear c0 hb1 HV
  have c0 := block_cell (keepZ K0.out HB1.out)
  cases hq : breB l
  · have HQ := Lib.hid hq
    clear hq
    go_upto_region 8 with (go_at_call 47; refine (same_is HQ.out (rBreaks_any _ l _ HV1.out)).mono ?_; rintro e w2 ⟨rfl, rfl⟩)
    have HBT := HB1
    generalize w1 = wB at *
    clear c0 HV1
    have c0 := block_cell (keepZ K0.out HBT.out)
    by_cases hS : 2 * (d.wide - 1) + d.wait = 0
    · have hSb : (2 * (d.wide - 1) + d.wait == (0 : Int)) = true := beq_iff_eq.2 hS
      clear hS
      go_wp2_with fail
      refine (works_any _).mono ?_
      rintro e wz ⟨rfl, hbz⟩
      go_wp2
      go_ret
      exact ⟨rfl, ((HB.out.trans (HBT.out.mono HB.out.size))).trans (hbz.mono ((HB.out.trans (HBT.out.mono HB.out.size))).size)⟩
    have hSb : (2 * (d.wide - 1) + d.wait == (0 : Int)) = false := beq_eq_false_iff_ne.2 hS
    have HSP : Hid (0 < stepM d) := Lib.hid (by unfold stepM; omega)
    clear hS
    obtain ⟨i0, hi0, hz0, hz1, hz2⟩ := info_parts infoInt
    go_wp2_with fail
    go_loopw [12, 13] (fun vv ii wr => ∃ k : Nat, k ≤ N ∧ ii = .int .i64 k ∧ Hid (wr.ownsRow wB.heap.size 3 1 vv (brwL d k).length ((brwL d k).map (Value.int .i64))) ∧ Hid (Below wB.heap.size wB wr)) (fun _ ii _ => N - (intOf ii).toNat)
    case atStart => exact ⟨0, Nat.zero_le _, rfl, Lib.hid ⟨by simp [brwL], Or.inl ⟨rfl, by simp [brwL]⟩⟩, Lib.hid (Below.refl _ _)⟩
    case round =>
      obtain ⟨k, hk, rfl, hO, hb⟩ := hrel
      obtain ⟨ra, rc, rfl, _⟩ := ownsRow_shape hO.out
      have HBR := Lib.hid (HBT.out.trans (hb.out.mono HBT.out.size))
      clear c0
      have c0 := block_cell (keepZ K0.out HBR.out)
      by_cases hlt : k < N
      · have hsz := hb.out.size
        have hol : (brwL d k).length ≤ 8000 := by rw [brwL_len]; omega
        have HOS := Lib.hid (brwL_succ d k)
        obtain ⟨p1, p2⟩ := dwe_bd HDB.out (show (0 : Int) ≤ k by omega) (show (k : Int) ≤ 20 by omega)
        have j1 : (k : Int) < N := by omega
        generalize brwL d k = A at *
        go_wp2_with ((at_builtin; refine wpList_append_own _ rfl (.tmp 91) (.tmp 103) 22 rfl wB.heap.size 3 i0 (.int .i64 0) 1 8 Try.underlying22 hi0 hz0 hz1 hz2 rfl (by decide) _ (A).length ((A).map (Value.int .i64)) rfl ?c0x9 _ _ _ [.int .i64 (2 * d.wide + d.wait - 1 + (k : Int) * (2 * (d.wide - 1) + d.wait))] rfl rfl ?c1x9 ?c2x9 ?c3x9 ?c4x9 ?c5x9 ?_))
        case c0x9 => exact World.ownsRow.alloc (hO).out _
        try (case c1x9 => exact one_cell _ _ _ rfl)
        case c2x9 => first | rfl | (intro u hu; simp only [List.mem_cons, List.not_mem_nil, or_false] at hu; subst hu; rfl)
        case c3x9 => unfold maxLen; omega
        case c4x9 => omega
        case c5x9 => first | exact Nat.le_trans hsz (al_le _ _) | (simp; omega) | omega
        intro v3 w3 hown3 hgrow3 _
        obtain ⟨_, _, _, hob3⟩ := ownsRow_shape (hO).out
        have hbX3 := below_grown hgrow3 hob3 (Nat.le_trans hsz (al_le _ _))
        have HBA3 := Lib.hid (((Below.refl _ _).alloc hsz _).trans hbX3)
        have HO3 := Lib.hid (own_snoc hown3)
        obtain ⟨r3, c3, rfl, _⟩ := ownsRow_shape hown3
        clear hown3 hgrow3 hbX3 hob3
        have HB3r := Lib.hid (hb.out.trans HBA3.out)
        go_wp2
        go_roundw
        case rel => exact ⟨k + 1, hlt, by first | rfl | go_num, by rw [HOS.out]; first | exact HO3 | (rw [List.length_append] at HO3; exact HO3), HB3r⟩
        case measure => simp [intOf] <;> omega
      obtain rfl : N = k := by omega
      have hin := InAt.of_own hO.out
      have hE2 : dooE d (brwL d N) = 0 := by show dorE d (breB _) = 0; rw [← dorE_ok HDB.out, wor_brk HDB.out HSP.out (by omega)]; rfl
      have hM := wor_doorN HDB.out HSP.out (n := N) (by omega)
      have HDO2 := Lib.hid (dooO_ok hE2)
      have HDE2 := Lib.hid hE2
      have hlb : (((outL d (brwL d N) (doorN d (brwL d N))).length : Int) == dweM d N) = true := beq_iff_eq.2 (by rw [outL_len]; exact hM)
      have HDW2 := Lib.hid (dweR_ok (d := d) (n := N) (dor_zero.2 ⟨HDB.out, inB_iff.2 ⟨by omega, by omega⟩⟩))
      have HIN := Lib.hid hin
      clear hin hE2 hM hO
      generalize brwL d N = A at *
      go_wp2_with fail
      refine (lDoors_any d _ A _ HIN.out).mono ?_
      rintro e w5 ⟨va5, rfl, hia5, hb5⟩
      have HB5 := Lib.hid (HBR.out.trans (hb5.mono HBR.out.size))
      rw [HDO2.out] at hia5
      rw [HDE2.out]
      obtain ⟨xa5, xc5, rfl, xb5, xd5, _⟩ := hia5
      clear c0 hb5
      have c0 := block_cell (keepZ K0.out HB5.out)
      generalize outL d A (doorN d A) = OL at *
      go_wp2_with fail
      refine (lDwell_any d N _).mono ?_
      rintro e w6 ⟨rfl, hb6⟩
      have HB6 := Lib.hid (HB5.out.trans (hb6.mono HB5.out.size))
      rw [HDW2.out]
      generalize dweM d N = M at *
      dsimp only
      clear c0 hb6
      go_wp2_with (go_at_call 16; refine (works_any _).mono ?_; rintro e w7 ⟨rfl, hb7⟩)
      have HB7 := Lib.hid (HB.out.trans ((HB6.out.trans (hb7.mono HB6.out.size)).mono HB.out.size))
      go_ret
      exact ⟨rfl, HB7.out⟩
  · have HQ := Lib.hid hq
    have hE : dooE d l = 0 := by show dorE d (breB l) = 0; rw [← dorE_ok HDB.out, hq]; rfl
    obtain ⟨_, h20, hs⟩ := doo_in hE
    obtain ⟨z1, z2, z3, z4, _⟩ := doorN_spec HDB.out h20
    have HDO := Lib.hid (dooO_ok hE)
    have HDE := Lib.hid hE
    have hdwe : dweE d l.length = 0 := dor_zero.2 ⟨HDB.out, inB_iff.2 ⟨by omega, by omega⟩⟩
    have HDW := Lib.hid (dweR_ok hdwe)
    clear hq hE hs hdwe
    have HZ := Lib.hid (show (outL d l (doorN d l)).length = doorN d l from outL_len _ _ _)
    have HLAST := Lib.hid (show (outL d l (doorN d l)).getD (doorN d l - 1) 0 = 0 by
      obtain ⟨m, hm⟩ : ∃ m, doorN d l = m + 1 := ⟨doorN d l - 1, by omega⟩
      rw [hm] at z2 ⊢
      rw [outL_succ, show m + 1 - 1 = m from rfl, List.getD_eq_getElem?_getD, List.getElem?_append_right (by rw [outL_len]; exact Nat.le_refl _), outL_len, Nat.sub_self]
      exact z2)
    have hle : (doorN d l : Int) ≤ dweM d l.length := by rw [show dweM d l.length = 2 * d.wide + d.wait + stepM d * (l.length : Nat) by show 2 * d.wide + d.wait + (l.length : Int) * stepM d = _; rw [Int.mul_comm (l.length : Int) (stepM d)]]; exact z4
    clear z1 z2 z4
    go_wp2_with (go_at_call 47; refine (same_is HQ.out (rBreaks_any _ l _ HV1.out)).mono ?_; rintro e w2 ⟨rfl, rfl⟩)
    refine (lDoors_any d _ l _ HV1.out).mono ?_
    rintro e w2 ⟨va, rfl, hia, hb2⟩
    have HB2 := Lib.hid (HB1.out.trans (hb2.mono HB1.out.size))
    rw [HDO.out] at hia
    rw [HDE.out]
    have HIA := Lib.hid hia
    obtain ⟨xa, xc, rfl, xb, _⟩ := hia
    clear c0
    have c0 := block_cell (keepZ K0.out HB2.out)
    go_wp2_with fail
    refine (lDwell_any d l.length _).mono ?_
    rintro e w3 ⟨rfl, hb3⟩
    have HB3 := Lib.hid (HB2.out.trans (hb3.mono HB2.out.size))
    have HIB := Lib.hid (HIA.out.below hb3 (Nat.le_refl _))
    rw [HDW.out]
    rw [HZ.out] at xb ⊢
    obtain ⟨b, off, rfl, hbl, hc⟩ := in_get HIB.out (k := doorN d l - 1) (by rw [HZ.out]; omega)
    rw [HLAST.out] at hc
    generalize doorN d l = DN at *
    generalize dweM d l.length = DM at *
    obtain ⟨m, rfl⟩ : ∃ m, DN = m + 1 := ⟨DN - 1, by omega⟩
    rw [show m + 1 - 1 = m from rfl] at hc
    dsimp only
    have hle2 : (m : Int) + 1 ≤ DM := by omega
    have hzb : ((m : Int) + 1 == 0) = false := by simp; omega
    have hgt : decide (DM < (m : Int) + 1) = false := decide_eq_false (by omega)
    have hix : (0 : Int) ≤ m := by omega
    clear hle z3
    have HBT := HB3
    generalize w3 = wB at *
    clear c0 hb2 hb3 HIA
    have c0 := block_cell (keepZ K0.out HBT.out)
    by_cases hS : 2 * (d.wide - 1) + d.wait = 0
    · have hSb : (2 * (d.wide - 1) + d.wait == (0 : Int)) = true := beq_iff_eq.2 hS
      clear hS
      go_wp2_with fail
      refine (works_any _).mono ?_
      rintro e wz ⟨rfl, hbz⟩
      go_wp2
      go_ret
      exact ⟨rfl, ((HB.out.trans (HBT.out.mono HB.out.size))).trans (hbz.mono ((HB.out.trans (HBT.out.mono HB.out.size))).size)⟩
    have hSb : (2 * (d.wide - 1) + d.wait == (0 : Int)) = false := beq_eq_false_iff_ne.2 hS
    have HSP : Hid (0 < stepM d) := Lib.hid (by unfold stepM; omega)
    clear hS
    obtain ⟨i0, hi0, hz0, hz1, hz2⟩ := info_parts infoInt
    go_wp2_with fail
    go_loopw [12, 13] (fun vv ii wr => ∃ k : Nat, k ≤ N ∧ ii = .int .i64 k ∧ Hid (wr.ownsRow wB.heap.size 3 1 vv (brwL d k).length ((brwL d k).map (Value.int .i64))) ∧ Hid (Below wB.heap.size wB wr)) (fun _ ii _ => N - (intOf ii).toNat)
    case atStart => exact ⟨0, Nat.zero_le _, rfl, Lib.hid ⟨by simp [brwL], Or.inl ⟨rfl, by simp [brwL]⟩⟩, Lib.hid (Below.refl _ _)⟩
    case round =>
      obtain ⟨k, hk, rfl, hO, hb⟩ := hrel
      obtain ⟨ra, rc, rfl, _⟩ := ownsRow_shape hO.out
      have HBR := Lib.hid (HBT.out.trans (hb.out.mono HBT.out.size))
      clear c0
      have c0 := block_cell (keepZ K0.out HBR.out)
      by_cases hlt : k < N
      · have hsz := hb.out.size
        have hol : (brwL d k).length ≤ 8000 := by rw [brwL_len]; omega
        have HOS := Lib.hid (brwL_succ d k)
        obtain ⟨p1, p2⟩ := dwe_bd HDB.out (show (0 : Int) ≤ k by omega) (show (k : Int) ≤ 20 by omega)
        have j1 : (k : Int) < N := by omega
        generalize brwL d k = A at *
        go_wp2_with ((at_builtin; refine wpList_append_own _ rfl (.tmp 91) (.tmp 103) 22 rfl wB.heap.size 3 i0 (.int .i64 0) 1 8 Try.underlying22 hi0 hz0 hz1 hz2 rfl (by decide) _ (A).length ((A).map (Value.int .i64)) rfl ?c0x12 _ _ _ [.int .i64 (2 * d.wide + d.wait - 1 + (k : Int) * (2 * (d.wide - 1) + d.wait))] rfl rfl ?c1x12 ?c2x12 ?c3x12 ?c4x12 ?c5x12 ?_))
        case c0x12 => exact World.ownsRow.alloc (hO).out _
        try (case c1x12 => exact one_cell _ _ _ rfl)
        case c2x12 => first | rfl | (intro u hu; simp only [List.mem_cons, List.not_mem_nil, or_false] at hu; subst hu; rfl)
        case c3x12 => unfold maxLen; omega
        case c4x12 => omega
        case c5x12 => first | exact Nat.le_trans hsz (al_le _ _) | (simp; omega) | omega
        intro v3 w3 hown3 hgrow3 _
        obtain ⟨_, _, _, hob3⟩ := ownsRow_shape (hO).out
        have hbX3 := below_grown hgrow3 hob3 (Nat.le_trans hsz (al_le _ _))
        have HBA3 := Lib.hid (((Below.refl _ _).alloc hsz _).trans hbX3)
        have HO3 := Lib.hid (own_snoc hown3)
        obtain ⟨r3, c3, rfl, _⟩ := ownsRow_shape hown3
        clear hown3 hgrow3 hbX3 hob3
        have HB3r := Lib.hid (hb.out.trans HBA3.out)
        go_wp2
        go_roundw
        case rel => exact ⟨k + 1, hlt, by first | rfl | go_num, by rw [HOS.out]; first | exact HO3 | (rw [List.length_append] at HO3; exact HO3), HB3r⟩
        case measure => simp [intOf] <;> omega
      obtain rfl : N = k := by omega
      have hin := InAt.of_own hO.out
      have hE2 : dooE d (brwL d N) = 0 := by show dorE d (breB _) = 0; rw [← dorE_ok HDB.out, wor_brk HDB.out HSP.out (by omega)]; rfl
      have hM := wor_doorN HDB.out HSP.out (n := N) (by omega)
      have HDO2 := Lib.hid (dooO_ok hE2)
      have HDE2 := Lib.hid hE2
      have hlb : (((outL d (brwL d N) (doorN d (brwL d N))).length : Int) == dweM d N) = true := beq_iff_eq.2 (by rw [outL_len]; exact hM)
      have HDW2 := Lib.hid (dweR_ok (d := d) (n := N) (dor_zero.2 ⟨HDB.out, inB_iff.2 ⟨by omega, by omega⟩⟩))
      have HIN := Lib.hid hin
      clear hin hE2 hM hO
      generalize brwL d N = A at *
      go_wp2_with fail
      refine (lDoors_any d _ A _ HIN.out).mono ?_
      rintro e w5 ⟨va5, rfl, hia5, hb5⟩
      have HB5 := Lib.hid (HBR.out.trans (hb5.mono HBR.out.size))
      rw [HDO2.out] at hia5
      rw [HDE2.out]
      obtain ⟨xa5, xc5, rfl, xb5, xd5, _⟩ := hia5
      clear c0 hb5
      have c0 := block_cell (keepZ K0.out HB5.out)
      generalize outL d A (doorN d A) = OL at *
      go_wp2_with fail
      refine (lDwell_any d N _).mono ?_
      rintro e w6 ⟨rfl, hb6⟩
      have HB6 := Lib.hid (HB5.out.trans (hb6.mono HB5.out.size))
      rw [HDW2.out]
      generalize dweM d N = M at *
      dsimp only
      clear c0 hb6
      go_wp2_with (go_at_call 16; refine (works_any _).mono ?_; rintro e w7 ⟨rfl, hb7⟩)
      have HB7 := Lib.hid (HB.out.trans ((HB6.out.trans (hb7.mono HB6.out.size)).mono HB.out.size))
      go_ret
      exact ⟨rfl, HB7.out⟩

end Go.Proofs.Ytnefbiaopconkaa
