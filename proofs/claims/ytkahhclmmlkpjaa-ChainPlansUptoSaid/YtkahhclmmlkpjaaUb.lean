/- ChainPlans, the walk. -/
import Derived.Test.YtkahhclmmlkpjaaUa
import Derived.Deep.RegionHeld3
import Derived.Deep.DeepCutAuto
namespace Go.Proofs.Ytkahhclmmlkpjaa
open Go.RowKit

set_option maxRecDepth 100000 in
set_option maxHeartbeats 8000000 in
theorem plans_any (P : Prt) (l pl : List Us) (bv v pv : Value) (c d : Int) (w : World) (hv : SpAt w bv P.rs) (hl : UsAt w v l) (hp : UsAt w pv pl) (hn1 : P.rs.length ≤ 2000000) (hn2 : l.length ≤ 2000000) (hn3 : pl.length ≤ 2000000) :
    Calls Try.prog 9 #[prtV P bv, v, .agg #[pv, .int .i64 c, .int .i64 d]] w fun e w' => e = .returned (.bool true) ∧ Below w.heap.size w w' := by
  have HV0 := Lib.hid hv
  have HU0 := Lib.hid hl
  have HP0 := Lib.hid hp
  obtain ⟨a, cap, rfl, h1, h2, hc⟩ := hv
  obtain ⟨ua, ucap, rfl, un, ucl, uc⟩ := hl
  obtain ⟨pa, pcap, rfl, pn, pcl, pc⟩ := hp
  have HB := Lib.hid (blw2 w (Obj.cells #[Value.slice a P.rs.length cap, .int .i64 P.wo, .int .i64 P.tu, .int .i64 P.ag] 54) (Obj.cells #[.slice pa pl.length pcap, .int .i64 c, .int .i64 d] 66))
  have K0 := Lib.hid (two_od w (Obj.cells #[Value.slice a P.rs.length cap, .int .i64 P.wo, .int .i64 P.tu, .int .i64 P.ag] 54) (Obj.cells #[.slice pa pl.length pcap, .int .i64 c, .int .i64 d] 66))
  have X0 := Lib.hid (two_nw w (Obj.cells #[Value.slice a P.rs.length cap, .int .i64 P.wo, .int .i64 P.tu, .int .i64 P.ag] 54) (Obj.cells #[.slice pa pl.length pcap, .int .i64 c, .int .i64 d] 66))
  obtain ⟨⟨gf1, gf2⟩, hgf⟩ : ∃ x, lastM P l pl = x := ⟨_, rfl⟩
  obtain ⟨⟨sf1, sf2⟩, hsf⟩ : ∃ x, dueM P l c d = x := ⟨_, rfl⟩
  have HGF := Lib.hid hgf
  have HSF := Lib.hid hsf
  clear hc uc pc hgf hsf
  go_enter Try.func9, Try.ntmps9
  go_wp2_with fail
  generalize (w.alloc (Obj.cells #[Value.slice a P.rs.length cap, .int .i64 P.wo, .int .i64 P.tu, .int .i64 P.ag] 54)).alloc (Obj.cells #[.slice pa pl.length pcap, .int .i64 c, .int .i64 d] 66) = wA at *
  refine (copyPart_any P _ _ (HV0.out.below HB.out (Nat.le_refl _)) (by omega)).mono ?_
  rintro e w1 ⟨v1, rfl, hv1, hb1⟩
  have HV1 := Lib.hid hv1
  have HB1 := Lib.hid (HB.out.trans (hb1.mono HB.out.size))
  have K1 := Lib.hid ((hb1.block _ (lt_of_block K0.out)).trans K0.out)
  have X1 := Lib.hid ((hb1.block _ (lt_of_block X0.out)).trans X0.out)
  obtain ⟨a1, c1, rfl, _, _, _⟩ := hv1
  clear hb1
  go_wp2_with fail
  refine (copyUses_any _ l _ (HU0.out.below HB1.out (Nat.le_refl _)) (by omega)).mono ?_
  rintro e w2 ⟨v2, rfl, ho2, hb2⟩
  have HU2 := Lib.hid (ElAt.of_own (m := 6) (f := usL) (xs := l) (fun _ => rfl) ho2)
  have HV2 := Lib.hid (HV1.out.below hb2 (Nat.le_refl _))
  have HB2 := Lib.hid (HB1.out.trans (hb2.mono HB1.out.size))
  have K2 := Lib.hid ((hb2.block _ (lt_of_block K1.out)).trans K1.out)
  have X2 := Lib.hid ((hb2.block _ (lt_of_block X1.out)).trans X1.out)
  obtain ⟨a2, c2, rfl, _⟩ := ownsRow_shape ho2
  clear hb2 ho2
  go_wp2_with fail
  have bx : Below w2.heap.size w2 (w2.alloc (Obj.cells #[Value.slice a1 P.rs.length c1, .int .i64 P.wo, .int .i64 P.tu, .int .i64 P.ag] 54)) := (Below.refl _ _).alloc (Nat.le_refl _) _
  have kx : (w2.alloc (Obj.cells #[Value.slice a1 P.rs.length c1, .int .i64 P.wo, .int .i64 P.tu, .int .i64 P.ag] 54)).heap[w2.heap.size]? = some (Obj.cells #[Value.slice a1 P.rs.length c1, .int .i64 P.wo, .int .i64 P.tu, .int .i64 P.ag] 54) := block_new _ _ _ rfl
  generalize w2.alloc (Obj.cells #[Value.slice a1 P.rs.length c1, .int .i64 P.wo, .int .i64 P.tu, .int .i64 P.ag] 54) = wB at *
  have HBB := Lib.hid (HB2.out.trans (bx.mono HB2.out.size))
  have HVP := Lib.hid (HV0.out.below HBB.out (Nat.le_refl _))
  have HUP := Lib.hid (HU0.out.below HBB.out (Nat.le_refl _))
  have HPP := Lib.hid (HP0.out.below HBB.out (Nat.le_refl _))
  have HVQ := Lib.hid (HV2.out.below bx (Nat.le_refl _))
  have HUQ := Lib.hid (HU2.out.below bx (Nat.le_refl _))
  have KP := Lib.hid ((bx.block _ (lt_of_block K2.out)).trans K2.out)
  have KX := Lib.hid ((bx.block _ (lt_of_block X2.out)).trans X2.out)
  have KQ := Lib.hid kx
  have HN0 := Lib.hid (Below.refl wB.heap.size wB)
  clear bx kx HV1 HV2 HU2 HB1 HB2 K1 K2 X1 X2 HB K0 X0
  have cP := block_cell KP.out
  have cQ := block_cell KQ.out
  have cX := block_cell KX.out
  have zP := lt_of_block KP.out
  have zQ := lt_of_block KQ.out
  have zX := lt_of_block KX.out
  have D : ∀ w', Below wB.heap.size wB w' → ((w'.cell? ⟨w2.heap.size, 0, none⟩ = some (Value.slice a1 P.rs.length c1) ∧ w'.cell? ⟨w2.heap.size, 1, none⟩ = some (.int .i64 P.wo) ∧ w'.cell? ⟨w2.heap.size, 2, none⟩ = some (.int .i64 P.tu) ∧ w'.cell? ⟨w2.heap.size, 3, none⟩ = some (.int .i64 P.ag)) ∧
      (w'.cell? ⟨w.heap.size + 1, 0, none⟩ = some (.slice pa pl.length pcap) ∧ w'.cell? ⟨w.heap.size + 1, 1, none⟩ = some (.int .i64 c) ∧ w'.cell? ⟨w.heap.size + 1, 2, none⟩ = some (.int .i64 d))) ∧ Below wB.heap.size wB w' := by
    intro w' h
    have c1 := block_cell ((h.block _ (lt_of_block KQ.out)).trans KQ.out)
    have c2 := block_cell ((h.block _ (lt_of_block KX.out)).trans KX.out)
    exact ⟨⟨⟨c1 0, c1 1, c1 2, c1 3⟩, ⟨c2 0, c2 1, c2 2⟩⟩, h⟩
  clear cP cQ cX
  go_cut [9, 10] (fun s9 s10 wx => s9 = .int .i64 gf1 ∧ s10 = .int .i64 gf2 ∧ Hid (Below wB.heap.size wB wx))
  case first =>
    go_region_held3 (fun w' => ((w'.cell? ⟨w2.heap.size, 0, none⟩ = some (Value.slice a1 P.rs.length c1) ∧ w'.cell? ⟨w2.heap.size, 1, none⟩ = some (.int .i64 P.wo) ∧ w'.cell? ⟨w2.heap.size, 2, none⟩ = some (.int .i64 P.tu) ∧ w'.cell? ⟨w2.heap.size, 3, none⟩ = some (.int .i64 P.ag)) ∧
      (w'.cell? ⟨w.heap.size + 1, 0, none⟩ = some (.slice pa pl.length pcap) ∧ w'.cell? ⟨w.heap.size + 1, 1, none⟩ = some (.int .i64 c) ∧ w'.cell? ⟨w.heap.size + 1, 2, none⟩ = some (.int .i64 d))) ∧ Below wB.heap.size wB w')
      (first | (with_reducible exact D _ (Below.drew (Below.refl _ _))) | (with_reducible exact D _ hB1) | (with_reducible exact D _ hB2) | fail)
      (first | (go_at_call 39; have hB0 := And.right ‹_ ∧ Below wB.heap.size wB _›; refine (copyUses_any _ pl _ (HPP.out.below hB0 (Nat.le_refl _)) (by omega)).mono ?_; rintro e w3 ⟨v3, rfl, ho3, hb3⟩; have hB1 := hB0.trans (hb3.mono hB0.size); have hU3 := ElAt.of_own (m := 6) (f := usL) (xs := pl) (fun _ => rfl) ho3) | (go_at_call 50; refine (klast_any P l pl _ _ _ _ (HVQ.out.below hB1 (Nat.le_refl _)) (HUQ.out.below hB1 (Nat.le_refl _)) hU3 (by omega) (by omega)).mono ?_; rintro e w4 ⟨rfl, hb4⟩; rw [HGF.out]; have hB2 := hB1.trans (hb4.mono hB1.size)))
    all_goals
      go_wp2_with fail
      go_meet
      exact ⟨rfl, rfl, And.right ‹_ ∧ Below wB.heap.size wB _›⟩
  case rest =>
    obtain ⟨rfl, rfl, HN1⟩ := hcut
    have cP := block_cell ((HN1.out.block _ (lt_of_block KP.out)).trans KP.out)
    have cQ := block_cell ((HN1.out.block _ (lt_of_block KQ.out)).trans KQ.out)
    have cX := block_cell ((HN1.out.block _ (lt_of_block KX.out)).trans KX.out)
    have zP := Nat.lt_of_lt_of_le (lt_of_block KP.out) HN1.out.size
    have zQ := Nat.lt_of_lt_of_le (lt_of_block KQ.out) HN1.out.size
    have zX := Nat.lt_of_lt_of_le (lt_of_block KX.out) HN1.out.size
    clear D
    go_wp2_with fail
    refine (rlast_any P l pl _ _ _ _ (HVP.out.below HN1.out (Nat.le_refl _)) (HUP.out.below HN1.out (Nat.le_refl _)) (HPP.out.below HN1.out (Nat.le_refl _)) (by omega)).mono ?_
    rintro e w5 ⟨rfl, hb5⟩
    have HN2 := Lib.hid (HN1.out.trans (hb5.mono HN1.out.size))
    clear hb5 cP cQ cX
    have cP := block_cell ((HN2.out.block _ (lt_of_block KP.out)).trans KP.out)
    have cQ := block_cell ((HN2.out.block _ (lt_of_block KQ.out)).trans KQ.out)
    have cX := block_cell ((HN2.out.block _ (lt_of_block KX.out)).trans KX.out)
    have zP := Nat.lt_of_lt_of_le (lt_of_block KP.out) HN2.out.size
    have zQ := Nat.lt_of_lt_of_le (lt_of_block KQ.out) HN2.out.size
    have zX := Nat.lt_of_lt_of_le (lt_of_block KX.out) HN2.out.size
    rw [HGF.out]
    have e4 : (gf1 != gf1) = false := by simp
    have e5 : (gf2 != gf2) = false := by simp
    go_wp2_with fail
    refine (kdue_any P l _ _ c d _ (HVQ.out.below HN2.out (Nat.le_refl _)) (HUQ.out.below HN2.out (Nat.le_refl _))).mono ?_
    rintro e w6 ⟨rfl, hb6⟩
    have HN3 := Lib.hid (HN2.out.trans (hb6.mono HN2.out.size))
    clear hb6 cP cQ cX
    have cP := block_cell ((HN3.out.block _ (lt_of_block KP.out)).trans KP.out)
    have cQ := block_cell ((HN3.out.block _ (lt_of_block KQ.out)).trans KQ.out)
    have cX := block_cell ((HN3.out.block _ (lt_of_block KX.out)).trans KX.out)
    have zP := Nat.lt_of_lt_of_le (lt_of_block KP.out) HN3.out.size
    have zQ := Nat.lt_of_lt_of_le (lt_of_block KQ.out) HN3.out.size
    have zX := Nat.lt_of_lt_of_le (lt_of_block KX.out) HN3.out.size
    rw [HSF.out]
    go_wp2_with fail
    refine (rdue_any P l _ _ c d _ (HVP.out.below HN3.out (Nat.le_refl _)) (HUP.out.below HN3.out (Nat.le_refl _))).mono ?_
    rintro e w7 ⟨rfl, hb7⟩
    have HN4 := Lib.hid (HN3.out.trans (hb7.mono HN3.out.size))
    clear hb7 cP cQ cX
    have cP := block_cell ((HN4.out.block _ (lt_of_block KP.out)).trans KP.out)
    have cQ := block_cell ((HN4.out.block _ (lt_of_block KQ.out)).trans KQ.out)
    have cX := block_cell ((HN4.out.block _ (lt_of_block KX.out)).trans KX.out)
    have zP := Nat.lt_of_lt_of_le (lt_of_block KP.out) HN4.out.size
    have zQ := Nat.lt_of_lt_of_le (lt_of_block KQ.out) HN4.out.size
    have zX := Nat.lt_of_lt_of_le (lt_of_block KX.out) HN4.out.size
    rw [HSF.out]
    have e6 : (sf1 == sf1) = true := by simp
    have e7 : (sf2 == sf2) = true := by simp
    go_wp2_with fail
    refine (works_any _).mono ?_
    rintro e w8 ⟨rfl, hb8⟩
    go_wp2
    go_ret
    exact ⟨rfl, HBB.out.trans ((HN4.out.trans (hb8.mono HN4.out.size)).mono HBB.out.size)⟩

end Go.Proofs.Ytkahhclmmlkpjaa
