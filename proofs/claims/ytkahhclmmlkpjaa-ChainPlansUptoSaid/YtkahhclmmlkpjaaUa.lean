/- ChainWears, the walk. -/
import Derived.Test.YtkahhclmmlkpjaaTb
import Derived.Test.YtkahhclmmlkpjaaSj
namespace Go.Proofs.Ytkahhclmmlkpjaa
open Go.RowKit

def wearLE (P : Prt) (l : List Us) : List Spn := if wearE P l = 0 then wearL P l else []

theorem WearRes.at {P : Prt} {l : List Us} {w w' : World} {e : Ending} (h : WearRes P l w e w') : ∃ v, e = .returned (.tuple #[v, .int .i64 (wearE P l)]) ∧ SpAt w' v (wearLE P l) ∧ Below w.heap.size w w' := by
  obtain ⟨v, rfl, hb, ho, hn⟩ := h
  refine ⟨v, rfl, ?_, hb⟩
  unfold wearLE
  by_cases h : wearE P l = 0
  · rw [if_pos h]
    exact ElAt.of_own (m := 2) (f := spnL) (xs := wearL P l) (fun _ => rfl) (by rw [wearL_len]; exact ho h)
  · rw [if_neg h, hn h]
    exact ElAt.nil _

set_option maxRecDepth 100000 in
set_option maxHeartbeats 8000000 in
theorem wears_any (P : Prt) (l : List Us) (bv v : Value) (w : World) (hv : SpAt w bv P.rs) (hl : UsAt w v l) (hn1 : P.rs.length * 16 ≤ 140737488351232) (hn2 : l.length * 48 ≤ 140737488351232) :
    Calls Try.prog 8 #[prtV P bv, v] w fun e w' => e = .returned (.bool true) ∧ Below w.heap.size w w' := by
  have HV0 := Lib.hid hv
  have HU0 := Lib.hid hl
  have hb0 := (Below.refl w.heap.size w).alloc (Nat.le_refl _) (Obj.cells #[bv, .int .i64 P.wo, .int .i64 P.tu, .int .i64 P.ag] 54)
  have k0 := block_new w (Obj.cells #[bv, .int .i64 P.wo, .int .i64 P.tu, .int .i64 P.ag] 54) w.heap.size rfl
  obtain ⟨a, cap, rfl, h1, h2, hc⟩ := hv
  obtain ⟨ua, ucap, rfl, un, ucl, uc⟩ := hl
  have HB := Lib.hid hb0
  have K0 := Lib.hid k0
  obtain ⟨⟨rf1, rf2, rf3⟩, hrf⟩ : ∃ x, refM P l = x := ⟨_, rfl⟩
  obtain ⟨⟨gf1, gf2⟩, hgf⟩ : ∃ x, lifeM P l true = x := ⟨_, rfl⟩
  obtain ⟨⟨sf1, sf2⟩, hsf⟩ : ∃ x, lifeM P l false = x := ⟨_, rfl⟩
  have HRF := Lib.hid hrf
  have HGF := Lib.hid hgf
  have HSF := Lib.hid hsf
  clear hc uc hb0 k0 hrf hgf hsf
  go_enter Try.func8, Try.ntmps8
  go_wp2_with fail
  generalize w.alloc (Obj.cells #[Value.slice a P.rs.length cap, .int .i64 P.wo, .int .i64 P.tu, .int .i64 P.ag] 54) = wA at *
  have hce := block_cell K0.out
  refine (copyPart_any P _ _ (HV0.out.below HB.out (Nat.le_refl _)) hn1).mono ?_
  rintro e w1 ⟨v1, rfl, hv1, hb1⟩
  have HV1 := Lib.hid hv1
  have HB1 := Lib.hid (HB.out.trans (hb1.mono HB.out.size))
  have K1 := Lib.hid ((hb1.block _ (lt_of_block K0.out)).trans K0.out)
  obtain ⟨a1, c1, rfl, _, _, _⟩ := hv1
  clear hb1 hce
  go_wp2_with fail
  refine (copyUses_any _ l _ (HU0.out.below HB1.out (Nat.le_refl _)) hn2).mono ?_
  rintro e w2 ⟨v2, rfl, ho2, hb2⟩
  have HU2 := Lib.hid (ElAt.of_own (m := 6) (f := usL) (xs := l) (fun _ => rfl) ho2)
  have HV2 := Lib.hid (HV1.out.below hb2 (Nat.le_refl _))
  have HB2 := Lib.hid (HB1.out.trans (hb2.mono HB1.out.size))
  have K2 := Lib.hid ((hb2.block _ (lt_of_block K1.out)).trans K1.out)
  obtain ⟨a2, c2, rfl, _⟩ := ownsRow_shape ho2
  clear hb2 ho2
  go_wp2_with fail
  have bx : Below w2.heap.size w2 (w2.alloc (Obj.cells #[Value.slice a1 P.rs.length c1, .int .i64 P.wo, .int .i64 P.tu, .int .i64 P.ag] 54)) := (Below.refl _ _).alloc (Nat.le_refl _) _
  have kx : (w2.alloc (Obj.cells #[Value.slice a1 P.rs.length c1, .int .i64 P.wo, .int .i64 P.tu, .int .i64 P.ag] 54)).heap[w2.heap.size]? = some (Obj.cells #[Value.slice a1 P.rs.length c1, .int .i64 P.wo, .int .i64 P.tu, .int .i64 P.ag] 54) := block_new _ _ _ rfl
  generalize w2.alloc (Obj.cells #[Value.slice a1 P.rs.length c1, .int .i64 P.wo, .int .i64 P.tu, .int .i64 P.ag] 54) = wB at *
  have HBB := Lib.hid (HB2.out.trans (bx.mono HB2.out.size))
  have HVP := Lib.hid (HV0.out.below HBB.out (Nat.le_refl _))
  have HUP := Lib.hid (HU0.out.below HBB.out (Nat.le_refl _))
  have HVQ := Lib.hid (HV2.out.below bx (Nat.le_refl _))
  have HUQ := Lib.hid (HU2.out.below bx (Nat.le_refl _))
  have KP := Lib.hid ((bx.block _ (lt_of_block K2.out)).trans K2.out)
  have KQ := Lib.hid kx
  have HN0 := Lib.hid (Below.refl wB.heap.size wB)
  clear bx kx HV1 HV2 HU2 HB1 HB2 K1 K2 HB K0
  have cP := block_cell KP.out
  have cQ := block_cell KQ.out
  have zP := lt_of_block KP.out
  have zQ := lt_of_block KQ.out
  have x0 := bw_cells (B := wB.heap.size) KP.out zP
  have x1 := bw_cells (B := wB.heap.size) KQ.out zQ
  refine wp_region_below (by kernel_rfl) (by kernel_rfl) (Below.refl wB.heap.size wB) ?_
  repeat (refine wpQuiet_step (fun K hK => ?_); go_simp; first | (refine hK _ ?_; clear hK K) | (apply Exists.intro; refine ⟨fun _ => ?_, hK _ ?_⟩; (first | (go_at_call 40; exact bw_call (Nat.le_refl _) (kcheckPart_any P l _ _ _ (HVQ.out.below (BW.b _) (Nat.le_refl _)) (HUQ.out.below (BW.b _) (Nat.le_refl _)))) | (go_at_call 41; exact bw_call (Nat.le_refl _) (rcheckPart_any P l _ _ _ (HVP.out.below (BW.b _) (Nat.le_refl _)) (HUP.out.below (BW.b _) (Nat.le_refl _))))); clear hK K))
  refine wpQuiet_nil ?_
  intro wq hwq0
  have hwq := bw_out hwq0
  clear hwq0
  clear x0 x1
  have HN1 := Lib.hid (HN0.out.trans (hwq.mono HN0.out.size))
  clear hwq cP cQ
  have cP := block_cell ((HN1.out.block _ (lt_of_block KP.out)).trans KP.out)
  have cQ := block_cell ((HN1.out.block _ (lt_of_block KQ.out)).trans KQ.out)
  have zP := Nat.lt_of_lt_of_le (lt_of_block KP.out) HN1.out.size
  have zQ := Nat.lt_of_lt_of_le (lt_of_block KQ.out) HN1.out.size
  have hpp : (partM P l != partM P l) = false := by simp
  generalize partM P l = pm at *
  go_wp2_with fail
  refine (kwear_any P l _ _ _ (HVQ.out.below HN1.out (Nat.le_refl _)) (HUQ.out.below HN1.out (Nat.le_refl _))).mono ?_
  rintro e w3 hres
  obtain ⟨v3, rfl, h3, hb3⟩ := hres.at
  have H3 := Lib.hid h3
  obtain ⟨a3, c3, rfl, _, _, _⟩ := h3
  clear hres
  have HN2 := Lib.hid (HN1.out.trans (hb3.mono HN1.out.size))
  clear hb3 cP cQ
  have cP := block_cell ((HN2.out.block _ (lt_of_block KP.out)).trans KP.out)
  have cQ := block_cell ((HN2.out.block _ (lt_of_block KQ.out)).trans KQ.out)
  have zP := Nat.lt_of_lt_of_le (lt_of_block KP.out) HN2.out.size
  have zQ := Nat.lt_of_lt_of_le (lt_of_block KQ.out) HN2.out.size
  go_wp2_with fail
  refine (rWear_any P l _ _ _ (HVP.out.below HN2.out (Nat.le_refl _)) (HUP.out.below HN2.out (Nat.le_refl _))).mono ?_
  rintro e w4 hres
  obtain ⟨v4, rfl, h4, hb4⟩ := hres.at
  have H4 := Lib.hid h4
  have H3 := Lib.hid (H3.out.below hb4 (Nat.le_refl _))
  obtain ⟨a4, c4, rfl, _, _, _⟩ := h4
  clear hres
  have HN3 := Lib.hid (HN2.out.trans (hb4.mono HN2.out.size))
  clear hb4 cP cQ
  have cP := block_cell ((HN3.out.block _ (lt_of_block KP.out)).trans KP.out)
  have cQ := block_cell ((HN3.out.block _ (lt_of_block KQ.out)).trans KQ.out)
  have zP := Nat.lt_of_lt_of_le (lt_of_block KP.out) HN3.out.size
  have zQ := Nat.lt_of_lt_of_le (lt_of_block KQ.out) HN3.out.size
  have hww : (wearE P l != wearE P l) = false := by simp
  generalize hL : wearLE P l = L at *
  generalize wearE P l = we at *
  go_wp2_with fail
  refine (sameSpans_any _ _ L L _ H3.out H4.out).mono ?_
  rintro e w5 ⟨rfl, hb5⟩
  rw [show decide (L = L) = true by simp]
  have HN4 := Lib.hid (HN3.out.trans (hb5.mono HN3.out.size))
  clear hb5 cP cQ
  have cP := block_cell ((HN4.out.block _ (lt_of_block KP.out)).trans KP.out)
  have cQ := block_cell ((HN4.out.block _ (lt_of_block KQ.out)).trans KQ.out)
  have zP := Nat.lt_of_lt_of_le (lt_of_block KP.out) HN4.out.size
  have zQ := Nat.lt_of_lt_of_le (lt_of_block KQ.out) HN4.out.size
  go_wp2_with fail
  refine (krefuted_any P l _ _ _ (HVQ.out.below HN4.out (Nat.le_refl _)) (HUQ.out.below HN4.out (Nat.le_refl _))).mono ?_
  rintro e w6 ⟨rfl, hb6⟩
  have HN5 := Lib.hid (HN4.out.trans (hb6.mono HN4.out.size))
  clear hb6 cP cQ
  have cP := block_cell ((HN5.out.block _ (lt_of_block KP.out)).trans KP.out)
  have cQ := block_cell ((HN5.out.block _ (lt_of_block KQ.out)).trans KQ.out)
  have zP := Nat.lt_of_lt_of_le (lt_of_block KP.out) HN5.out.size
  have zQ := Nat.lt_of_lt_of_le (lt_of_block KQ.out) HN5.out.size
  rw [HRF.out]
  go_wp2_with fail
  refine (rrefuted_any P l _ _ _ (HVP.out.below HN5.out (Nat.le_refl _)) (HUP.out.below HN5.out (Nat.le_refl _))).mono ?_
  rintro e w7 ⟨rfl, hb7⟩
  have HN6 := Lib.hid (HN5.out.trans (hb7.mono HN5.out.size))
  clear hb7 cP cQ
  have cP := block_cell ((HN6.out.block _ (lt_of_block KP.out)).trans KP.out)
  have cQ := block_cell ((HN6.out.block _ (lt_of_block KQ.out)).trans KQ.out)
  have zP := Nat.lt_of_lt_of_le (lt_of_block KP.out) HN6.out.size
  have zQ := Nat.lt_of_lt_of_le (lt_of_block KQ.out) HN6.out.size
  rw [HRF.out]
  have e1 : (rf1 != rf1) = false := by simp
  have e2 : (rf2 != rf2) = false := by simp
  have e3 : (rf3 != rf3) = false := by simp
  go_wp2_with fail
  refine (kbeyond_any P l _ _ _ (HVQ.out.below HN6.out (Nat.le_refl _)) (HUQ.out.below HN6.out (Nat.le_refl _))).mono ?_
  rintro e w8 ⟨rfl, hb8⟩
  have HN7 := Lib.hid (HN6.out.trans (hb8.mono HN6.out.size))
  clear hb8 cP cQ
  have cP := block_cell ((HN7.out.block _ (lt_of_block KP.out)).trans KP.out)
  have cQ := block_cell ((HN7.out.block _ (lt_of_block KQ.out)).trans KQ.out)
  have zP := Nat.lt_of_lt_of_le (lt_of_block KP.out) HN7.out.size
  have zQ := Nat.lt_of_lt_of_le (lt_of_block KQ.out) HN7.out.size
  rw [HGF.out]
  go_wp2_with fail
  refine (rBeyond_any P l _ _ _ (HVP.out.below HN7.out (Nat.le_refl _)) (HUP.out.below HN7.out (Nat.le_refl _))).mono ?_
  rintro e w9 ⟨rfl, hb9⟩
  have HN8 := Lib.hid (HN7.out.trans (hb9.mono HN7.out.size))
  clear hb9 cP cQ
  have cP := block_cell ((HN8.out.block _ (lt_of_block KP.out)).trans KP.out)
  have cQ := block_cell ((HN8.out.block _ (lt_of_block KQ.out)).trans KQ.out)
  have zP := Nat.lt_of_lt_of_le (lt_of_block KP.out) HN8.out.size
  have zQ := Nat.lt_of_lt_of_le (lt_of_block KQ.out) HN8.out.size
  rw [HGF.out]
  have e4 : (gf1 != gf1) = false := by simp
  have e5 : (gf2 != gf2) = false := by simp
  go_wp2_with fail
  refine (ksurely_any P l _ _ _ (HVQ.out.below HN8.out (Nat.le_refl _)) (HUQ.out.below HN8.out (Nat.le_refl _))).mono ?_
  rintro e w10 ⟨rfl, hb10⟩
  have HN9 := Lib.hid (HN8.out.trans (hb10.mono HN8.out.size))
  clear hb10 cP cQ
  have cP := block_cell ((HN9.out.block _ (lt_of_block KP.out)).trans KP.out)
  have cQ := block_cell ((HN9.out.block _ (lt_of_block KQ.out)).trans KQ.out)
  have zP := Nat.lt_of_lt_of_le (lt_of_block KP.out) HN9.out.size
  have zQ := Nat.lt_of_lt_of_le (lt_of_block KQ.out) HN9.out.size
  rw [HSF.out]
  go_wp2_with fail
  refine (rSurely_any P l _ _ _ (HVP.out.below HN9.out (Nat.le_refl _)) (HUP.out.below HN9.out (Nat.le_refl _))).mono ?_
  rintro e w11 ⟨rfl, hb11⟩
  have HN10 := Lib.hid (HN9.out.trans (hb11.mono HN9.out.size))
  clear hb11 cP cQ
  have cP := block_cell ((HN10.out.block _ (lt_of_block KP.out)).trans KP.out)
  have cQ := block_cell ((HN10.out.block _ (lt_of_block KQ.out)).trans KQ.out)
  have zP := Nat.lt_of_lt_of_le (lt_of_block KP.out) HN10.out.size
  have zQ := Nat.lt_of_lt_of_le (lt_of_block KQ.out) HN10.out.size
  rw [HSF.out]
  have e6 : (sf1 == sf1) = true := by simp
  have e7 : (sf2 == sf2) = true := by simp
  go_wp2_with fail
  refine (works_any _).mono ?_
  rintro e w12 ⟨rfl, hb12⟩
  go_wp2
  go_ret
  exact ⟨rfl, HBB.out.trans ((HN10.out.trans (hb12.mono HN10.out.size)).mono HBB.out.size)⟩

end Go.Proofs.Ytkahhclmmlkpjaa
