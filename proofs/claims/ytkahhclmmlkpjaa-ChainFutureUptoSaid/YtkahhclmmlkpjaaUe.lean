/- ChainFuture, the walk. -/
import Derived.Test.YtkahhclmmlkpjaaUd
import Derived.Test.YtkahhclmmlkpjaaGd
namespace Go.Proofs.Ytkahhclmmlkpjaa
open Go.RowKit

theorem since_left {a b : List Us} : ∀ {i : Nat}, i ≤ a.length → sinceAt (a ++ b) i = sinceAt a i := fun h => since_append h

theorem partM_left {P : Prt} {a b : List Us} (h : partM P (a ++ b) = 0) : partM P a = 0 := by
  rcases partM_cases P (a ++ b) with ⟨h1, _⟩ | ⟨h1, _⟩ | ⟨_, h1, h2, h3⟩
  · omega
  · omega
  · refine (partM_fine h1 (by rw [List.length_append] at h2; omega) (fun i hi => ?_)).symm
    have := h3 i (by rw [List.length_append]; omega)
    rw [us_getD_append hi, since_append (by omega)] at this
    exact this

/-- What Beyond says behind the first uses of l ++ pl, of which more than those of l are not measured. -/
theorem beyond_take {P : Prt} {al : List Us} {m : Nat} (hf : partM P al = 0) (hr : reachN P al = al.length) (hm : m ≤ al.length) (hb : ∀ u ∈ al.drop m, u.m = false) (h0 : 0 ≤ firstM P al true) (h1 : firstM P al true < m) :
    lifeM P (al.take m) true = (firstM P al true, 0) := by
  have e : al.take m ++ al.drop m = al := List.take_append_drop m al
  have hl : (al.take m).length = m := by rw [List.length_take]; omega
  have hf' : partM P (al.take m) = 0 := partM_left (b := al.drop m) (by rw [e]; exact hf)
  obtain ⟨hP, _, hU⟩ := partM_ok hf
  have hr' : reachN P (al.take m) = (al.take m).length := reach_left (b := al.drop m) (by rw [e]; exact hr)
  have hs := spent_left (P := P) (a := al.take m) (b := al.drop m) hP (by rw [e]; exact hU) hb true
  rw [e, hl] at hs
  rw [life_yes hf' (by omega)]
  have : firstM P (al.take m) true = firstM P al true := by
    unfold firstM at h0 h1 ⊢
    rw [hs, hl]
    split at h0
    · rename_i hlt
      rw [if_pos hlt] at h1 ⊢
      rw [if_pos (by omega)]
      omega
    · omega
  rw [this]

theorem ElAt.take {α : Type} {m : Nat} {f : α → List Value} {w : World} {a : Option Addr} {n c k : Nat} {xs : List α} (h : ElAt m f w (.slice a n c) xs) (hk : k ≤ n) : ElAt m f w (.slice a k c) (xs.take k) := by
  obtain ⟨a', c', e, h1, h2, h3⟩ := h
  injection e with e1 e2 e3
  subst e1; subst e2; subst e3
  have hl : (xs.take k).length = k := by rw [List.length_take]; omega
  refine ⟨a, c, by rw [hl], by rw [hl]; omega, h2, fun hp => ?_⟩
  rw [hl] at hp
  obtain ⟨b, off, rfl, hb, hc⟩ := h3 (by omega)
  refine ⟨b, off, rfl, hb, fun i x hx j u hu => hc i x ?_ j u hu⟩
  rw [List.getElem?_take] at hx
  split at hx
  · exact hx
  · cases hx

theorem drop_free {l pl : List Us} {m : Nat} (h : l.length ≤ m) (hm : pl.any (fun u => u.m) = false) : ∀ u ∈ (l ++ pl).drop m, u.m = false := by
  intro u hu
  rw [List.drop_append, List.drop_eq_nil_of_le h, List.nil_append] at hu
  have hu2 := List.mem_of_mem_drop hu
  rw [List.any_eq_false] at hm
  have := hm u hu2
  simpa using this

theorem firstM_lt {P : Prt} {l : List Us} {g : Bool} (h : 0 ≤ firstM P l g) : firstM P l g < l.length := by
  unfold firstM at h ⊢
  split at h
  · rename_i hlt; rw [if_pos hlt]; omega
  · omega

set_option maxRecDepth 100000 in
set_option maxHeartbeats 8000000 in
theorem future_any (P : Prt) (l pl : List Us) (ws : List Int) (bv v pv wv : Value) (w : World) (hv : SpAt w bv P.rs) (hl : UsAt w v l) (hp : UsAt w pv pl) (hw : InAt w wv ws) (hn2 : l.length ≤ 2000000) (hn3 : pl.length ≤ 2000000) :
    Calls Try.prog 15 #[prtV P bv, v, .agg #[pv, wv]] w fun e w' => e = .returned (.bool true) ∧ Below w.heap.size w w' := by
  obtain ⟨i0, hi, hz0, hz1, hz2⟩ := info_parts copyUses_any_info
  have hf : ∀ x, (usL x).length = 6 := fun _ => rfl
  have hf1 : ∀ x, ∀ u ∈ usL x, u.oneCell' = true := fun x u hu => by simp at hu; rcases hu with rfl | rfl | rfl | rfl | rfl | rfl <;> rfl
  have HV0 := Lib.hid hv
  have HU0 := Lib.hid hl
  have HP0 := Lib.hid hp
  have HW0 := Lib.hid hw
  obtain ⟨a, cap, rfl, h1, h2, hc⟩ := hv
  obtain ⟨ua, ucap, rfl, un, ucl, uc⟩ := hl
  obtain ⟨pa, pcap, rfl, pn, pcl, pc⟩ := hp
  obtain ⟨wa, wcap, rfl, wn, wcl, wc⟩ := hw
  have HWC := Lib.hid wc
  have HB := Lib.hid (blw2 w (Obj.cells #[Value.slice a P.rs.length cap, .int .i64 P.wo, .int .i64 P.tu, .int .i64 P.ag] 54) (Obj.cells #[.slice pa pl.length pcap, .slice wa ws.length wcap] 84))
  have K0 := Lib.hid (two_od w (Obj.cells #[Value.slice a P.rs.length cap, .int .i64 P.wo, .int .i64 P.tu, .int .i64 P.ag] 54) (Obj.cells #[.slice pa pl.length pcap, .slice wa ws.length wcap] 84))
  have X0 := Lib.hid (two_nw w (Obj.cells #[Value.slice a P.rs.length cap, .int .i64 P.wo, .int .i64 P.tu, .int .i64 P.ag] 54) (Obj.cells #[.slice pa pl.length pcap, .slice wa ws.length wcap] 84))
  obtain ⟨al, hal⟩ : ∃ al, l ++ pl = al := ⟨_, rfl⟩
  have HAL := Lib.hid hal
  have HLEN := Lib.hid (show al.length = l.length + pl.length by rw [← hal]; exact List.length_append)
  clear hc uc pc wc hal
  go_enter Try.func15, Try.ntmps15
  go_wp2_with fail
  generalize (w.alloc (Obj.cells #[Value.slice a P.rs.length cap, .int .i64 P.wo, .int .i64 P.tu, .int .i64 P.ag] 54)).alloc (Obj.cells #[.slice pa pl.length pcap, .slice wa ws.length wcap] 84) = wA at *
  have HV := Lib.hid (HV0.out.below HB.out (Nat.le_refl _))
  have HU := Lib.hid (HU0.out.below HB.out (Nat.le_refl _))
  have HP := Lib.hid (HP0.out.below HB.out (Nat.le_refl _))
  have HW := Lib.hid (HW0.out.below HB.out (Nat.le_refl _))
  have D : ∀ w', Below wA.heap.size wA w' → (w'.cell? ⟨w.heap.size + 1, 0, none⟩ = some (.slice pa pl.length pcap) ∧ w'.cell? ⟨w.heap.size + 1, 1, none⟩ = some (.slice wa ws.length wcap)) ∧ Below wA.heap.size wA w' := by
    intro w' h
    have c2 := block_cell ((h.block _ (lt_of_block X0.out)).trans X0.out)
    exact ⟨⟨c2 0, c2 1⟩, h⟩
  go_cut [7] (fun s7 wx => ∃ a7 c7, s7 = .slice a7 al.length c7 ∧ Hid (UsAt wx (.slice a7 al.length c7) al) ∧ Hid (Below wA.heap.size wA wx))
  case first =>
    go_region_held3 (fun w' => (w'.cell? ⟨w.heap.size + 1, 0, none⟩ = some (.slice pa pl.length pcap) ∧ w'.cell? ⟨w.heap.size + 1, 1, none⟩ = some (.slice wa ws.length wcap)) ∧ Below wA.heap.size wA w')
      (first | (with_reducible exact D _ (Below.drew (Below.refl _ _))) | (with_reducible exact D _ hB1) | (with_reducible exact D _ hB2) | fail)
      (first | (go_at_call 39; have hB0 := And.right ‹_ ∧ Below wA.heap.size wA _›; refine (copyUses_any _ l _ (HU.out.below hB0 (Nat.le_refl _)) (by omega)).mono ?_; rintro e w3 ⟨v3, rfl, ho3, hb3⟩; have hB1 := hB0.trans (hb3.mono hB0.size); have HO3 := Lib.hid (ownsRow_mono ho3 hB0.size); have hB1z := hB1.size) | (refine step_app_elAt rfl (.tmp 15) (.tmp 17) 55 rfl wA.heap.size 89 i0 (.agg #[.int .i64 0, .int .i64 0, .int .i64 0, .bool false, .int .i64 0, .int .i64 0]) 6 48 Try.underlying55 hi hz0 hz1 hz2 rfl (by decide) usL hf hf1 _ l pl rfl HO3.out _ rfl (HP.out.below hB1 (Nat.le_refl _)) (by unfold maxLen; omega) (by omega) hB1z ?_; intro v4 w4 ho4 hb4; have hB2 := hB1.trans hb4; rw [HAL.out] at ho4; have hU4 := ElAt.of_own (m := 6) (f := usL) (xs := al) (fun _ => rfl) ho4; obtain ⟨a4, c4, rfl, _⟩ := ownsRow_shape ho4))
    all_goals
      go_wp2_with fail
      go_meet
      exact ⟨_, _, rfl, hU4, And.right ‹_ ∧ Below wA.heap.size wA _›⟩
  case rest =>
    obtain ⟨a7, c7, rfl, HA7, HN0⟩ := hcut
    clear D
    have hce := block_cell ((HN0.out.block _ (lt_of_block K0.out)).trans K0.out)
    have zce := Nat.lt_of_lt_of_le (lt_of_block K0.out) HN0.out.size
    have hcx := block_cell ((HN0.out.block _ (lt_of_block X0.out)).trans X0.out)
    have zcx := Nat.lt_of_lt_of_le (lt_of_block X0.out) HN0.out.size
    go_wp2_with fail
    refine (rcheckPart_any P al _ _ _ (HV.out.below HN0.out (Nat.le_refl _)) HA7.out).mono ?_
    rintro e w1 ⟨rfl, hb1⟩
    have HC1 := Lib.hid hb1
    first | have HB1 := Lib.hid (HN0.out.trans (hb1.mono HN0.out.size)) | have HB1 := Lib.hid hb1
    clear hb1 hce hcx
    have hce := block_cell ((HB1.out.block _ (lt_of_block K0.out)).trans K0.out)
    have zce := Nat.lt_of_lt_of_le (lt_of_block K0.out) HB1.out.size
    have hcx := block_cell ((HB1.out.block _ (lt_of_block X0.out)).trans X0.out)
    have zcx := Nat.lt_of_lt_of_le (lt_of_block X0.out) HB1.out.size
    by_cases hf0 : partM P al = 0
    · obtain ⟨hP, h40, hU⟩ := partM_ok hf0
      rw [hf0]
      have HPO := Lib.hid hP
      have HUO := Lib.hid hU
      have HF0 := Lib.hid hf0
      have HLA := Lib.hid (fun h => last_arg (P := P) (l := l) (k := pl) (by rw [HAL.out]; exact hf0) h)
      have HLN := Lib.hid (fun h => (show _ → _ from by have := last_none (P := P) (l := l) (k := pl); rw [HAL.out] at this; exact this hf0) h)
      have HLL := Lib.hid (fun h => (show _ → _ from by have := last_all (P := P) (l := l) (k := pl); rw [HAL.out] at this; exact this hf0) h)
      have HLS := Lib.hid (fun h => (show _ → _ from by have := last_some (P := P) (l := l) (k := pl); rw [HAL.out] at this; exact this hf0) h)
      have HCAP := Lib.hid (show al.length ≤ c7 by obtain ⟨_, _, e, h, _⟩ := HA7.out; injection e with _ _ e3; omega)
      clear hf0 hP hU
      go_wp2_with fail
      refine (klast_any P l pl _ _ _ _ (HV.out.below HB1.out (Nat.le_refl _)) (HU.out.below HB1.out (Nat.le_refl _)) (HP.out.below HB1.out (Nat.le_refl _)) hn2 hn3).mono ?_
      rintro e w2 ⟨rfl, hb2⟩
      have HC2 := Lib.hid (HC1.out.trans (hb2.mono HC1.out.size))
      first | have HB2 := Lib.hid (HB1.out.trans (hb2.mono HB1.out.size)) | have HB2 := Lib.hid hb2
      clear hb2 hce hcx
      have hce := block_cell ((HB2.out.block _ (lt_of_block K0.out)).trans K0.out)
      have zce := Nat.lt_of_lt_of_le (lt_of_block K0.out) HB2.out.size
      have hcx := block_cell ((HB2.out.block _ (lt_of_block X0.out)).trans X0.out)
      have zcx := Nat.lt_of_lt_of_le (lt_of_block X0.out) HB2.out.size
      cases hm : pl.any (fun u => u.m)
      · by_cases hr : reachN P al < al.length
        · rw [HLN.out hm hr]
          clear hm hr
          go_wp2_with fail
          refine (works_any _).mono ?_
          rintro e w9 ⟨rfl, hb9⟩
          go_wp2
          go_ret
          exact ⟨rfl, HB.out.trans ((HB2.out.trans (hb9.mono HB2.out.size)).mono HB.out.size)⟩
        · obtain ⟨n, F, hn, hF, f1, f2, n1, n2, nA, nB⟩ : ∃ n F : Int, lastM P l pl = (n, 0) ∧ firstM P al true = F ∧ -1 ≤ F ∧ F ≤ al.length ∧ -1 ≤ n ∧ n ≤ pl.length ∧ (F < 0 → n = pl.length) ∧ (0 ≤ F → n = max (F - l.length) (-1) ∧ n < pl.length) := by
            obtain ⟨f1, f2⟩ := firstM_bd P al true
            have hl := HLEN.out
            by_cases hneg : firstM P al true < 0
            · exact ⟨_, _, HLL.out hm hr hneg, rfl, f1, f2, by omega, by omega, fun _ => rfl, fun h => by omega⟩
            · have hlt := firstM_lt (P := P) (l := al) (g := true) (by omega)
              exact ⟨_, _, HLS.out hm hr (by omega), rfl, f1, f2, by omega, by omega, fun h => by omega, fun h => ⟨rfl, by omega⟩⟩
          rw [hn]
          have hrn : reachN P al = al.length := by have := reachN_le P al; omega
          obtain ⟨m, hmm⟩ : ∃ m : Nat, (m : Int) = (l.length : Int) + n + 1 := ⟨((l.length : Int) + n + 1).toNat, by omega⟩
          have hcap := HCAP.out
          have hml : m ≤ al.length ∨ n = pl.length := by have := HLEN.out; omega
          have HBT := Lib.hid (show ¬ n = (pl.length : Int) → 0 ≤ F ∧ lifeM P (al.take m) true = (F, 0) from fun hne => by
            have hF0 : 0 ≤ F := by omega
            have := nB hF0
            have hl := HLEN.out
            refine ⟨hF0, ?_⟩
            rw [← hF]
            exact beyond_take HF0.out hrn (by omega) (by rw [← HAL.out]; exact drop_free (by omega) hm) (by omega) (by omega))
          have HTK := Lib.hid (show ¬ n = (pl.length : Int) → UsAt wc (.slice a7 m c7) (al.take m) from fun hne => HA7.out.take (by have := HLEN.out; omega))
          have HFE := Lib.hid (show 0 ≤ n → ¬ n = (pl.length : Int) → F = l.length + n from fun h1 h2 => by
            have hF0 : 0 ≤ F := by omega
            have := nB hF0
            omega)
          have HFL := Lib.hid (show n < 0 → ¬ n = (pl.length : Int) → F < l.length from fun h1 h2 => by
            have hF0 : 0 ≤ F := by omega
            have := nB hF0
            omega)
          have HNW := Lib.hid (show ∀ k : Nat, 0 ≤ n → (k : Int) < l.length + n → ¬ (0 ≤ F ∧ F ≤ k) from fun k h1 h2 h3 => by
            have := nB h3.1
            omega)
          have HFF := Lib.hid hF
          have hLE := HLEN.out
          have l1 : (al.length : Int) = l.length + pl.length := by omega
          have HL1 := Lib.hid l1
          have b1 : (l.length : Int) + n ≤ 4000000 := by omega
          have b2 : (-1 : Int) ≤ (l.length : Int) + n := by omega
          clear hr hm hn hF nA nB hrn hml hcap hLE l1 f1 f2
          go_wp2_with fail
          refine (history_any P al ws _ _ _ _ (HV.out.below HB2.out (Nat.le_refl _)) (HA7.out.below HC2.out (Nat.le_refl _)) (HW.out.below HB2.out (Nat.le_refl _)) HF0.out).mono ?_
          rintro e w3 ⟨rfl, hb3⟩
          have HC3 := Lib.hid (HC2.out.trans (hb3.mono HC2.out.size))
          first | have HB3 := Lib.hid (HB2.out.trans (hb3.mono HB2.out.size)) | have HB3 := Lib.hid hb3
          clear hb3 hce hcx
          have hce := block_cell ((HB3.out.block _ (lt_of_block K0.out)).trans K0.out)
          have zce := Nat.lt_of_lt_of_le (lt_of_block K0.out) HB3.out.size
          have hcx := block_cell ((HB3.out.block _ (lt_of_block X0.out)).trans X0.out)
          have zcx := Nat.lt_of_lt_of_le (lt_of_block X0.out) HB3.out.size
          cases hh : histB P al ws
          · clear hh
            go_wp2_with fail
            go_loopw [11] (fun i wr => i = .int .i64 0 ∧ Hid (Below wA.heap.size wA wr) ∧ Hid (Below wc.heap.size wc wr)) (fun _ _ => 0)
            case atStart => exact ⟨rfl, HB3.out, HC3.out⟩
            case round =>
              obtain ⟨rfl, hb, hbc⟩ := hrel
              clear hce hcx zce zcx
              have hce := block_cell ((hb.out.block _ (lt_of_block K0.out)).trans K0.out)
              have hcx := block_cell ((hb.out.block _ (lt_of_block X0.out)).trans X0.out)
              have zcx := Nat.lt_of_lt_of_le (lt_of_block X0.out) hb.out.size
              have zce := Nat.lt_of_lt_of_le (lt_of_block K0.out) hb.out.size
              by_cases hg : (0 : Int) < (l.length : Int) + n
              all_goals
                by_cases hnp : n = (pl.length : Int)
                · have hnb : (n == (pl.length : Int)) = true := by simpa using hnp
                  clear hnp
                  go_wp2_with fail
                  refine (works_any _).mono ?_
                  rintro e w9 ⟨rfl, hb9⟩
                  go_wp2
                  go_ret
                  exact ⟨rfl, HB.out.trans ((hb.out.trans (hb9.mono hb.out.size)).mono HB.out.size)⟩
                · have hnb : (n == (pl.length : Int)) = false := by simpa using hnp
                  obtain ⟨f0, ft⟩ := HBT.out hnp
                  have HTK2 := Lib.hid (HTK.out hnp)
                  have HFT := Lib.hid ft
                  have HEQ := Lib.hid (show 0 ≤ n → F = l.length + n from fun h => HFE.out h hnp)
                  have HLT := Lib.hid (show n < 0 → F < l.length from fun h => HFL.out h hnp)
                  have kx := (hb.out.block _ (lt_of_block K0.out)).trans K0.out
                  have zkx := lt_of_block kx
                  have x0 := bw_cells (B := wr.heap.size) kx zkx
                  have kx2 := (hb.out.block _ (lt_of_block X0.out)).trans X0.out
                  have x2 := bw_cells (B := wr.heap.size) kx2 (lt_of_block kx2)
                  have m1 : (0 : Int) ≤ (l.length : Int) + n + 1 := by omega
                  have m2 : (l.length : Int) + n + 1 ≤ c7 := by have := HCAP.out; have := HL1.out; omega
                  have m3 : ((l.length : Int) + n + 1).toNat = m := by omega
                  have o1 : IntKind.i64.wrap ((l.length : Int) + n) = (l.length : Int) + n := by rw [IntKind.wrap_i64]; omega
                  have o2 : IntKind.i64.wrap ((l.length : Int) + n + 1) = (l.length : Int) + n + 1 := by rw [IntKind.wrap_i64]; omega
                  clear hnp ft kx2
                  go_wp2_with fail
                  refine wp_region_below (by kernel_rfl) (by kernel_rfl) (Below.refl wr.heap.size wr) ?_
                  repeat (refine wpQuiet_step (fun K hK => ?_); go_simp; first | (refine hK _ ?_; clear hK K) | (apply Exists.intro; refine ⟨fun _ => ?_, hK _ ?_⟩; (go_at_call 46; exact bw_call (Nat.le_refl _) (kbeyond_any P (al.take m) _ _ _ (HV.out.below (hb.out.trans ((BW.b _).mono hb.out.size)) (Nat.le_refl _)) (HTK2.out.below (hbc.out.trans ((BW.b _).mono hbc.out.size)) (Nat.le_refl _)))); clear hK K))
                  refine wpQuiet_nil ?_
                  intro wq hwq0
                  have hwq := bw_out hwq0
                  clear hwq0
                  have HBE := Lib.hid (hb.out.trans (hwq.mono hb.out.size))
                  rw [HFT.out]
                  clear hwq x0 x2 kx zkx m1 m2 m3 o1 o2
                  by_cases hn0 : 0 ≤ n
                  · have hfe : (F == (l.length : Int) + n) = true := by simpa using HEQ.out hn0
                    go_wp2_with fail
                    refine (works_any _).mono ?_
                    rintro e w9 ⟨rfl, hb9⟩
                    go_wp2
                    go_ret
                    exact ⟨rfl, HB.out.trans ((HBE.out.trans (hb9.mono HBE.out.size)).mono HB.out.size)⟩
                  · have hfl := HLT.out (by omega)
                    go_wp2_with fail
                    refine (works_any _).mono ?_
                    rintro e w9 ⟨rfl, hb9⟩
                    go_wp2
                    go_ret
                    exact ⟨rfl, HB.out.trans ((HBE.out.trans (hb9.mono HBE.out.size)).mono HB.out.size)⟩
          · have hH := histB_iff.1 hh
            have HLV := Lib.hid (fun i (hi : i < al.length) => (hist_lives HPO.out HUO.out hH hi).1)
            have HWL := Lib.hid hH.1
            clear hh hH
            go_wp2_with fail
            go_loopw [11] (fun i wr => ∃ k : Nat, i = .int .i64 k ∧ (k : Int) ≤ max 0 ((l.length : Int) + n) ∧ Hid (Below wA.heap.size wA wr) ∧ Hid (Below wc.heap.size wc wr)) (fun i _ => ((l.length : Int) + n - intOf i).toNat)
            case atStart => exact ⟨0, rfl, by omega, HB3.out, HC3.out⟩
            case round =>
              obtain ⟨k, rfl, hk, hb, hbc⟩ := hrel
              clear hce hcx zce zcx
              have hce := block_cell ((hb.out.block _ (lt_of_block K0.out)).trans K0.out)
              have hcx := block_cell ((hb.out.block _ (lt_of_block X0.out)).trans X0.out)
              have zcx := Nat.lt_of_lt_of_le (lt_of_block X0.out) hb.out.size
              have zce := Nat.lt_of_lt_of_le (lt_of_block K0.out) hb.out.size
              by_cases hg : (k : Int) < (l.length : Int) + n
              · by_cases h0 : 0 ≤ n
                · have hka : k < al.length := by have := HL1.out; omega
                  have hkw : k < ws.length := by have := HWL.out; omega
                  obtain ⟨wb, wo, rfl, wbl, wcc⟩ := HWC.out (by omega)
                  have HBR := Lib.hid (HB.out.trans (hb.out.mono HB.out.size))
                  have y1 := (HBR.out.cell (p := ⟨wb, wo + k, none⟩) wbl).trans (wcc k hkw)
                  have HQ := Lib.hid (show wornM P al k (ws.getD k 0) = false by
                    cases e : wornM P al k (ws.getD k 0)
                    · rfl
                    · have := HLV.out k hka e
                      rw [HFF.out] at this
                      exact absurd this (HNW.out k h0 hg))
                  have zw : wb < wr.heap.size := by have := HBR.out.size; omega
                  have kx := (hb.out.block _ (lt_of_block K0.out)).trans K0.out
                  have kx2 := (hb.out.block _ (lt_of_block X0.out)).trans X0.out
                  have x0 := bw_cells (B := wr.heap.size) kx zce
                  have x2 := bw_cells (B := wr.heap.size) kx2 zcx
                  generalize ws.getD k 0 = y at *
                  have x1 := bw_cell (B := wr.heap.size) y1 zw
                  have i1 : (0 : Int) ≤ (k : Int) := by omega
                  have i3 : (k : Int) < ws.length := by omega
                  clear wcc kx kx2
                  go_wp2_with fail
                  refine wp_region_below (by kernel_rfl) (by kernel_rfl) (Below.refl wr.heap.size wr) ?_
                  repeat (refine wpQuiet_step (fun K hK => ?_); go_simp; first | (refine hK _ ?_; clear hK K) | (apply Exists.intro; refine ⟨fun _ => ?_, hK _ ?_⟩; (go_at_call 58; exact bw_call (Nat.le_refl _) (rworn_is false (HV.out.below (hb.out.trans ((BW.b _).mono hb.out.size)) (Nat.le_refl _)) (HA7.out.below (hbc.out.trans ((BW.b _).mono hbc.out.size)) (Nat.le_refl _)) HPO.out HUO.out h40 hka HQ.out)); clear hK K))
                  refine wpQuiet_nil ?_
                  intro wq hwq0
                  have hwq := bw_out hwq0
                  clear hwq0
                  have HBQ := Lib.hid (hb.out.trans (hwq.mono hb.out.size))
                  have HCQ := Lib.hid (hbc.out.trans (hwq.mono hbc.out.size))
                  clear hwq x0 x1 x2
                  go_wp2
                  go_roundw
                  case rel => exact ⟨k + 1, by go_num, by omega, HBQ.out, HCQ.out⟩
                  case measure => simp [intOf]; omega
                · by_cases hnp : n = (pl.length : Int)
                  · have hnb : (n == (pl.length : Int)) = true := by simpa using hnp
                    clear hnp
                    go_wp2_with fail
                    refine (works_any _).mono ?_
                    rintro e w9 ⟨rfl, hb9⟩
                    go_wp2
                    go_ret
                    exact ⟨rfl, HB.out.trans ((hb.out.trans (hb9.mono hb.out.size)).mono HB.out.size)⟩
                  · have hnb : (n == (pl.length : Int)) = false := by simpa using hnp
                    obtain ⟨f0, ft⟩ := HBT.out hnp
                    have HTK2 := Lib.hid (HTK.out hnp)
                    have HFT := Lib.hid ft
                    have HEQ := Lib.hid (show 0 ≤ n → F = l.length + n from fun h => HFE.out h hnp)
                    have HLT := Lib.hid (show n < 0 → F < l.length from fun h => HFL.out h hnp)
                    have kx := (hb.out.block _ (lt_of_block K0.out)).trans K0.out
                    have zkx := lt_of_block kx
                    have x0 := bw_cells (B := wr.heap.size) kx zkx
                    have kx2 := (hb.out.block _ (lt_of_block X0.out)).trans X0.out
                    have x2 := bw_cells (B := wr.heap.size) kx2 (lt_of_block kx2)
                    have m1 : (0 : Int) ≤ (l.length : Int) + n + 1 := by omega
                    have m2 : (l.length : Int) + n + 1 ≤ c7 := by have := HCAP.out; have := HL1.out; omega
                    have m3 : ((l.length : Int) + n + 1).toNat = m := by omega
                    have o1 : IntKind.i64.wrap ((l.length : Int) + n) = (l.length : Int) + n := by rw [IntKind.wrap_i64]; omega
                    have o2 : IntKind.i64.wrap ((l.length : Int) + n + 1) = (l.length : Int) + n + 1 := by rw [IntKind.wrap_i64]; omega
                    clear hnp ft kx2
                    go_wp2_with fail
                    refine wp_region_below (by kernel_rfl) (by kernel_rfl) (Below.refl wr.heap.size wr) ?_
                    repeat (refine wpQuiet_step (fun K hK => ?_); go_simp; first | (refine hK _ ?_; clear hK K) | (apply Exists.intro; refine ⟨fun _ => ?_, hK _ ?_⟩; (go_at_call 46; exact bw_call (Nat.le_refl _) (kbeyond_any P (al.take m) _ _ _ (HV.out.below (hb.out.trans ((BW.b _).mono hb.out.size)) (Nat.le_refl _)) (HTK2.out.below (hbc.out.trans ((BW.b _).mono hbc.out.size)) (Nat.le_refl _)))); clear hK K))
                    refine wpQuiet_nil ?_
                    intro wq hwq0
                    have hwq := bw_out hwq0
                    clear hwq0
                    have HBE := Lib.hid (hb.out.trans (hwq.mono hb.out.size))
                    rw [HFT.out]
                    clear hwq x0 x2 kx zkx m1 m2 m3 o1 o2
                    by_cases hn0 : 0 ≤ n
                    · have hfe : (F == (l.length : Int) + n) = true := by simpa using HEQ.out hn0
                      go_wp2_with fail
                      refine (works_any _).mono ?_
                      rintro e w9 ⟨rfl, hb9⟩
                      go_wp2
                      go_ret
                      exact ⟨rfl, HB.out.trans ((HBE.out.trans (hb9.mono HBE.out.size)).mono HB.out.size)⟩
                    · have hfl := HLT.out (by omega)
                      go_wp2_with fail
                      refine (works_any _).mono ?_
                      rintro e w9 ⟨rfl, hb9⟩
                      go_wp2
                      go_ret
                      exact ⟨rfl, HB.out.trans ((HBE.out.trans (hb9.mono HBE.out.size)).mono HB.out.size)⟩
              · by_cases hnp : n = (pl.length : Int)
                · have hnb : (n == (pl.length : Int)) = true := by simpa using hnp
                  clear hnp
                  go_wp2_with fail
                  refine (works_any _).mono ?_
                  rintro e w9 ⟨rfl, hb9⟩
                  go_wp2
                  go_ret
                  exact ⟨rfl, HB.out.trans ((hb.out.trans (hb9.mono hb.out.size)).mono HB.out.size)⟩
                · have hnb : (n == (pl.length : Int)) = false := by simpa using hnp
                  obtain ⟨f0, ft⟩ := HBT.out hnp
                  have HTK2 := Lib.hid (HTK.out hnp)
                  have HFT := Lib.hid ft
                  have HEQ := Lib.hid (show 0 ≤ n → F = l.length + n from fun h => HFE.out h hnp)
                  have HLT := Lib.hid (show n < 0 → F < l.length from fun h => HFL.out h hnp)
                  have kx := (hb.out.block _ (lt_of_block K0.out)).trans K0.out
                  have zkx := lt_of_block kx
                  have x0 := bw_cells (B := wr.heap.size) kx zkx
                  have kx2 := (hb.out.block _ (lt_of_block X0.out)).trans X0.out
                  have x2 := bw_cells (B := wr.heap.size) kx2 (lt_of_block kx2)
                  have m1 : (0 : Int) ≤ (l.length : Int) + n + 1 := by omega
                  have m2 : (l.length : Int) + n + 1 ≤ c7 := by have := HCAP.out; have := HL1.out; omega
                  have m3 : ((l.length : Int) + n + 1).toNat = m := by omega
                  have o1 : IntKind.i64.wrap ((l.length : Int) + n) = (l.length : Int) + n := by rw [IntKind.wrap_i64]; omega
                  have o2 : IntKind.i64.wrap ((l.length : Int) + n + 1) = (l.length : Int) + n + 1 := by rw [IntKind.wrap_i64]; omega
                  clear hnp ft kx2
                  go_wp2_with fail
                  refine wp_region_below (by kernel_rfl) (by kernel_rfl) (Below.refl wr.heap.size wr) ?_
                  repeat (refine wpQuiet_step (fun K hK => ?_); go_simp; first | (refine hK _ ?_; clear hK K) | (apply Exists.intro; refine ⟨fun _ => ?_, hK _ ?_⟩; (go_at_call 46; exact bw_call (Nat.le_refl _) (kbeyond_any P (al.take m) _ _ _ (HV.out.below (hb.out.trans ((BW.b _).mono hb.out.size)) (Nat.le_refl _)) (HTK2.out.below (hbc.out.trans ((BW.b _).mono hbc.out.size)) (Nat.le_refl _)))); clear hK K))
                  refine wpQuiet_nil ?_
                  intro wq hwq0
                  have hwq := bw_out hwq0
                  clear hwq0
                  have HBE := Lib.hid (hb.out.trans (hwq.mono hb.out.size))
                  rw [HFT.out]
                  clear hwq x0 x2 kx zkx m1 m2 m3 o1 o2
                  by_cases hn0 : 0 ≤ n
                  · have hfe : (F == (l.length : Int) + n) = true := by simpa using HEQ.out hn0
                    go_wp2_with fail
                    refine (works_any _).mono ?_
                    rintro e w9 ⟨rfl, hb9⟩
                    go_wp2
                    go_ret
                    exact ⟨rfl, HB.out.trans ((HBE.out.trans (hb9.mono HBE.out.size)).mono HB.out.size)⟩
                  · have hfl := HLT.out (by omega)
                    go_wp2_with fail
                    refine (works_any _).mono ?_
                    rintro e w9 ⟨rfl, hb9⟩
                    go_wp2
                    go_ret
                    exact ⟨rfl, HB.out.trans ((HBE.out.trans (hb9.mono HBE.out.size)).mono HB.out.size)⟩
      · rw [HLA.out hm]
        clear hm
        go_wp2_with fail
        refine (works_any _).mono ?_
        rintro e w9 ⟨rfl, hb9⟩
        go_wp2
        go_ret
        exact ⟨rfl, HB.out.trans ((HB2.out.trans (hb9.mono HB2.out.size)).mono HB.out.size)⟩
    · generalize partM P al = f at *
      go_wp2_with fail
      refine (works_any _).mono ?_
      rintro e w3 ⟨rfl, hb3⟩
      go_wp2
      go_ret
      exact ⟨rfl, HB.out.trans ((HB1.out.trans (hb3.mono HB1.out.size)).mono HB.out.size)⟩

end Go.Proofs.Ytkahhclmmlkpjaa
