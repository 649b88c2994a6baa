import Derived.Test.YtbiihhokcmdlhaaZzF
/- Texts of one seat, merged: Cv -/
/- Walks of layer 3 (circuit): Check of the specification. -/
namespace Go.Proofs.Ytbiihhokcmdlhaa
open Go.RowKit

theorem shl_u64 {k : Nat} (h : k ≤ 60) : IntKind.i64.wrap (2 ^ min (IntKind.u64.wrap (k : Int)).toNat 64) = ((2 ^ k : Nat) : Int) := by
  rw [IntWalk.u64_in _ (by omega), Int.toNat_natCast, Nat.min_eq_left (by omega)]
  have := pow_small h
  rw [show ((2 : Int) ^ k) = ((2 ^ k : Nat) : Int) by simp]
  generalize (2 ^ k : Nat) = m at *
  exact IntWalk.i64_in _ (by omega)

theorem usedTo_le' (ws : List Wir) (j : Nat) : ∀ k, (∀ i, i < k → ¬ (ws.getD i Wir.zero).kind = 1 → (ws.getD i Wir.zero).of.length ≤ 8) → usedTo ws j k ≤ k * 8
  | 0, _ => Nat.le_refl _
  | k + 1, h => by
    have h1 := usedTo_le' ws j k (fun i hi => h i (by omega))
    unfold usedTo
    split
    · omega
    · rename_i hn
      have h2 := h k (by omega) hn
      have h3 := List.countP_le_length (p := fun x => x == (j : Int)) (l := (ws.getD k Wir.zero).of)
      omega

theorem cntTo_bd' {ws : List Wir} {k : Nat} (h : ∀ i, i < k → ¬ (ws.getD i Wir.zero).kind = 1 → (ws.getD i Wir.zero).of.length ≤ 8) (hk : k ≤ 24) (h8 : (ws.getD k Wir.zero).of.length ≤ 8) (m j : Nat) : 0 ≤ cntTo ws k m j ∧ cntTo ws k m j ≤ 1000000 := by
  have h1 := usedTo_le' ws j k h
  have h3 := List.countP_le_length (p := fun x => x == (j : Int)) (l := (ws.getD k Wir.zero).of.take m)
  have h5 : ((ws.getD k Wir.zero).of.take m).length ≤ (ws.getD k Wir.zero).of.length := by rw [List.length_take]; omega
  unfold cntTo
  omega

/-- The counters as a list. -/
def usedR (c : Cir) (f : Nat → Int) : List Int := (List.range c.ws.length).map f
theorem usedR_len (c : Cir) (f : Nat → Int) : (usedR c f).length = c.ws.length := by simp [usedR]
theorem usedR_at {c : Cir} {f : Nat → Int} {j : Nat} (h : j < c.ws.length) : (usedR c f).getD j 0 = f j := by
  unfold usedR
  rw [List.getD_eq_getElem?_getD, List.getElem?_map, List.getElem?_range h]; rfl
theorem usedR_bump {c : Cir} {f : Nat → Int} {p : Nat} : (usedR c f).set p (f p + 1) = usedR c (bump f p) := by
  unfold usedR
  apply List.ext_getElem
  · simp
  · intro i h1 h2
    rw [List.getElem_set]
    simp only [List.getElem_map, List.getElem_range, bump]
    by_cases e : p = i
    · subst e; simp
    · rw [if_neg e, if_neg (fun h => e h.symm)]
theorem usedR_zero (c : Cir) : usedR c (cntF c.ws 0) = List.replicate c.ws.length 0 := by
  unfold usedR
  apply List.ext_getElem
  · simp
  · intro i h1 h2
    simp [cntF, usedTo]

theorem valid_sw {c : Cir} {k : Nat} (hk : k < c.sw.length) (h : setB (c.sw.getD k 0) c.hz.toNat = false) : validB c = false := by
  have e : switchesB c = false := by
    unfold switchesB
    rw [List.all_eq_false]
    exact ⟨_, getD_mem hk 0, by rw [h]; simp⟩
  unfold validB; rw [e]; simp
theorem valid_ws {c : Cir} {k : Nat} (hk : k < c.ws.length) (h : wireB c.sw.length c.ws.length k (c.ws.getD k Wir.zero) = false) : validB c = false := by
  have e : wiresB c = false := by
    unfold wiresB
    rw [List.all_eq_false]
    exact ⟨k, List.mem_range.2 hk, by rw [h]; simp⟩
  unfold validB; rw [e]; simp
theorem valid_jo {c : Cir} {k : Nat} (hk : k < c.ws.length) (h0 : k ≠ 0) (h : ¬ usedTo c.ws k c.ws.length = 1) : validB c = false := by
  have e : joinedB c = false := by
    unfold joinedB
    rw [List.all_eq_false]
    exact ⟨k, List.mem_range.2 hk, by simp [h0, h]⟩
  unfold validB; rw [e]; simp

def WRel (c : Cir) (sv wv : Value) (w wr : World) (G : Nat) (f : Nat → Int) : Prop := Below w.heap.size w wr ∧ wr.heap[w.heap.size]? = some (cirO c sv wv) ∧ IntRow wr G (usedR c f)

theorem WRel.alloc {c : Cir} {sv wv : Value} {w wr : World} {G : Nat} {f : Nat → Int} (h : WRel c sv wv w wr G f) (o : Obj) : WRel c sv wv w (wr.alloc o) G f :=
  ⟨h.1.alloc h.1.size o, block_alloc h.2.1 o, h.2.2.alloc o⟩
theorem WRel.later {c : Cir} {sv wv : Value} {w wr w' : World} {G : Nat} {f : Nat → Int} (h : WRel c sv wv w wr G f) (hb : Below wr.heap.size wr w') : WRel c sv wv w w' G f :=
  ⟨h.1.trans (hb.mono h.1.size), keepZ h.2.1 hb, h.2.2.later hb h.2.2.lt⟩
theorem WRel.bump {c : Cir} {sv wv : Value} {w wr : World} {G : Nat} {f : Nat → Int} (h : WRel c sv wv w wr G f) (hG : w.heap.size < G) {p : Nat} (hp : p < c.ws.length) : WRel c sv wv w (wr.setCell ⟨G, p, none⟩ (.int .i64 (f p + 1))) G (bump f p) := by
  obtain ⟨h1, h2, h3⟩ := h
  refine ⟨h1.setCell (p := ⟨G, p, none⟩) (by show w.heap.size ≤ G; omega) _, block_set_other (p := ⟨G, p, none⟩) h2 (by show w.heap.size ≠ G; omega) _, ?_⟩
  rw [← usedR_bump]
  exact h3.set (by rw [usedR_len]; exact hp) _

set_option maxRecDepth 100000 in
set_option maxHeartbeats 16000000 in
theorem rcheck_any (c : Cir) (sv wv : Value) (w : World) (hv : CirAt w sv wv c) :
    Calls Try.prog 23 #[cirV c sv wv] w fun e w' => e = .returned (.int .i64 (chkC c)) ∧ Below w.heap.size w w' := by
  have HB := Lib.hid ((Below.refl w.heap.size w).alloc (Nat.le_refl _) (cirO c sv wv))
  have K0 := Lib.hid (block_new w (cirO c sv wv) w.heap.size rfl)
  have HV := Lib.hid hv
  obtain ⟨⟨sa, scap, rfl, _, m2, hsc⟩, ⟨wa, wcap, rfl, _, m4, hwc⟩⟩ := hv
  have HSC := Lib.hid hsc
  have HWC := Lib.hid hwc
  clear hsc hwc
  have m5 : (c.sw.length : Int) ≤ 9223372036854775807 := by omega
  have m6 : (c.ws.length : Int) ≤ 9223372036854775807 := by omega
  obtain ⟨b1, h1⟩ : ∃ b, decide (1 ≤ c.hz ∧ c.hz ≤ 8) = b := ⟨_, rfl⟩
  obtain ⟨b2, h2⟩ : ∃ b, decide (1 ≤ (c.sw.length : Int) ∧ (c.sw.length : Int) ≤ 12) = b := ⟨_, rfl⟩
  obtain ⟨b3, h3⟩ : ∃ b, decide (1 ≤ (c.ws.length : Int) ∧ (c.ws.length : Int) ≤ 24) = b := ⟨_, rfl⟩
  have HS := Lib.hid (sizes_of h1 h2 h3)
  have H1 := Lib.hid h1
  have H2 := Lib.hid h2
  have H3 := Lib.hid h3
  clear h1 h2 h3
  by_cases hall : (b1 && b2 && b3) = true
  · simp only [Bool.and_eq_true] at hall
    obtain ⟨⟨rfl, rfl⟩, rfl⟩ := hall
    have g1 := H1.out
    have g2 := H2.out
    have g3 := H3.out
    simp only [decide_eq_true_eq] at g1 g2 g3
    obtain ⟨g1, g1'⟩ := g1
    obtain ⟨g2, g2'⟩ := g2
    obtain ⟨g3, g3'⟩ := g3
    obtain ⟨hz, hhz⟩ : ∃ n : Nat, c.hz = n := ⟨c.hz.toNat, by omega⟩
    have HZ := Lib.hid hhz
    have HZT := Lib.hid (show c.hz.toNat = hz by omega)
    have hz8 : hz ≤ 8 := by omega
    have hz0 : (0 : Int) ≤ hz := by omega
    have hpw := wrap64_pow (k := hz) (by omega)
    have hshl := shl_u64 (k := hz) (by omega)
    have hpl := pow_small (k := hz) (by omega)
    have hp1 := Nat.one_le_two_pow (n := hz)
    have HPW := Lib.hid (show (2 : Int) ^ hz = ((2 ^ hz : Nat) : Int) by simp)
    generalize hM : (2 ^ hz : Nat) = M at *
    have HM := Lib.hid hM
    have H1Z := Lib.hid (show decide (1 ≤ (hz : Int) ∧ (hz : Int) ≤ 8) = true by rw [← HZ.out]; exact H1.out)
    obtain ⟨i0, hi, hzz0, hzz1, hzz2⟩ := info_parts infoInt
    clear hM hhz
    have c0 := block_cell K0.out
    rw [HZ.out] at c0
    go_enter Try.func23, Try.ntmps23
    go_wp2_with (first | (go_at_call 80; (first | (with_reducible refine (rwithin_is _ (hz : Int) 1 8 _ H1Z.out).mono ?_) | (with_reducible refine (rwithin_is _ (c.sw.length : Int) 1 12 _ H2.out).mono ?_) | (with_reducible refine (rwithin_is _ (c.ws.length : Int) 1 24 _ H3.out).mono ?_)); rintro e w1 ⟨rfl, rfl⟩))
    generalize w.alloc (cirO c (.slice sa c.sw.length scap) (.slice wa c.ws.length wcap)) = wA at *
    clear c0
    go_loopw [3] (fun i wr => ∃ k : Nat, k ≤ c.sw.length ∧ i = .int .i64 k ∧ Hid (Below wA.heap.size wA wr) ∧ Hid (∀ j, j < k → setB (c.sw.getD j 0) hz = true)) (fun i _ => c.sw.length - (intOf i).toNat)
    case atStart => exact ⟨0, Nat.zero_le _, rfl, Lib.hid (Below.refl _ _), Lib.hid (fun j hj => by omega)⟩
    case round =>
      obtain ⟨k, hk, rfl, hb, hf⟩ := hrel
      have kk0 := keepZ K0.out hb.out
      have c0 := block_cell kk0
      rw [HZ.out] at c0
      by_cases hlt : k < c.sw.length
      · obtain ⟨b, off, rfl, hbl, hcc⟩ := HSC.out (by omega)
        have HX := Lib.hid (HB.out.trans (hb.out.mono HB.out.size))
        have g4 := (HX.out.cell (p := ⟨b, off + k, none⟩) hbl).trans (hcc k hlt)
        have hbs := Nat.lt_of_lt_of_le hbl HX.out.size
        have b1 := bw_cells (B := wr.heap.size) kk0 (lt_of_block kk0)
        rw [HZ.out] at b1
        have b2 := bw_cell (B := wr.heap.size) g4 hbs
        have k1 : (0 : Int) ≤ k := by omega
        have k2 : (k : Int) < c.sw.length := by omega
        have HQ0 := Lib.hid (show decide (0 ≤ c.sw.getD k 0 ∧ c.sw.getD k 0 ≤ (M : Int) - 1) = setB (c.sw.getD k 0) hz by unfold setB; rw [HPW.out])
        have HVS := Lib.hid (valid_sw (c := c) hlt)
        rw [HZT.out] at HVS
        have hwr : IntKind.i64.wrap ((M : Int) - 1) = (M : Int) - 1 := IntWalk.i64_in _ (by omega)
        generalize hx : c.sw.getD k 0 = x at *
        have HXX := Lib.hid hx
        clear hcc g4 hx kk0
        cases hq : setB x hz
        · have HQ := Lib.hid (HQ0.out.trans hq)
          have HR := Lib.hid (chkC_bad (HVS.out hq))
          clear hq
          go_wp2_with fail
          refine wp_region_below (by kernel_rfl) (by kernel_rfl) (Below.refl wr.heap.size wr) ?_
          repeat ((with_reducible refine wpQuiet_step (fun K hK => ?_)); go_simp; first | (refine hK _ ?_; clear hK K) | (apply Exists.intro; refine ⟨fun _ => ?_, hK _ ?_⟩; ((go_at_call 80; with_reducible exact bw_same (rwithin_is false x 0 ((M : Int) - 1) _ HQ.out))); clear hK K))
          refine wpQuiet_nil ?_
          intro wq hwq0
          have hwq := bw_out hwq0
          clear hwq0
          go_wp2_with fail
          go_ret
          exact ⟨ret_int HR.out, HX.out.trans (hwq.mono HX.out.size)⟩
        · have HQ := Lib.hid (HQ0.out.trans hq)
          have HQ2 := Lib.hid hq
          clear hq
          go_wp2_with fail
          refine wp_region_below (by kernel_rfl) (by kernel_rfl) (Below.refl wr.heap.size wr) ?_
          repeat ((with_reducible refine wpQuiet_step (fun K hK => ?_)); go_simp; first | (refine hK _ ?_; clear hK K) | (apply Exists.intro; refine ⟨fun _ => ?_, hK _ ?_⟩; ((go_at_call 80; with_reducible exact bw_same (rwithin_is true x 0 ((M : Int) - 1) _ HQ.out))); clear hK K))
          refine wpQuiet_nil ?_
          intro wq hwq0
          have hwq := bw_out hwq0
          clear hwq0
          have HB2 := Lib.hid (hb.out.trans (hwq.mono hb.out.size))
          clear hwq b1 b2 c0
          go_wp2_with fail
          go_roundw
          case rel => exact ⟨k + 1, hlt, by go_num, HB2, Lib.hid (fun j hj => by
            by_cases e : j = k
            · rw [e, HXX.out]; exact HQ2.out
            · exact hf.out j (by omega))⟩
          case measure => simp [intOf]; omega
      · obtain rfl : k = c.sw.length := by omega
        have HSW := Lib.hid (show switchesB c = true by
          unfold switchesB
          rw [List.all_eq_true]
          intro x hx
          obtain ⟨j, hj, rfl⟩ := List.getElem_of_mem hx
          have := hf.out j hj
          rw [List.getD_eq_getElem?_getD, List.getElem?_eq_getElem hj] at this
          rw [HZT.out]; exact this)
        have HX := Lib.hid (HB.out.trans (hb.out.mono HB.out.size))
        have hszr := hb.out.size
        go_wp2_with (refine wpList_make_full _ rfl (.tmp 49) (.tmp 49) 22 rfl wr.heap.size 3 i0 (.int .i64 0) 1 Try.underlying22 hi hzz0 hzz1 .i64 .i64 _ _ c.ws.length rfl rfl (by omega) (by omega) ?m1 ?m2 (Nat.le_refl _) ?_)
        case m1 => rw [hzz2]; omega
        case m2 => unfold maxLen; omega
        intro w3 hown hgrow
        have hb3 : Below wr.heap.size wr w3 := (Below.refl _ _).grown hgrow (Nat.le_refl _) (fun k h => by cases h)
        have hrow := (IntRow.of_own (xs := List.replicate c.ws.length 0) (by rw [← made1]; exact hown)).1
        rw [← usedR_zero] at hrow
        have R0 := Lib.hid hrow
        have HB3 := Lib.hid hb3
        have K3 := Lib.hid (keepZ kk0 hb3)
        have HX3 := Lib.hid (HX.out.trans (hb3.mono HX.out.size))
        have zG : w.heap.size < wr.heap.size := lt_of_block kk0
        have zGX : Hid (w.heap.size ≤ wr.heap.size) := Nat.le_of_lt zG
        clear hown hgrow hb3 hrow hi hzz0 hzz1 hzz2 c0 kk0
        generalize wr.heap.size = G at *
        clear hb hf hszr hpw hshl hpl hp1
        have RW := Lib.hid (show WRel c (.slice sa c.sw.length scap) (.slice wa c.ws.length wcap) w w3 G (cntF c.ws 0) from ⟨HX3.out, K3.out, R0.out⟩)
        go_wp2_with fail
        go_loopw [5] (fun i wr => ∃ k : Nat, k ≤ c.ws.length ∧ i = .int .i64 k ∧ Hid (WRel c (.slice sa c.sw.length scap) (.slice wa c.ws.length wcap) w wr G (cntF c.ws k)) ∧ Hid (∀ j, j < k → wireB c.sw.length c.ws.length j (c.ws.getD j Wir.zero) = true)) (fun i _ => c.ws.length - (intOf i).toNat)
        case atStart => exact ⟨0, Nat.zero_le _, rfl, RW, Lib.hid (fun j hj => by omega)⟩
        case round =>
          obtain ⟨k, hk, rfl, hR, hf⟩ := hrel
          obtain ⟨wo, rfl⟩ : ∃ wo : World, wo = wr := ⟨_, rfl⟩
          have c0 := block_cell hR.out.2.1
          have zc := lt_of_block hR.out.2.1
          by_cases hlt : k < c.ws.length
          · obtain ⟨b, off, rfl, hbl, hcc⟩ := HWC.out (by omega)
            obtain ⟨q1, u, q2, q3⟩ := hcc k hlt
            have g6 := (hR.out.1.cell (p := ⟨b, off + k * 2, none⟩) hbl).trans q1
            have g7 := (hR.out.1.cell (p := ⟨b, off + k * 2 + 1, none⟩) hbl).trans q2
            have hbl2 : b < wo.heap.size := Nat.lt_of_lt_of_le hbl hR.out.1.size
            have HU := Lib.hid q3
            have k1 : (0 : Int) ≤ k := by omega
            have k2 : (k : Int) < c.ws.length := by omega
            have HVW := Lib.hid (valid_ws (c := c) hlt)
            have HW1 := Lib.hid (fun h => wire_is1 (n := c.sw.length) (m := c.ws.length) (i := k) (w := c.ws.getD k Wir.zero) h)
            have HW2 := Lib.hid (fun h1 h2 => wire_is2 (n := c.sw.length) (m := c.ws.length) (i := k) (w := c.ws.getD k Wir.zero) h1 h2)
            have HW3 := Lib.hid (fun h1 h2 => wire_is3 (n := c.sw.length) (m := c.ws.length) (i := k) (w := c.ws.getD k Wir.zero) h1 h2)
            have HN1 := Lib.hid (fun h => cnt_single (ws := c.ws) (k := k) h)
            have HN2 := Lib.hid (fun h (m : Nat) (hm : (c.ws.getD k Wir.zero).of.length ≤ m) => cnt_more (ws := c.ws) (k := k) (m := m) h hm)
            have HN3 := Lib.hid (fun m p => cnt_step (ws := c.ws) (k := k) (m := m) (p := p))
            have HN4 := Lib.hid (fun h8 => cntTo_bd' (ws := c.ws) (k := k) (fun i hi hki => (wire_more (hf.out i hi) hki).2.2.1) (by omega) h8)
            have HPREV := Lib.hid (fun (h : wireB c.sw.length c.ws.length k (c.ws.getD k Wir.zero) = true) => show ∀ j, j < k + 1 → wireB c.sw.length c.ws.length j (c.ws.getD j Wir.zero) = true from fun j hj => by
              by_cases e : j = k
              · rw [e]; exact h
              · exact hf.out j (by omega))
            obtain ⟨ua, ucap, rfl, _, hucap, hu⟩ := q3
            have HUU := Lib.hid hu
            generalize hwi : c.ws.getD k Wir.zero = wi at *
            have HWI := Lib.hid hwi
            clear hcc q1 q2 hu hwi
            have KB := Lib.hid (block_new wo (wirO wi.kind (.slice ua wi.of.length ucap)) wo.heap.size rfl)
            have RA := Lib.hid (hR.out.alloc (wirO wi.kind (.slice ua wi.of.length ucap)))
            by_cases hk1 : wi.kind = 1
            · have hkb : (wi.kind == 1) = true := by rw [hk1]; rfl
              have hw1 := HW1.out hk1
              have HNK := Lib.hid (HN1.out hk1)
              clear hk1
              by_cases hl : wi.of.length = 1
              · rw [decide_eq_true hl, Bool.true_and] at hw1
                have HWW := Lib.hid hw1
                obtain ⟨ub, uoff, rfl, hubl, hu⟩ := HUU.out (by omega)
                have hu0 := hu 0 (by omega)
                rw [Nat.add_zero] at hu0
                have hu1 := (RA.out.1.cell (p := ⟨ub, uoff, none⟩) hubl).trans hu0
                have hubs := Nat.lt_of_lt_of_le hubl RA.out.1.size
                have hl1 : (0 : Int) < wi.of.length := by omega
                have hl0 : 0 < wi.of.length := by omega
                have hlb : ((wi.of.length : Int) == 1) = true := by rw [hl]; rfl
                have hlc : ((wi.of.length : Int) != 1) = false := by rw [hl]; rfl
                have HU1 := Lib.hid hu1
                generalize wi.of.getD 0 0 = x at *
                clear hu hu0 hu1 hl hw1
                go_wp2_with fail
                clear g6 g7 c0
                generalize wo.alloc (wirO wi.kind (.slice (some ⟨ub, uoff, none⟩) wi.of.length ucap)) = wB at *
                have b1 := bw_cells (B := wB.heap.size) RA.out.2.1 (lt_of_block RA.out.2.1)
                have b2 := bw_cells (B := wB.heap.size) KB.out (lt_of_block KB.out)
                have b3 := bw_cell (B := wB.heap.size) HU1.out hubs
                have hwr : IntKind.i64.wrap ((c.sw.length : Int) - 1) = (c.sw.length : Int) - 1 := IntWalk.i64_in _ (by omega)
                cases hq : decide (0 ≤ x ∧ x ≤ (c.sw.length : Int) - 1)
                · have HQ := Lib.hid hq
                  have HR := Lib.hid (chkC_bad (HVW.out (by rw [HWW.out]; exact hq)))
                  clear hq
                  refine wp_region_below (by kernel_rfl) (by kernel_rfl) (Below.refl wB.heap.size wB) ?_
                  repeat ((with_reducible refine wpQuiet_step (fun K hK => ?_)); go_simp; first | (refine hK _ ?_; clear hK K) | (apply Exists.intro; refine ⟨fun _ => ?_, hK _ ?_⟩; ((go_at_call 80; with_reducible exact bw_same (rwithin_is false x 0 ((c.sw.length : Int) - 1) _ HQ.out))); clear hK K))
                  refine wpQuiet_nil ?_
                  intro wq hwq0
                  have hwq := bw_out hwq0
                  clear hwq0
                  clear hwr b1 b2 b3
                  go_wp2_with fail
                  go_ret
                  exact ⟨ret_int HR.out, (RA.out.later hwq).1⟩
                · have HQ := Lib.hid hq
                  have HP := Lib.hid (HPREV.out (by rw [HWW.out]; exact hq))
                  clear hq
                  refine wp_region_below (by kernel_rfl) (by kernel_rfl) (Below.refl wB.heap.size wB) ?_
                  repeat ((with_reducible refine wpQuiet_step (fun K hK => ?_)); go_simp; first | (refine hK _ ?_; clear hK K) | (apply Exists.intro; refine ⟨fun _ => ?_, hK _ ?_⟩; ((go_at_call 80; with_reducible exact bw_same (rwithin_is true x 0 ((c.sw.length : Int) - 1) _ HQ.out))); clear hK K))
                  refine wpQuiet_nil ?_
                  intro wq hwq0
                  have hwq := bw_out hwq0
                  clear hwq0
                  have RL := Lib.hid (RA.out.later hwq)
                  clear hwr b1 b2 b3 hwq
                  go_wp2_with fail
                  go_roundw
                  case rel => exact ⟨k + 1, hlt, by go_num, by rw [HNK.out]; exact RL, HP⟩
                  case measure => simp [intOf]; omega
              · rw [decide_eq_false hl, Bool.false_and] at hw1
                have hlb : ((wi.of.length : Int) != 1) = true := by simp; omega
                have HR := Lib.hid (chkC_bad (HVW.out hw1))
                clear hl hw1
                go_wp2_with fail
                clear g6 g7 c0
                generalize wo.alloc (wirO wi.kind (.slice ua wi.of.length ucap)) = wB at *
                have b1 := bw_cells (B := wB.heap.size) RA.out.2.1 (lt_of_block RA.out.2.1)
                have b2 := bw_cells (B := wB.heap.size) KB.out (lt_of_block KB.out)
                refine wp_region_below (by kernel_rfl) (by kernel_rfl) (Below.refl wB.heap.size wB) ?_
                repeat ((with_reducible refine wpQuiet_step (fun K hK => ?_)); go_simp; first | (refine hK _ ?_; clear hK K) | (apply Exists.intro; refine ⟨fun _ => ?_, hK _ ?_⟩; (fail); clear hK K))
                refine wpQuiet_nil ?_
                intro wq hwq0
                have hwq := bw_out hwq0
                clear hwq0
                clear b1 b2
                go_wp2_with fail
                go_ret
                exact ⟨ret_int HR.out, (RA.out.later hwq).1⟩
            · have hkb : (wi.kind == 1) = false := by simpa using hk1
              by_cases hk2 : wi.kind = 2 ∨ wi.kind = 3
              · have HWW := Lib.hid (HW2.out hk1 hk2)
                have HNM := Lib.hid (HN2.out hk1)
                clear hk1
                rcases hk2 with hk2 | hk2
                · have hkb2 : (wi.kind == 2) = true := by rw [hk2]; rfl
                  have hkb3 : (wi.kind == 3) = false := by rw [hk2]; rfl
                  clear hk2
                  cases h8 : decide (1 ≤ (wi.of.length : Int) ∧ (wi.of.length : Int) ≤ 8)
                  · have H8 := Lib.hid h8
                    clear h8
                    have HR := Lib.hid (chkC_bad (HVW.out (by rw [HWW.out, H8.out]; rfl)))
                    go_wp2_with (go_at_call 80; (with_reducible refine (rwithin_is false (wi.of.length : Int) 1 8 _ H8.out).mono ?_); rintro e w4 ⟨rfl, rfl⟩)
                    go_ret
                    exact ⟨ret_int HR.out, RA.out.1⟩
                  · have H8 := Lib.hid h8
                    clear h8
                    have hl8 := H8.out
                    simp only [decide_eq_true_eq] at hl8
                    obtain ⟨l1, l8⟩ := hl8
                    have l9 : wi.of.length ≤ 8 := by omega
                    have HN5 := Lib.hid (HN4.out l9)
                    have hGp := hR.out.2.2.lt
                    have RB := Lib.hid (show WRel c (.slice sa c.sw.length scap) (.slice (some ⟨b, off, none⟩) c.ws.length wcap) w (wo.alloc (wirO wi.kind (.slice ua wi.of.length ucap))) G (cntTo c.ws k 0) from by rw [cnt_start]; exact RA.out)
                    go_wp2_with (go_at_call 80; (with_reducible refine (rwithin_is true (wi.of.length : Int) 1 8 _ H8.out).mono ?_); rintro e w4 ⟨rfl, rfl⟩)
                    clear g6 g7 c0
                    generalize wo.alloc (wirO wi.kind (.slice ua wi.of.length ucap)) = wB at *
                    generalize wo.heap.size = p at *
                    go_loopw [7, 8] (fun y x wr => ∃ m : Nat, m ≤ wi.of.length ∧ x = .int .i64 m ∧ ∃ lo : Int, (k : Int) ≤ lo ∧ lo ≤ 24 ∧ y = .int .i64 lo ∧ Hid (ascB ((c.ws.length : Int) - 1) ((k : Int) + 1) wi.of = ascB ((c.ws.length : Int) - 1) (lo + 1) (wi.of.drop m)) ∧ Hid (WRel c (.slice sa c.sw.length scap) (.slice (some ⟨b, off, none⟩) c.ws.length wcap) w wr G (cntTo c.ws k m)) ∧ Hid (wr.heap[p]? = some (wirO wi.kind (.slice ua wi.of.length ucap)))) (fun _ x _ => wi.of.length - (intOf x).toNat)
                    case atStart => exact ⟨0, Nat.zero_le _, rfl, k, Int.le_refl _, by omega, rfl, Lib.hid (by rw [List.drop_zero]), RB, KB⟩
                    case round =>
                      obtain ⟨m, hm, rfl, lo, lo1, lo2, rfl, hA, hQ, hKP⟩ := hrel
                      have c6 := block_cell hKP.out
                      have z6 := lt_of_block hKP.out
                      by_cases hlm : m < wi.of.length
                      · obtain ⟨ub, uoff, rfl, hubl, hu⟩ := HUU.out (by omega)
                        have gu := (hQ.out.1.cell (p := ⟨ub, uoff + m, none⟩) hubl).trans (hu m hlm)
                        have hubs := Nat.lt_of_lt_of_le hubl hQ.out.1.size
                        have hA2 := hA.out
                        rw [ascB_some hlm] at hA2
                        have HST := Lib.hid (fun pp hp => HN3.out m pp hlm hp)
                        have b1 := bw_cells (B := wr.heap.size) hQ.out.2.1 (lt_of_block hQ.out.2.1)
                        have b2 := bw_cells (B := wr.heap.size) hKP.out z6
                        have b3 := bw_cell (B := wr.heap.size) gu hubs
                        have j1 : (0 : Int) ≤ m := by omega
                        have j2 : (m : Int) < wi.of.length := by omega
                        have hwr1 : IntKind.i64.wrap (lo + 1) = lo + 1 := IntWalk.i64_in _ (by omega)
                        have hwr2 : IntKind.i64.wrap ((c.ws.length : Int) - 1) = (c.ws.length : Int) - 1 := IntWalk.i64_in _ (by omega)
                        generalize hx : wi.of.getD m 0 = x at *
                        have HA2 := Lib.hid hA2
                        clear hu gu hA2 hx
                        cases hq : decide (lo + 1 ≤ x ∧ x ≤ (c.ws.length : Int) - 1)
                        · have HQ := Lib.hid hq
                          have HR := Lib.hid (chkC_bad (HVW.out (by rw [HWW.out, H8.out, HA2.out, hq]; rfl)))
                          clear hq
                          go_wp2_with fail
                          clear c6
                          refine wp_region_below (by kernel_rfl) (by kernel_rfl) (Below.refl wr.heap.size wr) ?_
                          repeat ((with_reducible refine wpQuiet_step (fun K hK => ?_)); go_simp; first | (refine hK _ ?_; clear hK K) | (apply Exists.intro; refine ⟨fun _ => ?_, hK _ ?_⟩; ((go_at_call 80; with_reducible exact bw_same (rwithin_is false x (lo + 1) ((c.ws.length : Int) - 1) _ HQ.out))); clear hK K))
                          refine wpQuiet_nil ?_
                          intro wq hwq0
                          have hwq := bw_out hwq0
                          clear hwq0
                          clear hwr1 hwr2 b1 b2 b3
                          go_wp2_with fail
                          go_ret
                          exact ⟨ret_int HR.out, (hQ.out.later hwq).1⟩
                        · have HQ := Lib.hid hq
                          have HA3 := Lib.hid (show ascB ((c.ws.length : Int) - 1) ((k : Int) + 1) wi.of = ascB ((c.ws.length : Int) - 1) (x + 1) (wi.of.drop (m + 1)) by rw [HA2.out, hq]; rfl)
                          simp only [decide_eq_true_eq] at hq
                          obtain ⟨x1, x2⟩ := hq
                          obtain ⟨pp, rfl⟩ : ∃ pp : Nat, x = pp := ⟨x.toNat, by omega⟩
                          have HSX := Lib.hid (HST.out pp rfl)
                          obtain ⟨y1, y2⟩ := HN5.out m pp
                          have hpl : pp < c.ws.length := by omega
                          have p1 : (0 : Int) ≤ pp := by omega
                          have p2 : (pp : Int) < c.ws.length := by omega
                          go_wp2_with fail
                          clear c6
                          refine wp_region_below (by kernel_rfl) (by kernel_rfl) (Below.refl wr.heap.size wr) ?_
                          repeat ((with_reducible refine wpQuiet_step (fun K hK => ?_)); go_simp; first | (refine hK _ ?_; clear hK K) | (apply Exists.intro; refine ⟨fun _ => ?_, hK _ ?_⟩; ((go_at_call 80; with_reducible exact bw_same (rwithin_is true (pp : Int) (lo + 1) ((c.ws.length : Int) - 1) _ HQ.out))); clear hK K))
                          refine wpQuiet_nil ?_
                          intro wq hwq0
                          have hwq := bw_out hwq0
                          clear hwq0
                          have RL := Lib.hid (hQ.out.later hwq)
                          have KP2 := Lib.hid (keepZ hKP.out hwq)
                          have c6 := block_cell KP2.out
                          have z7 := lt_of_block KP2.out
                          have gu2 := (hwq.cell (p := ⟨ub, uoff + m, none⟩) hubs).trans ((b3 ⟨wr, Below.refl _ _⟩))
                          have hubs2 := Nat.lt_of_lt_of_le hubs hwq.size
                          have q5 := RL.out.2.2.cell (i := pp) (by rw [usedR_len]; exact hpl)
                          rw [usedR_at hpl] at q5
                          have q6 := RL.out.2.2.free pp
                          have q7 := RL.out.2.2.lt
                          clear hwr1 hwr2 b1 b2 b3 hwq
                          go_wp2_with fail
                          go_roundw
                          case rel => exact ⟨m + 1, hlm, by go_num, pp, by omega, by omega, rfl, HA3, by rw [HSX.out]; exact Lib.hid (RL.out.bump zG hpl), Lib.hid (block_set_other (p := ⟨G, pp, none⟩) KP2.out (by show p ≠ G; omega) _)⟩
                          case measure => simp [intOf]; omega
                      · have HP := Lib.hid (HPREV.out (by rw [HWW.out, H8.out, hA.out, ascB_none (by omega)]; rfl))
                        have HNF := Lib.hid (HNM.out m (by omega))
                        go_wp2_with fail
                        go_roundw
                        case rel => exact ⟨k + 1, hlt, by go_num, by rw [HNF.out]; exact hQ, HP⟩
                        case measure => simp [intOf]; omega
                · have hkb2 : (wi.kind == 2) = false := by rw [hk2]; rfl
                  have hkb3 : (wi.kind == 3) = true := by rw [hk2]; rfl
                  clear hk2
                  cases h8 : decide (1 ≤ (wi.of.length : Int) ∧ (wi.of.length : Int) ≤ 8)
                  · have H8 := Lib.hid h8
                    clear h8
                    have HR := Lib.hid (chkC_bad (HVW.out (by rw [HWW.out, H8.out]; rfl)))
                    go_wp2_with (go_at_call 80; (with_reducible refine (rwithin_is false (wi.of.length : Int) 1 8 _ H8.out).mono ?_); rintro e w4 ⟨rfl, rfl⟩)
                    go_ret
                    exact ⟨ret_int HR.out, RA.out.1⟩
                  · have H8 := Lib.hid h8
                    clear h8
                    have hl8 := H8.out
                    simp only [decide_eq_true_eq] at hl8
                    obtain ⟨l1, l8⟩ := hl8
                    have l9 : wi.of.length ≤ 8 := by omega
                    have HN5 := Lib.hid (HN4.out l9)
                    have hGp := hR.out.2.2.lt
                    have RB := Lib.hid (show WRel c (.slice sa c.sw.length scap) (.slice (some ⟨b, off, none⟩) c.ws.length wcap) w (wo.alloc (wirO wi.kind (.slice ua wi.of.length ucap))) G (cntTo c.ws k 0) from by rw [cnt_start]; exact RA.out)
                    go_wp2_with (go_at_call 80; (with_reducible refine (rwithin_is true (wi.of.length : Int) 1 8 _ H8.out).mono ?_); rintro e w4 ⟨rfl, rfl⟩)
                    clear g6 g7 c0
                    generalize wo.alloc (wirO wi.kind (.slice ua wi.of.length ucap)) = wB at *
                    generalize wo.heap.size = p at *
                    go_loopw [7, 8] (fun y x wr => ∃ m : Nat, m ≤ wi.of.length ∧ x = .int .i64 m ∧ ∃ lo : Int, (k : Int) ≤ lo ∧ lo ≤ 24 ∧ y = .int .i64 lo ∧ Hid (ascB ((c.ws.length : Int) - 1) ((k : Int) + 1) wi.of = ascB ((c.ws.length : Int) - 1) (lo + 1) (wi.of.drop m)) ∧ Hid (WRel c (.slice sa c.sw.length scap) (.slice (some ⟨b, off, none⟩) c.ws.length wcap) w wr G (cntTo c.ws k m)) ∧ Hid (wr.heap[p]? = some (wirO wi.kind (.slice ua wi.of.length ucap)))) (fun _ x _ => wi.of.length - (intOf x).toNat)
                    case atStart => exact ⟨0, Nat.zero_le _, rfl, k, Int.le_refl _, by omega, rfl, Lib.hid (by rw [List.drop_zero]), RB, KB⟩
                    case round =>
                      obtain ⟨m, hm, rfl, lo, lo1, lo2, rfl, hA, hQ, hKP⟩ := hrel
                      have c6 := block_cell hKP.out
                      have z6 := lt_of_block hKP.out
                      by_cases hlm : m < wi.of.length
                      · obtain ⟨ub, uoff, rfl, hubl, hu⟩ := HUU.out (by omega)
                        have gu := (hQ.out.1.cell (p := ⟨ub, uoff + m, none⟩) hubl).trans (hu m hlm)
                        have hubs := Nat.lt_of_lt_of_le hubl hQ.out.1.size
                        have hA2 := hA.out
                        rw [ascB_some hlm] at hA2
                        have HST := Lib.hid (fun pp hp => HN3.out m pp hlm hp)
                        have b1 := bw_cells (B := wr.heap.size) hQ.out.2.1 (lt_of_block hQ.out.2.1)
                        have b2 := bw_cells (B := wr.heap.size) hKP.out z6
                        have b3 := bw_cell (B := wr.heap.size) gu hubs
                        have j1 : (0 : Int) ≤ m := by omega
                        have j2 : (m : Int) < wi.of.length := by omega
                        have hwr1 : IntKind.i64.wrap (lo + 1) = lo + 1 := IntWalk.i64_in _ (by omega)
                        have hwr2 : IntKind.i64.wrap ((c.ws.length : Int) - 1) = (c.ws.length : Int) - 1 := IntWalk.i64_in _ (by omega)
                        generalize hx : wi.of.getD m 0 = x at *
                        have HA2 := Lib.hid hA2
                        clear hu gu hA2 hx
                        cases hq : decide (lo + 1 ≤ x ∧ x ≤ (c.ws.length : Int) - 1)
                        · have HQ := Lib.hid hq
                          have HR := Lib.hid (chkC_bad (HVW.out (by rw [HWW.out, H8.out, HA2.out, hq]; rfl)))
                          clear hq
                          go_wp2_with fail
                          clear c6
                          refine wp_region_below (by kernel_rfl) (by kernel_rfl) (Below.refl wr.heap.size wr) ?_
                          repeat ((with_reducible refine wpQuiet_step (fun K hK => ?_)); go_simp; first | (refine hK _ ?_; clear hK K) | (apply Exists.intro; refine ⟨fun _ => ?_, hK _ ?_⟩; ((go_at_call 80; with_reducible exact bw_same (rwithin_is false x (lo + 1) ((c.ws.length : Int) - 1) _ HQ.out))); clear hK K))
                          refine wpQuiet_nil ?_
                          intro wq hwq0
                          have hwq := bw_out hwq0
                          clear hwq0
                          clear hwr1 hwr2 b1 b2 b3
                          go_wp2_with fail
                          go_ret
                          exact ⟨ret_int HR.out, (hQ.out.later hwq).1⟩
                        · have HQ := Lib.hid hq
                          have HA3 := Lib.hid (show ascB ((c.ws.length : Int) - 1) ((k : Int) + 1) wi.of = ascB ((c.ws.length : Int) - 1) (x + 1) (wi.of.drop (m + 1)) by rw [HA2.out, hq]; rfl)
                          simp only [decide_eq_true_eq] at hq
                          obtain ⟨x1, x2⟩ := hq
                          obtain ⟨pp, rfl⟩ : ∃ pp : Nat, x = pp := ⟨x.toNat, by omega⟩
                          have HSX := Lib.hid (HST.out pp rfl)
                          obtain ⟨y1, y2⟩ := HN5.out m pp
                          have hpl : pp < c.ws.length := by omega
                          have p1 : (0 : Int) ≤ pp := by omega
                          have p2 : (pp : Int) < c.ws.length := by omega
                          go_wp2_with fail
                          clear c6
                          refine wp_region_below (by kernel_rfl) (by kernel_rfl) (Below.refl wr.heap.size wr) ?_
                          repeat ((with_reducible refine wpQuiet_step (fun K hK => ?_)); go_simp; first | (refine hK _ ?_; clear hK K) | (apply Exists.intro; refine ⟨fun _ => ?_, hK _ ?_⟩; ((go_at_call 80; with_reducible exact bw_same (rwithin_is true (pp : Int) (lo + 1) ((c.ws.length : Int) - 1) _ HQ.out))); clear hK K))
                          refine wpQuiet_nil ?_
                          intro wq hwq0
                          have hwq := bw_out hwq0
                          clear hwq0
                          have RL := Lib.hid (hQ.out.later hwq)
                          have KP2 := Lib.hid (keepZ hKP.out hwq)
                          have c6 := block_cell KP2.out
                          have z7 := lt_of_block KP2.out
                          have gu2 := (hwq.cell (p := ⟨ub, uoff + m, none⟩) hubs).trans ((b3 ⟨wr, Below.refl _ _⟩))
                          have hubs2 := Nat.lt_of_lt_of_le hubs hwq.size
                          have q5 := RL.out.2.2.cell (i := pp) (by rw [usedR_len]; exact hpl)
                          rw [usedR_at hpl] at q5
                          have q6 := RL.out.2.2.free pp
                          have q7 := RL.out.2.2.lt
                          clear hwr1 hwr2 b1 b2 b3 hwq
                          go_wp2_with fail
                          go_roundw
                          case rel => exact ⟨m + 1, hlm, by go_num, pp, by omega, by omega, rfl, HA3, by rw [HSX.out]; exact Lib.hid (RL.out.bump zG hpl), Lib.hid (block_set_other (p := ⟨G, pp, none⟩) KP2.out (by show p ≠ G; omega) _)⟩
                          case measure => simp [intOf]; omega
                      · have HP := Lib.hid (HPREV.out (by rw [HWW.out, H8.out, hA.out, ascB_none (by omega)]; rfl))
                        have HNF := Lib.hid (HNM.out m (by omega))
                        go_wp2_with fail
                        go_roundw
                        case rel => exact ⟨k + 1, hlt, by go_num, by rw [HNF.out]; exact hQ, HP⟩
                        case measure => simp [intOf]; omega
              · have HR := Lib.hid (chkC_bad (HVW.out (HW3.out hk1 hk2)))
                have hkb2 : (wi.kind == 2) = false := by simp; omega
                have hkb3 : (wi.kind == 3) = false := by simp; omega
                clear hk1 hk2
                go_wp2_with fail
                go_ret
                exact ⟨ret_int HR.out, RA.out.1⟩
          · obtain rfl : k = c.ws.length := by omega
            have HWB := Lib.hid (show wiresB c = true by
              unfold wiresB
              rw [List.all_eq_true]
              exact fun i hi => hf.out i (List.mem_range.1 hi))
            go_wp2_with fail
            clear c0
            go_loop [9] (fun i => ∃ k : Nat, 1 ≤ k ∧ k ≤ c.ws.length ∧ i = .int .i64 k ∧ Hid (∀ j, 1 ≤ j → j < k → usedTo c.ws j c.ws.length = 1)) (fun i => c.ws.length - (intOf i).toNat)
            case atStart => exact ⟨1, Nat.le_refl _, by omega, rfl, Lib.hid (fun j h1 h2 => by omega)⟩
            case round =>
              obtain ⟨k, hk1, hk, rfl, hg⟩ := hrel
              by_cases hlt : k < c.ws.length
              · have q5 := hR.out.2.2.cell (i := k) (by rw [usedR_len]; exact hlt)
                rw [usedR_at hlt] at q5
                have q7 := hR.out.2.2.lt
                have HVJ := Lib.hid (valid_jo (c := c) hlt (by omega))
                have j1 : (0 : Int) ≤ k := by omega
                have j2 : (k : Int) < c.ws.length := by omega
                have q5b := (show World.cell? _ ⟨G, k, none⟩ = some (.int .i64 ((usedTo c.ws k c.ws.length : Nat) : Int)) from q5)
                clear q5
                by_cases hu : usedTo c.ws k c.ws.length = 1
                · have HU := Lib.hid hu
                  rw [hu] at q5b
                  have q5c := (show World.cell? _ ⟨G, k, none⟩ = some (.int .i64 1) from q5b)
                  clear hu q5b
                  go_wp2_with fail
                  go_round
                  case rel => exact ⟨k + 1, by omega, by omega, by go_num, Lib.hid (fun j h1 h2 => by
                    by_cases e : j = k
                    · rw [e]; exact HU.out
                    · exact hg.out j h1 (by omega))⟩
                  case measure => simp [intOf]; omega
                · have HR := Lib.hid (chkC_bad (HVJ.out hu))
                  generalize usedTo c.ws k c.ws.length = y at *
                  have hyb : ((y : Int) != 1) = true := by simp; omega
                  clear hu
                  go_wp2_with fail
                  go_ret
                  exact ⟨ret_int HR.out, hR.out.1⟩
              · have HR := Lib.hid (chkC_ok (c := c) (by
                  have e : joinedB c = true := by
                    unfold joinedB
                    rw [List.all_eq_true]
                    intro i hi
                    rw [List.mem_range] at hi
                    by_cases h0 : i = 0
                    · simp [h0]
                    · have := hg.out i (by omega) (by omega)
                      simp [this]
                  unfold validB; rw [e, HWB.out, HSW.out, HS.out]; rfl))
                go_wp2_with fail
                go_ret
                exact ⟨ret_int HR.out, hR.out.1⟩
  · have HR := Lib.hid (chkC_bad (c := c) (by unfold validB; rw [HS.out]; simp only [Bool.not_eq_true] at hall; rw [hall]; rfl))
    have c0 := block_cell K0.out
    cases b1 <;> cases b2 <;> cases b3
    all_goals try (exact absurd rfl hall)
    all_goals
      clear hall
      go_enter Try.func23, Try.ntmps23
      go_wp2_with (first | (go_at_call 80; (first | (with_reducible refine (rwithin_is _ c.hz 1 8 _ H1.out).mono ?_) | (with_reducible refine (rwithin_is _ (c.sw.length : Int) 1 12 _ H2.out).mono ?_) | (with_reducible refine (rwithin_is _ (c.ws.length : Int) 1 24 _ H3.out).mono ?_)); rintro e w1 ⟨rfl, rfl⟩))
      go_ret
      exact ⟨ret_int HR.out, HB.out⟩

end Go.Proofs.Ytbiihhokcmdlhaa
