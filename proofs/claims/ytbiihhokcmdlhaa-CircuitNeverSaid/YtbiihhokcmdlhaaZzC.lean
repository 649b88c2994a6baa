import Derived.Test.YtbiihhokcmdlhaaZzB
/- Texts of one seat, merged: Cg Ch Ci -/
/- Walks of layer 3 (circuit): areJoined of the program. -/
namespace Go.Proofs.Ytbiihhokcmdlhaa
open Go.RowKit

/-- The cells of 24 counters. -/
def cntC (f : Nat → Int) : Array Value := Array.ofFn (n := 24) fun j => .int .i64 (f j.val)
abbrev CntAt (w : World) (b : Nat) (f : Nat → Int) : Prop := w.heap[b]? = some (.cells (cntC f) 179 (0, 0))
def bump (f : Nat → Int) (p : Nat) : Nat → Int := fun j => if j = p then f j + 1 else f j

theorem cntC_at (f : Nat → Int) {j : Nat} (h : j < 24) : (cntC f)[j]? = some (.int .i64 (f j)) := by
  unfold cntC
  rw [Array.getElem?_ofFn, dif_pos h]

theorem cntC_set (f : Nat → Int) {p : Nat} (hp : p < 24) : (cntC f).setIfInBounds p (.int .i64 (f p + 1)) = cntC (bump f p) := by
  apply Array.ext_getElem?
  intro j
  rw [Array.getElem?_setIfInBounds]
  unfold cntC
  simp only [Array.getElem?_ofFn, Array.size_ofFn]
  by_cases hj : j < 24
  · rw [dif_pos hj, dif_pos hj]
    by_cases e : p = j
    · subst e
      rw [if_pos rfl, if_pos hp]
      simp [bump]
    · rw [if_neg e]
      have e2 : ¬ j = p := fun h => e h.symm
      simp only [bump, if_neg e2]
  · rw [dif_neg hj, dif_neg hj]
    split <;> first | omega | rfl

theorem cntC_zero : cntC (fun _ => 0) = Array.replicate 24 (.int .i64 0) := by
  unfold cntC
  apply Array.ext
  · simp
  · intro i h1 h2
    simp

attribute [irreducible] cntC

theorem cnt_at {w : World} {b : Nat} {f : Nat → Int} (h : CntAt w b f) {j : Nat} (hj : j < 24) : w.cell? ⟨b, j, none⟩ = some (.int .i64 (f j)) := by
  rw [block_cell h, cntC_at f hj]
theorem cnt_set {w : World} {b : Nat} {f : Nat → Int} (h : CntAt w b f) {p : Nat} (hp : p < 24) : CntAt (w.setCell ⟨b, p, none⟩ (.int .i64 (f p + 1))) b (bump f p) := by
  have := block_set h p (.int .i64 (f p + 1))
  rwa [cntC_set f hp] at this

/-- The counters before part m of wire k. -/
def cntTo (ws : List Wir) (k m : Nat) : Nat → Int := fun j => ((usedTo ws j k + ((ws.getD k Wir.zero).of.take m).countP (fun x => x == (j : Int)) : Nat) : Int)
def cntF (ws : List Wir) (k : Nat) : Nat → Int := fun j => (usedTo ws j k : Int)

theorem cnt_start (ws : List Wir) (k : Nat) : cntTo ws k 0 = cntF ws k := by funext j; simp [cntTo, cntF]
theorem cnt_single {ws : List Wir} {k : Nat} (h : (ws.getD k Wir.zero).kind = 1) : cntF ws (k + 1) = cntF ws k := by funext j; simp only [cntF, usedTo, if_pos h, Nat.add_zero]
theorem cnt_more {ws : List Wir} {k : Nat} (h : ¬ (ws.getD k Wir.zero).kind = 1) {m : Nat} (hm : (ws.getD k Wir.zero).of.length ≤ m) : cntF ws (k + 1) = cntTo ws k m := by
  funext j; simp only [cntF, cntTo, usedTo, if_neg h, List.take_of_length_le hm]
theorem cnt_step {ws : List Wir} {k m p : Nat} (hm : m < (ws.getD k Wir.zero).of.length) (hp : (ws.getD k Wir.zero).of.getD m 0 = p) : cntTo ws k (m + 1) = bump (cntTo ws k m) p := by
  funext j
  unfold cntTo bump
  rw [List.take_succ_eq_append_getElem hm, List.countP_append]
  rw [List.getD_eq_getElem?_getD, List.getElem?_eq_getElem hm] at hp
  simp only [Option.getD_some] at hp
  rw [hp]
  by_cases e : j = p
  · subst e
    rw [if_pos rfl]
    simp
    omega
  · rw [if_neg e]
    have e2 : ¬ ((p : Int) = (j : Int)) := by omega
    simp [e2]

theorem usedTo_le (ws : List Wir) (j : Nat) (h : ∀ i, i < ws.length → ¬ (ws.getD i Wir.zero).kind = 1 → (ws.getD i Wir.zero).of.length ≤ 8) : ∀ k, k ≤ ws.length → usedTo ws j k ≤ k * 8
  | 0, _ => Nat.le_refl _
  | k + 1, hk => by
    have h1 := usedTo_le ws j h k (by omega)
    unfold usedTo
    split
    · omega
    · rename_i hn
      have h2 := h k (by omega) hn
      have h3 := List.countP_le_length (p := fun x => x == (j : Int)) (l := (ws.getD k Wir.zero).of)
      omega

theorem wires_len {c : Cir} (hw : wiresB c = true) : ∀ i, i < c.ws.length → ¬ (c.ws.getD i Wir.zero).kind = 1 → (c.ws.getD i Wir.zero).of.length ≤ 8 := fun i hi hk =>
  (wire_more (List.all_eq_true.1 hw i (List.mem_range.2 hi)) hk).2.2.1

theorem cntTo_bd {c : Cir} (hw : wiresB c = true) (h24 : c.ws.length ≤ 24) {k : Nat} (hk : k < c.ws.length) (hk1 : ¬ (c.ws.getD k Wir.zero).kind = 1) (m j : Nat) : 0 ≤ cntTo c.ws k m j ∧ cntTo c.ws k m j ≤ 1000000 := by
  have h1 := usedTo_le c.ws j (wires_len hw) k (by omega)
  have h2 := wires_len hw k hk hk1
  have h3 := List.countP_le_length (p := fun x => x == (j : Int)) (l := (c.ws.getD k Wir.zero).of.take m)
  have h4 := List.length_take_le m (c.ws.getD k Wir.zero).of
  have h5 : ((c.ws.getD k Wir.zero).of.take m).length ≤ (c.ws.getD k Wir.zero).of.length := by rw [List.length_take]; omega
  unfold cntTo
  omega

/-- The counters of the wires but the first one. -/
def cntL (c : Cir) : List Int := (List.range (c.ws.length - 1)).map fun i => (usedTo c.ws (i + 1) c.ws.length : Int)

theorem cntL_len (c : Cir) : (cntL c).length = c.ws.length - 1 := by simp [cntL]

theorem joined_any (c : Cir) : ((cntL c).any fun x => !(x == 1)) = !(joinedB c) := by
  cases hq : joinedB c
  · unfold joinedB at hq
    rw [List.all_eq_false] at hq
    obtain ⟨i, hi, hq⟩ := hq
    rw [List.mem_range] at hi
    simp only [Bool.or_eq_true, decide_eq_true_eq, not_or] at hq
    obtain ⟨h0, h1⟩ := hq
    rw [Bool.not_false, List.any_eq_true]
    refine ⟨(usedTo c.ws i c.ws.length : Int), ?_, ?_⟩
    · unfold cntL
      rw [List.mem_map]
      exact ⟨i - 1, List.mem_range.2 (by omega), by rw [show i - 1 + 1 = i by omega]⟩
    · simp only [Bool.not_eq_true', beq_eq_false_iff_ne, ne_eq]
      omega
  · unfold joinedB at hq
    rw [List.all_eq_true] at hq
    rw [Bool.not_true, List.any_eq_false]
    intro x hx
    unfold cntL at hx
    rw [List.mem_map] at hx
    obtain ⟨i, hi, rfl⟩ := hx
    rw [List.mem_range] at hi
    have := hq (i + 1) (List.mem_range.2 (by omega))
    simp only [Bool.or_eq_true, decide_eq_true_eq] at this
    simp only [Bool.not_eq_true', beq_eq_false_iff_ne, ne_eq]
    omega

theorem cntL_at {c : Cir} {w : World} {g : Nat} (h : CntAt w g (cntF c.ws c.ws.length)) (h1 : 1 ≤ c.ws.length) (h24 : c.ws.length ≤ 24) : InAt w (.slice (some ⟨g, 1, none⟩) (c.ws.length - 1) 23) (cntL c) := by
  refine ⟨some ⟨g, 1, none⟩, 23, by rw [cntL_len], by rw [cntL_len]; omega, by decide, fun _ => ⟨g, 1, rfl, lt_of_block h, fun i hi => ?_⟩⟩
  rw [cntL_len] at hi
  rw [show 1 + i = i + 1 by omega, cnt_at h (by omega)]
  unfold cntL cntF
  rw [List.getD_eq_getElem?_getD, List.getElem?_map, List.getElem?_range hi]
  rfl

set_option maxHeartbeats 400000 in
theorem joined1_any (x : Int) (w : World) :
    Calls Try.prog 140 #[.int .i64 x] w fun e w' => e = .returned (.bool (!(x == 1))) ∧ Below w.heap.size w w' := by
  go_enter Try.func140, Try.ntmps140
  go_wp2
  go_ret
  exact ⟨rfl, Below.refl _ _⟩

theorem enters_joined1 : Enters 140 := fun _ _ => by kernel_rfl

theorem zeroCnt : ∀ w, (zeroValue 179).run Try.prog w = .ok (.agg (cntC fun _ => 0)) w := by
  rw [cntC_zero]
  exact (zero_of_info (P := Try.prog) (t := 179) (n := 24) (by kernel_rfl)).1

def JoRel (c : Cir) (sv wv : Value) (w wr : World) (f : Nat → Int) : Prop := Below w.heap.size w wr ∧ wr.heap[w.heap.size]? = some (cirO c sv wv) ∧ CntAt wr (w.heap.size + 1) f

set_option maxRecDepth 100000 in
set_option maxHeartbeats 8000000 in
theorem areJoined_any (c : Cir) (sv wv : Value) (w : World) (hv : CirAt w sv wv c) (hw : wiresB c = true) (h1 : 1 ≤ c.ws.length) (h24 : c.ws.length ≤ 24) :
    Calls Try.prog 79 #[cirV c sv wv] w fun e w' => e = .returned (.bool (joinedB c)) ∧ Below w.heap.size w w' := by
  have hb0 := ((Below.refl w.heap.size w).alloc (Nat.le_refl _) (cirO c sv wv)).alloc (by rw [size_alloc]; omega) (.cells (cntC fun _ => 0) 179)
  have R0 := Lib.hid (show JoRel c sv wv w ((w.alloc (cirO c sv wv)).alloc (.cells (cntC fun _ => 0) 179)) (cntF c.ws 0) from ⟨hb0, two_od _ _ _, two_nw _ _ _⟩)
  have HV := Lib.hid hv
  obtain ⟨hsv, hwv⟩ := hv
  obtain ⟨a, cap, rfl, n1, n2, hcc⟩ := hwv
  obtain ⟨b, off, rfl, hbl, hcc⟩ := hcc (by omega)
  have HC := Lib.hid hcc
  have HW := Lib.hid hw
  have hzb := zeroCnt
  clear hb0 hcc hw
  go_enter Try.func79, Try.ntmps79
  go_wp2_with fail
  generalize ((w.alloc (cirO c sv (.slice (some ⟨b, off, none⟩) c.ws.length cap))).alloc (.cells (cntC fun _ => 0) 179)) = wA at *
  clear hzb
  have n24 : c.ws.length ≤ 9223372036854775807 := by omega
  go_loopw [11] (fun i wr => ∃ k : Nat, k ≤ c.ws.length ∧ i = .int .i64 k ∧ Hid (JoRel c sv (.slice (some ⟨b, off, none⟩) c.ws.length cap) w wr (cntF c.ws k))) (fun i _ => c.ws.length - (intOf i).toNat)
  case atStart => exact ⟨0, Nat.zero_le _, rfl, R0.out⟩
  case round =>
    obtain ⟨k, hk, rfl, hR⟩ := hrel
    obtain ⟨wo, rfl⟩ : ∃ wo : World, wo = wr := ⟨_, rfl⟩
    by_cases hlt : k < c.ws.length
    · have HWK := Lib.hid (List.all_eq_true.1 HW.out k (List.mem_range.2 hlt))
      obtain ⟨q1, u, q2, q3⟩ := HC.out k hlt
      have g1 := (hR.out.1.cell (p := ⟨b, off + k * 2, none⟩) hbl).trans q1
      have g2 := (hR.out.1.cell (p := ⟨b, off + k * 2 + 1, none⟩) hbl).trans q2
      have hbl2 : b < wo.heap.size := Nat.lt_of_lt_of_le hbl hR.out.1.size
      have HU := Lib.hid q3
      obtain ⟨ua, ucap, rfl, _⟩ := q3
      have HN1 := Lib.hid (fun h => cnt_single (ws := c.ws) (k := k) h)
      have HN2 := Lib.hid (fun h (m : Nat) (hm : (c.ws.getD k Wir.zero).of.length ≤ m) => cnt_more (ws := c.ws) (k := k) (m := m) h hm)
      have HN3 := Lib.hid (fun m p => cnt_step (ws := c.ws) (k := k) (m := m) (p := p))
      have HN4 := Lib.hid (fun h m j => cntTo_bd HW.out h24 hlt h m j)
      generalize c.ws.getD k Wir.zero = wi at *
      clear q1 q2
      by_cases hk1 : wi.kind = 1
      · have hkb : (wi.kind == 1) = true := by rw [hk1]; rfl
        have HF := Lib.hid (HN1.out hk1)
        clear hk1
        go_wp2_with fail
        go_roundw
        case rel => exact ⟨k + 1, hlt, by go_num, by rw [HF.out]; exact ⟨hR.out.1.alloc hR.out.1.size _, block_alloc hR.out.2.1 _, block_alloc hR.out.2.2 _⟩⟩
        case measure => simp [intOf]; omega
      · have hkb : (wi.kind == 1) = false := by simpa using hk1
        obtain ⟨_, _, l8, hm⟩ := wire_more HWK.out hk1
        have HF := Lib.hid (HN2.out hk1)
        have HN5 := Lib.hid (HN4.out hk1)
        have HM := Lib.hid hm
        clear hk1 hm
        have RW := Lib.hid (show JoRel c sv (.slice (some ⟨b, off, none⟩) c.ws.length cap) w (wo.alloc (wirO wi.kind (.slice ua wi.of.length ucap))) (cntTo c.ws k 0) from by
          rw [cnt_start]; exact ⟨hR.out.1.alloc hR.out.1.size _, block_alloc hR.out.2.1 _, block_alloc hR.out.2.2 _⟩)
        go_wp2_with fail
        clear g1 g2 hkb
        generalize (wo.alloc (wirO wi.kind (.slice ua wi.of.length ucap))) = wW at *
        go_loopw [21] (fun i wr => ∃ m : Nat, m ≤ wi.of.length ∧ i = .int .i64 m ∧ Hid (JoRel c sv (.slice (some ⟨b, off, none⟩) c.ws.length cap) w wr (cntTo c.ws k m))) (fun i _ => wi.of.length - (intOf i).toNat)
        case atStart => exact ⟨0, Nat.zero_le _, rfl, RW.out⟩
        case round =>
          obtain ⟨m, hm, rfl, hQ⟩ := hrel
          by_cases hlm : m < wi.of.length
          · obtain ⟨ua', ucap', e1, _, _, hu⟩ := HU.out
            injection e1 with e1 e2 e3
            subst e1
            obtain ⟨ub, uoff, rfl, hubl, hu⟩ := hu (by omega)
            have gu := (hQ.out.1.cell (p := ⟨ub, uoff + m, none⟩) hubl).trans (hu m hlm)
            obtain ⟨p1, p2⟩ := HM.out _ (getD_mem hlm 0)
            obtain ⟨p, hp⟩ : ∃ p : Nat, wi.of.getD m 0 = p := ⟨(wi.of.getD m 0).toNat, by omega⟩
            have HST := Lib.hid (HN3.out m p hlm hp)
            rw [hp] at gu p1 p2
            have p3 : p < 24 := by omega
            have p4 : (0 : Int) ≤ p := by omega
            have p5 : (p : Int) < 24 := by omega
            have hz := Nat.lt_of_lt_of_le hubl hQ.out.1.size
            have hce := cnt_at hQ.out.2.2 p3
            have hcf := block_free hQ.out.2.2 p
            have hz2 := lt_of_block hQ.out.2.2
            obtain ⟨x1, x2⟩ := HN5.out m p
            clear hu hp e2 e3
            go_wp2_with fail
            go_roundw
            case rel => exact ⟨m + 1, hlm, by go_num, by
              rw [HST.out]
              exact ⟨hQ.out.1.setCell (p := ⟨w.heap.size + 1, p, none⟩) (by simp) _, block_set_other (p := ⟨w.heap.size + 1, p, none⟩) hQ.out.2.1 (by simp) _, cnt_set hQ.out.2.2 p3⟩⟩
            case measure => simp [intOf]; omega
          · have HFF := Lib.hid (HF.out m (by omega))
            go_wp2_with fail
            go_roundw
            case rel => exact ⟨k + 1, hlt, by go_num, by rw [HFF.out]; exact hQ.out⟩
            case measure => simp [intOf]; omega
    · obtain rfl : k = c.ws.length := by omega
      have c0 := block_cell hR.out.2.1
      have c1 : (1 : Int) ≤ c.ws.length := by omega
      have c2 : (c.ws.length : Int) ≤ 24 := by omega
      have HI := Lib.hid (cntL_at hR.out.2.2 h1 h24)
      have HB := Lib.hid hR.out.1
      go_wp2_with fail
      refine (containsInt_any _ #[] #[] _ (cntL c) (fun x => !(x == 1)) _ _ HI.out enters_joined1 (joined_any c) (fun x w1 _ _ => joined1_any x w1)).mono ?_
      rintro e w1 ⟨rfl, hb1⟩
      clear c0
      go_wp2
      go_ret
      exact ⟨ret_bool (by simp), HB.out.trans (hb1.mono HB.out.size)⟩

end Go.Proofs.Ytbiihhokcmdlhaa

/- Walks of layer 3 (circuit): Check of the program. -/
namespace Go.Proofs.Ytbiihhokcmdlhaa
open Go.RowKit

theorem enters_chk1 : Enters 77 := fun _ _ => by kernel_rfl

theorem chkC_bad {c : Cir} (h : validB c = false) : (30 : Int) = chkC c := by unfold chkC; rw [h]; rfl
theorem chkC_ok {c : Cir} (h : validB c = true) : (0 : Int) = chkC c := by unfold chkC; rw [h]; rfl

theorem switches_any (c : Cir) : (c.sw.any fun n => !setB n c.hz.toNat) = !(switchesB c) := all_any_not _ _

theorem sizes_of {c : Cir} {b1 b2 b3 : Bool} (h1 : decide (1 ≤ c.hz ∧ c.hz ≤ 8) = b1) (h2 : decide (1 ≤ (c.sw.length : Int) ∧ (c.sw.length : Int) ≤ 12) = b2) (h3 : decide (1 ≤ (c.ws.length : Int) ∧ (c.ws.length : Int) ≤ 24) = b3) : sizesB c = (b1 && b2 && b3) := by
  unfold sizesB
  rw [← h1, ← h2, ← h3]
  congr 1
  · congr 1
    exact decide_eq_decide.2 (by omega)
  · exact decide_eq_decide.2 (by omega)

set_option maxRecDepth 100000 in
set_option maxHeartbeats 4000000 in
theorem ccheck_any (c : Cir) (sv wv : Value) (w : World) (hv : CirAt w sv wv c) :
    Calls Try.prog 22 #[cirV c sv wv] w fun e w' => e = .returned (.int .i64 (chkC c)) ∧ Below w.heap.size w w' := by
  have HB := Lib.hid ((Below.refl w.heap.size w).alloc (Nat.le_refl _) (cirO c sv wv))
  have K0 := Lib.hid (block_new w (cirO c sv wv) w.heap.size rfl)
  have HV := Lib.hid hv
  obtain ⟨⟨sa, scap, rfl, _, m2, _⟩, ⟨wa, wcap, rfl, _, m4, _⟩⟩ := hv
  have m5 : (c.sw.length : Int) ≤ 9223372036854775807 := by omega
  have m6 : (c.ws.length : Int) ≤ 9223372036854775807 := by omega
  obtain ⟨b1, h1⟩ : ∃ b, decide (1 ≤ c.hz ∧ c.hz ≤ 8) = b := ⟨_, rfl⟩
  obtain ⟨b2, h2⟩ : ∃ b, decide (1 ≤ (c.sw.length : Int) ∧ (c.sw.length : Int) ≤ 12) = b := ⟨_, rfl⟩
  obtain ⟨b3, h3⟩ : ∃ b, decide (1 ≤ (c.ws.length : Int) ∧ (c.ws.length : Int) ≤ 24) = b := ⟨_, rfl⟩
  have HS := Lib.hid (sizes_of h1 h2 h3)
  have H1 := Lib.hid h1
  have H2 := Lib.hid h2
  have H3 := Lib.hid h3
  clear h1 h2 h3
  by_cases hall : (b1 && b2 && b3) = true
  · simp only [Bool.and_eq_true] at hall
    obtain ⟨⟨rfl, rfl⟩, rfl⟩ := hall
    have g1 := H1.out
    have g2 := H2.out
    have g3 := H3.out
    simp only [decide_eq_true_eq] at g1 g2 g3
    obtain ⟨g1, g1'⟩ := g1
    obtain ⟨g2, g2'⟩ := g2
    obtain ⟨g3, g3'⟩ := g3
    have HC1 : Hid (∀ (x : Int) (w1 : World), Below (w.alloc (cirO c (.slice sa c.sw.length scap) (.slice wa c.ws.length wcap))).heap.size (w.alloc (cirO c (.slice sa c.sw.length scap) (.slice wa c.ws.length wcap))) w1 →
        Calls Try.prog 77 #[.int .i64 x, .pointer (some ⟨w.heap.size, 0, none⟩)] w1 fun e w' => e = .returned (.bool (!setB x c.hz.toNat)) ∧ Below w1.heap.size w1 w') := Lib.hid (fun x w1 hb1 =>
      (chk1_any x c.hz.toNat w.heap.size w1 (by omega) ((block_cell ((hb1.block _ (lt_of_block K0.out)).trans K0.out) 0).trans (by rw [Int.toNat_of_nonneg (by omega)]; rfl))).mono fun e w' ⟨h, hw⟩ => ⟨h, by rw [← hw]; exact Below.refl _ _⟩)
    cases hsw : switchesB c
    · have HR := Lib.hid (chkC_bad (c := c) (by unfold validB; rw [hsw]; simp))
      have HA := Lib.hid (show (c.sw.any fun n => !setB n c.hz.toNat) = true by rw [switches_any, hsw]; rfl)
      clear hsw
      go_enter Try.func22, Try.ntmps22
      go_wp2_with fail
      generalize w.alloc (cirO c (.slice sa c.sw.length scap) (.slice wa c.ws.length wcap)) = wA at *
      have c0 := block_cell K0.out
      go_wp2_with (first | (go_at_call 75; (first | (with_reducible refine (cwithin_is _ c.hz 1 8 _ H1.out).mono ?_) | (with_reducible refine (cwithin_is _ (c.sw.length : Int) 1 12 _ H2.out).mono ?_) | (with_reducible refine (cwithin_is _ (c.ws.length : Int) 1 24 _ H3.out).mono ?_)); rintro e w1 ⟨rfl, rfl⟩))
      clear c0
      refine (containsInt_any _ #[] #[.pointer (some ⟨w.heap.size, 0, none⟩)] _ c.sw (fun n => !setB n c.hz.toNat) _ _ (HV.out.sw.below HB.out (Nat.le_refl _)) enters_chk1 HA.out (fun x w1 _ hb1 => HC1.out x w1 hb1)).mono ?_
      rintro e w1 ⟨rfl, hb1⟩
      go_wp2
      go_ret
      exact ⟨ret_int HR.out, HB.out.trans (hb1.mono HB.out.size)⟩
    · have HSW := Lib.hid hsw
      have HA := Lib.hid (show (c.sw.any fun n => !setB n c.hz.toNat) = false by rw [switches_any, hsw]; rfl)
      clear hsw
      go_enter Try.func22, Try.ntmps22
      go_wp2_with fail
      generalize w.alloc (cirO c (.slice sa c.sw.length scap) (.slice wa c.ws.length wcap)) = wA at *
      have c0 := block_cell K0.out
      go_wp2_with (first | (go_at_call 75; (first | (with_reducible refine (cwithin_is _ c.hz 1 8 _ H1.out).mono ?_) | (with_reducible refine (cwithin_is _ (c.sw.length : Int) 1 12 _ H2.out).mono ?_) | (with_reducible refine (cwithin_is _ (c.ws.length : Int) 1 24 _ H3.out).mono ?_)); rintro e w1 ⟨rfl, rfl⟩))
      clear c0
      refine (containsInt_any _ #[] #[.pointer (some ⟨w.heap.size, 0, none⟩)] _ c.sw (fun n => !setB n c.hz.toNat) _ _ (HV.out.sw.below HB.out (Nat.le_refl _)) enters_chk1 HA.out (fun x w1 _ hb1 => HC1.out x w1 hb1)).mono ?_
      rintro e w1 ⟨rfl, hb1⟩
      have HB1 := Lib.hid (HB.out.trans (hb1.mono HB.out.size))
      have c0 := block_cell ((hb1.block _ (lt_of_block K0.out)).trans K0.out)
      have KW := Lib.hid ((hb1.block _ (lt_of_block K0.out)).trans K0.out)
      clear hb1
      go_wp2_with fail
      clear c0
      go_loopw [29] (fun i wr => ∃ k : Nat, k ≤ c.ws.length ∧ i = .int .i64 k ∧ Hid (Below w1.heap.size w1 wr) ∧ Hid (∀ j, j < k → wireB c.sw.length c.ws.length j (c.ws.getD j Wir.zero) = true)) (fun i _ => c.ws.length - (intOf i).toNat)
      case atStart => exact ⟨0, Nat.zero_le _, rfl, Lib.hid (Below.refl _ _), Lib.hid (fun j hj => by omega)⟩
      case round =>
        obtain ⟨k, hk, rfl, hb, hf⟩ := hrel
        have c0 := block_cell ((hb.out.block _ (lt_of_block KW.out)).trans KW.out)
        by_cases hlt : k < c.ws.length
        · cases hq : wireB c.sw.length c.ws.length k (c.ws.getD k Wir.zero)
          · have HQ := Lib.hid hq
            have HR := Lib.hid (chkC_bad (c := c) (by
              have e : wiresB c = false := by
                unfold wiresB
                rw [List.all_eq_false]
                exact ⟨k, List.mem_range.2 hlt, by rw [hq]; simp⟩
              unfold validB; rw [e]; simp))
            clear hq
            go_wp2_with fail
            refine (isWire_any c _ _ k _ (HV.out.below (HB1.out.trans (hb.out.mono HB1.out.size)) (Nat.le_refl _)) hlt (by omega) (by omega)).mono ?_
            rintro e w2 ⟨rfl, hb2⟩
            rw [HQ.out]
            clear c0
            go_wp2
            go_ret
            exact ⟨ret_int HR.out, HB1.out.trans ((hb.out.trans (hb2.mono hb.out.size)).mono HB1.out.size)⟩
          · have HQ := Lib.hid hq
            clear hq
            go_wp2_with fail
            refine (isWire_any c _ _ k _ (HV.out.below (HB1.out.trans (hb.out.mono HB1.out.size)) (Nat.le_refl _)) hlt (by omega) (by omega)).mono ?_
            rintro e w2 ⟨rfl, hb2⟩
            rw [HQ.out]
            clear c0
            have HB2 := Lib.hid (hb.out.trans (hb2.mono hb.out.size))
            clear hb2
            go_wp2
            go_roundw
            case rel => exact ⟨k + 1, hlt, by go_num, HB2, Lib.hid (fun j hj => by
              by_cases e : j = k
              · rw [e]; exact HQ.out
              · exact hf.out j (by omega))⟩
            case measure => simp [intOf]; omega
        · obtain rfl : k = c.ws.length := by omega
          have HWB := Lib.hid (show wiresB c = true by
            unfold wiresB
            rw [List.all_eq_true]
            exact fun i hi => hf.out i (List.mem_range.1 hi))
          have hv2 := HV.out.below (HB1.out.trans (hb.out.mono HB1.out.size)) (Nat.le_refl _)
          have HV2 := Lib.hid hv2
          clear hv2
          cases hj : joinedB c
          · have HJ := Lib.hid hj
            have HR := Lib.hid (chkC_bad (c := c) (by unfold validB; rw [hj]; simp))
            clear hj
            go_wp2_with fail
            refine (areJoined_any c _ _ _ HV2.out HWB.out (by omega) (by omega)).mono ?_
            rintro e w2 ⟨rfl, hb2⟩
            rw [HJ.out]
            clear c0
            go_wp2
            go_ret
            exact ⟨ret_int HR.out, HB1.out.trans ((hb.out.trans (hb2.mono hb.out.size)).mono HB1.out.size)⟩
          · have HJ := Lib.hid hj
            have HR := Lib.hid (chkC_ok (c := c) (by unfold validB; rw [hj, HWB.out, HSW.out, HS.out]; rfl))
            clear hj
            go_wp2_with fail
            refine (areJoined_any c _ _ _ HV2.out HWB.out (by omega) (by omega)).mono ?_
            rintro e w2 ⟨rfl, hb2⟩
            rw [HJ.out]
            clear c0
            go_wp2
            go_ret
            exact ⟨ret_int HR.out, HB1.out.trans ((hb.out.trans (hb2.mono hb.out.size)).mono HB1.out.size)⟩
  · have HR := Lib.hid (chkC_bad (c := c) (by unfold validB; rw [HS.out]; simp only [Bool.not_eq_true] at hall; rw [hall]; rfl))
    cases b1 <;> cases b2 <;> cases b3
    all_goals try (exact absurd rfl hall)
    all_goals
      clear hall
      go_enter Try.func22, Try.ntmps22
      go_wp2_with fail
      generalize w.alloc (cirO c (.slice sa c.sw.length scap) (.slice wa c.ws.length wcap)) = wA at *
      have c0 := block_cell K0.out
      go_wp2_with (first | (go_at_call 75; (first | (with_reducible refine (cwithin_is _ c.hz 1 8 _ H1.out).mono ?_) | (with_reducible refine (cwithin_is _ (c.sw.length : Int) 1 12 _ H2.out).mono ?_) | (with_reducible refine (cwithin_is _ (c.ws.length : Int) 1 24 _ H3.out).mono ?_)); rintro e w1 ⟨rfl, rfl⟩))
      go_ret
      exact ⟨ret_int HR.out, HB.out⟩

end Go.Proofs.Ytbiihhokcmdlhaa

/- Walks of layer 3 (circuit): passes, weak, isDangerous, Critical of the program. -/
namespace Go.Proofs.Ytbiihhokcmdlhaa
open Go.RowKit

theorem sta_ok {hz cl : Nat} (h1 : hz < 1048576) (h2 : cl < 1048576) : (⟨hz, cl, 0⟩ : Sta).Ok := ⟨h1, h2, (by decide : (0 : Nat) < 1048576)⟩

set_option maxRecDepth 100000 in
set_option maxHeartbeats 1000000 in
theorem passes_any (c : Cir) (sv wv : Value) (hz cl : Nat) (w : World) (hv : CirAt w sv wv c) (hc : CVal c) (h1 : hz < 1048576) (h2 : cl < 1048576) :
    Calls Try.prog 88 #[cirV c sv wv, .int .i64 hz, .int .i64 cl] w fun e w' => e = .returned (.bool (passM c hz cl)) ∧ Below w.heap.size w w' := by
  have HB := Lib.hid ((Below.refl w.heap.size w).alloc (Nat.le_refl _) (cirO c sv wv))
  have K0 := Lib.hid (block_new w (cirO c sv wv) w.heap.size rfl)
  have HV := Lib.hid (hv.below HB.out (Nat.le_refl _))
  have HC := Lib.hid hc
  have HS := Lib.hid (sta_ok h1 h2)
  have w1 := hc.w1
  have w2 := hc.w2
  clear hv hc h1 h2
  go_enter Try.func88, Try.ntmps88
  go_wp2_with fail
  generalize w.alloc (cirO c sv wv) = wA at *
  have c0 := block_cell K0.out
  go_wp2_with fail
  clear c0
  refine (conducts_any c ⟨hz, cl, 0⟩ sv wv HC.out HS.out 24 0 _ (by omega) (by omega) HV.out).mono ?_
  rintro e w1 ⟨rfl, hb1⟩
  go_wp2
  go_ret
  exact ⟨rfl, HB.out.trans (hb1.mono HB.out.size)⟩

set_option maxRecDepth 100000 in
set_option maxHeartbeats 1000000 in
theorem weak1_any (c : Cir) (sv wv : Value) (h cl gc gl : Nat) (w : World) (hv : CirAt w sv wv c) (hc : CVal c) (hh : h ≤ 8) (h2 : cl < 1048576)
    (k1 : w.heap[gc]? = some (cirO c sv wv)) (k2 : w.heap[gl]? = some (.cells #[.int .i64 cl] 3)) :
    Calls Try.prog 141 #[.int .i64 h, .pointer (some ⟨gc, 0, none⟩), .pointer (some ⟨gl, 0, none⟩)] w fun e w' => e = .returned (.bool (passM c (2 ^ h) cl)) ∧ Below w.heap.size w w' := by
  have b1 := bw_cells (B := w.heap.size) k1 (lt_of_block k1)
  have b2 := bw_cells (B := w.heap.size) k2 (lt_of_block k2)
  have HV := Lib.hid hv
  have HC := Lib.hid hc
  have HP := Lib.hid (show 2 ^ h < 1048576 from Nat.lt_of_le_of_lt (Nat.pow_le_pow_right (by omega) hh) (by decide))
  clear hv hc k1 k2
  go_enter Try.func141, Try.ntmps141
  go_wp2_with fail
  refine wp_region_below (by kernel_rfl) (by kernel_rfl) (Below.refl w.heap.size w) ?_
  repeat ((with_reducible refine wpQuiet_step (fun K hK => ?_)); go_simp; first | (refine hK _ ?_; clear hK K) | (apply Exists.intro; refine ⟨fun _ => ?_, hK _ ?_⟩; (first | (go_at_call 86; exact bw_same (calone_any h _ (by omega))) | (go_at_call 88; exact bw_call (Nat.le_refl _) (passes_any c sv wv (2 ^ h) cl _ (HV.out.below (BW.b _) (Nat.le_refl _)) HC.out HP.out h2))); clear hK K))
  refine wpQuiet_nil ?_
  intro wq hwq0
  have hwq := bw_out hwq0
  clear hwq0
  go_wp2
  go_ret
  exact ⟨rfl, hwq⟩

theorem enters_weak1 : Enters 141 := fun _ _ => by kernel_rfl

set_option maxRecDepth 100000 in
set_option maxHeartbeats 1000000 in
theorem weak_any (c : Cir) (sv wv : Value) (cl : Nat) (w : World) (hv : CirAt w sv wv c) (hc : CVal c) (h2 : cl < 1048576) :
    Calls Try.prog 81 #[cirV c sv wv, .int .i64 cl] w (ListRes (natL (weakM c cl)) w) := by
  have HB := Lib.hid (blw2 w (cirO c sv wv) (.cells #[.int .i64 cl] 3))
  have K0 := Lib.hid (two_od w (cirO c sv wv) (.cells #[.int .i64 cl] 3))
  have K1 := Lib.hid (two_nw w (cirO c sv wv) (.cells #[.int .i64 cl] 3))
  have HV := Lib.hid (hv.below HB.out (Nat.le_refl _))
  have HC := Lib.hid hc
  obtain ⟨n, hn⟩ : ∃ n : Nat, c.hz = n := ⟨c.hz.toNat, by have := hc.h1; omega⟩
  have n8 : n ≤ 8 := by have := hc.h2; omega
  have HN := Lib.hid (show c.hz.toNat = n by omega)
  have HZ := Lib.hid hn
  clear hv hc hn
  go_enter Try.func81, Try.ntmps81
  go_wp2_with fail
  generalize (w.alloc (cirO c sv wv)).alloc (.cells #[.int .i64 cl] 3) = wA at *
  rw [HZ.out]
  refine (those_any _ #[] #[.pointer (some ⟨w.heap.size, 0, none⟩), .pointer (some ⟨w.heap.size + 1, 0, none⟩)] n (fun h => passM c (2 ^ h) cl) _ (by omega) enters_weak1 (fun k w1 hk hb1 => ?_)).mono ?_
  · exact weak1_any c sv wv k cl _ _ w1 (HV.out.below hb1 (Nat.le_refl _)) HC.out (by omega) h2 (keepZ K0.out hb1) (keepZ K1.out hb1)
  rintro e w1 ⟨v, rfl, hin, hb1⟩
  have HI := Lib.hid hin
  clear hin
  go_wp2
  go_ret
  refine ⟨_, rfl, ?_, HB.out.trans (hb1.mono HB.out.size)⟩
  show InAt w1 v (natL (weakM c cl))
  unfold weakM
  rw [HN.out]
  exact HI.out

theorem natL_len (l : List Nat) : (natL l).length = l.length := by simp [natL]

theorem dang_len (c : Cir) (cl : Nat) : decide (0 < (weakM c cl).length) = dangB c cl := by
  have h := weak_dang c cl
  cases hq : dangB c cl
  · rw [h.2 hq]; rfl
  · rw [decide_eq_true_eq]
    apply Nat.pos_of_ne_zero
    intro h0
    have := h.1 (List.eq_nil_of_length_eq_zero h0)
    rw [hq] at this; cases this

set_option maxRecDepth 100000 in
set_option maxHeartbeats 1000000 in
theorem dang_any (c : Cir) (sv wv : Value) (cl : Nat) (w : World) (hv : CirAt w sv wv c) (hc : CVal c) (h2 : cl < 1048576) :
    Calls Try.prog 85 #[cirV c sv wv, .int .i64 cl] w fun e w' => e = .returned (.bool (dangB c cl)) ∧ Below w.heap.size w w' := by
  have HB := Lib.hid ((Below.refl w.heap.size w).alloc (Nat.le_refl _) (cirO c sv wv))
  have K0 := Lib.hid (block_new w (cirO c sv wv) w.heap.size rfl)
  have HV := Lib.hid (hv.below HB.out (Nat.le_refl _))
  have HD := Lib.hid (dang_len c cl)
  have HC := Lib.hid hc
  clear hv hc
  go_enter Try.func85, Try.ntmps85
  go_wp2_with fail
  generalize w.alloc (cirO c sv wv) = wA at *
  have c0 := block_cell K0.out
  go_wp2_with fail
  clear c0
  refine (weak_any c sv wv cl _ HV.out HC.out h2).mono ?_
  rintro e w1 ⟨v, rfl, ⟨a, cap, rfl, _⟩, hb1⟩
  rw [natL_len]
  go_wp2
  go_ret
  exact ⟨ret_bool (by rw [← HD.out]), HB.out.trans (hb1.mono HB.out.size)⟩

theorem dang_is (q : Bool) (c : Cir) (sv wv : Value) (cl : Nat) (w : World) (hv : CirAt w sv wv c) (hc : CVal c) (h2 : cl < 1048576) (hq : dangB c cl = q) :
    Calls Try.prog 85 #[cirV c sv wv, .int .i64 cl] w fun e w' => e = .returned (.bool q) ∧ Below w.heap.size w w' := by
  subst hq
  exact dang_any c sv wv cl w hv hc h2

theorem pow_set {k : Nat} (h : k ≤ 12) : 2 ^ k < 1048576 := Nat.lt_of_le_of_lt (Nat.pow_le_pow_right (by omega) h) (by decide)

set_option maxRecDepth 100000 in
set_option maxHeartbeats 1000000 in
theorem crit1_any (c : Cir) (sv wv : Value) (k gc : Nat) (w : World) (hv : CirAt w sv wv c) (hc : CVal c) (hk : k < c.sw.length)
    (k1 : w.heap[gc]? = some (cirO c sv wv)) :
    Calls Try.prog 84 #[.int .i64 k, .pointer (some ⟨gc, 0, none⟩)] w fun e w' => e = .returned (.bool (dangB c (2 ^ k))) ∧ Below w.heap.size w w' := by
  have b1 := bw_cells (B := w.heap.size) k1 (lt_of_block k1)
  have HV := Lib.hid hv
  have HC := Lib.hid hc
  have k12 : k ≤ 12 := by have := hc.s2; omega
  clear hv hc k1
  go_enter Try.func84, Try.ntmps84
  go_wp2_with fail
  refine wp_region_below (by kernel_rfl) (by kernel_rfl) (Below.refl w.heap.size w) ?_
  repeat ((with_reducible refine wpQuiet_step (fun K hK => ?_)); go_simp; first | (refine hK _ ?_; clear hK K) | (apply Exists.intro; refine ⟨fun _ => ?_, hK _ ?_⟩; (first | (go_at_call 86; exact bw_same (calone_any k _ (by omega))) | (go_at_call 85; exact bw_call (Nat.le_refl _) (dang_any c sv wv (2 ^ k) _ (HV.out.below (BW.b _) (Nat.le_refl _)) HC.out (pow_set k12)))); clear hK K))
  refine wpQuiet_nil ?_
  intro wq hwq0
  have hwq := bw_out hwq0
  clear hwq0
  go_wp2
  go_ret
  exact ⟨rfl, hwq⟩

theorem enters_crit1 : Enters 84 := fun _ _ => by kernel_rfl

/-- A list in new memory and an error. -/
def ListErr (l : List Int) (er : Int) (w : World) (e : Ending) (w' : World) : Prop := ∃ v, e = .returned (.tuple #[v, .int .i64 er]) ∧ InAt w' v l ∧ Below w.heap.size w w'

def critR (c : Cir) : List Int := if validB c = true then natL (critM c) else []

set_option maxRecDepth 100000 in
set_option maxHeartbeats 2000000 in
theorem ccritical_any (c : Cir) (sv wv : Value) (w : World) (hv : CirAt w sv wv c) :
    Calls Try.prog 27 #[cirV c sv wv] w (ListErr (critR c) (chkC c) w) := by
  have HB := Lib.hid ((Below.refl w.heap.size w).alloc (Nat.le_refl _) (cirO c sv wv))
  have K0 := Lib.hid (block_new w (cirO c sv wv) w.heap.size rfl)
  have HV := Lib.hid (hv.below HB.out (Nat.le_refl _))
  obtain ⟨⟨sa, scap, rfl, _, _, _⟩, _⟩ := hv
  cases hq : validB c
  · have HR := Lib.hid (chkC_bad hq)
    have HL := Lib.hid (show [] = critR c by unfold critR; rw [hq]; rfl)
    clear hq
    go_enter Try.func27, Try.ntmps27
    go_wp2_with fail
    generalize w.alloc (cirO c (.slice sa c.sw.length scap) wv) = wA at *
    have c0 := block_cell K0.out
    go_wp2_with fail
    refine (ccheck_any c _ _ _ HV.out).mono ?_
    rintro e w1 ⟨rfl, hb1⟩
    rw [← HR.out]
    clear c0
    go_wp2
    go_ret2
    exact ⟨_, by rw [HR.out]; rfl, by rw [← HL.out]; exact InAt.nil _, HB.out.trans (hb1.mono HB.out.size)⟩
  · have HC := Lib.hid (cval hq)
    have HR := Lib.hid (chkC_ok hq)
    have HL := Lib.hid (show natL (critM c) = critR c by unfold critR; rw [hq]; rfl)
    have s2 := (cval hq).s2
    clear hq
    go_enter Try.func27, Try.ntmps27
    go_wp2_with fail
    generalize w.alloc (cirO c (.slice sa c.sw.length scap) wv) = wA at *
    have c0 := block_cell K0.out
    go_wp2_with fail
    refine (ccheck_any c _ _ _ HV.out).mono ?_
    rintro e w1 ⟨rfl, hb1⟩
    rw [← HR.out]
    clear c0
    have KW := Lib.hid (keepZ K0.out hb1)
    have HB1 := Lib.hid hb1
    have c0 := block_cell KW.out
    clear hb1
    go_wp2_with fail
    clear c0
    refine (those_any _ #[] #[.pointer (some ⟨w.heap.size, 0, none⟩)] c.sw.length (fun k => dangB c (2 ^ k)) _ (by omega) enters_crit1 (fun k w2 hk hb2 =>
      crit1_any c _ wv k _ w2 (HV.out.below (HB1.out.trans (hb2.mono HB1.out.size)) (Nat.le_refl _)) HC.out hk (keepZ KW.out hb2))).mono ?_
    rintro e w2 ⟨v, rfl, hin, hb2⟩
    have HI := Lib.hid hin
    clear hin
    go_wp2
    go_ret2
    exact ⟨_, by rw [HR.out]; rfl, by rw [← HL.out]; exact HI.out, HB.out.trans ((HB1.out.trans (hb2.mono HB1.out.size)).mono HB.out.size)⟩

end Go.Proofs.Ytbiihhokcmdlhaa
