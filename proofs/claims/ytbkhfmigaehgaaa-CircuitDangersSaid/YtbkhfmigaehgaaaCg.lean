/- Walks of layer 3 (circuit): areJoined of the program. -/
import Derived.Test.YtbkhfmigaehgaaaCf
namespace Go.Proofs.Ytbkhfmigaehgaaa
open Go.RowKit

/-- The cells of 24 counters. -/
def cntC (f : Nat → Int) : Array Value := Array.ofFn (n := 24) fun j => .int .i64 (f j.val)
abbrev CntAt (w : World) (b : Nat) (f : Nat → Int) : Prop := w.heap[b]? = some (.cells (cntC f) 179 (0, 0))
def bump (f : Nat → Int) (p : Nat) : Nat → Int := fun j => if j = p then f j + 1 else f j

theorem cntC_at (f : Nat → Int) {j : Nat} (h : j < 24) : (cntC f)[j]? = some (.int .i64 (f j)) := by
  unfold cntC
  rw [Array.getElem?_ofFn, dif_pos h]

theorem cntC_set (f : Nat → Int) {p : Nat} (hp : p < 24) : (cntC f).setIfInBounds p (.int .i64 (f p + 1)) = cntC (bump f p) := by
  apply Array.ext_getElem?
  intro j
  rw [Array.getElem?_setIfInBounds]
  unfold cntC
  simp only [Array.getElem?_ofFn, Array.size_ofFn]
  by_cases hj : j < 24
  · rw [dif_pos hj, dif_pos hj]
    by_cases e : p = j
    · subst e
      rw [if_pos rfl, if_pos hp]
      simp [bump]
    · rw [if_neg e]
      have e2 : ¬ j = p := fun h => e h.symm
      simp only [bump, if_neg e2]
  · rw [dif_neg hj, dif_neg hj]
    split <;> first | omega | rfl

theorem cntC_zero : cntC (fun _ => 0) = Array.replicate 24 (.int .i64 0) := by
  unfold cntC
  apply Array.ext
  · simp
  · intro i h1 h2
    simp

attribute [irreducible] cntC

theorem cnt_at {w : World} {b : Nat} {f : Nat → Int} (h : CntAt w b f) {j : Nat} (hj : j < 24) : w.cell? ⟨b, j, none⟩ = some (.int .i64 (f j)) := by
  rw [block_cell h, cntC_at f hj]
theorem cnt_set {w : World} {b : Nat} {f : Nat → Int} (h : CntAt w b f) {p : Nat} (hp : p < 24) : CntAt (w.setCell ⟨b, p, none⟩ (.int .i64 (f p + 1))) b (bump f p) := by
  have := block_set h p (.int .i64 (f p + 1))
  rwa [cntC_set f hp] at this

/-- The counters before part m of wire k. -/
def cntTo (ws : List Wir) (k m : Nat) : Nat → Int := fun j => ((usedTo ws j k + ((ws.getD k Wir.zero).of.take m).countP (fun x => x == (j : Int)) : Nat) : Int)
def cntF (ws : List Wir) (k : Nat) : Nat → Int := fun j => (usedTo ws j k : Int)

theorem cnt_start (ws : List Wir) (k : Nat) : cntTo ws k 0 = cntF ws k := by funext j; simp [cntTo, cntF]
theorem cnt_single {ws : List Wir} {k : Nat} (h : (ws.getD k Wir.zero).kind = 1) : cntF ws (k + 1) = cntF ws k := by funext j; simp only [cntF, usedTo, if_pos h, Nat.add_zero]
theorem cnt_more {ws : List Wir} {k : Nat} (h : ¬ (ws.getD k Wir.zero).kind = 1) {m : Nat} (hm : (ws.getD k Wir.zero).of.length ≤ m) : cntF ws (k + 1) = cntTo ws k m := by
  funext j; simp only [cntF, cntTo, usedTo, if_neg h, List.take_of_length_le hm]
theorem cnt_step {ws : List Wir} {k m p : Nat} (hm : m < (ws.getD k Wir.zero).of.length) (hp : (ws.getD k Wir.zero).of.getD m 0 = p) : cntTo ws k (m + 1) = bump (cntTo ws k m) p := by
  funext j
  unfold cntTo bump
  rw [List.take_succ_eq_append_getElem hm, List.countP_append]
  rw [List.getD_eq_getElem?_getD, List.getElem?_eq_getElem hm] at hp
  simp only [Option.getD_some] at hp
  rw [hp]
  by_cases e : j = p
  · subst e
    rw [if_pos rfl]
    simp
    omega
  · rw [if_neg e]
    have e2 : ¬ ((p : Int) = (j : Int)) := by omega
    simp [e2]

theorem usedTo_le (ws : List Wir) (j : Nat) (h : ∀ i, i < ws.length → ¬ (ws.getD i Wir.zero).kind = 1 → (ws.getD i Wir.zero).of.length ≤ 8) : ∀ k, k ≤ ws.length → usedTo ws j k ≤ k * 8
  | 0, _ => Nat.le_refl _
  | k + 1, hk => by
    have h1 := usedTo_le ws j h k (by omega)
    unfold usedTo
    split
    · omega
    · rename_i hn
      have h2 := h k (by omega) hn
      have h3 := List.countP_le_length (p := fun x => x == (j : Int)) (l := (ws.getD k Wir.zero).of)
      omega

theorem wires_len {c : Cir} (hw : wiresB c = true) : ∀ i, i < c.ws.length → ¬ (c.ws.getD i Wir.zero).kind = 1 → (c.ws.getD i Wir.zero).of.length ≤ 8 := fun i hi hk =>
  (wire_more (List.all_eq_true.1 hw i (List.mem_range.2 hi)) hk).2.2.1

theorem cntTo_bd {c : Cir} (hw : wiresB c = true) (h24 : c.ws.length ≤ 24) {k : Nat} (hk : k < c.ws.length) (hk1 : ¬ (c.ws.getD k Wir.zero).kind = 1) (m j : Nat) : 0 ≤ cntTo c.ws k m j ∧ cntTo c.ws k m j ≤ 1000000 := by
  have h1 := usedTo_le c.ws j (wires_len hw) k (by omega)
  have h2 := wires_len hw k hk hk1
  have h3 := List.countP_le_length (p := fun x => x == (j : Int)) (l := (c.ws.getD k Wir.zero).of.take m)
  have h4 := List.length_take_le m (c.ws.getD k Wir.zero).of
  have h5 : ((c.ws.getD k Wir.zero).of.take m).length ≤ (c.ws.getD k Wir.zero).of.length := by rw [List.length_take]; omega
  unfold cntTo
  omega

/-- The counters of the wires but the first one. -/
def cntL (c : Cir) : List Int := (List.range (c.ws.length - 1)).map fun i => (usedTo c.ws (i + 1) c.ws.length : Int)

theorem cntL_len (c : Cir) : (cntL c).length = c.ws.length - 1 := by simp [cntL]

theorem joined_any (c : Cir) : ((cntL c).any fun x => !(x == 1)) = !(joinedB c) := by
  cases hq : joinedB c
  · unfold joinedB at hq
    rw [List.all_eq_false] at hq
    obtain ⟨i, hi, hq⟩ := hq
    rw [List.mem_range] at hi
    simp only [Bool.or_eq_true, decide_eq_true_eq, not_or] at hq
    obtain ⟨h0, h1⟩ := hq
    rw [Bool.not_false, List.any_eq_true]
    refine ⟨(usedTo c.ws i c.ws.length : Int), ?_, ?_⟩
    · unfold cntL
      rw [List.mem_map]
      exact ⟨i - 1, List.mem_range.2 (by omega), by rw [show i - 1 + 1 = i by omega]⟩
    · simp only [Bool.not_eq_true', beq_eq_false_iff_ne, ne_eq]
      omega
  · unfold joinedB at hq
    rw [List.all_eq_true] at hq
    rw [Bool.not_true, List.any_eq_false]
    intro x hx
    unfold cntL at hx
    rw [List.mem_map] at hx
    obtain ⟨i, hi, rfl⟩ := hx
    rw [List.mem_range] at hi
    have := hq (i + 1) (List.mem_range.2 (by omega))
    simp only [Bool.or_eq_true, decide_eq_true_eq] at this
    simp only [Bool.not_eq_true', beq_eq_false_iff_ne, ne_eq]
    omega

theorem cntL_at {c : Cir} {w : World} {g : Nat} (h : CntAt w g (cntF c.ws c.ws.length)) (h1 : 1 ≤ c.ws.length) (h24 : c.ws.length ≤ 24) : InAt w (.slice (some ⟨g, 1, none⟩) (c.ws.length - 1) 23) (cntL c) := by
  refine ⟨some ⟨g, 1, none⟩, 23, by rw [cntL_len], by rw [cntL_len]; omega, by decide, fun _ => ⟨g, 1, rfl, lt_of_block h, fun i hi => ?_⟩⟩
  rw [cntL_len] at hi
  rw [show 1 + i = i + 1 by omega, cnt_at h (by omega)]
  unfold cntL cntF
  rw [List.getD_eq_getElem?_getD, List.getElem?_map, List.getElem?_range hi]
  rfl

set_option maxHeartbeats 400000 in
theorem joined1_any (x : Int) (w : World) :
    Calls Try.prog 140 #[.int .i64 x] w fun e w' => e = .returned (.bool (!(x == 1))) ∧ Below w.heap.size w w' := by
  go_enter Try.func140, Try.ntmps140
  go_wp2
  go_ret
  exact ⟨rfl, Below.refl _ _⟩

theorem enters_joined1 : Enters 140 := fun _ _ => by kernel_rfl

theorem zeroCnt : ∀ w, (zeroValue 179).run Try.prog w = .ok (.agg (cntC fun _ => 0)) w := by
  rw [cntC_zero]
  exact (zero_of_info (P := Try.prog) (t := 179) (n := 24) (by kernel_rfl)).1

def JoRel (c : Cir) (sv wv : Value) (w wr : World) (f : Nat → Int) : Prop := Below w.heap.size w wr ∧ wr.heap[w.heap.size]? = some (cirO c sv wv) ∧ CntAt wr (w.heap.size + 1) f

set_option maxRecDepth 100000 in
set_option maxHeartbeats 8000000 in
theorem areJoined_any (c : Cir) (sv wv : Value) (w : World) (hv : CirAt w sv wv c) (hw : wiresB c = true) (h1 : 1 ≤ c.ws.length) (h24 : c.ws.length ≤ 24) :
    Calls Try.prog 79 #[cirV c sv wv] w fun e w' => e = .returned (.bool (joinedB c)) ∧ Below w.heap.size w w' := by
  have hb0 := ((Below.refl w.heap.size w).alloc (Nat.le_refl _) (cirO c sv wv)).alloc (by rw [size_alloc]; omega) (.cells (cntC fun _ => 0) 179)
  have R0 := Lib.hid (show JoRel c sv wv w ((w.alloc (cirO c sv wv)).alloc (.cells (cntC fun _ => 0) 179)) (cntF c.ws 0) from ⟨hb0, two_od _ _ _, two_nw _ _ _⟩)
  have HV := Lib.hid hv
  obtain ⟨hsv, hwv⟩ := hv
  obtain ⟨a, cap, rfl, n1, n2, hcc⟩ := hwv
  obtain ⟨b, off, rfl, hbl, hcc⟩ := hcc (by omega)
  have HC := Lib.hid hcc
  have HW := Lib.hid hw
  have hzb := zeroCnt
  clear hb0 hcc hw
  go_enter Try.func79, Try.ntmps79
  go_wp2_with fail
  generalize ((w.alloc (cirO c sv (.slice (some ⟨b, off, none⟩) c.ws.length cap))).alloc (.cells (cntC fun _ => 0) 179)) = wA at *
  clear hzb
  have n24 : c.ws.length ≤ 9223372036854775807 := by omega
  go_loopw [11] (fun i wr => ∃ k : Nat, k ≤ c.ws.length ∧ i = .int .i64 k ∧ Hid (JoRel c sv (.slice (some ⟨b, off, none⟩) c.ws.length cap) w wr (cntF c.ws k))) (fun i _ => c.ws.length - (intOf i).toNat)
  case atStart => exact ⟨0, Nat.zero_le _, rfl, R0.out⟩
  case round =>
    obtain ⟨k, hk, rfl, hR⟩ := hrel
    obtain ⟨wo, rfl⟩ : ∃ wo : World, wo = wr := ⟨_, rfl⟩
    by_cases hlt : k < c.ws.length
    · have HWK := Lib.hid (List.all_eq_true.1 HW.out k (List.mem_range.2 hlt))
      obtain ⟨q1, u, q2, q3⟩ := HC.out k hlt
      have g1 := (hR.out.1.cell (p := ⟨b, off + k * 2, none⟩) hbl).trans q1
      have g2 := (hR.out.1.cell (p := ⟨b, off + k * 2 + 1, none⟩) hbl).trans q2
      have hbl2 : b < wo.heap.size := Nat.lt_of_lt_of_le hbl hR.out.1.size
      have HU := Lib.hid q3
      obtain ⟨ua, ucap, rfl, _⟩ := q3
      have HN1 := Lib.hid (fun h => cnt_single (ws := c.ws) (k := k) h)
      have HN2 := Lib.hid (fun h (m : Nat) (hm : (c.ws.getD k Wir.zero).of.length ≤ m) => cnt_more (ws := c.ws) (k := k) (m := m) h hm)
      have HN3 := Lib.hid (fun m p => cnt_step (ws := c.ws) (k := k) (m := m) (p := p))
      have HN4 := Lib.hid (fun h m j => cntTo_bd HW.out h24 hlt h m j)
      generalize c.ws.getD k Wir.zero = wi at *
      clear q1 q2
      by_cases hk1 : wi.kind = 1
      · have hkb : (wi.kind == 1) = true := by rw [hk1]; rfl
        have HF := Lib.hid (HN1.out hk1)
        clear hk1
        go_wp2_with fail
        go_roundw
        case rel => exact ⟨k + 1, hlt, by go_num, by rw [HF.out]; exact ⟨hR.out.1.alloc hR.out.1.size _, block_alloc hR.out.2.1 _, block_alloc hR.out.2.2 _⟩⟩
        case measure => simp [intOf]; omega
      · have hkb : (wi.kind == 1) = false := by simpa using hk1
        obtain ⟨_, _, l8, hm⟩ := wire_more HWK.out hk1
        have HF := Lib.hid (HN2.out hk1)
        have HN5 := Lib.hid (HN4.out hk1)
        have HM := Lib.hid hm
        clear hk1 hm
        have RW := Lib.hid (show JoRel c sv (.slice (some ⟨b, off, none⟩) c.ws.length cap) w (wo.alloc (wirO wi.kind (.slice ua wi.of.length ucap))) (cntTo c.ws k 0) from by
          rw [cnt_start]; exact ⟨hR.out.1.alloc hR.out.1.size _, block_alloc hR.out.2.1 _, block_alloc hR.out.2.2 _⟩)
        go_wp2_with fail
        clear g1 g2 hkb
        generalize (wo.alloc (wirO wi.kind (.slice ua wi.of.length ucap))) = wW at *
        go_loopw [21] (fun i wr => ∃ m : Nat, m ≤ wi.of.length ∧ i = .int .i64 m ∧ Hid (JoRel c sv (.slice (some ⟨b, off, none⟩) c.ws.length cap) w wr (cntTo c.ws k m))) (fun i _ => wi.of.length - (intOf i).toNat)
        case atStart => exact ⟨0, Nat.zero_le _, rfl, RW.out⟩
        case round =>
          obtain ⟨m, hm, rfl, hQ⟩ := hrel
          by_cases hlm : m < wi.of.length
          · obtain ⟨ua', ucap', e1, _, _, hu⟩ := HU.out
            injection e1 with e1 e2 e3
            subst e1
            obtain ⟨ub, uoff, rfl, hubl, hu⟩ := hu (by omega)
            have gu := (hQ.out.1.cell (p := ⟨ub, uoff + m, none⟩) hubl).trans (hu m hlm)
            obtain ⟨p1, p2⟩ := HM.out _ (getD_mem hlm 0)
            obtain ⟨p, hp⟩ : ∃ p : Nat, wi.of.getD m 0 = p := ⟨(wi.of.getD m 0).toNat, by omega⟩
            have HST := Lib.hid (HN3.out m p hlm hp)
            rw [hp] at gu p1 p2
            have p3 : p < 24 := by omega
            have p4 : (0 : Int) ≤ p := by omega
            have p5 : (p : Int) < 24 := by omega
            have hz := Nat.lt_of_lt_of_le hubl hQ.out.1.size
            have hce := cnt_at hQ.out.2.2 p3
            have hcf := block_free hQ.out.2.2 p
            have hz2 := lt_of_block hQ.out.2.2
            obtain ⟨x1, x2⟩ := HN5.out m p
            clear hu hp e2 e3
            go_wp2_with fail
            go_roundw
            case rel => exact ⟨m + 1, hlm, by go_num, by
              rw [HST.out]
              exact ⟨hQ.out.1.setCell (p := ⟨w.heap.size + 1, p, none⟩) (by simp) _, block_set_other (p := ⟨w.heap.size + 1, p, none⟩) hQ.out.2.1 (by simp) _, cnt_set hQ.out.2.2 p3⟩⟩
            case measure => simp [intOf]; omega
          · have HFF := Lib.hid (HF.out m (by omega))
            go_wp2_with fail
            go_roundw
            case rel => exact ⟨k + 1, hlt, by go_num, by rw [HFF.out]; exact hQ.out⟩
            case measure => simp [intOf]; omega
    · obtain rfl : k = c.ws.length := by omega
      have c0 := block_cell hR.out.2.1
      have c1 : (1 : Int) ≤ c.ws.length := by omega
      have c2 : (c.ws.length : Int) ≤ 24 := by omega
      have HI := Lib.hid (cntL_at hR.out.2.2 h1 h24)
      have HB := Lib.hid hR.out.1
      go_wp2_with fail
      refine (containsInt_any _ #[] #[] _ (cntL c) (fun x => !(x == 1)) _ _ HI.out enters_joined1 (joined_any c) (fun x w1 _ _ => joined1_any x w1)).mono ?_
      rintro e w1 ⟨rfl, hb1⟩
      clear c0
      go_wp2
      go_ret
      exact ⟨ret_bool (by simp), HB.out.trans (hb1.mono HB.out.size)⟩

end Go.Proofs.Ytbkhfmigaehgaaa
