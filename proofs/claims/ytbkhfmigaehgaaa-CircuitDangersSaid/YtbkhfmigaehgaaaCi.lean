/- Walks of layer 3 (circuit): passes, weak, isDangerous, Critical of the program. -/
import Derived.Test.YtbkhfmigaehgaaaCh
namespace Go.Proofs.Ytbkhfmigaehgaaa
open Go.RowKit

theorem sta_ok {hz cl : Nat} (h1 : hz < 1048576) (h2 : cl < 1048576) : (⟨hz, cl, 0⟩ : Sta).Ok := ⟨h1, h2, (by decide : (0 : Nat) < 1048576)⟩

set_option maxRecDepth 100000 in
set_option maxHeartbeats 1000000 in
theorem passes_any (c : Cir) (sv wv : Value) (hz cl : Nat) (w : World) (hv : CirAt w sv wv c) (hc : CVal c) (h1 : hz < 1048576) (h2 : cl < 1048576) :
    Calls Try.prog 88 #[cirV c sv wv, .int .i64 hz, .int .i64 cl] w fun e w' => e = .returned (.bool (passM c hz cl)) ∧ Below w.heap.size w w' := by
  have HB := Lib.hid ((Below.refl w.heap.size w).alloc (Nat.le_refl _) (cirO c sv wv))
  have K0 := Lib.hid (block_new w (cirO c sv wv) w.heap.size rfl)
  have HV := Lib.hid (hv.below HB.out (Nat.le_refl _))
  have HC := Lib.hid hc
  have HS := Lib.hid (sta_ok h1 h2)
  have w1 := hc.w1
  have w2 := hc.w2
  clear hv hc h1 h2
  go_enter Try.func88, Try.ntmps88
  go_wp2_with fail
  generalize w.alloc (cirO c sv wv) = wA at *
  have c0 := block_cell K0.out
  go_wp2_with fail
  clear c0
  refine (conducts_any c ⟨hz, cl, 0⟩ sv wv HC.out HS.out 24 0 _ (by omega) (by omega) HV.out).mono ?_
  rintro e w1 ⟨rfl, hb1⟩
  go_wp2
  go_ret
  exact ⟨rfl, HB.out.trans (hb1.mono HB.out.size)⟩

set_option maxRecDepth 100000 in
set_option maxHeartbeats 1000000 in
theorem weak1_any (c : Cir) (sv wv : Value) (h cl gc gl : Nat) (w : World) (hv : CirAt w sv wv c) (hc : CVal c) (hh : h ≤ 8) (h2 : cl < 1048576)
    (k1 : w.heap[gc]? = some (cirO c sv wv)) (k2 : w.heap[gl]? = some (.cells #[.int .i64 cl] 3)) :
    Calls Try.prog 141 #[.int .i64 h, .pointer (some ⟨gc, 0, none⟩), .pointer (some ⟨gl, 0, none⟩)] w fun e w' => e = .returned (.bool (passM c (2 ^ h) cl)) ∧ Below w.heap.size w w' := by
  have b1 := bw_cells (B := w.heap.size) k1 (lt_of_block k1)
  have b2 := bw_cells (B := w.heap.size) k2 (lt_of_block k2)
  have HV := Lib.hid hv
  have HC := Lib.hid hc
  have HP := Lib.hid (show 2 ^ h < 1048576 from Nat.lt_of_le_of_lt (Nat.pow_le_pow_right (by omega) hh) (by decide))
  clear hv hc k1 k2
  go_enter Try.func141, Try.ntmps141
  go_wp2_with fail
  refine wp_region_below (by kernel_rfl) (by kernel_rfl) (Below.refl w.heap.size w) ?_
  repeat ((with_reducible refine wpQuiet_step (fun K hK => ?_)); go_simp; first | (refine hK _ ?_; clear hK K) | (apply Exists.intro; refine ⟨fun _ => ?_, hK _ ?_⟩; (first | (go_at_call 86; exact bw_same (calone_any h _ (by omega))) | (go_at_call 88; exact bw_call (Nat.le_refl _) (passes_any c sv wv (2 ^ h) cl _ (HV.out.below (BW.b _) (Nat.le_refl _)) HC.out HP.out h2))); clear hK K))
  refine wpQuiet_nil ?_
  intro wq hwq0
  have hwq := bw_out hwq0
  clear hwq0
  go_wp2
  go_ret
  exact ⟨rfl, hwq⟩

theorem enters_weak1 : Enters 141 := fun _ _ => by kernel_rfl

set_option maxRecDepth 100000 in
set_option maxHeartbeats 1000000 in
theorem weak_any (c : Cir) (sv wv : Value) (cl : Nat) (w : World) (hv : CirAt w sv wv c) (hc : CVal c) (h2 : cl < 1048576) :
    Calls Try.prog 81 #[cirV c sv wv, .int .i64 cl] w (ListRes (natL (weakM c cl)) w) := by
  have HB := Lib.hid (blw2 w (cirO c sv wv) (.cells #[.int .i64 cl] 3))
  have K0 := Lib.hid (two_od w (cirO c sv wv) (.cells #[.int .i64 cl] 3))
  have K1 := Lib.hid (two_nw w (cirO c sv wv) (.cells #[.int .i64 cl] 3))
  have HV := Lib.hid (hv.below HB.out (Nat.le_refl _))
  have HC := Lib.hid hc
  obtain ⟨n, hn⟩ : ∃ n : Nat, c.hz = n := ⟨c.hz.toNat, by have := hc.h1; omega⟩
  have n8 : n ≤ 8 := by have := hc.h2; omega
  have HN := Lib.hid (show c.hz.toNat = n by omega)
  have HZ := Lib.hid hn
  clear hv hc hn
  go_enter Try.func81, Try.ntmps81
  go_wp2_with fail
  generalize (w.alloc (cirO c sv wv)).alloc (.cells #[.int .i64 cl] 3) = wA at *
  rw [HZ.out]
  refine (those_any _ #[] #[.pointer (some ⟨w.heap.size, 0, none⟩), .pointer (some ⟨w.heap.size + 1, 0, none⟩)] n (fun h => passM c (2 ^ h) cl) _ (by omega) enters_weak1 (fun k w1 hk hb1 => ?_)).mono ?_
  · exact weak1_any c sv wv k cl _ _ w1 (HV.out.below hb1 (Nat.le_refl _)) HC.out (by omega) h2 (keepZ K0.out hb1) (keepZ K1.out hb1)
  rintro e w1 ⟨v, rfl, hin, hb1⟩
  have HI := Lib.hid hin
  clear hin
  go_wp2
  go_ret
  refine ⟨_, rfl, ?_, HB.out.trans (hb1.mono HB.out.size)⟩
  show InAt w1 v (natL (weakM c cl))
  unfold weakM
  rw [HN.out]
  exact HI.out

theorem natL_len (l : List Nat) : (natL l).length = l.length := by simp [natL]

theorem dang_len (c : Cir) (cl : Nat) : decide (0 < (weakM c cl).length) = dangB c cl := by
  have h := weak_dang c cl
  cases hq : dangB c cl
  · rw [h.2 hq]; rfl
  · rw [decide_eq_true_eq]
    apply Nat.pos_of_ne_zero
    intro h0
    have := h.1 (List.eq_nil_of_length_eq_zero h0)
    rw [hq] at this; cases this

set_option maxRecDepth 100000 in
set_option maxHeartbeats 1000000 in
theorem dang_any (c : Cir) (sv wv : Value) (cl : Nat) (w : World) (hv : CirAt w sv wv c) (hc : CVal c) (h2 : cl < 1048576) :
    Calls Try.prog 85 #[cirV c sv wv, .int .i64 cl] w fun e w' => e = .returned (.bool (dangB c cl)) ∧ Below w.heap.size w w' := by
  have HB := Lib.hid ((Below.refl w.heap.size w).alloc (Nat.le_refl _) (cirO c sv wv))
  have K0 := Lib.hid (block_new w (cirO c sv wv) w.heap.size rfl)
  have HV := Lib.hid (hv.below HB.out (Nat.le_refl _))
  have HD := Lib.hid (dang_len c cl)
  have HC := Lib.hid hc
  clear hv hc
  go_enter Try.func85, Try.ntmps85
  go_wp2_with fail
  generalize w.alloc (cirO c sv wv) = wA at *
  have c0 := block_cell K0.out
  go_wp2_with fail
  clear c0
  refine (weak_any c sv wv cl _ HV.out HC.out h2).mono ?_
  rintro e w1 ⟨v, rfl, ⟨a, cap, rfl, _⟩, hb1⟩
  rw [natL_len]
  go_wp2
  go_ret
  exact ⟨ret_bool (by rw [← HD.out]), HB.out.trans (hb1.mono HB.out.size)⟩

theorem dang_is (q : Bool) (c : Cir) (sv wv : Value) (cl : Nat) (w : World) (hv : CirAt w sv wv c) (hc : CVal c) (h2 : cl < 1048576) (hq : dangB c cl = q) :
    Calls Try.prog 85 #[cirV c sv wv, .int .i64 cl] w fun e w' => e = .returned (.bool q) ∧ Below w.heap.size w w' := by
  subst hq
  exact dang_any c sv wv cl w hv hc h2

theorem pow_set {k : Nat} (h : k ≤ 12) : 2 ^ k < 1048576 := Nat.lt_of_le_of_lt (Nat.pow_le_pow_right (by omega) h) (by decide)

set_option maxRecDepth 100000 in
set_option maxHeartbeats 1000000 in
theorem crit1_any (c : Cir) (sv wv : Value) (k gc : Nat) (w : World) (hv : CirAt w sv wv c) (hc : CVal c) (hk : k < c.sw.length)
    (k1 : w.heap[gc]? = some (cirO c sv wv)) :
    Calls Try.prog 84 #[.int .i64 k, .pointer (some ⟨gc, 0, none⟩)] w fun e w' => e = .returned (.bool (dangB c (2 ^ k))) ∧ Below w.heap.size w w' := by
  have b1 := bw_cells (B := w.heap.size) k1 (lt_of_block k1)
  have HV := Lib.hid hv
  have HC := Lib.hid hc
  have k12 : k ≤ 12 := by have := hc.s2; omega
  clear hv hc k1
  go_enter Try.func84, Try.ntmps84
  go_wp2_with fail
  refine wp_region_below (by kernel_rfl) (by kernel_rfl) (Below.refl w.heap.size w) ?_
  repeat ((with_reducible refine wpQuiet_step (fun K hK => ?_)); go_simp; first | (refine hK _ ?_; clear hK K) | (apply Exists.intro; refine ⟨fun _ => ?_, hK _ ?_⟩; (first | (go_at_call 86; exact bw_same (calone_any k _ (by omega))) | (go_at_call 85; exact bw_call (Nat.le_refl _) (dang_any c sv wv (2 ^ k) _ (HV.out.below (BW.b _) (Nat.le_refl _)) HC.out (pow_set k12)))); clear hK K))
  refine wpQuiet_nil ?_
  intro wq hwq0
  have hwq := bw_out hwq0
  clear hwq0
  go_wp2
  go_ret
  exact ⟨rfl, hwq⟩

theorem enters_crit1 : Enters 84 := fun _ _ => by kernel_rfl

/-- A list in new memory and an error. -/
def ListErr (l : List Int) (er : Int) (w : World) (e : Ending) (w' : World) : Prop := ∃ v, e = .returned (.tuple #[v, .int .i64 er]) ∧ InAt w' v l ∧ Below w.heap.size w w'

def critR (c : Cir) : List Int := if validB c = true then natL (critM c) else []

set_option maxRecDepth 100000 in
set_option maxHeartbeats 2000000 in
theorem ccritical_any (c : Cir) (sv wv : Value) (w : World) (hv : CirAt w sv wv c) :
    Calls Try.prog 27 #[cirV c sv wv] w (ListErr (critR c) (chkC c) w) := by
  have HB := Lib.hid ((Below.refl w.heap.size w).alloc (Nat.le_refl _) (cirO c sv wv))
  have K0 := Lib.hid (block_new w (cirO c sv wv) w.heap.size rfl)
  have HV := Lib.hid (hv.below HB.out (Nat.le_refl _))
  obtain ⟨⟨sa, scap, rfl, _, _, _⟩, _⟩ := hv
  cases hq : validB c
  · have HR := Lib.hid (chkC_bad hq)
    have HL := Lib.hid (show [] = critR c by unfold critR; rw [hq]; rfl)
    clear hq
    go_enter Try.func27, Try.ntmps27
    go_wp2_with fail
    generalize w.alloc (cirO c (.slice sa c.sw.length scap) wv) = wA at *
    have c0 := block_cell K0.out
    go_wp2_with fail
    refine (ccheck_any c _ _ _ HV.out).mono ?_
    rintro e w1 ⟨rfl, hb1⟩
    rw [← HR.out]
    clear c0
    go_wp2
    go_ret2
    exact ⟨_, by rw [HR.out]; rfl, by rw [← HL.out]; exact InAt.nil _, HB.out.trans (hb1.mono HB.out.size)⟩
  · have HC := Lib.hid (cval hq)
    have HR := Lib.hid (chkC_ok hq)
    have HL := Lib.hid (show natL (critM c) = critR c by unfold critR; rw [hq]; rfl)
    have s2 := (cval hq).s2
    clear hq
    go_enter Try.func27, Try.ntmps27
    go_wp2_with fail
    generalize w.alloc (cirO c (.slice sa c.sw.length scap) wv) = wA at *
    have c0 := block_cell K0.out
    go_wp2_with fail
    refine (ccheck_any c _ _ _ HV.out).mono ?_
    rintro e w1 ⟨rfl, hb1⟩
    rw [← HR.out]
    clear c0
    have KW := Lib.hid (keepZ K0.out hb1)
    have HB1 := Lib.hid hb1
    have c0 := block_cell KW.out
    clear hb1
    go_wp2_with fail
    clear c0
    refine (those_any _ #[] #[.pointer (some ⟨w.heap.size, 0, none⟩)] c.sw.length (fun k => dangB c (2 ^ k)) _ (by omega) enters_crit1 (fun k w2 hk hb2 =>
      crit1_any c _ wv k _ w2 (HV.out.below (HB1.out.trans (hb2.mono HB1.out.size)) (Nat.le_refl _)) HC.out hk (keepZ KW.out hb2))).mono ?_
    rintro e w2 ⟨v, rfl, hin, hb2⟩
    have HI := Lib.hid hin
    clear hin
    go_wp2
    go_ret2
    exact ⟨_, by rw [HR.out]; rfl, by rw [← HL.out]; exact HI.out, HB.out.trans ((HB1.out.trans (hb2.mono HB1.out.size)).mono HB.out.size)⟩

end Go.Proofs.Ytbkhfmigaehgaaa
