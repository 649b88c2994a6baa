/- Walks of layer 3 (circuit): conducts of the specification. -/
import Derived.Test.YtbkhfmigaehgaaaCd
namespace Go.Proofs.Ytbkhfmigaehgaaa
open Go.RowKit

theorem and_one_zero {s k : Nat} (hs : s < 4611686018427387904) : (bits .and .i64 ((s : Int) / 2 ^ k) 1 == 0) = !s.testBit k := by
  have h1 : s / 2 ^ k ≤ s := Nat.div_le_self _ _
  rw [shr_nat]
  have h2 := i64_and_nat (s / 2 ^ k) 1 (by omega) (by omega)
  rw [show ((1 : Nat) : Int) = 1 from rfl] at h2
  rw [h2]
  have h3 := bit_of_shift s k
  have h4 : (s / 2 ^ k) &&& 1 ≤ 1 := Nat.and_le_right
  cases ht : s.testBit k
  · rw [ht] at h3
    simp only [Bool.false_eq_true, iff_false] at h3
    have : (s / 2 ^ k) &&& 1 = 0 := by omega
    rw [this]; rfl
  · rw [ht] at h3
    rw [h3.2 rfl]
    rfl

theorem rcond_is {f : FuncId} {args : Array Value} {w : World} {a q : Bool} (ha : a = q) (h : Calls Try.prog f args w fun e w' => e = .returned (.bool a) ∧ Below w.heap.size w w') : Calls Try.prog f args w fun e w' => e = .returned (.bool q) ∧ Below w.heap.size w w' := by
  subst ha
  exact h

set_option maxRecDepth 100000 in
set_option maxHeartbeats 4000000 in
theorem rconducts_any (c : Cir) (s : Sta) (sv wv : Value) (hc : CVal c) (hs : s.Ok) : ∀ (f i : Nat) (w : World), i < c.ws.length → c.ws.length ≤ i + f → CirAt w sv wv c →
    Calls Try.prog 74 #[cirV c sv wv, .int .i64 i, .int .i64 s.hz, .int .i64 s.cl, .int .i64 s.op] w fun e w' => e = .returned (.bool (cond c s f i)) ∧ Below w.heap.size w w' := by
  intro f
  induction f with
  | zero => intro i w h1 h2; omega
  | succ f ih =>
    intro i w hi hf hv
    have hb0 := (Below.refl w.heap.size w).alloc (Nat.le_refl _) (.cells #[.int .i64 c.hz, sv, wv] 25)
    have k0 := block_new w (.cells #[.int .i64 c.hz, sv, wv] 25) w.heap.size rfl
    have HW := Lib.hid (hc.ws i hi)
    have w24 := hc.w2
    have HV := Lib.hid hv
    obtain ⟨hsv, hwv⟩ := hv
    obtain ⟨sa, scap, rfl, _, _, hsc⟩ := hsv
    obtain ⟨a, cap, rfl, n1, n2, hcc⟩ := hwv
    obtain ⟨b, off, rfl, hbl, hcc⟩ := hcc (by omega)
    obtain ⟨q1, u, q2, q3⟩ := hcc i hi
    have g1 := (hb0.cell (p := ⟨b, off + i * 2, none⟩) hbl).trans q1
    have g2 := (hb0.cell (p := ⟨b, off + i * 2 + 1, none⟩) hbl).trans q2
    have hbl2 : b < (w.alloc (.cells #[.int .i64 c.hz, .slice sa c.sw.length scap, .slice (some ⟨b, off, none⟩) c.ws.length cap] 25)).heap.size := by rw [size_alloc]; omega
    have HU := Lib.hid q3
    have HB := Lib.hid (hb0.alloc (by rw [size_alloc]; omega) (wirO (c.ws.getD i Wir.zero).kind u))
    have K0 := Lib.hid (block_alloc k0 (wirO (c.ws.getD i Wir.zero).kind u))
    have K1 := Lib.hid (two_nw w (.cells #[.int .i64 c.hz, .slice sa c.sw.length scap, .slice (some ⟨b, off, none⟩) c.ws.length cap] 25) (wirO (c.ws.getD i Wir.zero).kind u))
    have i1 : (0 : Int) ≤ i := by omega
    have i2 : (i : Int) < c.ws.length := by omega
    have IH := Lib.hid ih
    have HS := Lib.hid hs
    have HC := Lib.hid hc
    have HSC := Lib.hid hsc
    clear hcc hsc q1 q2 hb0 k0 ih n1 n2
    obtain ⟨ua, ucap, rfl, _⟩ := q3
    have HK1 := Lib.hid (fun h => cond_single (c := c) (s := s) (f := f) (i := i) h)
    have HK2 := Lib.hid (fun h => cond_series (c := c) (s := s) (f := f) (i := i) h)
    have HK3 := Lib.hid (fun h => cond_parallel (c := c) (s := s) (f := f) (i := i) h)
    generalize c.ws.getD i Wir.zero = wi at *
    by_cases hk1 : wi.kind = 1
    · obtain ⟨l1, l2, l3⟩ := wire_one HW.out hk1
      have hHR := HK1.out hk1
      obtain ⟨k, hxe⟩ : ∃ k : Nat, wi.of.getD 0 0 = k := ⟨(wi.of.getD 0 0).toNat, by omega⟩
      have hkl : k < c.sw.length := by omega
      have k12 : k ≤ 12 := by have := hc.s2; omega
      obtain ⟨ua', ucap', e1, _, _, hu⟩ := HU.out
      injection e1 with e1 e2 e3
      subst e1
      obtain ⟨ub, uoff, rfl, hubl, hu⟩ := hu (by omega)
      have hu0 := hu 0 (by omega)
      rw [hxe, Nat.add_zero] at hu0
      rw [hxe, Int.toNat_natCast] at hHR
      have hu1 := (HB.out.cell (p := ⟨ub, uoff, none⟩) hubl).trans hu0
      have hubs := Nat.lt_of_lt_of_le hubl HB.out.size
      obtain ⟨sb, soff, rfl, hsbl, hsc⟩ := HSC.out (by omega)
      have g3 := (HB.out.cell (p := ⟨sb, soff + k, none⟩) hsbl).trans (hsc k hkl)
      have g0 := hc.sw k hkl
      have gp := Nat.pow_le_pow_right (show 0 < 2 by omega) (show c.hz.toNat ≤ 8 by have := hc.h2; omega)
      obtain ⟨n, hn⟩ : ∃ n : Nat, c.sw.getD k 0 = n := ⟨(c.sw.getD k 0).toNat, by omega⟩
      have hnb : n < 4611686018427387904 := by
        rw [hn] at g0
        have : ((2 : Int) ^ c.hz.toNat) = ((2 ^ c.hz.toNat : Nat) : Int) := by simp
        omega
      rw [hn] at g3
      have z1 : (bits .and .i64 ((s.op : Int) / 2 ^ k) 1 == 0) = !s.op.testBit k := and_one_zero (by have := hs.op; omega)
      have z2 : (bits .and .i64 ((s.cl : Int) / 2 ^ k) 1 == 1) = s.cl.testBit k := and_one_bit (by have := hs.cl; omega)
      have hl0 : 0 < wi.of.length := by omega
      have hkb : (wi.kind == 1) = true := by rw [hk1]; rfl
      have k1 : (0 : Int) ≤ k := by omega
      have k2 : (k : Int) < c.sw.length := by omega
      have HN := Lib.hid hn
      have HRR := Lib.hid hHR
      have HNB := Lib.hid hnb
      clear hu l1 l2 l3 hxe hHR e2 e3 hu0 hk1 hsc g0 gp hn hnb hc hs
      cases ho : s.op.testBit k
      · cases hl : s.cl.testBit k
        · have HR := Lib.hid (lets_free (c := c) ho hl HN.out HNB.out (by have := HS.out.hz; omega))
          rw [ho] at z1
          rw [hl] at z2
          clear ho hl
          go_enter Try.func74, Try.ntmps74
          go_wp2_with fail
          go_ret
          exact ⟨ret_bool (HR.out.trans HRR.out), HB.out⟩
        · have HR := Lib.hid (lets_closed (c := c) ho hl)
          rw [ho] at z1
          rw [hl] at z2
          clear ho hl
          go_enter Try.func74, Try.ntmps74
          go_wp2_with fail
          go_ret
          exact ⟨ret_bool (HR.out.trans HRR.out), HB.out⟩
      · have HR := Lib.hid (lets_open (c := c) ho)
        rw [ho] at z1
        clear ho
        go_enter Try.func74, Try.ntmps74
        go_wp2_with fail
        go_ret
        exact ⟨ret_bool (HR.out.trans HRR.out), HB.out⟩
    · obtain ⟨l1, _, _, l2⟩ := wire_more HW.out hk1
      have HM := Lib.hid l2
      have hkb : (wi.kind == 1) = false := by simpa using hk1
      obtain ⟨P, hP⟩ : ∃ P : Bool, (wi.kind == 3) = P := ⟨_, rfl⟩
      have hP2 : (wi.kind == 2) = !P := by
        rw [← hP]
        rcases l1 with h | h <;> rw [h] <;> rfl
      have HE1 := Lib.hid (show ∀ m, m < wi.of.length → (∀ j, j < m → cond c s f (wi.of.getD j 0) = !P) → cond c s f (wi.of.getD m 0) = P → P = cond c s (f + 1) i by
        intro m hm h1 h2
        rcases l1 with h | h
        · have e : P = false := by rw [← hP, h]; rfl
          rw [← HK2.out h, e]
          symm
          rw [List.all_eq_false]
          exact ⟨_, getD_mem hm 0, by rw [h2, e]; simp⟩
        · have e : P = true := by rw [← hP, h]; rfl
          rw [← HK3.out h, e]
          symm
          rw [List.any_eq_true]
          exact ⟨_, getD_mem hm 0, by rw [h2, e]⟩)
      have HE2 := Lib.hid (show (∀ j, j < wi.of.length → cond c s f (wi.of.getD j 0) = !P) → (!P) = cond c s (f + 1) i by
        intro h1
        rcases l1 with h | h
        · have e : P = false := by rw [← hP, h]; rfl
          rw [← HK2.out h, e]
          symm
          rw [Bool.not_false, List.all_eq_true]
          intro x hx
          obtain ⟨j, hj, rfl⟩ := List.getElem_of_mem hx
          have := h1 j hj
          rw [List.getD_eq_getElem?_getD, List.getElem?_eq_getElem hj, e] at this
          exact this
        · have e : P = true := by rw [← hP, h]; rfl
          rw [← HK3.out h, e]
          symm
          rw [Bool.not_true, List.any_eq_false]
          intro x hx
          obtain ⟨j, hj, rfl⟩ := List.getElem_of_mem hx
          have := h1 j hj
          rw [List.getD_eq_getElem?_getD, List.getElem?_eq_getElem hj, e] at this
          simp only [Option.getD_some, Bool.not_true] at this
          rw [this]; simp)
      clear l2 hk1 l1 hc hs
      obtain ⟨ua', ucap', e1, n3, n4, hu⟩ := HU.out
      injection e1 with e1 e2 e3
      subst e1
      have HUC := Lib.hid hu
      have n5 : wi.of.length ≤ 9223372036854775807 := by omega
      clear hu e2 e3
      go_enter Try.func74, Try.ntmps74
      go_wp2_with fail
      clear g1 g2
      generalize ((w.alloc (.cells #[.int .i64 c.hz, .slice sa c.sw.length scap, .slice (some ⟨b, off, none⟩) c.ws.length cap] 25)).alloc (wirO wi.kind (.slice ua wi.of.length ucap))) = wB at *
      go_loopw [13] (fun i wr => ∃ m : Nat, m ≤ wi.of.length ∧ i = .int .i64 m ∧ Hid (Below wB.heap.size wB wr) ∧ Hid (∀ j, j < m → cond c s f (wi.of.getD j 0) = !P)) (fun i _ => wi.of.length - (intOf i).toNat)
      case atStart => exact ⟨0, Nat.zero_le _, rfl, Lib.hid (Below.refl _ _), Lib.hid (fun j hj => by omega)⟩
      case round =>
        obtain ⟨m, hm, rfl, hb, hf⟩ := hrel
        have kk0 := keepZ K0.out hb.out
        have kk1 := keepZ K1.out hb.out
        have c1 := block_cell kk1
        by_cases hlt : m < wi.of.length
        · obtain ⟨ub, uoff, rfl, hubl, hu⟩ := HUC.out (by omega)
          have HX := Lib.hid (HB.out.trans (hb.out.mono HB.out.size))
          have g4 := (HX.out.cell (p := ⟨ub, uoff + m, none⟩) hubl).trans (hu m hlt)
          have hubs := Nat.lt_of_lt_of_le hubl HX.out.size
          obtain ⟨m1, m2⟩ := HM.out _ (getD_mem hlt 0)
          obtain ⟨k, hk⟩ : ∃ k : Nat, wi.of.getD m 0 = k := ⟨(wi.of.getD m 0).toNat, by omega⟩
          rw [hk] at g4 m1 m2
          have HKK := Lib.hid hk
          have j1 : (0 : Int) ≤ m := by omega
          have j2 : (m : Int) < wi.of.length := by omega
          have HKL := Lib.hid (show k < c.ws.length ∧ c.ws.length ≤ k + f by omega)
          have b1 := bw_cells (B := wr.heap.size) kk0 (lt_of_block kk0)
          have b2 := bw_cells (B := wr.heap.size) kk1 (lt_of_block kk1)
          have b3 := bw_cell (B := wr.heap.size) g4 hubs
          clear hu g4 hk m1 m2
          cases hq : cond c s f k
          all_goals
            have HQ := Lib.hid hq
            cases hPP : P
            all_goals
              subst hPP
              go_wp2_with fail
              clear c1
              refine wp_region_below (by kernel_rfl) (by kernel_rfl) (Below.refl wr.heap.size wr) ?_
              repeat ((with_reducible refine wpQuiet_step (fun K hK => ?_)); go_simp; first | (refine hK _ ?_; clear hK K) | (apply Exists.intro; refine ⟨fun _ => ?_, hK _ ?_⟩; ((go_at_call 74; with_reducible exact bw_call (Nat.le_refl _) (rcond_is HQ.out (IH.out k _ HKL.out.1 HKL.out.2 (HV.out.below (HX.out.trans ((BW.b _).mono HX.out.size)) (Nat.le_refl _)))))); clear hK K))
              refine wpQuiet_nil ?_
              intro wq hwq0
              have hwq := bw_out hwq0
              clear hwq0
              have c1 := block_cell (keepZ kk1 hwq)
              have HB2 := Lib.hid (hb.out.trans (hwq.mono hb.out.size))
              have HX2 := Lib.hid (HX.out.trans (hwq.mono HX.out.size))
              clear hwq b1 b2 b3
              go_wp2_with fail
              first
                | (go_ret; exact ⟨ret_bool (HE1.out m hlt hf.out (by rw [HKK.out]; exact HQ.out)), HX2.out⟩)
                | (clear c1
                   go_roundw
                   case rel => exact ⟨m + 1, hlt, by go_num, HB2, Lib.hid (fun j hj => by
                     by_cases e : j = m
                     · rw [e, HKK.out]; exact HQ.out
                     · exact hf.out j (by omega))⟩
                   case measure => simp [intOf]; omega)
        · obtain rfl : m = wi.of.length := by omega
          have HR := Lib.hid (HE2.out hf.out)
          have HX := Lib.hid (HB.out.trans (hb.out.mono HB.out.size))
          go_wp2_with fail
          go_ret
          exact ⟨ret_bool HR.out, HX.out⟩

end Go.Proofs.Ytbkhfmigaehgaaa
