/- Walks of layer 3 (circuit): lists asked by a function, lets, conducts. -/
import Derived.Test.YtbkhfmigaehgaaaCw
import Derived.Test.YtbkhfmigaehgaaaBq
import Derived.Laws.EntriesVeiled
import Derived.OneCell
namespace Go.Proofs.Ytbkhfmigaehgaaa
open Go.RowKit

theorem in_at {w w' : World} {b off : Nat} {l : List Int} {k : Nat} (hb : Below w.heap.size w w') (hbl : b < w.heap.size)
    (hc : ∀ i, i < l.length → w.cell? ⟨b, off + i, none⟩ = some (.int .i64 (l.getD i 0))) (hk : k < l.length) : w'.cell? ⟨b, off + k, none⟩ = some (.int .i64 (l.getD k 0)) :=
  (hb.cell (p := ⟨b, off + k, none⟩) hbl).trans (hc k hk)

set_option maxRecDepth 100000 in
set_option maxHeartbeats 1000000 in
theorem indexInt_any (K : Nat) (bs cs : Array Value) (v : Value) (l : List Int) (p : Int → Bool) (w : World) (hv : InAt w v l) (hK : Enters K)
    (hg : ∀ (x : Int) (w1 : World), x ∈ l → Below w.heap.size w w1 → Calls Try.prog K (bs.push (.int .i64 x) ++ cs) w1 fun e w' => e = .returned (.bool (p x)) ∧ Below w1.heap.size w1 w') :
    Calls Try.prog 138 #[v, .func (.func K) bs cs] w (IdxRes (l.any p) w) := by
  obtain ⟨a, cap, rfl, hn, hcap, hc⟩ := hv
  have HC := Lib.hid hc
  have HG := Lib.hid hg
  have hk1 := hK
  unfold Enters at hk1
  clear hc hg hK
  go_enter Try.func138, Try.ntmps138
  go_wp2_with fail
  go_loopw [8] (fun i wr => ∃ k : Nat, k ≤ l.length ∧ i = .int .i64 k ∧ Below w.heap.size w wr ∧ Hid (∀ i, i < k → p (l.getD i 0) = false)) (fun i _ => l.length - (intOf i).toNat)
  case atStart => exact ⟨0, Nat.zero_le _, rfl, Below.refl _ _, fun i hi => by omega⟩
  case round =>
    obtain ⟨k, hk, rfl, hb, hf⟩ := hrel
    by_cases hlt : k < l.length
    · obtain ⟨b, off, rfl, hbl, hc⟩ := HC.out (by omega)
      have g1 := in_at hb hbl hc hlt
      clear hc
      have hm := getD_mem hlt 0
      generalize hq0 : l.getD k 0 = q at g1 hm
      have Hq := Lib.hid hq0
      have HM := Lib.hid hm
      clear hq0 hm
      go_wp2_with fail
      refine (HG.out q wr HM.out hb).mono ?_
      rintro e w1 ⟨rfl, hb1⟩
      have hb2 := hb.trans (hb1.mono hb.size)
      clear hb hb1 g1
      cases hq : p q
      · have HQ := Lib.hid hq
        clear hq
        go_wp2
        go_roundw
        case rel => exact ⟨k + 1, hlt, by go_num, hb2, fun i hi => by
          by_cases hik : i = k
          · rw [hik, Hq.out]; exact HQ.out
          · exact hf.out i (by omega)⟩
        case measure => simp [intOf]; omega
      · have HQ := Lib.hid hq
        clear hq
        go_wp2
        go_ret
        exact ⟨k, rfl, by rw [any_true_of (d := 0) hlt (by rw [Hq.out]; exact HQ.out)]; simp, hb2⟩
    · go_wp2
      go_ret
      exact ⟨-1, rfl, by rw [any_false_of (d := 0) (fun i hi => hf.out i (by omega))]; simp, hb⟩

set_option maxHeartbeats 400000 in
theorem containsInt_any (K : Nat) (bs cs : Array Value) (v : Value) (l : List Int) (p : Int → Bool) (q : Bool) (w : World) (hv : InAt w v l) (hK : Enters K) (hq : l.any p = q)
    (hg : ∀ (x : Int) (w1 : World), x ∈ l → Below w.heap.size w w1 → Calls Try.prog K (bs.push (.int .i64 x) ++ cs) w1 fun e w' => e = .returned (.bool (p x)) ∧ Below w1.heap.size w1 w') :
    Calls Try.prog 76 #[v, .func (.func K) bs cs] w fun e w' => e = .returned (.bool q) ∧ Below w.heap.size w w' := by
  subst hq
  have HG := Lib.hid hg
  have HK := Lib.hid hK
  clear hg hK
  go_enter Try.func76, Try.ntmps76
  go_wp2_with fail
  refine (indexInt_any K bs cs _ _ p _ hv HK.out HG.out).mono ?_
  rintro e w1 ⟨r, rfl, hr, hb⟩
  have HR := Lib.hid hr
  clear hr
  go_wp2
  go_ret
  exact ⟨ret_bool HR.out, hb⟩

theorem enters_every1 : Enters 167 := fun _ _ => by kernel_rfl

set_option maxHeartbeats 400000 in
theorem every1_any (K : Nat) (bs cs : Array Value) (x : Int) (q : Bool) (g : Nat) (w : World) (hK : Enters K) (hf : w.cell? ⟨g, 0, none⟩ = some (.func (.func K) bs cs))
    (hg : Calls Try.prog K (bs.push (.int .i64 x) ++ cs) w fun e w' => e = .returned (.bool q) ∧ Below w.heap.size w w') :
    Calls Try.prog 167 #[.int .i64 x, .pointer (some ⟨g, 0, none⟩)] w fun e w' => e = .returned (.bool (!q)) ∧ Below w.heap.size w w' := by
  have HG := Lib.hid hg
  have hk1 := hK
  unfold Enters at hk1
  clear hg hK
  go_enter Try.func167, Try.ntmps167
  go_wp2_with fail
  refine HG.out.mono ?_
  rintro e w1 ⟨rfl, hb1⟩
  clear hf
  go_wp2
  go_ret
  exact ⟨rfl, hb1⟩

theorem all_any_not (l : List Int) (p : Int → Bool) : (l.any fun x => !p x) = !(l.all p) := by
  induction l with
  | nil => rfl
  | cons x l ih => rw [List.any_cons, List.all_cons, ih]; cases p x <;> rfl

set_option maxHeartbeats 400000 in
theorem every_any (K : Nat) (bs cs : Array Value) (v : Value) (l : List Int) (p : Int → Bool) (w : World) (hv : InAt w v l) (hK : Enters K)
    (hg : ∀ (x : Int) (w1 : World), x ∈ l → Below w.heap.size w w1 → Calls Try.prog K (bs.push (.int .i64 x) ++ cs) w1 fun e w' => e = .returned (.bool (p x)) ∧ Below w1.heap.size w1 w') :
    Calls Try.prog 137 #[v, .func (.func K) bs cs] w fun e w' => e = .returned (.bool (l.all p)) ∧ Below w.heap.size w w' := by
  have HG := Lib.hid hg
  have HK := Lib.hid hK
  have hb0 := (Below.refl w.heap.size w).alloc (Nat.le_refl _) (.cells #[.func (.func K) bs cs] 128)
  have k0 := block_new w (.cells #[.func (.func K) bs cs] 128) w.heap.size rfl
  have HB := Lib.hid hb0
  have K0 := Lib.hid k0
  have HV := Lib.hid (hv.below hb0 (Nat.le_refl _))
  obtain ⟨a, cap, rfl, _⟩ := hv
  clear hg hK hb0 k0
  go_enter Try.func137, Try.ntmps137
  go_wp2_with fail
  refine (containsInt_any _ #[] #[.pointer (some ⟨w.heap.size, 0, none⟩)] _ l (fun x => !p x) _ _ HV.out enters_every1 (all_any_not l p) (fun x w1 hx hb1 => ?_)).mono ?_
  · have h1 := HG.out x w1 hx (HB.out.trans (hb1.mono HB.out.size))
    exact every1_any K bs cs x (p x) w.heap.size w1 HK.out (block_cell ((hb1.block _ (lt_of_block K0.out)).trans K0.out) 0) h1
  rintro e w1 ⟨rfl, hb1⟩
  go_wp2
  go_ret
  exact ⟨ret_bool (by simp), HB.out.trans (hb1.mono HB.out.size)⟩

/-! ### a circuit in memory -/
def WsAt (w : World) (v : Value) (ws : List Wir) : Prop :=
  ∃ a cap, v = .slice a ws.length cap ∧ ws.length ≤ cap ∧ cap ≤ 9223372036854775807 ∧
    (0 < ws.length → ∃ b off, a = some ⟨b, off, none⟩ ∧ b < w.heap.size ∧ ∀ i, i < ws.length →
      w.cell? ⟨b, off + i * 2, none⟩ = some (.int .i64 (ws.getD i Wir.zero).kind) ∧ ∃ u, w.cell? ⟨b, off + i * 2 + 1, none⟩ = some u ∧ InAt w u (ws.getD i Wir.zero).of)

theorem WsAt.below {w w' : World} {B : Nat} {v : Value} {ws : List Wir} (h : WsAt w v ws) (hb : Below B w w') (hB : w.heap.size ≤ B) : WsAt w' v ws := by
  obtain ⟨a, cap, rfl, h1, h2, h3⟩ := h
  refine ⟨a, cap, rfl, h1, h2, fun h => ?_⟩
  obtain ⟨b, off, rfl, hlt, hc⟩ := h3 h
  refine ⟨b, off, rfl, Nat.lt_of_lt_of_le hlt hb.size, fun i hi => ?_⟩
  obtain ⟨c1, u, c2, c3⟩ := hc i hi
  exact ⟨(hb.cell (p := ⟨b, off + i * 2, none⟩) (by show b < B; omega)).trans c1, u, (hb.cell (p := ⟨b, off + i * 2 + 1, none⟩) (by show b < B; omega)).trans c2, c3.below hb hB⟩

/-- The switches and the wires of a circuit lie in memory. -/
structure CirAt (w : World) (sv wv : Value) (c : Cir) : Prop where
  sw : InAt w sv c.sw
  ws : WsAt w wv c.ws

theorem CirAt.below {w w' : World} {B : Nat} {sv wv : Value} {c : Cir} (h : CirAt w sv wv c) (hb : Below B w w') (hB : w.heap.size ≤ B) : CirAt w' sv wv c := ⟨h.sw.below hb hB, h.ws.below hb hB⟩

abbrev cirV (c : Cir) (sv wv : Value) : Value := .agg #[.int .i64 c.hz, sv, wv]
abbrev pliV (c : Cir) (s : Sta) (sv wv : Value) : Value := .agg #[.int .i64 c.hz, sv, wv, .int .i64 s.hz, .int .i64 s.cl, .int .i64 s.op]
abbrev pliO (c : Cir) (s : Sta) (sv wv : Value) : Obj := .cells #[.int .i64 c.hz, sv, wv, .int .i64 s.hz, .int .i64 s.cl, .int .i64 s.op] 127

/-- The state's sets are small. -/
structure Sta.Ok (s : Sta) : Prop where
  hz : s.hz < 1048576
  cl : s.cl < 1048576
  op : s.op < 1048576

theorem chas_is (q : Bool) (s k : Nat) (w : World) (hs : s < 4611686018427387904) (hk : k ≤ 60) (hq : s.testBit k = q) :
    Calls Try.prog 99 #[.int .i64 s, .int .i64 k] w fun e w' => e = .returned (.bool q) ∧ w = w' := by
  subst hq
  exact chas_any s k w hs hk

theorem lets_open {c : Cir} {s : Sta} {k : Nat} (h : s.op.testBit k = true) : false = letsM c s k := by unfold letsM; rw [h]; rfl
theorem lets_closed {c : Cir} {s : Sta} {k : Nat} (h : s.op.testBit k = false) (h2 : s.cl.testBit k = true) : true = letsM c s k := by unfold letsM; rw [h, h2]; rfl
theorem lets_free {c : Cir} {s : Sta} {k : Nat} (h : s.op.testBit k = false) (h2 : s.cl.testBit k = false) {n : Nat} (hn : c.sw.getD k 0 = n) (h3 : n < 4611686018427387904) (h4 : s.hz < 4611686018427387904) : (bits .and .i64 (n : Int) (s.hz : Int) == 0) = letsM c s k := by
  unfold letsM
  rw [h, h2, hn, i64_and_nat n s.hz h3 h4]
  simp only [Bool.not_false, Bool.true_and, Bool.false_or, Int.toNat_natCast]
  cases hq : decide (n &&& s.hz = 0)
  · simp only [decide_eq_false_iff_not] at hq
    simp only [beq_eq_false_iff_ne, ne_eq]
    omega
  · simp only [decide_eq_true_eq] at hq
    rw [hq]; rfl

set_option maxRecDepth 100000 in
set_option maxHeartbeats 2000000 in
theorem lets_any (c : Cir) (s : Sta) (sv wv : Value) (k : Nat) (w : World) (hc : CVal c) (hs : s.Ok) (hv : InAt w sv c.sw) (hk : k < c.sw.length) :
    Calls Try.prog 136 #[pliV c s sv wv, .int .i64 k] w fun e w' => e = .returned (.bool (letsM c s k)) ∧ Below w.heap.size w w' := by
  have hb0 := (Below.refl w.heap.size w).alloc (Nat.le_refl _) (pliO c s sv wv)
  have k0 := block_new w (pliO c s sv wv) w.heap.size rfl
  have s12 := hc.s2
  have k60 : k ≤ 60 := by omega
  have h1 : s.hz < 4611686018427387904 := by have := hs.hz; omega
  have h2 : s.cl < 4611686018427387904 := by have := hs.cl; omega
  have h3 : s.op < 4611686018427387904 := by have := hs.op; omega
  have g0 := hc.sw k hk
  have gp := Nat.pow_le_pow_right (show 0 < 2 by omega) (show c.hz.toNat ≤ 8 by have := hc.h2; omega)
  obtain ⟨n, hn⟩ : ∃ n : Nat, c.sw.getD k 0 = n := ⟨(c.sw.getD k 0).toNat, by omega⟩
  have hnb : n < 4611686018427387904 := by
    rw [hn] at g0
    have : ((2 : Int) ^ c.hz.toNat) = ((2 ^ c.hz.toNat : Nat) : Int) := by simp
    omega
  obtain ⟨a, cap, rfl, _, _, hcc⟩ := hv
  obtain ⟨b, off, rfl, hbl, hcc⟩ := hcc (by omega)
  have g1 := in_at hb0 hbl hcc hk
  rw [hn] at g1
  have hbl2 : b < (w.alloc (pliO c s (.slice (some ⟨b, off, none⟩) c.sw.length cap) wv)).heap.size := by rw [size_alloc]; omega
  have HN := Lib.hid hn
  have HB := Lib.hid hb0
  have K0 := Lib.hid k0
  have k1 : (0 : Int) ≤ k := by omega
  have k2 : (k : Int) < c.sw.length := by omega
  have H1 := Lib.hid h1
  have H2 := Lib.hid h2
  have H3 := Lib.hid h3
  have HNB := Lib.hid hnb
  clear hcc hn g0 gp hb0 k0 h1 h2 h3 hnb hc hs
  go_enter Try.func136, Try.ntmps136
  go_wp2_with fail
  generalize hwA : w.alloc (pliO c s (.slice (some ⟨b, off, none⟩) c.sw.length cap) wv) = wA at *
  clear hwA
  have b1 := bw_cells (B := wA.heap.size) K0.out (lt_of_block K0.out)
  have b2 := bw_cell (B := wA.heap.size) g1 hbl2
  clear g1
  cases ho : s.op.testBit k
  · cases hl : s.cl.testBit k
    · have HO := Lib.hid ho
      have HL := Lib.hid hl
      have HR := Lib.hid (lets_free (c := c) ho hl HN.out HNB.out H1.out)
      clear ho hl
      refine wp_region_below (by kernel_rfl) (by kernel_rfl) (Below.refl wA.heap.size wA) ?_
      repeat ((with_reducible refine wpQuiet_step (fun K hK => ?_)); go_simp; first | (refine hK _ ?_; clear hK K) | (apply Exists.intro; refine ⟨fun _ => ?_, hK _ ?_⟩; ((go_at_call 99; first | (with_reducible exact bw_same (chas_is false s.op k _ H3.out k60 HO.out)) | (with_reducible exact bw_same (chas_is false s.cl k _ H2.out k60 HL.out)))); clear hK K))
      refine wpQuiet_nil ?_
      intro wq hwq0
      have hwq := bw_out hwq0
      clear hwq0
      go_wp2
      go_ret
      exact ⟨ret_bool HR.out, HB.out.trans (hwq.mono HB.out.size)⟩
    · have HO := Lib.hid ho
      have HL := Lib.hid hl
      have HR := Lib.hid (lets_closed (c := c) ho hl)
      clear ho hl
      refine wp_region_below (by kernel_rfl) (by kernel_rfl) (Below.refl wA.heap.size wA) ?_
      repeat ((with_reducible refine wpQuiet_step (fun K hK => ?_)); go_simp; first | (refine hK _ ?_; clear hK K) | (apply Exists.intro; refine ⟨fun _ => ?_, hK _ ?_⟩; ((go_at_call 99; first | (with_reducible exact bw_same (chas_is false s.op k _ H3.out k60 HO.out)) | (with_reducible exact bw_same (chas_is true s.cl k _ H2.out k60 HL.out)))); clear hK K))
      refine wpQuiet_nil ?_
      intro wq hwq0
      have hwq := bw_out hwq0
      clear hwq0
      go_wp2
      go_ret
      exact ⟨ret_bool HR.out, HB.out.trans (hwq.mono HB.out.size)⟩
  · have HO := Lib.hid ho
    have HR := Lib.hid (lets_open (c := c) ho)
    clear ho
    refine wp_region_below (by kernel_rfl) (by kernel_rfl) (Below.refl wA.heap.size wA) ?_
    repeat ((with_reducible refine wpQuiet_step (fun K hK => ?_)); go_simp; first | (refine hK _ ?_; clear hK K) | (apply Exists.intro; refine ⟨fun _ => ?_, hK _ ?_⟩; ((go_at_call 99; (with_reducible exact bw_same (chas_is true s.op k _ H3.out k60 HO.out)))); clear hK K))
    refine wpQuiet_nil ?_
    intro wq hwq0
    have hwq := bw_out hwq0
    clear hwq0
    go_wp2
    go_ret
    exact ⟨ret_bool HR.out, HB.out.trans (hwq.mono HB.out.size)⟩

end Go.Proofs.Ytbkhfmigaehgaaa
