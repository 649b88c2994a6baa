import Derived.Test.YtbiihhokcmdlhaaZzA
import Derived.Laws.EntriesVeiled
import Derived.OneCell
import Derived.Below
import Derived.StillTailTactics
import Derived.Deep.WholeRow
/- Texts of one seat, merged: Cc Gx Cd Ce Cf -/
/- Walks of layer 3 (circuit): lists asked by a function, lets, conducts. -/
namespace Go.Proofs.Ytbiihhokcmdlhaa
open Go.RowKit

theorem in_at {w w' : World} {b off : Nat} {l : List Int} {k : Nat} (hb : Below w.heap.size w w') (hbl : b < w.heap.size)
    (hc : ∀ i, i < l.length → w.cell? ⟨b, off + i, none⟩ = some (.int .i64 (l.getD i 0))) (hk : k < l.length) : w'.cell? ⟨b, off + k, none⟩ = some (.int .i64 (l.getD k 0)) :=
  (hb.cell (p := ⟨b, off + k, none⟩) hbl).trans (hc k hk)

set_option maxRecDepth 100000 in
set_option maxHeartbeats 1000000 in
theorem indexInt_any (K : Nat) (bs cs : Array Value) (v : Value) (l : List Int) (p : Int → Bool) (w : World) (hv : InAt w v l) (hK : Enters K)
    (hg : ∀ (x : Int) (w1 : World), x ∈ l → Below w.heap.size w w1 → Calls Try.prog K (bs.push (.int .i64 x) ++ cs) w1 fun e w' => e = .returned (.bool (p x)) ∧ Below w1.heap.size w1 w') :
    Calls Try.prog 138 #[v, .func (.func K) bs cs] w (IdxRes (l.any p) w) := by
  obtain ⟨a, cap, rfl, hn, hcap, hc⟩ := hv
  have HC := Lib.hid hc
  have HG := Lib.hid hg
  have hk1 := hK
  unfold Enters at hk1
  clear hc hg hK
  go_enter Try.func138, Try.ntmps138
  go_wp2_with fail
  go_loopw [8] (fun i wr => ∃ k : Nat, k ≤ l.length ∧ i = .int .i64 k ∧ Below w.heap.size w wr ∧ Hid (∀ i, i < k → p (l.getD i 0) = false)) (fun i _ => l.length - (intOf i).toNat)
  case atStart => exact ⟨0, Nat.zero_le _, rfl, Below.refl _ _, fun i hi => by omega⟩
  case round =>
    obtain ⟨k, hk, rfl, hb, hf⟩ := hrel
    by_cases hlt : k < l.length
    · obtain ⟨b, off, rfl, hbl, hc⟩ := HC.out (by omega)
      have g1 := in_at hb hbl hc hlt
      clear hc
      have hm := getD_mem hlt 0
      generalize hq0 : l.getD k 0 = q at g1 hm
      have Hq := Lib.hid hq0
      have HM := Lib.hid hm
      clear hq0 hm
      go_wp2_with fail
      refine (HG.out q wr HM.out hb).mono ?_
      rintro e w1 ⟨rfl, hb1⟩
      have hb2 := hb.trans (hb1.mono hb.size)
      clear hb hb1 g1
      cases hq : p q
      · have HQ := Lib.hid hq
        clear hq
        go_wp2
        go_roundw
        case rel => exact ⟨k + 1, hlt, by go_num, hb2, fun i hi => by
          by_cases hik : i = k
          · rw [hik, Hq.out]; exact HQ.out
          · exact hf.out i (by omega)⟩
        case measure => simp [intOf]; omega
      · have HQ := Lib.hid hq
        clear hq
        go_wp2
        go_ret
        exact ⟨k, rfl, by rw [any_true_of (d := 0) hlt (by rw [Hq.out]; exact HQ.out)]; simp, hb2⟩
    · go_wp2
      go_ret
      exact ⟨-1, rfl, by rw [any_false_of (d := 0) (fun i hi => hf.out i (by omega))]; simp, hb⟩

set_option maxHeartbeats 400000 in
theorem containsInt_any (K : Nat) (bs cs : Array Value) (v : Value) (l : List Int) (p : Int → Bool) (q : Bool) (w : World) (hv : InAt w v l) (hK : Enters K) (hq : l.any p = q)
    (hg : ∀ (x : Int) (w1 : World), x ∈ l → Below w.heap.size w w1 → Calls Try.prog K (bs.push (.int .i64 x) ++ cs) w1 fun e w' => e = .returned (.bool (p x)) ∧ Below w1.heap.size w1 w') :
    Calls Try.prog 76 #[v, .func (.func K) bs cs] w fun e w' => e = .returned (.bool q) ∧ Below w.heap.size w w' := by
  subst hq
  have HG := Lib.hid hg
  have HK := Lib.hid hK
  clear hg hK
  go_enter Try.func76, Try.ntmps76
  go_wp2_with fail
  refine (indexInt_any K bs cs _ _ p _ hv HK.out HG.out).mono ?_
  rintro e w1 ⟨r, rfl, hr, hb⟩
  have HR := Lib.hid hr
  clear hr
  go_wp2
  go_ret
  exact ⟨ret_bool HR.out, hb⟩

theorem enters_every1 : Enters 167 := fun _ _ => by kernel_rfl

set_option maxHeartbeats 400000 in
theorem every1_any (K : Nat) (bs cs : Array Value) (x : Int) (q : Bool) (g : Nat) (w : World) (hK : Enters K) (hf : w.cell? ⟨g, 0, none⟩ = some (.func (.func K) bs cs))
    (hg : Calls Try.prog K (bs.push (.int .i64 x) ++ cs) w fun e w' => e = .returned (.bool q) ∧ Below w.heap.size w w') :
    Calls Try.prog 167 #[.int .i64 x, .pointer (some ⟨g, 0, none⟩)] w fun e w' => e = .returned (.bool (!q)) ∧ Below w.heap.size w w' := by
  have HG := Lib.hid hg
  have hk1 := hK
  unfold Enters at hk1
  clear hg hK
  go_enter Try.func167, Try.ntmps167
  go_wp2_with fail
  refine HG.out.mono ?_
  rintro e w1 ⟨rfl, hb1⟩
  clear hf
  go_wp2
  go_ret
  exact ⟨rfl, hb1⟩

theorem all_any_not (l : List Int) (p : Int → Bool) : (l.any fun x => !p x) = !(l.all p) := by
  induction l with
  | nil => rfl
  | cons x l ih => rw [List.any_cons, List.all_cons, ih]; cases p x <;> rfl

set_option maxHeartbeats 400000 in
theorem every_any (K : Nat) (bs cs : Array Value) (v : Value) (l : List Int) (p : Int → Bool) (w : World) (hv : InAt w v l) (hK : Enters K)
    (hg : ∀ (x : Int) (w1 : World), x ∈ l → Below w.heap.size w w1 → Calls Try.prog K (bs.push (.int .i64 x) ++ cs) w1 fun e w' => e = .returned (.bool (p x)) ∧ Below w1.heap.size w1 w') :
    Calls Try.prog 137 #[v, .func (.func K) bs cs] w fun e w' => e = .returned (.bool (l.all p)) ∧ Below w.heap.size w w' := by
  have HG := Lib.hid hg
  have HK := Lib.hid hK
  have hb0 := (Below.refl w.heap.size w).alloc (Nat.le_refl _) (.cells #[.func (.func K) bs cs] 128)
  have k0 := block_new w (.cells #[.func (.func K) bs cs] 128) w.heap.size rfl
  have HB := Lib.hid hb0
  have K0 := Lib.hid k0
  have HV := Lib.hid (hv.below hb0 (Nat.le_refl _))
  obtain ⟨a, cap, rfl, _⟩ := hv
  clear hg hK hb0 k0
  go_enter Try.func137, Try.ntmps137
  go_wp2_with fail
  refine (containsInt_any _ #[] #[.pointer (some ⟨w.heap.size, 0, none⟩)] _ l (fun x => !p x) _ _ HV.out enters_every1 (all_any_not l p) (fun x w1 hx hb1 => ?_)).mono ?_
  · have h1 := HG.out x w1 hx (HB.out.trans (hb1.mono HB.out.size))
    exact every1_any K bs cs x (p x) w.heap.size w1 HK.out (block_cell ((hb1.block _ (lt_of_block K0.out)).trans K0.out) 0) h1
  rintro e w1 ⟨rfl, hb1⟩
  go_wp2
  go_ret
  exact ⟨ret_bool (by simp), HB.out.trans (hb1.mono HB.out.size)⟩

/-! ### a circuit in memory -/
def WsAt (w : World) (v : Value) (ws : List Wir) : Prop :=
  ∃ a cap, v = .slice a ws.length cap ∧ ws.length ≤ cap ∧ cap ≤ 9223372036854775807 ∧
    (0 < ws.length → ∃ b off, a = some ⟨b, off, none⟩ ∧ b < w.heap.size ∧ ∀ i, i < ws.length →
      w.cell? ⟨b, off + i * 2, none⟩ = some (.int .i64 (ws.getD i Wir.zero).kind) ∧ ∃ u, w.cell? ⟨b, off + i * 2 + 1, none⟩ = some u ∧ InAt w u (ws.getD i Wir.zero).of)

theorem WsAt.below {w w' : World} {B : Nat} {v : Value} {ws : List Wir} (h : WsAt w v ws) (hb : Below B w w') (hB : w.heap.size ≤ B) : WsAt w' v ws := by
  obtain ⟨a, cap, rfl, h1, h2, h3⟩ := h
  refine ⟨a, cap, rfl, h1, h2, fun h => ?_⟩
  obtain ⟨b, off, rfl, hlt, hc⟩ := h3 h
  refine ⟨b, off, rfl, Nat.lt_of_lt_of_le hlt hb.size, fun i hi => ?_⟩
  obtain ⟨c1, u, c2, c3⟩ := hc i hi
  exact ⟨(hb.cell (p := ⟨b, off + i * 2, none⟩) (by show b < B; omega)).trans c1, u, (hb.cell (p := ⟨b, off + i * 2 + 1, none⟩) (by show b < B; omega)).trans c2, c3.below hb hB⟩

/-- The switches and the wires of a circuit lie in memory. -/
structure CirAt (w : World) (sv wv : Value) (c : Cir) : Prop where
  sw : InAt w sv c.sw
  ws : WsAt w wv c.ws

theorem CirAt.below {w w' : World} {B : Nat} {sv wv : Value} {c : Cir} (h : CirAt w sv wv c) (hb : Below B w w') (hB : w.heap.size ≤ B) : CirAt w' sv wv c := ⟨h.sw.below hb hB, h.ws.below hb hB⟩

abbrev cirV (c : Cir) (sv wv : Value) : Value := .agg #[.int .i64 c.hz, sv, wv]
abbrev pliV (c : Cir) (s : Sta) (sv wv : Value) : Value := .agg #[.int .i64 c.hz, sv, wv, .int .i64 s.hz, .int .i64 s.cl, .int .i64 s.op]
abbrev pliO (c : Cir) (s : Sta) (sv wv : Value) : Obj := .cells #[.int .i64 c.hz, sv, wv, .int .i64 s.hz, .int .i64 s.cl, .int .i64 s.op] 127

/-- The state's sets are small. -/
structure Sta.Ok (s : Sta) : Prop where
  hz : s.hz < 1048576
  cl : s.cl < 1048576
  op : s.op < 1048576

theorem chas_is (q : Bool) (s k : Nat) (w : World) (hs : s < 4611686018427387904) (hk : k ≤ 60) (hq : s.testBit k = q) :
    Calls Try.prog 99 #[.int .i64 s, .int .i64 k] w fun e w' => e = .returned (.bool q) ∧ w = w' := by
  subst hq
  exact chas_any s k w hs hk

theorem lets_open {c : Cir} {s : Sta} {k : Nat} (h : s.op.testBit k = true) : false = letsM c s k := by unfold letsM; rw [h]; rfl
theorem lets_closed {c : Cir} {s : Sta} {k : Nat} (h : s.op.testBit k = false) (h2 : s.cl.testBit k = true) : true = letsM c s k := by unfold letsM; rw [h, h2]; rfl
theorem lets_free {c : Cir} {s : Sta} {k : Nat} (h : s.op.testBit k = false) (h2 : s.cl.testBit k = false) {n : Nat} (hn : c.sw.getD k 0 = n) (h3 : n < 4611686018427387904) (h4 : s.hz < 4611686018427387904) : (bits .and .i64 (n : Int) (s.hz : Int) == 0) = letsM c s k := by
  unfold letsM
  rw [h, h2, hn, i64_and_nat n s.hz h3 h4]
  simp only [Bool.not_false, Bool.true_and, Bool.false_or, Int.toNat_natCast]
  cases hq : decide (n &&& s.hz = 0)
  · simp only [decide_eq_false_iff_not] at hq
    simp only [beq_eq_false_iff_ne, ne_eq]
    omega
  · simp only [decide_eq_true_eq] at hq
    rw [hq]; rfl

set_option maxRecDepth 100000 in
set_option maxHeartbeats 2000000 in
theorem lets_any (c : Cir) (s : Sta) (sv wv : Value) (k : Nat) (w : World) (hc : CVal c) (hs : s.Ok) (hv : InAt w sv c.sw) (hk : k < c.sw.length) :
    Calls Try.prog 136 #[pliV c s sv wv, .int .i64 k] w fun e w' => e = .returned (.bool (letsM c s k)) ∧ Below w.heap.size w w' := by
  have hb0 := (Below.refl w.heap.size w).alloc (Nat.le_refl _) (pliO c s sv wv)
  have k0 := block_new w (pliO c s sv wv) w.heap.size rfl
  have s12 := hc.s2
  have k60 : k ≤ 60 := by omega
  have h1 : s.hz < 4611686018427387904 := by have := hs.hz; omega
  have h2 : s.cl < 4611686018427387904 := by have := hs.cl; omega
  have h3 : s.op < 4611686018427387904 := by have := hs.op; omega
  have g0 := hc.sw k hk
  have gp := Nat.pow_le_pow_right (show 0 < 2 by omega) (show c.hz.toNat ≤ 8 by have := hc.h2; omega)
  obtain ⟨n, hn⟩ : ∃ n : Nat, c.sw.getD k 0 = n := ⟨(c.sw.getD k 0).toNat, by omega⟩
  have hnb : n < 4611686018427387904 := by
    rw [hn] at g0
    have : ((2 : Int) ^ c.hz.toNat) = ((2 ^ c.hz.toNat : Nat) : Int) := by simp
    omega
  obtain ⟨a, cap, rfl, _, _, hcc⟩ := hv
  obtain ⟨b, off, rfl, hbl, hcc⟩ := hcc (by omega)
  have g1 := in_at hb0 hbl hcc hk
  rw [hn] at g1
  have hbl2 : b < (w.alloc (pliO c s (.slice (some ⟨b, off, none⟩) c.sw.length cap) wv)).heap.size := by rw [size_alloc]; omega
  have HN := Lib.hid hn
  have HB := Lib.hid hb0
  have K0 := Lib.hid k0
  have k1 : (0 : Int) ≤ k := by omega
  have k2 : (k : Int) < c.sw.length := by omega
  have H1 := Lib.hid h1
  have H2 := Lib.hid h2
  have H3 := Lib.hid h3
  have HNB := Lib.hid hnb
  clear hcc hn g0 gp hb0 k0 h1 h2 h3 hnb hc hs
  go_enter Try.func136, Try.ntmps136
  go_wp2_with fail
  generalize hwA : w.alloc (pliO c s (.slice (some ⟨b, off, none⟩) c.sw.length cap) wv) = wA at *
  clear hwA
  have b1 := bw_cells (B := wA.heap.size) K0.out (lt_of_block K0.out)
  have b2 := bw_cell (B := wA.heap.size) g1 hbl2
  clear g1
  cases ho : s.op.testBit k
  · cases hl : s.cl.testBit k
    · have HO := Lib.hid ho
      have HL := Lib.hid hl
      have HR := Lib.hid (lets_free (c := c) ho hl HN.out HNB.out H1.out)
      clear ho hl
      refine wp_region_below (by kernel_rfl) (by kernel_rfl) (Below.refl wA.heap.size wA) ?_
      repeat ((with_reducible refine wpQuiet_step (fun K hK => ?_)); go_simp; first | (refine hK _ ?_; clear hK K) | (apply Exists.intro; refine ⟨fun _ => ?_, hK _ ?_⟩; ((go_at_call 99; first | (with_reducible exact bw_same (chas_is false s.op k _ H3.out k60 HO.out)) | (with_reducible exact bw_same (chas_is false s.cl k _ H2.out k60 HL.out)))); clear hK K))
      refine wpQuiet_nil ?_
      intro wq hwq0
      have hwq := bw_out hwq0
      clear hwq0
      go_wp2
      go_ret
      exact ⟨ret_bool HR.out, HB.out.trans (hwq.mono HB.out.size)⟩
    · have HO := Lib.hid ho
      have HL := Lib.hid hl
      have HR := Lib.hid (lets_closed (c := c) ho hl)
      clear ho hl
      refine wp_region_below (by kernel_rfl) (by kernel_rfl) (Below.refl wA.heap.size wA) ?_
      repeat ((with_reducible refine wpQuiet_step (fun K hK => ?_)); go_simp; first | (refine hK _ ?_; clear hK K) | (apply Exists.intro; refine ⟨fun _ => ?_, hK _ ?_⟩; ((go_at_call 99; first | (with_reducible exact bw_same (chas_is false s.op k _ H3.out k60 HO.out)) | (with_reducible exact bw_same (chas_is true s.cl k _ H2.out k60 HL.out)))); clear hK K))
      refine wpQuiet_nil ?_
      intro wq hwq0
      have hwq := bw_out hwq0
      clear hwq0
      go_wp2
      go_ret
      exact ⟨ret_bool HR.out, HB.out.trans (hwq.mono HB.out.size)⟩
  · have HO := Lib.hid ho
    have HR := Lib.hid (lets_open (c := c) ho)
    clear ho
    refine wp_region_below (by kernel_rfl) (by kernel_rfl) (Below.refl wA.heap.size wA) ?_
    repeat ((with_reducible refine wpQuiet_step (fun K hK => ?_)); go_simp; first | (refine hK _ ?_; clear hK K) | (apply Exists.intro; refine ⟨fun _ => ?_, hK _ ?_⟩; ((go_at_call 99; (with_reducible exact bw_same (chas_is true s.op k _ H3.out k60 HO.out)))); clear hK K))
    refine wpQuiet_nil ?_
    intro wq hwq0
    have hwq := bw_out hwq0
    clear hwq0
    go_wp2
    go_ret
    exact ⟨ret_bool HR.out, HB.out.trans (hwq.mono HB.out.size)⟩

end Go.Proofs.Ytbiihhokcmdlhaa

/- New blocks, two and three of them: what every layer uses. -/
namespace Go.Proofs.Ytbiihhokcmdlhaa
open Go.RowKit

theorem al_le (w : World) (o : Obj) : w.heap.size ≤ (w.alloc o).heap.size := by rw [size_alloc]; omega
theorem two_nw (w : World) (o o' : Obj) : ((w.alloc o).alloc o').heap[w.heap.size + 1]? = some o' := block_new _ _ _ (by simp only [size_alloc])
theorem two_od (w : World) (a b : Obj) : ((w.alloc a).alloc b).heap[w.heap.size]? = some a := block_alloc (block_new _ _ _ rfl) _
theorem three_0 (w : World) (a b c : Obj) : (((w.alloc a).alloc b).alloc c).heap[w.heap.size]? = some a := block_alloc (block_alloc (block_new _ _ _ rfl) _) _
theorem three_1 (w : World) (a b c : Obj) : (((w.alloc a).alloc b).alloc c).heap[w.heap.size + 1]? = some b := block_alloc (two_nw _ _ _) _
theorem three_2 (w : World) (a b c : Obj) : (((w.alloc a).alloc b).alloc c).heap[w.heap.size + 2]? = some c := block_new _ _ _ (by simp only [size_alloc])
theorem blw2 (w : World) (a b : Obj) : Below w.heap.size w ((w.alloc a).alloc b) := ((Below.refl _ _).alloc (Nat.le_refl _) _).alloc (al_le _ _) _
theorem blw3 (w : World) (a b c : Obj) : Below w.heap.size w (((w.alloc a).alloc b).alloc c) := (blw2 w a b).alloc (Nat.le_trans (al_le _ _) (al_le _ _)) _
theorem keepZ {W w' : World} {p : Nat} {o : Obj} (h : W.heap[p]? = some o) (hb : Below W.heap.size W w') : w'.heap[p]? = some o := (hb.block _ (lt_of_block h)).trans h
theorem below_unalloc {W w' : World} {o : Obj} (h : Below (W.alloc o).heap.size (W.alloc o) w') : Below W.heap.size W w' := ((Below.refl _ _).alloc (Nat.le_refl _) o).trans (h.mono (al_le _ _))

end Go.Proofs.Ytbiihhokcmdlhaa

/- Walks of layer 3 (circuit): conducts. -/
namespace Go.Proofs.Ytbiihhokcmdlhaa
open Go.RowKit

theorem enters_conducts : Enters 73 := fun _ _ => by kernel_rfl

theorem cond_single {c : Cir} {s : Sta} {f : Nat} {i : Nat} (h : (c.ws.getD i Wir.zero).kind = 1) : letsM c s ((c.ws.getD i Wir.zero).of.getD 0 0).toNat = cond c s (f + 1) i := by
  rw [cond_succ, Int.toNat_natCast, if_pos h]
theorem cond_series {c : Cir} {s : Sta} {f : Nat} {i : Nat} (h : (c.ws.getD i Wir.zero).kind = 2) : (c.ws.getD i Wir.zero).of.all (cond c s f) = cond c s (f + 1) i := by
  rw [cond_succ, Int.toNat_natCast, if_neg (by omega), if_pos h]
theorem cond_parallel {c : Cir} {s : Sta} {f : Nat} {i : Nat} (h : (c.ws.getD i Wir.zero).kind = 3) : (c.ws.getD i Wir.zero).of.any (cond c s f) = cond c s (f + 1) i := by
  rw [cond_succ, Int.toNat_natCast, if_neg (by omega), if_neg (by omega)]

abbrev wirO (k : Int) (u : Value) : Obj := .cells #[.int .i64 k, u] 122

set_option maxRecDepth 100000 in
set_option maxHeartbeats 4000000 in
theorem conducts_any (c : Cir) (s : Sta) (sv wv : Value) (hc : CVal c) (hs : s.Ok) : ∀ (f i : Nat) (w : World), i < c.ws.length → c.ws.length ≤ i + f → CirAt w sv wv c →
    Calls Try.prog 73 #[pliV c s sv wv, .int .i64 i] w fun e w' => e = .returned (.bool (cond c s f i)) ∧ Below w.heap.size w w' := by
  intro f
  induction f with
  | zero => intro i w h1 h2; omega
  | succ f ih =>
    intro i w hi hf hv
    have hb0 := (Below.refl w.heap.size w).alloc (Nat.le_refl _) (pliO c s sv wv)
    have k0 := block_new w (pliO c s sv wv) w.heap.size rfl
    have HW := Lib.hid (hc.ws i hi)
    have w24 := hc.w2
    obtain ⟨hsv, hwv⟩ := hv
    obtain ⟨a, cap, rfl, n1, n2, hcc⟩ := hwv
    have HV := Lib.hid (show CirAt w sv _ c from ⟨hsv, a, cap, rfl, n1, n2, hcc⟩)
    obtain ⟨b, off, rfl, hbl, hcc⟩ := hcc (by omega)
    obtain ⟨q1, u, q2, q3⟩ := hcc i hi
    have g1 := (hb0.cell (p := ⟨b, off + i * 2, none⟩) hbl).trans q1
    have g2 := (hb0.cell (p := ⟨b, off + i * 2 + 1, none⟩) hbl).trans q2
    have hbl2 : b < (w.alloc (pliO c s sv (.slice (some ⟨b, off, none⟩) c.ws.length cap))).heap.size := by rw [size_alloc]; omega
    have HU := Lib.hid q3
    have HB := Lib.hid (hb0.alloc (by rw [size_alloc]; omega) (wirO (c.ws.getD i Wir.zero).kind u))
    have K0 := Lib.hid (block_alloc k0 (wirO (c.ws.getD i Wir.zero).kind u))
    have K1 := Lib.hid (two_nw w (pliO c s sv (.slice (some ⟨b, off, none⟩) c.ws.length cap)) (wirO (c.ws.getD i Wir.zero).kind u))
    have i1 : (0 : Int) ≤ i := by omega
    have i2 : (i : Int) < c.ws.length := by omega
    have IH := Lib.hid ih
    have HS := Lib.hid hs
    have HC := Lib.hid hc
    clear hcc q1 q2 hb0 k0 hsv ih n1 n2 hs hc
    obtain ⟨ua, ucap, rfl, _⟩ := q3
    have HK1 := Lib.hid (fun h => cond_single (c := c) (s := s) (f := f) (i := i) h)
    have HK2 := Lib.hid (fun h => cond_series (c := c) (s := s) (f := f) (i := i) h)
    have HK3 := Lib.hid (fun h => cond_parallel (c := c) (s := s) (f := f) (i := i) h)
    generalize c.ws.getD i Wir.zero = wi at *
    by_cases hk1 : wi.kind = 1
    · obtain ⟨l1, l2, l3⟩ := wire_one HW.out hk1
      have hHR := HK1.out hk1
      obtain ⟨hx, hxe⟩ : ∃ k : Nat, wi.of.getD 0 0 = k := ⟨(wi.of.getD 0 0).toNat, by omega⟩
      have hkl : hx < c.sw.length := by omega
      obtain ⟨ua', ucap', e1, _, _, hu⟩ := HU.out
      injection e1 with e1 e2 e3
      subst e1
      obtain ⟨ub, uoff, rfl, hubl, hu⟩ := hu (by omega)
      have hu0 := hu 0 (by omega)
      rw [hxe] at hHR hu0
      rw [Int.toNat_natCast] at hHR
      have HRR := Lib.hid hHR
      have hkb : (wi.kind == 1) = true := by rw [hk1]; rfl
      rw [Nat.add_zero] at hu0
      have hu1 := (HB.out.cell (p := ⟨ub, uoff, none⟩) hubl).trans hu0
      have hubs := Nat.lt_of_lt_of_le hubl HB.out.size
      have hl1 : (0 : Int) < wi.of.length := by omega
      have hl0 : 0 < wi.of.length := by omega
      clear hu l1 l2 l3 hxe hHR e2 e3 hu0 hk1
      have HU1 := Lib.hid hu1
      clear hu1
      go_enter Try.func73, Try.ntmps73
      go_wp2_with fail
      clear g1 g2
      generalize ((w.alloc (pliO c s sv (.slice (some ⟨b, off, none⟩) c.ws.length cap))).alloc (wirO wi.kind (.slice (some ⟨ub, uoff, none⟩) wi.of.length ucap))) = wB at *
      have b1 := bw_cells (B := wB.heap.size) K0.out (lt_of_block K0.out)
      have b2 := bw_cells (B := wB.heap.size) K1.out (lt_of_block K1.out)
      have b3 := bw_cell (B := wB.heap.size) HU1.out hubs
      refine wp_region_below (by kernel_rfl) (by kernel_rfl) (Below.refl wB.heap.size wB) ?_
      repeat ((with_reducible refine wpQuiet_step (fun K hK => ?_)); go_simp; first | (refine hK _ ?_; clear hK K) | (apply Exists.intro; refine ⟨fun _ => ?_, hK _ ?_⟩; ((go_at_call 136; exact bw_call (Nat.le_refl _) (lets_any c s sv _ hx _ HC.out HS.out (HV.out.sw.below (HB.out.trans ((BW.b _).mono HB.out.size)) (Nat.le_refl _)) hkl))); clear hK K))
      refine wpQuiet_nil ?_
      intro wq hwq0
      have hwq := bw_out hwq0
      clear hwq0
      go_wp2
      go_ret
      exact ⟨ret_bool HRR.out, HB.out.trans (hwq.mono HB.out.size)⟩
    · obtain ⟨l1, _, _, l2⟩ := wire_more HW.out hk1
      have HM := Lib.hid l2
      have hkb : (wi.kind == 1) = false := by simpa using hk1
      clear l2 hk1
      by_cases hk2 : wi.kind = 2
      · have HRR := Lib.hid (HK2.out hk2)
        have hkb2 : (wi.kind == 2) = true := by rw [hk2]; rfl
        clear hk2 l1
        go_enter Try.func73, Try.ntmps73
        go_wp2_with fail
        clear g1 g2
        generalize ((w.alloc (pliO c s sv (.slice (some ⟨b, off, none⟩) c.ws.length cap))).alloc (wirO wi.kind (.slice ua wi.of.length ucap))) = wB at *
        refine (every_any _ #[pliV c s sv _] #[] _ wi.of (cond c s f) _ (HU.out.below HB.out (Nat.le_refl _)) enters_conducts (fun x w1 hx hb1 => ?_)).mono ?_
        · obtain ⟨m1, m2⟩ := HM.out x hx
          obtain ⟨k, rfl⟩ : ∃ k : Nat, x = k := ⟨x.toNat, by omega⟩
          exact IH.out k w1 (by omega) (by omega) (HV.out.below (HB.out.trans (hb1.mono HB.out.size)) (Nat.le_refl _))
        rintro e w1 ⟨rfl, hb1⟩
        go_wp2
        go_ret
        exact ⟨ret_bool HRR.out, HB.out.trans (hb1.mono HB.out.size)⟩
      · have hk3 : wi.kind = 3 := l1.resolve_left hk2
        have HRR := Lib.hid (HK3.out hk3)
        have hkb2 : (wi.kind == 2) = false := by simpa using hk2
        clear hk2 hk3 l1
        go_enter Try.func73, Try.ntmps73
        go_wp2_with fail
        clear g1 g2
        generalize ((w.alloc (pliO c s sv (.slice (some ⟨b, off, none⟩) c.ws.length cap))).alloc (wirO wi.kind (.slice ua wi.of.length ucap))) = wB at *
        refine (containsInt_any _ #[pliV c s sv _] #[] _ wi.of (cond c s f) _ _ (HU.out.below HB.out (Nat.le_refl _)) enters_conducts rfl (fun x w1 hx hb1 => ?_)).mono ?_
        · obtain ⟨m1, m2⟩ := HM.out x hx
          obtain ⟨k, rfl⟩ : ∃ k : Nat, x = k := ⟨x.toNat, by omega⟩
          exact IH.out k w1 (by omega) (by omega) (HV.out.below (HB.out.trans (hb1.mono HB.out.size)) (Nat.le_refl _))
        rintro e w1 ⟨rfl, hb1⟩
        go_wp2
        go_ret
        exact ⟨ret_bool HRR.out, HB.out.trans (hb1.mono HB.out.size)⟩

end Go.Proofs.Ytbiihhokcmdlhaa

/- Walks of layer 3 (circuit): isSet, ascend, isWire, areJoined of the program. -/
namespace Go.Proofs.Ytbiihhokcmdlhaa
open Go.RowKit

set_option maxHeartbeats 400000 in
theorem isSet_any (n : Int) (many : Nat) (w : World) (hm : many ≤ 60) :
    Calls Try.prog 72 #[.int .i64 n, .int .i64 many] w fun e w' => e = .returned (.bool (setB n many)) ∧ w = w' := by
  have h0 : (0 : Int) ≤ many := by omega
  have hp := wrap64_pow hm
  have hs := pow_small hm
  have HR := Lib.hid (show decide (0 ≤ n ∧ n ≤ ((2 ^ many : Nat) : Int) - 1) = setB n many by unfold setB; simp)
  have hp1 := Nat.one_le_two_pow (n := many)
  generalize (2 ^ many : Nat) = m at *
  go_enter Try.func72, Try.ntmps72
  go_wp2_with fail
  refine (cwithin_is _ _ _ _ _ HR.out).mono ?_
  rintro e w1 ⟨rfl, rfl⟩
  go_wp2
  go_ret
  exact ⟨rfl, rfl⟩

theorem isSet_is (q : Bool) (n : Int) (many : Nat) (w : World) (hm : many ≤ 60) (hq : setB n many = q) :
    Calls Try.prog 72 #[.int .i64 n, .int .i64 many] w fun e w' => e = .returned (.bool q) ∧ w = w' := by
  subst hq
  exact isSet_any n many w hm

set_option maxHeartbeats 400000 in
theorem chk1_any (n : Int) (many g : Nat) (w : World) (hm : many ≤ 60) (hc : w.cell? ⟨g, 0, none⟩ = some (.int .i64 many)) :
    Calls Try.prog 77 #[.int .i64 n, .pointer (some ⟨g, 0, none⟩)] w fun e w' => e = .returned (.bool (!setB n many)) ∧ w = w' := by
  go_enter Try.func77, Try.ntmps77
  go_wp2_with fail
  refine (isSet_any _ _ _ hm).mono ?_
  rintro e w1 ⟨rfl, rfl⟩
  go_wp2
  go_ret
  exact ⟨rfl, rfl⟩

theorem ascB_none {hi lo : Int} {l : List Int} {k : Nat} (h : l.length ≤ k) : ascB hi lo (l.drop k) = true := by
  rw [List.drop_eq_nil_of_le h]; rfl
theorem ascB_some {hi lo : Int} {l : List Int} {k : Nat} (h : k < l.length) : ascB hi lo (l.drop k) = (decide (lo ≤ l.getD k 0 ∧ l.getD k 0 ≤ hi) && ascB hi (l.getD k 0 + 1) (l.drop (k + 1))) := by
  rw [List.drop_eq_getElem_cons h, List.getD_eq_getElem?_getD, List.getElem?_eq_getElem h]; rfl

set_option maxRecDepth 100000 in
set_option maxHeartbeats 1000000 in
theorem ascend_any (l : List Int) (lo hi : Int) (v : Value) (w : World) (hv : InAt w v l) (h1 : -1000000 ≤ lo) (h2 : lo ≤ 1000000) (h3 : -1000000 ≤ hi) (h4 : hi ≤ 1000000) :
    Calls Try.prog 139 #[v, .int .i64 lo, .int .i64 hi] w fun e w' => e = .returned (.bool (ascB hi lo l)) ∧ w = w' := by
  obtain ⟨a, cap, rfl, hn, hcap, hc⟩ := hv
  have HC := Lib.hid hc
  clear hc
  go_enter Try.func139, Try.ntmps139
  go_wp2_with fail
  go_loop [1, 11] (fun x i => ∃ k : Nat, k ≤ l.length ∧ i = .int .i64 k ∧ ∃ lo' : Int, -1000000 ≤ lo' ∧ lo' ≤ 1000001 ∧ x = .int .i64 lo' ∧ Hid (ascB hi lo l = ascB hi lo' (l.drop k))) (fun _ i => l.length - (intOf i).toNat)
  case atStart => exact ⟨0, Nat.zero_le _, rfl, lo, h1, by omega, rfl, Lib.hid (by rw [List.drop_zero])⟩
  case round =>
    obtain ⟨k, hk, rfl, lo', b1, b2, rfl, hf⟩ := hrel
    by_cases hlt : k < l.length
    · obtain ⟨b, off, rfl, hbl, hc⟩ := HC.out (by omega)
      have g1 := hc k hlt
      have hf2 := hf.out
      rw [ascB_some hlt] at hf2
      generalize l.getD k 0 = q at g1 hf2
      have HF := Lib.hid hf2
      clear hc hf2
      cases hq : decide (lo' ≤ q ∧ q ≤ hi)
      · have HQ := Lib.hid hq
        have HR := Lib.hid (show false = ascB hi lo l by rw [HF.out, hq]; rfl)
        clear hq
        go_wp2_with fail
        refine (cwithin_is _ _ _ _ _ HQ.out).mono ?_
        rintro e w1 ⟨rfl, rfl⟩
        go_wp2
        go_ret
        exact ⟨ret_bool HR.out, rfl⟩
      · have HQ := Lib.hid hq
        have HR := Lib.hid (show ascB hi lo l = ascB hi (q + 1) (l.drop (k + 1)) by rw [HF.out, hq]; rfl)
        simp only [decide_eq_true_eq] at hq
        obtain ⟨q1, q2⟩ := hq
        go_wp2_with fail
        refine (cwithin_is _ _ _ _ _ HQ.out).mono ?_
        rintro e w1 ⟨rfl, rfl⟩
        go_wp2
        go_round
        case rel => exact ⟨k + 1, hlt, by go_num, q + 1, by omega, by omega, rfl, HR⟩
        case measure => simp [intOf]; omega
    · have HR := Lib.hid (show true = ascB hi lo l by rw [hf.out, ascB_none (by omega)])
      go_wp2
      go_ret
      exact ⟨ret_bool HR.out, rfl⟩

theorem ascend_is (q : Bool) (l : List Int) (lo hi : Int) (v : Value) (w : World) (hv : InAt w v l) (h1 : -1000000 ≤ lo) (h2 : lo ≤ 1000000) (h3 : -1000000 ≤ hi) (h4 : hi ≤ 1000000) (hq : ascB hi lo l = q) :
    Calls Try.prog 139 #[v, .int .i64 lo, .int .i64 hi] w fun e w' => e = .returned (.bool q) ∧ w = w' := by
  subst hq
  exact ascend_any l lo hi v w hv h1 h2 h3 h4

abbrev cirO (c : Cir) (sv wv : Value) : Obj := .cells #[.int .i64 c.hz, sv, wv] 25

theorem wire_is1 {n m i : Int} {w : Wir} (h : w.kind = 1) : wireB n m i w = (decide (w.of.length = 1) && decide (0 ≤ w.of.getD 0 0 ∧ w.of.getD 0 0 ≤ n - 1)) := by unfold wireB; rw [if_pos h]
theorem wire_is2 {n m i : Int} {w : Wir} (h1 : ¬ w.kind = 1) (h2 : w.kind = 2 ∨ w.kind = 3) : wireB n m i w = (decide (1 ≤ (w.of.length : Int) ∧ (w.of.length : Int) ≤ 8) && ascB (m - 1) (i + 1) w.of) := by
  unfold wireB; rw [if_neg h1, if_pos h2]
  congr 1
  exact decide_eq_decide.2 (by omega)
theorem wire_is3 {n m i : Int} {w : Wir} (h1 : ¬ w.kind = 1) (h2 : ¬ (w.kind = 2 ∨ w.kind = 3)) : wireB n m i w = false := by unfold wireB; rw [if_neg h1, if_neg h2]

end Go.Proofs.Ytbiihhokcmdlhaa

/- Walks of layer 3 (circuit): isWire of the program. -/
namespace Go.Proofs.Ytbiihhokcmdlhaa
open Go.RowKit

set_option maxRecDepth 100000 in
set_option maxHeartbeats 8000000 in
theorem isWire_any (c : Cir) (sv wv : Value) (i : Nat) (w : World) (hv : CirAt w sv wv c) (hi : i < c.ws.length) (hn : c.sw.length ≤ 12) (hm : c.ws.length ≤ 24) :
    Calls Try.prog 78 #[cirV c sv wv, .int .i64 i] w fun e w' => e = .returned (.bool (wireB c.sw.length c.ws.length i (c.ws.getD i Wir.zero))) ∧ Below w.heap.size w w' := by
  have hb0 := (Below.refl w.heap.size w).alloc (Nat.le_refl _) (cirO c sv wv)
  have k0 := block_new w (cirO c sv wv) w.heap.size rfl
  obtain ⟨hsv, hwv⟩ := hv
  obtain ⟨sa, scap, rfl, _⟩ := hsv
  obtain ⟨a, cap, rfl, n1, n2, hcc⟩ := hwv
  obtain ⟨b, off, rfl, hbl, hcc⟩ := hcc (by omega)
  obtain ⟨q1, u, q2, q3⟩ := hcc i hi
  have g1 := (hb0.cell (p := ⟨b, off + i * 2, none⟩) hbl).trans q1
  have g2 := (hb0.cell (p := ⟨b, off + i * 2 + 1, none⟩) hbl).trans q2
  have hbl2 : b < (w.alloc (cirO c (.slice sa c.sw.length scap) (.slice (some ⟨b, off, none⟩) c.ws.length cap))).heap.size := by rw [size_alloc]; omega
  have HU := Lib.hid q3
  have HB := Lib.hid (hb0.alloc (by rw [size_alloc]; omega) (wirO (c.ws.getD i Wir.zero).kind u))
  have K0 := Lib.hid (block_alloc k0 (wirO (c.ws.getD i Wir.zero).kind u))
  have K1 := Lib.hid (two_nw w (cirO c (.slice sa c.sw.length scap) (.slice (some ⟨b, off, none⟩) c.ws.length cap)) (wirO (c.ws.getD i Wir.zero).kind u))
  have i1 : (0 : Int) ≤ i := by omega
  have i2 : (i : Int) < c.ws.length := by omega
  clear hcc q1 q2 hb0 k0 n1 n2
  obtain ⟨ua, ucap, rfl, _, _, hu⟩ := q3
  generalize c.ws.getD i Wir.zero = wi at *
  by_cases hk1 : wi.kind = 1
  · have hkb : (wi.kind == 1) = true := by rw [hk1]; rfl
    have hr := wire_is1 (n := c.sw.length) (m := c.ws.length) (i := i) hk1
    clear hk1
    by_cases hl : wi.of.length = 1
    · rw [decide_eq_true hl, Bool.true_and] at hr
      obtain ⟨ub, uoff, rfl, hubl, hu⟩ := hu (by omega)
      have hu0 := hu 0 (by omega)
      rw [Nat.add_zero] at hu0
      have hu1 := (HB.out.cell (p := ⟨ub, uoff, none⟩) hubl).trans hu0
      have hubs := Nat.lt_of_lt_of_le hubl HB.out.size
      have hl1 : (0 : Int) < wi.of.length := by omega
      have hl0 : 0 < wi.of.length := by omega
      have hlb : ((wi.of.length : Int) == 1) = true := by rw [hl]; rfl
      generalize wi.of.getD 0 0 = x at *
      have HR := Lib.hid hr.symm
      have HU1 := Lib.hid hu1
      clear hu hu0 hu1 hl hr
      go_enter Try.func78, Try.ntmps78
      go_wp2_with fail
      clear g1 g2
      generalize ((w.alloc (cirO c (.slice sa c.sw.length scap) (.slice (some ⟨b, off, none⟩) c.ws.length cap))).alloc (wirO wi.kind (.slice (some ⟨ub, uoff, none⟩) wi.of.length ucap))) = wB at *
      have b1 := bw_cells (B := wB.heap.size) K0.out (lt_of_block K0.out)
      have b2 := bw_cells (B := wB.heap.size) K1.out (lt_of_block K1.out)
      have b3 := bw_cell (B := wB.heap.size) HU1.out hubs
      have hwr : IntKind.i64.wrap ((c.sw.length : Int) - 1) = (c.sw.length : Int) - 1 := IntWalk.i64_in _ (by omega)
      refine wp_region_below (by kernel_rfl) (by kernel_rfl) (Below.refl wB.heap.size wB) ?_
      repeat ((with_reducible refine wpQuiet_step (fun K hK => ?_)); go_simp; first | (refine hK _ ?_; clear hK K) | (apply Exists.intro; refine ⟨fun _ => ?_, hK _ ?_⟩; ((go_at_call 75; with_reducible exact bw_same (cwithin_is _ x 0 ((c.sw.length : Int) - 1) _ HR.out))); clear hK K))
      refine wpQuiet_nil ?_
      intro wq hwq0
      have hwq := bw_out hwq0
      clear hwq0
      clear hwr
      go_wp2
      go_ret
      exact ⟨rfl, HB.out.trans (hwq.mono HB.out.size)⟩
    · rw [decide_eq_false hl, Bool.false_and] at hr
      have hlb : ((wi.of.length : Int) == 1) = false := by simp; omega
      have HR := Lib.hid hr.symm
      clear hu hl hr
      go_enter Try.func78, Try.ntmps78
      go_wp2_with fail
      clear g1 g2
      generalize ((w.alloc (cirO c (.slice sa c.sw.length scap) (.slice (some ⟨b, off, none⟩) c.ws.length cap))).alloc (wirO wi.kind (.slice ua wi.of.length ucap))) = wB at *
      have b1 := bw_cells (B := wB.heap.size) K0.out (lt_of_block K0.out)
      have b2 := bw_cells (B := wB.heap.size) K1.out (lt_of_block K1.out)
      refine wp_region_below (by kernel_rfl) (by kernel_rfl) (Below.refl wB.heap.size wB) ?_
      repeat ((with_reducible refine wpQuiet_step (fun K hK => ?_)); go_simp; first | (refine hK _ ?_; clear hK K) | (apply Exists.intro; refine ⟨fun _ => ?_, hK _ ?_⟩; (fail); clear hK K))
      refine wpQuiet_nil ?_
      intro wq hwq0
      have hwq := bw_out hwq0
      clear hwq0
      go_wp2
      go_ret
      exact ⟨ret_bool HR.out, HB.out.trans (hwq.mono HB.out.size)⟩
  · have hkb : (wi.kind == 1) = false := by simpa using hk1
    by_cases hk2 : wi.kind = 2 ∨ wi.kind = 3
    · have hr := wire_is2 (n := c.sw.length) (m := c.ws.length) (i := i) hk1 hk2
      cases hl : decide (1 ≤ (wi.of.length : Int) ∧ (wi.of.length : Int) ≤ 8)
      · rw [hl, Bool.false_and] at hr
        have HR := Lib.hid hr.symm
        have HL := Lib.hid hl
        clear hu hl hr hk1
        rcases hk2 with hk2 | hk2
        · have hkb2 : (wi.kind == 2) = true := by rw [hk2]; rfl
          clear hk2
          go_enter Try.func78, Try.ntmps78
          go_wp2_with (go_at_call 75; refine (cwithin_is _ _ _ _ _ HL.out).mono ?_; rintro e w1 ⟨rfl, rfl⟩)
          go_ret
          exact ⟨ret_bool HR.out, HB.out⟩
        · have hkb2 : (wi.kind == 2) = false := by rw [hk2]; rfl
          have hkb3 : (wi.kind == 3) = true := by rw [hk2]; rfl
          clear hk2
          go_enter Try.func78, Try.ntmps78
          go_wp2_with (go_at_call 75; refine (cwithin_is _ _ _ _ _ HL.out).mono ?_; rintro e w1 ⟨rfl, rfl⟩)
          go_ret
          exact ⟨ret_bool HR.out, HB.out⟩
      · rw [hl, Bool.true_and] at hr
        have HR := Lib.hid hr.symm
        have HL := Lib.hid hl
        clear hu hl hr hk1
        rcases hk2 with hk2 | hk2
        · have hkb2 : (wi.kind == 2) = true := by rw [hk2]; rfl
          clear hk2
          go_enter Try.func78, Try.ntmps78
          go_wp2_with (first | (go_at_call 75; refine (cwithin_is _ _ _ _ _ HL.out).mono ?_; rintro e w1 ⟨rfl, rfl⟩) | (go_at_call 139; refine (ascend_is _ wi.of _ _ _ _ (HU.out.below HB.out (Nat.le_refl _)) (by omega) (by omega) (by omega) (by omega) HR.out).mono ?_; rintro e w1 ⟨rfl, rfl⟩))
          go_ret
          exact ⟨rfl, HB.out⟩
        · have hkb2 : (wi.kind == 2) = false := by rw [hk2]; rfl
          have hkb3 : (wi.kind == 3) = true := by rw [hk2]; rfl
          clear hk2
          go_enter Try.func78, Try.ntmps78
          go_wp2_with (first | (go_at_call 75; refine (cwithin_is _ _ _ _ _ HL.out).mono ?_; rintro e w1 ⟨rfl, rfl⟩) | (go_at_call 139; refine (ascend_is _ wi.of _ _ _ _ (HU.out.below HB.out (Nat.le_refl _)) (by omega) (by omega) (by omega) (by omega) HR.out).mono ?_; rintro e w1 ⟨rfl, rfl⟩))
          go_ret
          exact ⟨rfl, HB.out⟩
    · have HR := Lib.hid (wire_is3 (n := c.sw.length) (m := c.ws.length) (i := i) hk1 hk2).symm
      have hkb2 : (wi.kind == 2) = false := by simp; omega
      have hkb3 : (wi.kind == 3) = false := by simp; omega
      clear hk1 hk2 hu
      go_enter Try.func78, Try.ntmps78
      go_wp2_with fail
      go_ret
      exact ⟨ret_bool HR.out, HB.out⟩

end Go.Proofs.Ytbiihhokcmdlhaa
