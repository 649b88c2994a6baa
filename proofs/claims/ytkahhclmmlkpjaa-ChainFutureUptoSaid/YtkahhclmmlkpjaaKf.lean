/- Walks of layer 2 (chain): follow of the program. -/
import Derived.Test.YtkahhclmmlkpjaaKe
import Derived.Deep.WholeRow
namespace Go.Proofs.Ytkahhclmmlkpjaa
open Go.RowKit

/-- The answer of follow: bounds that have a meaning where the gauges l agree. -/
def FollowRes (n : Nat) (pi li : Int) (l : List Gau) (w : World) (e : Ending) (w' : World) : Prop :=
  ∃ M1 : Net, e = .returned (.tuple #[.agg (netC M1), .bool (agreeB (CN n pi li) l)]) ∧ Below w.heap.size w w' ∧ (agreeB (CN n pi li) l = true → ∀ i k, i ≤ n → k ≤ n → M1 i k = RM (CN n pi li) l i k)

theorem up_near {n : Nat} {M M' : Net} (h : ∀ i k, i ≤ n → k ≤ n → M i k = M' i k) {a e : Nat} (ha : a ≤ n) (he : e ≤ n) (v : Int) : ∀ i k, i ≤ n → k ≤ n → up M a e v i k = up M' a e v i k := by
  intro i k hi hk
  unfold up
  rw [h a e ha he, h i k hi hk]

theorem below_undrew {B : Nat} {a w : World} (h : Below B a.drew w) : Below B a w := ⟨h.os, h.tape, h.output, h.size, h.block⟩

theorem addGs_snoc (M : Net) (l : List Gau) (g : Gau) : addGs M (l ++ [g]) = addG (addGs M l) g := by
  unfold addGs; rw [List.foldl_append]; rfl

def FoRel (n : Nat) (pi li : Int) (l : List Gau) (q : Nat → Bool) (w wr : World) (k : Nat) : Prop :=
  Below w.heap.size w wr ∧ wr.heap[w.heap.size]? = some (Obj.cells #[.int .i64 n, .int .i64 pi, .int .i64 li] 23) ∧ ∃ M1, Bd wr (w.heap.size + 1) M1 ∧ ∀ i j, i ≤ n → j ≤ n → M1 i j = addGs (prog0 (CN n pi li)) (selTo l q k) i j

theorem FoRel.skip {n : Nat} {pi li : Int} {l : List Gau} {q : Nat → Bool} {w wr : World} {k : Nat} (h : FoRel n pi li l q w wr k) (hq : q k = false) {w1 : World} (hw : w1 = wr) : FoRel n pi li l q w w1 (k + 1) := by
  subst hw
  obtain ⟨h1, h2, M1, h3, h4⟩ := h
  refine ⟨h1, h2, M1, h3, fun i j hi hj => ?_⟩
  simp only [selTo, hq, Bool.false_eq_true, if_false, List.append_nil]
  exact h4 i j hi hj

theorem FoRel.take {n : Nat} {pi li : Int} {l : List Gau} {q : Nat → Bool} {w wr w1 : World} {k : Nat} (h1 : Below w.heap.size w wr) (h2 : wr.heap[w.heap.size]? = some (Obj.cells #[.int .i64 n, .int .i64 pi, .int .i64 li] 23)) {M1 : Net} (h4 : ∀ i j, i ≤ n → j ≤ n → M1 i j = addGs (prog0 (CN n pi li)) (selTo l q k) i j)
    (hq : q k = true) {g : Gau} (hg : l.getD k Gau.zero = g) {ga gb : Nat} (ea : g.a.toNat = ga) (ee : g.b.toNat = gb) (ha : ga ≤ n) (he : gb ≤ n)
    (hb : Below (w.heap.size + 1) wr w1) (hd : Bd w1 (w.heap.size + 1) (up (up M1 ga gb g.hi) gb ga (-g.lo))) : FoRel n pi li l q w w1 (k + 1) := by
  subst ea
  subst ee
  refine ⟨h1.trans (hb.mono (Nat.le_succ _)), (hb.block _ (Nat.lt_succ_self _)).trans h2, _, hd, fun i j hi hj => ?_⟩
  simp only [selTo, hq, if_true]
  rw [addGs_snoc, hg]
  exact up_near (up_near h4 ha he _) he ha _ i j hi hj

theorem FollowRes.mk {n : Nat} {pi li : Int} {l : List Gau} {w w2 : World} {M2 : Net} (hb : Below w.heap.size w w2) (h : Good n (addGs (prog0 (CN n pi li)) l) (n + 1) → ∀ i k, i ≤ n → k ≤ n → M2 i k = fw (addGs (prog0 (CN n pi li)) l) (n + 1) i k) :
    FollowRes n pi li l w (.returned (.tuple #[.agg (netC M2), .bool (agreeB (CN n pi li) l)])) w2 :=
  ⟨M2, rfl, hb, fun ha => h (by unfold agreeB at ha; exact of_decide_eq_true ha)⟩

theorem boundsSize (M : Net) : (Try.prog.info? 100).map (·.size) = some (netC M).size := by
  rw [netC_size]; kernel_rfl

theorem boundsUnder : Try.prog.underlying 100 = some (.array 25 98) := by kernel_rfl

theorem setRow_same {w : World} {g : Nat} {c : Array Value} {t : TypeId} (h : w.heap[g]? = some (.cells c t (0, 0))) : w.setRow g c = w := by
  cases w
  simp only [World.setRow] at h ⊢
  congr 1
  apply Array.ext_getElem?
  intro i
  rw [Array.getElem?_modify]
  split
  · rename_i hi
    subst hi
    rw [h]
    rfl
  · rfl

/-- The whole bounds stored where they lie. -/
theorem storeSame {M1 : Net} {W : World} {b : Nat} (h : Bd W b M1) : (storeCells ⟨b, 0, none⟩ (netC M1).toList 0).run Try.prog W = .ok () W := by
  have := run_storeVar_row (P := Try.prog) W b 100 100 (netC M1) (netC M1) h (boundsSize M1) rfl (netC_one M1)
  rw [setRow_same h] at this
  have hi := boundsSize M1
  cases hq : Try.prog.info? 100 with
  | none => rw [hq] at hi; cases hi
  | some i =>
    have hs : (netC M1).size = i.size := by simp [hq] at hi; omega
    simpa [storeVar, sizeOf, typeInfo, hq, Value.cells, hs] using this

/-- The whole bounds read. -/
theorem loadSame {M1 : Net} {W : World} {b : Nat} (h : Bd W b M1) : (loadVar 100 ⟨b, 0, none⟩).run Try.prog W = .ok (.agg (netC M1)) W :=
  run_loadVar_row W b _ _ _ _ _ h boundsUnder rfl (boundsSize M1)

theorem zeroBounds : ∀ w, (zeroValue 100).run Try.prog w = .ok (.agg (netC fun _ _ => 0)) w := (zero_of_info (P := Try.prog) (t := 100) (n := 625) (by kernel_rfl)).1

set_option maxRecDepth 100000 in
set_option maxHeartbeats 8000000 in
theorem followAll_any (n : Nat) (pi li : Int) (l : List Gau) (v : Value) (q : Nat → Bool) (w : World) (hv : GaAt w v l) (hc : COk (CN n pi li)) (hl : GOks (CN n pi li) l) (hlen : l.length ≤ 100)
    (hq : ∀ (j : Nat) (w1 : World), j < l.length → Below w.heap.size w w1 → Calls Try.prog 67 #[.int .i64 j] w1 fun e w' => e = .returned (.bool (q j)) ∧ w1 = w') :
    Calls Try.prog 66 #[chnV (CN n pi li), v, .func (.func 67) #[] #[]] w (FollowRes n pi li (selTo l q l.length) w) := by
  have hb0 := (Below.refl w.heap.size w).alloc (Nat.le_refl _) (Obj.cells #[.int .i64 n, .int .i64 pi, .int .i64 li] 23)
  have hb1 := hb0.alloc (by simp only [size_alloc]; omega) (Obj.cells (netC fun _ _ => 0) 100)
  have k0 := block_alloc (block_new w (Obj.cells #[.int .i64 n, .int .i64 pi, .int .i64 li] 23) w.heap.size rfl) (Obj.cells (netC fun _ _ => 0) 100)
  have k1 := block_new (w.alloc (Obj.cells #[.int .i64 n, .int .i64 pi, .int .i64 li] 23)) (Obj.cells (netC fun _ _ => 0) 100) (w.heap.size + 1) (by simp only [size_alloc])
  have HQ := Lib.hid hq
  have HC := Lib.hid hc
  have HL := Lib.hid hl
  have n24 := hc.n2
  have hzb := zeroBounds
  have hu := boundsUnder
  obtain ⟨a, cap, rfl, hn, hcap, hcc⟩ := hv
  have HV := Lib.hid hcc
  have HB := Lib.hid hb1
  have K0 := Lib.hid k0
  have K1 := Lib.hid k1
  clear hq hc hl hcc hb0 hb1 k0 k1
  go_enter Try.func66, Try.ntmps66
  go_wp2_with fail
  refine (blinks_any n pi li _ _ _ K1.out HC.out).mono ?_
  rintro e w1 ⟨rfl, hb2, M1, h3, h4⟩
  have R0 := Lib.hid (show FoRel n pi li l q w w1 0 from ⟨HB.out.trans (hb2.mono (by omega)), (hb2.block _ (by omega)).trans K0.out, M1, h3, h4⟩)
  clear hb2 h3 h4 hzb
  go_wp2_with fail
  go_loopw [13] (fun v wr => ∃ k : Nat, k ≤ l.length ∧ v = .int .i64 k ∧ Hid (FoRel n pi li l q w wr k)) (fun v _ => l.length - (intOf v).toNat)
  case atStart => exact ⟨0, by omega, rfl, R0.out⟩
  case round =>
    obtain ⟨k, hk, rfl, hR⟩ := hrel
    by_cases hlt : k < l.length
    · go_wp2_with fail
      refine (HQ.out k wr hlt hR.out.1).mono ?_
      rintro e w2 ⟨rfl, rfl⟩
      cases hqk : q k
      · have HK := Lib.hid hqk
        clear hqk
        go_wp2
        go_roundw
        case rel => exact ⟨k + 1, hlt, by go_num, hR.out.skip HK.out rfl⟩
        case measure => simp [intOf]; omega
      · have HK := Lib.hid hqk
        clear hqk
        obtain ⟨b, off, rfl, hbl, hcc⟩ := HV.out (by omega)
        obtain ⟨g1, g2, g3, g4⟩ := ga_at hR.out.1 hbl hcc hlt
        have hg := HL.out _ (gau_getD_mem hlt)
        clear hcc
        generalize hg0 : l.getD k Gau.zero = g at g1 g2 g3 g4 hg
        have HG := Lib.hid hg0
        clear hg0
        obtain ⟨a0, ab, bn, lo0, lh, h0, _⟩ := hg
        dsimp only [CN] at bn
        obtain ⟨ga, hga⟩ : ∃ ga : Nat, g.a = ga := ⟨g.a.toNat, by omega⟩
        obtain ⟨gb, hgb⟩ : ∃ gb : Nat, g.b = gb := ⟨g.b.toNat, by omega⟩
        have HA := Lib.hid (show g.a.toNat = ga by omega)
        have HE := Lib.hid (show g.b.toNat = gb by omega)
        rw [hga] at g1 a0 ab
        rw [hgb] at g2 ab bn
        clear hga hgb
        have k1 : (0 : Int) ≤ k := by omega
        have k2 : (k : Int) < l.length := by omega
        have hz1 : b < wr.heap.size := by have := hR.out.1.size; omega
        go_wp2_with fail
        refine wp_region_still_tail 15 (by kernel_rfl) (by kernel_rfl) ?_
        change wpStill _ _ (World.drew _) (fun a' => wpList _ _ _ _ a' (World.drew _)) _ _
        simp only [List.take_succ_cons, List.take_zero, List.drop_succ_cons, List.drop_zero]
        repeat still_step
        refine wpStill_nil ?_
        go_wp2_with fail
        go_simp
        obtain ⟨r1, r2, M1, r3, r4⟩ := hR.out
        have Q1 := Lib.hid r1
        have Q2 := Lib.hid r2
        have Q3 := Lib.hid r3
        have Q4 := Lib.hid r4
        clear r1 r2 r3 r4 g1 g2 g3 g4
        refine (badd_any M1 _ ga gb g.lo g.hi _ (show Bd wr.drew _ M1 from Q3.out) (by omega) (by omega) (by omega) (by omega)).mono ?_
        rintro e w2 ⟨rfl, hb3, h5⟩
        have HR2 := Lib.hid (FoRel.take (l := l) (q := q) (w1 := w2) Q1.out Q2.out Q4.out HK.out HG.out HA.out HE.out (by omega) (by omega) (below_undrew hb3) h5)
        clear hb3 h5
        go_wp2
        go_roundw
        case rel => exact ⟨k + 1, hlt, by go_num, HR2.out⟩
        case measure => simp [intOf]; omega
    · obtain rfl : k = l.length := by omega
      obtain ⟨r1, r2, M1, r3, r4⟩ := hR.out
      have c0 := block_cell r2
      have Q1 := Lib.hid r1
      have Q2 := Lib.hid r2
      have Q3 := Lib.hid r3
      have Q4 := Lib.hid r4
      clear r1 r2 r3
      go_wp2_with fail
      have HNK : Hid (NetOk n (addGs (prog0 (CN n pi li)) (selTo l q l.length))) := by
        have := netP_ok HC.out (HL.out.sel q (Nat.le_refl _))
        rw [show (CN n pi li).n.toNat = n by simp] at this
        exact this
      refine (btight_any n M1 (addGs (prog0 (CN n pi li)) (selTo l q l.length)) _ _ Q3.out (by omega) HNK.out Q4.out).mono ?_
      rintro e w2 ⟨rfl, hb3, M2, h5, h6⟩
      have hb4 := Q1.out.trans (hb3.mono (Nat.le_succ _))
      have HF := Lib.hid (FollowRes.mk (l := selTo l q l.length) hb4 h6)
      have H5 := Lib.hid h5
      clear h5 h6 hb3 hb4 c0
      have hq1 : decide (Good n (addGs (prog0 (CN n pi li)) (selTo l q l.length)) (n + 1)) = agreeB (CN n pi li) (selTo l q l.length) := rfl
      rw [hq1]
      clear hq1
      generalize agreeB (CN n pi li) (selTo l q l.length) = ag at *
      go_wp2_with fail
      refine wp_load_row _ _ rfl (w.heap.size + 1) rfl _ (netC M2) (0, 0) _ H5.out hu rfl (boundsSize M2) ?_
      have hst := storeSame H5.out
      have hs1 := netC_size M2
      have hld := loadSame H5.out
      go_wp2_with fail
      exact bodyPost_ret (v := .tuple #[.agg (netC M2), .bool ag]) (by simp [results, Try.results66, asAddr, hld]) rfl HF.out

end Go.Proofs.Ytkahhclmmlkpjaa
