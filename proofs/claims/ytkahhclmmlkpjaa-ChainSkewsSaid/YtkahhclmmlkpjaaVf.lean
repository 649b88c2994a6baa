/- Walks of layer 2 (chain): Links of the specification. -/
import Derived.Test.YtkahhclmmlkpjaaVd
import Derived.Test.YtkahhclmmlkpjaaSb
namespace Go.Proofs.Ytkahhclmmlkpjaa
open Go.RowKit

/-- The spans of the first k links in a net. -/
def lnkTo (M : Net) (k : Nat) : List Spn := (List.range k).map fun i => (-M (i + 1) i, M i (i + 1))
theorem lnkTo_succ (M : Net) (k : Nat) : lnkTo M (k + 1) = lnkTo M k ++ [(-M (k + 1) k, M k (k + 1))] := by simp [lnkTo, List.range_succ]
theorem lnkTo_len (M : Net) (k : Nat) : (lnkTo M k).length = k := by simp [lnkTo]
theorem lnkTo_congr {M M' : Net} {n : Nat} (h : ∀ i k, i ≤ n → k ≤ n → M i k = M' i k) {k : Nat} (hk : k ≤ n) : lnkTo M k = lnkTo M' k := by
  unfold lnkTo
  apply List.map_congr_left
  intro i hi
  rw [List.mem_range] at hi
  rw [h (i + 1) i (by omega) (by omega), h i (i + 1) (by omega) (by omega)]
def lnkL (c : Chn) (l : List Gau) : List Spn := if CkM c l 0 0 = 0 then lnkTo (RM c l) c.n.toNat else []

def LnkRes (c : Chn) (l : List Gau) (w : World) (e : Ending) (w' : World) : Prop :=
  ∃ v, e = .returned (.tuple #[v, .int .i64 (CkM c l 0 0)]) ∧ Below w.heap.size w w' ∧ w'.ownsRow w.heap.size 37 2 v (lnkL c l).length ((lnkL c l).flatMap spnL)

theorem LnkRes.no {c : Chn} {l : List Gau} {w w' : World} (h : CkM c l 0 0 ≠ 0) (hb : Below w.heap.size w w') : LnkRes c l w (.returned (.tuple #[.slice none 0 0, .int .i64 (CkM c l 0 0)])) w' :=
  ⟨_, rfl, hb, by unfold lnkL; rw [if_neg h]; exact ⟨rfl, .inl ⟨rfl, rfl⟩⟩⟩

theorem LnkRes.yes {c : Chn} {l : List Gau} {w w' : World} {v : Value} {M : Net} {B : Nat} (h : CkM c l 0 0 = 0) (hM : ∀ i k, i ≤ c.n.toNat → k ≤ c.n.toNat → M i k = RM c l i k) (hb : Below w.heap.size w w') (hB : w.heap.size ≤ B)
    (ho : w'.ownsRow B 37 2 v c.n.toNat ((lnkTo M c.n.toNat).flatMap spnL)) : LnkRes c l w (.returned (.tuple #[v, .int .i64 0])) w' := by
  refine ⟨v, by rw [h], hb, ?_⟩
  unfold lnkL
  rw [if_pos h, lnkTo_len, ← lnkTo_congr hM (Nat.le_refl _)]
  exact ownsRow_mono ho hB

theorem nrun1 (M : Net) (n hd c : Nat) (G C : Nat → Nat) (i k : Nat) (kI : Int) (w : World) (hN : NetB w n hd G C M) (hkI : kI = k) (hi : i ≤ n) (hk : k ≤ n) (hn : n ≤ 24) (h1 : -1000000000000000 ≤ M k i) (h2 : M k i ≤ 1000000000000000) :
    Calls Try.prog 70 #[.slice (some ⟨hd, 0, none⟩) (n + 1) c, .int .i64 i, .int .i64 kI] w fun e w' => e = .returned (.agg #[.int .i64 (-M k i), .int .i64 (M i k)]) ∧ Below w.heap.size w w' := by
  subst hkI
  exact nrun_any M n hd c G C i k w hN hi hk hn h1 h2

set_option maxRecDepth 100000 in
set_option maxHeartbeats 4000000 in
theorem rLinks_any (c : Chn) (l : List Gau) (v : Value) (w : World) (hv : GaAt w v l) :
    Calls Try.prog 23 #[chnV c, v] w (LnkRes c l w) := by
  have hb0 := (Below.refl w.heap.size w).alloc (Nat.le_refl _) (Obj.cells #[.int .i64 c.n, .int .i64 c.pi, .int .i64 c.li] 23)
  have k0 := block_new w (Obj.cells #[.int .i64 c.n, .int .i64 c.pi, .int .i64 c.li] 23) w.heap.size rfl
  have hsz : (w.alloc (Obj.cells #[.int .i64 c.n, .int .i64 c.pi, .int .i64 c.li] 23)).heap.size = w.heap.size + 1 := size_alloc _ _
  have K0 := Lib.hid k0
  have HB := Lib.hid hb0
  have HSZ := Lib.hid hsz
  clear k0 hb0 hsz
  have HV := Lib.hid (hv.below HB.out (Nat.le_refl _))
  obtain ⟨va, cap, rfl, hn, hcap, hc⟩ := hv
  obtain ⟨i0, hi, hz0, hz1, hz2⟩ := info_parts infoSpan
  clear hc
  go_enter Try.func23, Try.ntmps23
  go_wp2_with fail
  generalize hwA : w.alloc (Obj.cells #[.int .i64 c.n, .int .i64 c.pi, .int .i64 c.li] 23) = wA at *
  clear hwA
  have hce := block_cell K0.out
  go_wp2_with fail
  refine (rchecked_any c l _ _ _ _ HV.out).mono ?_
  rintro e w1 ⟨hb1, h⟩
  have HBW := Lib.hid (HB.out.trans (hb1.mono HB.out.size))
  have HK := Lib.hid ((hb1.block _ (lt_of_block K0.out)).trans K0.out)
  clear hb1 hce
  rcases h with ⟨hm, rfl⟩ | ⟨hm, hd, cp, G, C, M, rfl, hN, hM⟩
  · have HR := Lib.hid (LnkRes.no hm HBW.out)
    generalize CkM c l 0 0 = m at *
    go_wp2
    exact bodyPost_ret (v := .tuple #[.slice none 0 0, .int .i64 m]) (by simp [results, Try.results23, go_sem]) rfl HR.out
  · have HY := Lib.hid (fun (w' : World) (v : Value) => LnkRes.yes (w := w) (w' := w') (v := v) (B := w1.heap.size) hm hM)
    obtain ⟨hchk, _, _, _⟩ := crun_zero (ck_zero hm).1
    have n24 := (chk_goks hchk).1.n2
    have n1 := (chk_goks hchk).1.n1
    have HS := Lib.hid (fun i k (hi : i ≤ c.n.toNat) (hk : k ≤ c.n.toNat) => show -335544320000000 ≤ M i k ∧ M i k ≤ 1099511627776 by rw [hM i k hi hk]; exact ck_small hm hi hk)
    have HN := Lib.hid hN
    clear hM hN hm hchk
    go_wp2_with fail
    go_loopw [8, 9] (fun s i wr => ∃ k : Nat, k ≤ c.n.toNat ∧ i = .int .i64 k ∧ Hid (Below w1.heap.size w1 wr) ∧ wr.ownsRow w1.heap.size 37 2 s k ((lnkTo M k).flatMap spnL)) (fun _ i _ => c.n.toNat - (intOf i).toNat)
    case atStart => exact ⟨0, Nat.zero_le _, rfl, Below.refl _ _, ⟨rfl, .inl ⟨rfl, rfl⟩⟩⟩
    case round =>
      obtain ⟨k, hk, rfl, hb, hown⟩ := hrel
      have kc := (hb.out.block _ (lt_of_block HK.out)).trans HK.out
      have hce := block_cell kc
      have zc := lt_of_block kc
      have hszr := hb.out.size
      obtain ⟨sa, sc, rfl, hownb⟩ := ownsRow_shape hown
      have Hown := Lib.hid hown
      have HownB := Lib.hid hownb
      clear hown hownb kc
      by_cases hlt : k < c.n.toNat
      · have hs := HS.out (k + 1) k (by omega) (by omega)
        have hs2 := HS.out k (k + 1) (by omega) (by omega)
        go_wp2_with fail
        refine (nrun1 M c.n.toNat hd cp G C k (k + 1) _ _ (HN.out.below hb.out) (by omega) (by omega) (by omega) (by omega) (by omega) (by omega)).mono ?_
        rintro e w3 ⟨rfl, hb3⟩
        have HO3 := Lib.hid (ownsRow_below Hown.out hb3)
        have HB3 := Lib.hid (hb.out.trans (hb3.mono hszr))
        have hsz3 := Nat.le_trans hszr hb3.size
        have HT := Lib.hid (lnkTo_succ M k)
        clear hb3 hce
        generalize -M (k + 1) k = X at *
        generalize M k (k + 1) = Y at *
        go_wp2_with (at_builtin; refine wpList_append_own _ rfl _ _ 32 rfl w1.heap.size 37 i0 (.agg #[.int .i64 0, .int .i64 0]) 2 16 Try.underlying32 hi hz0 hz1 hz2 rfl (by decide) _ k ((lnkTo M k).flatMap spnL) rfl ?g0 _ _ _ [.int .i64 X, .int .i64 Y] rfl rfl ?g1 ?g2 ?g3 ?g4 ?g5 ?_)
        case g0 => exact World.ownsRow.alloc HO3.out _
        try (case g1 => exact cells_new _ _ _ _ (by simp))
        case g2 => first | (intro u hu; simp only [List.mem_cons, List.not_mem_nil, or_false] at hu; rcases hu with rfl | rfl <;> rfl) | exact ⟨rfl, rfl⟩
        case g3 => unfold maxLen; omega
        case g4 => omega
        case g5 => exact Nat.le_trans hsz3 (le_alloc _ _)
        intro v2 w4 hown2 hgrow _
        have hbX := ((Below.refl w1.heap.size w3).alloc hsz3 _).trans (below_grown hgrow HownB.out (Nat.le_trans hsz3 (le_alloc _ _)))
        have HB4 := Lib.hid (HB3.out.trans hbX)
        clear hgrow hbX
        rw [show (lnkTo M k).flatMap spnL ++ [.int .i64 X, .int .i64 Y] = (lnkTo M (k + 1)).flatMap spnL by rw [HT.out, flat_snoc]] at hown2
        obtain ⟨sa2, sc2, rfl, _⟩ := ownsRow_shape hown2
        have Hown2 := Lib.hid hown2
        clear hown2
        go_wp2
        go_roundw
        case rel => exact ⟨k + 1, hlt, by go_num, HB4.out, Hown2.out⟩
        case measure => simp [intOf]; omega
      · obtain rfl : k = c.n.toNat := by omega
        go_wp2
        exact bodyPost_ret (by simp [results, Try.results23, go_sem]) rfl (HY.out _ _ (HBW.out.trans (hb.out.mono HBW.out.size)) HBW.out.size Hown.out)

end Go.Proofs.Ytkahhclmmlkpjaa
