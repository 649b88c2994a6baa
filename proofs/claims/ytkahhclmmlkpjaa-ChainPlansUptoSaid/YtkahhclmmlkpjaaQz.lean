/- Walks of layer 2 (chain), parts: reach. -/
import Derived.Test.YtkahhclmmlkpjaaQy
import Derived.Laws.OwnMore
import Derived.Laws.EntriesVeiled
namespace Go.Proofs.Ytkahhclmmlkpjaa
open Go.RowKit

theorem infoSpan : (Try.prog.info? 37).map (fun i => (i.zero, i.size, i.bytes)) = some (some (.agg #[.int .i64 0, .int .i64 0]), 2, 16) := by kernel_rfl

/-- The wear behind the first k uses, by what was measured up to each. -/
def sprL (P : Prt) (l : List Us) (k : Nat) : List Spn := (List.range k).map fun i => rch P l (i + 1)
theorem sprL_succ (P : Prt) (l : List Us) (k : Nat) : sprL P l (k + 1) = sprL P l k ++ [rch P l (k + 1)] := by simp [sprL, List.range_succ]
theorem sprL_len (P : Prt) (l : List Us) (k : Nat) : (sprL P l k).length = k := by simp [sprL]
theorem flat_snoc (xs : List Spn) (x : Spn) : (xs ++ [x]).flatMap spnL = xs.flatMap spnL ++ [.int .i64 x.1, .int .i64 x.2] := by simp [List.flatMap_append]

/-- The answer of reach. -/
def ReachRes (P : Prt) (l : List Us) (w : World) (e : Ending) (w' : World) : Prop :=
  ∃ v, e = .returned v ∧ w'.ownsRow w.heap.size 37 2 v (reachN P l) ((sprL P l (reachN P l)).flatMap spnL) ∧ Below w.heap.size w w'

theorem reachN_at {P : Prt} {l : List Us} {k : Nat} (hk : k ≤ l.length) (h1 : ∀ i, i < k → noneAt P l i = false) (h2 : k < l.length → noneAt P l k = true) : reachN P l = k := firstB_eq hk h1 h2

theorem rch_free {P : Prt} {l : List Us} {k : Nat} {u : Us} (hu : l.getD k Us.zero = u) (hm : u.m = false) : rch P l (k + 1) = ((rch P l k).1 + addL P u, (rch P l k).2 + addH P u) := by
  simp only [rch, grown]; rw [hu, if_neg (by rw [hm]; decide)]
theorem rch_said {P : Prt} {l : List Us} {k : Nat} {u : Us} (hu : l.getD k Us.zero = u) (hm : u.m = true) : rch P l (k + 1) = common ((rch P l k).1 + addL P u, (rch P l k).2 + addH P u) (u.lo, u.hi) := by
  simp only [rch, grown]; rw [hu, if_pos hm]

theorem reach_out {P : Prt} {l : List Us} {w w' : World} {v : Value} {k : Nat} (hk : reachN P l = k) (h : w'.ownsRow w.heap.size 37 2 v k ((sprL P l k).flatMap spnL)) (hb : Below w.heap.size w w') : ReachRes P l w (.returned v) w' := by
  subst hk; exact ⟨v, rfl, h, hb⟩

theorem le_alloc (w : World) (o : Obj) : w.heap.size ≤ (w.alloc o).heap.size := by rw [size_alloc]; omega

theorem cells_new (w : World) (x y : Value) (t : TypeId) {g : Nat} (hg : g = w.heap.size) : ∀ j u, [x, y][j]? = some u → (w.alloc (.cells #[x, y] t)).cell? ((⟨g, 0, none⟩ : Addr).add j) = some u := by
  subst hg
  intro j u hj
  have h := cell_alloc_new w #[x, y] t (0, 0) w.heap.size j rfl
  have e : (⟨w.heap.size, 0, none⟩ : Addr).add j = ⟨w.heap.size, j, none⟩ := by unfold Addr.add; split <;> simp_all
  rw [e, h, ← hj]
  simp

theorem own2 {w : World} {base : Nat} {e : TypeId} {size : Nat} {v : Value} {n : Nat} {xs : List Value} (h : w.ownsRow base e size v n xs) {b : Nat} (hb : b < base) (u1 u2 : Value) : ((w.setCell ⟨b, 0, none⟩ u1).setCell ⟨b, 1, none⟩ u2).ownsRow base e size v n xs :=
  ownsRow_setCell (ownsRow_setCell h (p := ⟨b, 0, none⟩) hb u1) (p := ⟨b, 1, none⟩) hb u2

theorem set2 {w : World} {b : Nat} {x y : Value} {t : TypeId} (h : w.heap[b]? = some (.cells #[x, y] t (0, 0))) (u1 u2 : Value) : ((w.setCell ⟨b, 0, none⟩ u1).setCell ⟨b, 1, none⟩ u2).heap[b]? = some (.cells #[u1, u2] t (0, 0)) :=
  block_set (block_set h 0 u1) 1 u2

theorem bel2 {wA wr w2 : World} {m b : Nat} (h : Below m wA wr) (h2 : Below wr.heap.size wr w2) (hs : m + 1 ≤ wr.heap.size) (hb : m ≤ b) (_hb2 : b < wr.heap.size) (u1 u2 : Value) (o : Obj) :
    Below m wA (((w2.setCell ⟨b, 0, none⟩ u1).setCell ⟨b, 1, none⟩ u2).alloc o) ∧ m + 1 ≤ (((w2.setCell ⟨b, 0, none⟩ u1).setCell ⟨b, 1, none⟩ u2).alloc o).heap.size := by
  have h3 := h2.size
  have h4 := (h.trans (h2.mono (by omega))).setCell (p := ⟨b, 0, none⟩) hb u1 |>.setCell (p := ⟨b, 1, none⟩) hb u2
  refine ⟨h4.alloc (by simp; omega) o, by simp; omega⟩

theorem bel2' {wA wr w2 : World} {m b : Nat} (h : Below m wA wr) (h2 : Below wr.heap.size wr w2) (hs : m + 1 ≤ wr.heap.size) (hb : m ≤ b) (u1 u2 : Value) :
    Below m wA ((w2.setCell ⟨b, 0, none⟩ u1).setCell ⟨b, 1, none⟩ u2) ∧ m + 1 ≤ ((w2.setCell ⟨b, 0, none⟩ u1).setCell ⟨b, 1, none⟩ u2).heap.size := by
  have h3 := h2.size
  refine ⟨(h.trans (h2.mono (by omega))).setCell (p := ⟨b, 0, none⟩) hb u1 |>.setCell (p := ⟨b, 1, none⟩) hb u2, by simp; omega⟩

set_option maxRecDepth 100000 in
set_option maxHeartbeats 4000000 in
theorem reach_any (P : Prt) (l : List Us) (bv v : Value) (w : World) (hv : SpAt w bv P.rs) (hl : UsAt w v l) (hf : partM P l = 0) :
    Calls Try.prog 81 #[prtV P bv, v] w (ReachRes P l w) := by
  obtain ⟨hP, h40, hU⟩ := partM_ok hf
  have hb0 := ((Below.refl w.heap.size w).alloc (Nat.le_refl _) (Obj.cells #[bv, .int .i64 P.wo, .int .i64 P.tu, .int .i64 P.ag] 54)).alloc (by simp only [size_alloc]; omega) (Obj.cells #[.int .i64 0, .int .i64 0] 37)
  have k0 := block_alloc (block_new w (Obj.cells #[bv, .int .i64 P.wo, .int .i64 P.tu, .int .i64 P.ag] 54) w.heap.size rfl) (Obj.cells #[.int .i64 0, .int .i64 0] 37)
  have k1 := block_new (w.alloc (Obj.cells #[bv, .int .i64 P.wo, .int .i64 P.tu, .int .i64 P.ag] 54)) (Obj.cells #[.int .i64 0, .int .i64 0] 37) (w.heap.size + 1) (by simp only [size_alloc])
  have hsz : ((w.alloc (Obj.cells #[bv, .int .i64 P.wo, .int .i64 P.tu, .int .i64 P.ag] 54)).alloc (Obj.cells #[.int .i64 0, .int .i64 0] 37)).heap.size = w.heap.size + 2 := by simp only [size_alloc]
  have HV := Lib.hid hv
  obtain ⟨a, cap, rfl, hn, hcap, hc⟩ := hv
  clear hc
  obtain ⟨ua, ucap, rfl, un, ucl, uc⟩ := hl
  have HUC := Lib.hid uc
  have HP := Lib.hid hP
  have HU := Lib.hid hU
  have HBD := Lib.hid (fun i (hi : i ≤ l.length) => rch_bd40 hP h40 hU hi)
  have HB := Lib.hid hb0
  have K0 := Lib.hid k0
  have K1 := Lib.hid k1
  have HSZ := Lib.hid hsz
  obtain ⟨i0, hi, hz0, hz1, hz2⟩ := info_parts infoSpan
  clear uc hf hP hU hb0 k0 k1 hsz
  go_enter Try.func81, Try.ntmps81
  go_wp2_with fail
  generalize (w.alloc (Obj.cells #[Value.slice a P.rs.length cap, .int .i64 P.wo, .int .i64 P.tu, .int .i64 P.ag] 54)).alloc (Obj.cells #[.int .i64 0, .int .i64 0] 37) = wA at *
  go_loopw [5, 12] (fun s i wr => ∃ k : Nat, k ≤ l.length ∧ i = .int .i64 k ∧ Below (w.heap.size + 1) wA wr ∧ Hid (wr.heap[w.heap.size + 1]? = some (Obj.cells #[.int .i64 (rch P l k).1, .int .i64 (rch P l k).2] 37)) ∧
      wr.ownsRow (w.heap.size + 2) 37 2 s k ((sprL P l k).flatMap spnL) ∧ Hid (∀ i, i < k → noneAt P l i = false)) (fun _ i _ => l.length - (intOf i).toNat)
  case atStart => exact ⟨0, Nat.zero_le _, rfl, Below.refl _ _, K1.out, ⟨by simp [sprL], .inl ⟨rfl, rfl⟩⟩, fun i hi => by omega⟩
  case round =>
    obtain ⟨k, hk, rfl, hb, hW, hown, hne⟩ := hrel
    have hszr : w.heap.size + 2 ≤ wr.heap.size := by have := hb.size; have := HSZ.out; omega
    have hbw : Below w.heap.size w wr := HB.out.trans (hb.mono (by omega))
    have HK0 := Lib.hid ((hb.block w.heap.size (by omega)).trans K0.out)
    obtain ⟨sa, sc, rfl, hownb⟩ := ownsRow_shape hown
    have Hown := Lib.hid hown
    have HownB := Lib.hid hownb
    clear hown hownb
    by_cases hlt : k < l.length
    · obtain ⟨b, off, rfl, hbl, hc⟩ := HUC.out (by omega)
      obtain ⟨g1, g2, g3, g4, g5, g6⟩ := us_at hbw hbl hc hlt
      have hu := HU.out k hlt
      have ha := add_ok HP.out hu
      have hbd := HBD.out k (by omega)
      have hbd2 := HBD.out (k + 1) (by omega)
      clear hc
      have HUU := Lib.hid hu
      generalize hq0 : l.getD k Us.zero = u at *
      have HU0 := Lib.hid hq0
      clear hq0 hu
      have hz2' : b < wr.heap.size := by have := hbw.size; omega
      have hce := block_cell HK0.out
      have hzr : w.heap.size < wr.heap.size := by omega
      go_wp2_with fail
      have hb2 := (Below.refl wr.heap.size wr).alloc (Nat.le_refl _) (Obj.cells #[.int .i64 u.d, .int .i64 u.t, .int .i64 u.c, .bool u.m, .int .i64 u.lo, .int .i64 u.hi] 89)
      refine (added_any P _ u _ _ ((HV.out.below hbw (Nat.le_refl _)).below hb2 (Nat.le_refl _)) HP.out HUU.out).mono ?_
      rintro e w2 ⟨rfl, hb3⟩
      have hb4 := hb2.trans (hb3.mono hb2.size)
      have kU := (hb3.block wr.heap.size (by simp only [size_alloc]; omega)).trans (block_new wr (Obj.cells #[.int .i64 u.d, .int .i64 u.t, .int .i64 u.c, .bool u.m, .int .i64 u.lo, .int .i64 u.hi] 89) wr.heap.size rfl)
      have kW := (hb4.block (w.heap.size + 1) (by omega)).trans hW.out
      have zU := lt_of_block kU
      have zW := lt_of_block kW
      have cU := block_cell kU
      have cW := block_cell kW
      have fW := block_free kW
      have KU := Lib.hid kU
      have KW := Lib.hid kW
      have HB4 := Lib.hid hb4
      have HBR := Lib.hid hb
      have HBW := Lib.hid hbw
      clear kU kW hb2 hb3 hb4 hb hbw hce g1 g2 g3 g4 g5 g6 hz2'
      cases hm : u.m
      · have HN := Lib.hid (rch_free (P := P) HU0.out hm)
        have HM := Lib.hid hm
        rw [HN.out] at hbd2
        rw [hm] at cU
        clear hm
        have OX := Lib.hid ((own2 (ownsRow_below Hown.out HB4.out) (b := w.heap.size + 1) (by omega) (.int .i64 ((rch P l k).1 + addL P u)) (.int .i64 ((rch P l k).2 + addH P u))).alloc (Obj.cells #[.int .i64 (addL P u), .int .i64 (addH P u)] 37))
        have KX := Lib.hid (block_alloc (set2 KW.out (.int .i64 ((rch P l k).1 + addL P u)) (.int .i64 ((rch P l k).2 + addH P u))) (Obj.cells #[.int .i64 (addL P u), .int .i64 (addH P u)] 37))
        have BX := Lib.hid (bel2 HBR.out HB4.out hszr (b := w.heap.size + 1) (Nat.le_refl _) (by omega) (.int .i64 ((rch P l k).1 + addL P u)) (.int .i64 ((rch P l k).2 + addH P u)) (Obj.cells #[.int .i64 (addL P u), .int .i64 (addH P u)] 37))
        by_cases hno : (rch P l k).2 + addH P u < (rch P l k).1 + addL P u
        · have HE := Lib.hid (show noneAt P l k = true by unfold noneAt; rw [HN.out]; exact decide_eq_true hno)
          have HR := Lib.hid (reachN_at hk hne.out (fun _ => HE.out))
          go_wp2
          go_ret
          exact reach_out HR.out (ownsRow_mono OX.out (by omega)) (HB.out.trans (BX.out.1.mono (by omega)))
        · have HE := Lib.hid (show noneAt P l k = false by unfold noneAt; rw [HN.out]; exact decide_eq_false hno)
          go_wp2_with (at_builtin; refine wpList_append_own _ rfl _ _ 32 rfl (w.heap.size + 2) 37 i0 (.agg #[.int .i64 0, .int .i64 0]) 2 16 Try.underlying32 hi hz0 hz1 hz2 rfl (by decide) _ k ((sprL P l k).flatMap spnL) rfl ?c0 _ _ _ [.int .i64 ((rch P l k).1 + addL P u), .int .i64 ((rch P l k).2 + addH P u)] rfl rfl ?c1 ?c2 ?c3 ?c4 ?c5 ?_)
          case c0 => exact World.ownsRow.alloc (OX).out _
          try (case c1 => exact cells_new _ _ _ _ (by simp))
          case c2 => first | (intro u hu; simp only [List.mem_cons, List.not_mem_nil, or_false] at hu; rcases hu with rfl | rfl <;> rfl) | exact ⟨rfl, rfl⟩
          case c3 => unfold maxLen; omega
          case c4 => omega
          case c5 => first | exact Nat.le_trans (BX).out.2 (le_alloc _ _) | (have := (BX).out.2; simp at this; omega)
          intro v2 w4 hown2 hgrow _
          have hbX := ((Below.refl (w.heap.size + 2) _).alloc (BX).out.2 _).trans (below_grown hgrow HownB.out (Nat.le_trans (BX).out.2 (le_alloc _ _)))
          have HW4 := Lib.hid ((hbX.block (w.heap.size + 1) (by omega)).trans (KX).out)
          have HB4 := Lib.hid ((BX).out.1.trans (hbX.mono (by omega)))
          clear hgrow hbX
          rw [show (sprL P l k).flatMap spnL ++ [.int .i64 ((rch P l k).1 + addL P u), .int .i64 ((rch P l k).2 + addH P u)] = (sprL P l (k + 1)).flatMap spnL by rw [sprL_succ, flat_snoc, HN.out]] at hown2
          rw [show ((rch P l k).1 + addL P u) = (rch P l (k + 1)).1 by rw [HN.out], show ((rch P l k).2 + addH P u) = (rch P l (k + 1)).2 by rw [HN.out]] at HW4
          obtain ⟨sa2, sc2, rfl, _⟩ := ownsRow_shape hown2
          have Hown2 := Lib.hid hown2
          clear hown2
          go_wp2
          go_roundw
          case rel => exact ⟨k + 1, hlt, by go_num, HB4.out, HW4.out, Hown2.out, fun i hi => by
            by_cases hik : i = k
            · rw [hik]; exact HE.out
            · exact hne.out i (by omega)⟩
          case measure => simp [intOf]; omega
      · have hN0 := rch_said (P := P) HU0.out hm
        have HM := Lib.hid hm
        rw [hm] at cU
        rw [hN0] at hbd2
        have HN0 := Lib.hid hN0
        clear hm hN0
        have OY := Lib.hid ((own2 (ownsRow_below Hown.out HB4.out) (b := w.heap.size + 1) (by omega) (.int .i64 ((rch P l k).1 + addL P u)) (.int .i64 ((rch P l k).2 + addH P u))).alloc (Obj.cells #[.int .i64 (addL P u), .int .i64 (addH P u)] 37))
        have KY := Lib.hid (block_alloc (set2 KW.out (.int .i64 ((rch P l k).1 + addL P u)) (.int .i64 ((rch P l k).2 + addH P u))) (Obj.cells #[.int .i64 (addL P u), .int .i64 (addH P u)] 37))
        have BY := Lib.hid (bel2 HBR.out HB4.out hszr (b := w.heap.size + 1) (Nat.le_refl _) (by omega) (.int .i64 ((rch P l k).1 + addL P u)) (.int .i64 ((rch P l k).2 + addH P u)) (Obj.cells #[.int .i64 (addL P u), .int .i64 (addH P u)] 37))
        go_wp2_with fail
        refine (common_any ((rch P l k).1 + addL P u, (rch P l k).2 + addH P u) (u.lo, u.hi) _).mono ?_
        rintro e w3 ⟨rfl, hb5⟩
        generalize hC : common ((rch P l k).1 + addL P u, (rch P l k).2 + addH P u) (u.lo, u.hi) = C at *
        have HN := Lib.hid (show rch P l (k + 1) = (C.1, C.2) by rw [HN0.out])
        have kW3 := (hb5.block (w.heap.size + 1) (by have := BY.out.2; omega)).trans KY.out
        have cW := block_cell kW3
        have fW := block_free kW3
        have zW3 := lt_of_block kW3
        have OX := Lib.hid (own2 (ownsRow_below OY.out hb5) (b := w.heap.size + 1) (by omega) (.int .i64 C.1) (.int .i64 C.2))
        have KX := Lib.hid (set2 kW3 (.int .i64 C.1) (.int .i64 C.2))
        have BX := Lib.hid (bel2' BY.out.1 hb5 BY.out.2 (b := w.heap.size + 1) (Nat.le_refl _) (.int .i64 C.1) (.int .i64 C.2))
        clear kW3 hb5 hC
        by_cases hno : C.2 < C.1
        · have HE := Lib.hid (show noneAt P l k = true by unfold noneAt; rw [HN.out]; exact decide_eq_true hno)
          have HR := Lib.hid (reachN_at hk hne.out (fun _ => HE.out))
          go_wp2
          go_ret
          exact reach_out HR.out (ownsRow_mono OX.out (by omega)) (HB.out.trans (BX.out.1.mono (by omega)))
        · have HE := Lib.hid (show noneAt P l k = false by unfold noneAt; rw [HN.out]; exact decide_eq_false hno)
          go_wp2_with (at_builtin; refine wpList_append_own _ rfl _ _ 32 rfl (w.heap.size + 2) 37 i0 (.agg #[.int .i64 0, .int .i64 0]) 2 16 Try.underlying32 hi hz0 hz1 hz2 rfl (by decide) _ k ((sprL P l k).flatMap spnL) rfl ?d0 _ _ _ [.int .i64 C.1, .int .i64 C.2] rfl rfl ?d1 ?d2 ?d3 ?d4 ?d5 ?_)
          case d0 => exact World.ownsRow.alloc (OX).out _
          try (case d1 => exact cells_new _ _ _ _ (by simp))
          case d2 => first | (intro u hu; simp only [List.mem_cons, List.not_mem_nil, or_false] at hu; rcases hu with rfl | rfl <;> rfl) | exact ⟨rfl, rfl⟩
          case d3 => unfold maxLen; omega
          case d4 => omega
          case d5 => first | exact Nat.le_trans (BX).out.2 (le_alloc _ _) | (have := (BX).out.2; simp at this; omega)
          intro v2 w4 hown2 hgrow _
          have hbX := ((Below.refl (w.heap.size + 2) _).alloc (BX).out.2 _).trans (below_grown hgrow HownB.out (Nat.le_trans (BX).out.2 (le_alloc _ _)))
          have HW4 := Lib.hid ((hbX.block (w.heap.size + 1) (by omega)).trans (KX).out)
          have HB4 := Lib.hid ((BX).out.1.trans (hbX.mono (by omega)))
          clear hgrow hbX
          rw [show (sprL P l k).flatMap spnL ++ [.int .i64 C.1, .int .i64 C.2] = (sprL P l (k + 1)).flatMap spnL by rw [sprL_succ, flat_snoc, HN.out]] at hown2
          rw [show C.1 = (rch P l (k + 1)).1 by rw [HN.out], show C.2 = (rch P l (k + 1)).2 by rw [HN.out]] at HW4
          obtain ⟨sa2, sc2, rfl, _⟩ := ownsRow_shape hown2
          have Hown2 := Lib.hid hown2
          clear hown2
          go_wp2
          go_roundw
          case rel => exact ⟨k + 1, hlt, by go_num, HB4.out, HW4.out, Hown2.out, fun i hi => by
            by_cases hik : i = k
            · rw [hik]; exact HE.out
            · exact hne.out i (by omega)⟩
          case measure => simp [intOf]; omega
    · obtain rfl : k = l.length := by omega
      have HR := Lib.hid (reachN_at hk hne.out (fun h => absurd h (by omega)))
      go_wp2
      go_ret
      exact reach_out HR.out (ownsRow_mono Hown.out (by omega)) hbw

end Go.Proofs.Ytkahhclmmlkpjaa
