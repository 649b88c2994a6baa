/- Walks of the statements' own helpers (layer 2): History. -/
import Derived.Test.YtkahhclmmlkpjaaUb
namespace Go.Proofs.Ytkahhclmmlkpjaa
open Go.RowKit

instance (P : Prt) (l : List Us) (ws : List Int) (i : Nat) : Decidable (histAt P l ws i) := by unfold histAt; exact inferInstance
def histB (P : Prt) (l : List Us) (ws : List Int) : Bool := decide (ws.length = l.length) && (List.range l.length).all fun i => decide (histAt P l ws i) 

theorem histB_iff {P : Prt} {l : List Us} {ws : List Int} : histB P l ws = true ↔ Hist P l ws := by
  unfold histB Hist
  simp only [Bool.and_eq_true, decide_eq_true_eq, List.all_eq_true, List.mem_range]

theorem histB_no {P : Prt} {l : List Us} {ws : List Int} (h : ¬ Hist P l ws) : false = histB P l ws := by
  cases e : histB P l ws
  · rfl
  · exact absurd (histB_iff.1 e) h

theorem ws_bd {P : Prt} {l : List Us} {ws : List Int} (hP : POk P) (hU : UOks P l) : ∀ k, k ≤ l.length → (∀ i, i < k → histAt P l ws i) → 0 ≤ wsAt ws k ∧ wsAt ws k ≤ k * 1000000000000 := by
  intro k
  induction k with
  | zero => intro _ _; simp [wsAt]
  | succ k ih =>
    intro hk h
    have a := ih (by omega) (fun i hi => h i (by omega))
    have b := add_ok hP (hU k (by omega))
    obtain ⟨c1, c2, _⟩ := h k (by omega)
    simp only [wsAt]
    omega

set_option maxRecDepth 100000 in
set_option maxHeartbeats 8000000 in
theorem history_any (P : Prt) (l : List Us) (ws : List Int) (bv v wv : Value) (w : World) (hv : SpAt w bv P.rs) (hl : UsAt w v l) (hw : InAt w wv ws) (hf : partM P l = 0) :
    Calls Try.prog 57 #[prtV P bv, v, wv] w fun e w' => e = .returned (.bool (histB P l ws)) ∧ Below w.heap.size w w' := by
  obtain ⟨hP, h40, hU⟩ := partM_ok hf
  have hb0 := (Below.refl w.heap.size w).alloc (Nat.le_refl _) (Obj.cells #[bv, .int .i64 P.wo, .int .i64 P.tu, .int .i64 P.ag] 54)
  have k0 := block_new w (Obj.cells #[bv, .int .i64 P.wo, .int .i64 P.tu, .int .i64 P.ag] 54) w.heap.size rfl
  obtain ⟨a, cap, rfl, hrn, hcap, hc⟩ := hv
  have HRC := Lib.hid hc
  obtain ⟨ua, ucap, rfl, un, ucl, uc⟩ := hl
  have HUC := Lib.hid uc
  obtain ⟨wa, wcap, rfl, wn, wcl, wc⟩ := hw
  have HWC := Lib.hid wc
  have HB := Lib.hid hb0
  have K0 := Lib.hid k0
  have HP := Lib.hid hP
  have HU := Lib.hid hU
  have HNO := Lib.hid (fun h => histB_no (P := P) (l := l) (ws := ws) h)
  have HYES := Lib.hid (fun h => histB_iff.2 (show Hist P l ws from h))
  have HBD := Lib.hid (fun k hk h => ws_bd (ws := ws) hP hU k hk h)
  clear hc uc wc hb0 k0 hf hP hU
  by_cases hlen : ws.length = l.length
  · have hlb : ((ws.length : Int) != (l.length : Int)) = false := by simp; omega
    have l1 : ws.length ≤ l.length := by omega
    have l2 : l.length ≤ ws.length := by omega
    have HLEN := Lib.hid hlen
    clear hlen
    go_enter Try.func57, Try.ntmps57
    go_wp2_with fail
    generalize w.alloc (Obj.cells #[Value.slice a P.rs.length cap, .int .i64 P.wo, .int .i64 P.tu, .int .i64 P.ag] 54) = wA at *
    go_loopw [7, 8] (fun t x wr => ∃ k : Nat, k ≤ l.length ∧ x = .int .i64 k ∧ t = .int .i64 (wsAt ws k) ∧ Hid (Below wA.heap.size wA wr) ∧ Hid (∀ i, i < k → histAt P l ws i)) (fun _ x _ => l.length - (intOf x).toNat)
    case atStart => exact ⟨0, Nat.zero_le _, rfl, rfl, Below.refl _ _, fun i hi => by omega⟩
    case round =>
      obtain ⟨k, hk, rfl, rfl, hb, hh⟩ := hrel
      by_cases hlt : k < l.length
      · obtain ⟨b, off, rfl, hbl, hc⟩ := HUC.out (by omega)
        have HBR := Lib.hid (HB.out.trans (hb.out.mono HB.out.size))
        obtain ⟨_, g2, g3, g4, g5, g6⟩ := us_at HBR.out hbl hc hlt
        obtain ⟨wb, wo, rfl, wbl, wcc⟩ := HWC.out (by omega)
        have s1 := (HBR.out.cell (p := ⟨wb, wo + k, none⟩) wbl).trans (wcc k (by omega))
        have hce := block_cell ((hb.out.block _ (lt_of_block K0.out)).trans K0.out)
        have z0 := Nat.lt_of_lt_of_le (lt_of_block K0.out) hb.out.size
        have hu := HU.out k hlt
        obtain ⟨r1, r2, r3⟩ := rateOf_ok HP.out hu
        have cc0 := hu.c0
        have cc1 := hu.c1
        have ut0 := hu.t0
        have ut1 := hu.t1
        obtain ⟨rb, ro, rfl, rbl, rcc⟩ := HRC.out (by omega)
        obtain ⟨be1, be2⟩ := HBD.out k hk hh.out
        have hsz := HBR.out.size
        have zb : b < wr.heap.size := by omega
        have zw : wb < wr.heap.size := by omega
        have zr : rb < wr.heap.size := by omega
        have HAT := Lib.hid (show histAt P l ws k = (wsAt ws k + addL P (l.getD k Us.zero) ≤ ws.getD k 0 ∧ ws.getD k 0 ≤ wsAt ws k + addH P (l.getD k Us.zero) ∧ ((l.getD k Us.zero).m = true → (l.getD k Us.zero).lo ≤ ws.getD k 0 ∧ ws.getD k 0 ≤ (l.getD k Us.zero).hi)) from rfl)
        have HNX := Lib.hid (show wsAt ws (k + 1) = ws.getD k 0 from rfl)
        clear hc wcc hu
        generalize hq0 : l.getD k Us.zero = u at *
        clear hq0
        obtain ⟨c, hcn⟩ : ∃ c : Nat, u.c = c := ⟨u.c.toNat, by omega⟩
        obtain ⟨q1, q2⟩ := sp_at HBR.out rbl rcc (k := c) (by omega)
        have er : P.rs.getD c Spn.zero = rateOf P u := by unfold rateOf; rw [hcn]; rfl
        have ml := mulc ut0 ut1 r1 (by omega)
        have mh := mulc ut0 ut1 (by omega : 0 ≤ (rateOf P u).2) r3
        rw [er] at q1 q2
        rw [hcn] at g3 cc0 cc1
        rw [show addL P u = u.t * (rateOf P u).1 from rfl, show addH P u = u.t * (rateOf P u).2 from rfl] at HAT
        clear rcc er hcn
        generalize rateOf P u = r at *
        generalize wsAt ws k = be at *
        generalize ws.getD k 0 = y at *
        have i1 : (0 : Int) ≤ (k : Int) := by omega
        have i2 : (k : Int) < l.length := by omega
        have i3 : (k : Int) < ws.length := by omega
        go_wp2_with fail
        go_region
        have bx : Below wr.heap.size wr (wr.alloc (Obj.cells #[.int .i64 r.1, .int .i64 r.2] 37)).drew := ((Below.refl _ _).alloc (Nat.le_refl _) _).drew
        have kx : (wr.alloc (Obj.cells #[.int .i64 r.1, .int .i64 r.2] 37)).drew.heap[wr.heap.size]? = some (Obj.cells #[.int .i64 r.1, .int .i64 r.2] 37) := block_new wr _ _ rfl
        generalize (wr.alloc (Obj.cells #[.int .i64 r.1, .int .i64 r.2] 37)).drew = wx at *
        have t2 := (bx.cell zb).trans g2
        have t4 := (bx.cell zb).trans g4
        have t5 := (bx.cell zb).trans g5
        have t6 := (bx.cell zb).trans g6
        have t7 := (bx.cell zw).trans s1
        have cx := block_cell kx
        have zx := lt_of_block kx
        have zbx : b < wx.heap.size := Nat.lt_of_lt_of_le zb bx.size
        have zwx : wb < wx.heap.size := Nat.lt_of_lt_of_le zw bx.size
        have HBX := Lib.hid (hb.out.trans (bx.mono hb.out.size))
        have HBW := Lib.hid (HBR.out.trans (bx.mono HBR.out.size))
        clear g2 g3 g4 g5 g6 s1 q1 q2 hce bx kx
        have o3 : IntKind.i64.wrap (u.t * r.2) = u.t * r.2 := by rw [IntKind.wrap_i64]; omega
        have o4 : IntKind.i64.wrap (u.t * r.1) = u.t * r.1 := by rw [IntKind.wrap_i64]; omega
        have o1 : IntKind.i64.wrap (be + u.t * r.2) = be + u.t * r.2 := by rw [IntKind.wrap_i64]; omega
        have o2 : IntKind.i64.wrap (be + u.t * r.1) = be + u.t * r.1 := by rw [IntKind.wrap_i64]; omega
        cases hA : decide (y < be + u.t * r.1)
        · cases hBB : decide (be + u.t * r.2 < y)
          · cases hm : u.m
            · rw [hm] at t4
              have HG := Lib.hid (show histAt P l ws k by
                rw [HAT.out]; rw [decide_eq_false_iff_not] at hA hBB
                exact ⟨by omega, by omega, fun h => by rw [hm] at h; cases h⟩)
              clear hm
              go_wp2_with fail
              go_quiet (fail)
              go_wp2_with fail
              go_quiet (fail)
              go_wp2
              go_roundw
              case rel => exact ⟨k + 1, hlt, by go_num, by rw [HNX.out], below_drewN HBX.out _, fun i hi => by
                by_cases hik : i = k
                · rw [hik]; exact HG.out
                · exact hh.out i (by omega)⟩
              case measure => simp [intOf]; omega
            · rw [hm] at t4
              cases hC : decide (y < u.lo)
              · cases hD : decide (u.hi < y)
                · have HG := Lib.hid (show histAt P l ws k by
                    rw [HAT.out]; rw [decide_eq_false_iff_not] at hA hBB hC hD
                    exact ⟨by omega, by omega, fun _ => ⟨by omega, by omega⟩⟩)
                  clear hm
                  go_wp2_with fail
                  go_quiet (fail)
                  go_wp2_with fail
                  go_quiet (fail)
                  go_wp2
                  go_roundw
                  case rel => exact ⟨k + 1, hlt, by go_num, by rw [HNX.out], below_drewN HBX.out _, fun i hi => by
                    by_cases hik : i = k
                    · rw [hik]; exact HG.out
                    · exact hh.out i (by omega)⟩
                  case measure => simp [intOf]; omega
                · have HR := Lib.hid (HNO.out (fun h => by have := h.2 k hlt; rw [HAT.out] at this; have := this.2.2 hm; rw [decide_eq_true_eq] at hD; omega))
                  clear hm
                  go_wp2_with fail
                  go_quiet (fail)
                  go_wp2_with fail
                  go_quiet (fail)
                  go_wp2
                  go_ret
                  exact ⟨ret_bool HR.out, below_drewN (below_drewN HBW.out _) _⟩
              · have HR := Lib.hid (HNO.out (fun h => by have := h.2 k hlt; rw [HAT.out] at this; have := this.2.2 hm; rw [decide_eq_true_eq] at hC; omega))
                clear hm
                go_wp2_with fail
                go_quiet (fail)
                go_wp2_with fail
                go_quiet (fail)
                go_wp2
                go_ret
                exact ⟨ret_bool HR.out, below_drewN (below_drewN HBW.out _) _⟩
          · have HR := Lib.hid (HNO.out (fun h => by have := h.2 k hlt; rw [HAT.out] at this; rw [decide_eq_true_eq] at hBB; omega))
            go_wp2_with fail
            go_quiet (fail)
            go_wp2
            go_ret
            exact ⟨ret_bool HR.out, below_drewN HBW.out _⟩
        · have HR := Lib.hid (HNO.out (fun h => by have := h.2 k hlt; rw [HAT.out] at this; rw [decide_eq_true_eq] at hA; omega))
          go_wp2_with fail
          go_quiet (fail)
          go_wp2
          go_ret
          exact ⟨ret_bool HR.out, below_drewN HBW.out _⟩
      · have HR := Lib.hid (HYES.out ⟨HLEN.out, fun i hi => hh.out i (by omega)⟩)
        go_wp2
        go_ret
        exact ⟨ret_bool HR.out.symm, HB.out.trans (hb.out.mono HB.out.size)⟩
  · have hlb : ((ws.length : Int) != (l.length : Int)) = true := by simp; omega
    have HR := Lib.hid (HNO.out (fun h => hlen h.1))
    clear hlen
    go_enter Try.func57, Try.ntmps57
    go_wp2
    go_ret
    exact ⟨ret_bool HR.out, HB.out⟩

end Go.Proofs.Ytkahhclmmlkpjaa
