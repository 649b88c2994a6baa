/- Walks of layer 2 (chain), parts: the specification's wear. -/
import Derived.Test.YtkahhclmmlkpjaaSb
import Derived.StillTailTactics
import Derived.RegionTactic
import Derived.ChangeAlike
namespace Go.Proofs.Ytkahhclmmlkpjaa
open Go.RowKit

/-- The answer of the specification's wear. -/
def RWearRes (P : Prt) (l : List Us) (w : World) (e : Ending) (w' : World) : Prop :=
  Below w.heap.size w w' ∧ ((reachN P l < l.length ∧ e = .returned (.tuple #[.slice none 0 0, .int .i64 3])) ∨
    (reachN P l = l.length ∧ ∃ v, e = .returned (.tuple #[v, .int .i64 0]) ∧ w'.ownsRow w.heap.size 37 2 v l.length ((wearL P l).flatMap spnL)))

theorem RWearRes.no {P : Prt} {l : List Us} {w w' : World} (hlt : reachN P l < l.length) (hb : Below w.heap.size w w') : RWearRes P l w (.returned (.tuple #[.slice none 0 0, .int .i64 3])) w' :=
  ⟨hb, .inl ⟨hlt, rfl⟩⟩

theorem RWearRes.yes {P : Prt} {l : List Us} {w w' : World} {v : Value} (hk : reachN P l = l.length) (h : w'.ownsRow w.heap.size 37 2 v l.length ((wearL P l).flatMap spnL)) (hb : Below w.heap.size w w') : RWearRes P l w (.returned (.tuple #[v, .int .i64 0])) w' :=
  ⟨hb, .inr ⟨hk, _, rfl, h⟩⟩

set_option maxRecDepth 100000 in
set_option maxHeartbeats 4000000 in
theorem rwear0_any (P : Prt) (l : List Us) (bv v : Value) (w : World) (hv : SpAt w bv P.rs) (hl : UsAt w v l) (hf : partM P l = 0) :
    Calls Try.prog 83 #[prtV P bv, v] w (RWearRes P l w) := by
  obtain ⟨hP, h40, hU⟩ := partM_ok hf
  have HU0 := Lib.hid hl
  have HV0 := Lib.hid hv
  have hb0 := (Below.refl w.heap.size w).alloc (Nat.le_refl _) (Obj.cells #[bv, .int .i64 P.wo, .int .i64 P.tu, .int .i64 P.ag] 54)
  have k0 := block_new w (Obj.cells #[bv, .int .i64 P.wo, .int .i64 P.tu, .int .i64 P.ag] 54) w.heap.size rfl
  have HV := Lib.hid (hv.below hb0 (Nat.le_refl _))
  have HU1 := Lib.hid (hl.below hb0 (Nat.le_refl _))
  obtain ⟨a, cap, rfl, hn, hcap, hc⟩ := hv
  have HRC := Lib.hid hc
  clear hc
  obtain ⟨ua, ucap, rfl, un, ucl, uc⟩ := hl
  have HUC := Lib.hid uc
  have HF := Lib.hid hf
  have HP := Lib.hid hP
  have HU := Lib.hid hU
  have HBD := Lib.hid (fun i (hi : i ≤ l.length) => rch_bd40 hP h40 hU hi)
  have HBK := Lib.hid (bkd_bd hP h40 hU)
  have HB := Lib.hid hb0
  have K0 := Lib.hid k0
  clear uc hf hP hU hb0 k0
  go_enter Try.func83, Try.ntmps83
  go_wp2_with fail
  generalize w.alloc (Obj.cells #[Value.slice a P.rs.length cap, .int .i64 P.wo, .int .i64 P.tu, .int .i64 P.ag] 54) = wA at *
  have hce := block_cell K0.out
  go_wp2_with fail
  refine (rforward_any P l _ _ _ HV.out HU1.out HF.out).mono ?_
  rintro e w1 ⟨hb1, ⟨hr, rfl⟩ | ⟨hr, v1, rfl, ho⟩⟩
  · have HR := Lib.hid hr
    have hrn : (0 : Int) ≤ (reachN P l : Int) := by omega
    clear hr
    go_wp2
    go_ret2
    exact RWearRes.no HR.out (HB.out.trans (hb1.mono HB.out.size))
  · have HR := Lib.hid hr
    clear hr hce
    have kP := (hb1.block _ (lt_of_block K0.out)).trans K0.out
    have KP := Lib.hid kP
    have HB1 := Lib.hid hb1
    clear kP hb1
    by_cases hl1 : l.length ≤ 1
    · have HO := Lib.hid (show w1.ownsRow w.heap.size 37 2 v1 l.length ((wearL P l).flatMap spnL) by
        rw [← lbL_end (P := P) (l := l) (k := 0) (by omega), lbL_start]; exact ownsRow_mono ho HB.out.size)
      obtain ⟨a2, c2, rfl, hab⟩ := ownsRow_shape ho
      clear ho hab
      go_wp2_with fail
      go_loopw [8] (fun i wr => i = .int .i64 ((l.length : Int) - 2) ∧ wr = w1) (fun _ _ => 0)
      case atStart => exact ⟨rfl, rfl⟩
      case round =>
        obtain ⟨rfl, rfl⟩ := hrel
        go_wp2
        go_ret2
        exact RWearRes.yes HR.out HO.out (HB.out.trans (HB1.out.mono HB.out.size))
    · obtain ⟨g, gc, rfl⟩ : ∃ g gc, v1 = .slice (some ⟨g, 0, none⟩) l.length gc := by
        rcases ho.2 with ⟨_, h⟩ | ⟨g, gc, _, h, _⟩
        · omega
        · exact ⟨g, gc, h⟩
      obtain ⟨hg, hbase, hgn, hcp, _⟩ := SpRow.of_own ho
      have hgz : g < w1.heap.size := by obtain ⟨_, h1, _⟩ := hg; exact lt_of_block h1
      have R0 := Lib.hid (show SpRow w1 g gc (lbL P l 0) by rw [lbL_start]; exact hg)
      have hszA : wA.heap.size ≤ w1.heap.size := HB1.out.size
      have hszw : w.heap.size < wA.heap.size := lt_of_block K0.out
      unfold maxLen at hcp
      clear ho hg
      go_wp2_with fail
      go_loopw [8] (fun i wr => ∃ k : Nat, k + 1 ≤ l.length ∧ i = .int .i64 ((l.length : Int) - 2 - k) ∧ Hid (Below wA.heap.size wA wr) ∧ Hid (wr.heap[w.heap.size]? = some (Obj.cells #[Value.slice a P.rs.length cap, .int .i64 P.wo, .int .i64 P.tu, .int .i64 P.ag] 54)) ∧ Hid (SpRow wr g gc (lbL P l k))) (fun i _ => (intOf i + 1).toNat)
      case atStart => exact ⟨0, by omega, by simp, HB1.out, KP.out, R0.out⟩
      case round =>
        obtain ⟨k, hk, rfl, hb, hK, hR⟩ := hrel
        by_cases hlt : k + 1 < l.length
        · obtain ⟨j, hj⟩ : ∃ j : Nat, l.length = j + 2 + k := ⟨l.length - 2 - k, by omega⟩
          have hE : (l.length : Int) - 2 - k = (j : Int) := by omega
          obtain ⟨b, off, rfl, hbl, hc⟩ := HUC.out (by omega)
          have HBR := Lib.hid (HB.out.trans (hb.out.mono HB.out.size))
          obtain ⟨_, g2, g3, _, _, _⟩ := us_at HBR.out hbl hc (k := j + 1) (by omega)
          obtain ⟨s1, s2⟩ := hR.out.cell (lbL_at P l k (i := j + 1) (by omega))
          obtain ⟨s3, s4⟩ := hR.out.cell (lbL_at P l k (i := j) (by omega))
          have hu := HU.out (j + 1) (by omega)
          have ha := add_ok HP.out hu
          have e1 : (if l.length ≤ j + 1 + 1 + k then wearAt P l (j + 1) else rch P l (j + 1 + 1)) = bkd P l k := by
            rw [if_pos (by omega)]; unfold wearAt; rw [show l.length - 1 - (j + 1) = k by omega]
          have e2 : (if l.length ≤ j + 1 + k then wearAt P l j else rch P l (j + 1)) = rch P l (l.length - 1 - k) := by
            rw [if_neg (by omega), show l.length - 1 - k = j + 1 by omega]
          rw [e1] at s1 s2
          rw [e2] at s3 s4
          have hbk := HBK.out k (by omega)
          have hrc := HBD.out (l.length - 1 - k) (by omega)
          have HST := Lib.hid (lbL_step (P := P) (l := l) (k := k) (by omega))
          have e3 : l.length - 1 - k = j + 1 := by omega
          have e4 : l.length - 2 - k = j := by omega
          rw [e3] at s3 s4 hrc HST
          rw [e4] at HST
          have hc0 := block_cell hK.out
          have z0 := lt_of_block hK.out
          have zb : b < wr.heap.size := by have := HBR.out.size; omega
          have zg : g < wr.heap.size := by have := hb.out.size; obtain ⟨_, h1, _⟩ := hR.out; exact lt_of_block h1
          have f3 := hR.out.free (j * 2)
          have f4 := hR.out.free (j * 2 + 1)
          obtain ⟨r1, r2, r3⟩ := rateOf_ok HP.out hu
          have cc0 := hu.c0
          have cc1 := hu.c1
          have ut0 := hu.t0
          have ut1 := hu.t1
          obtain ⟨rb, ro, rfl, rbl, rcc⟩ := HRC.out (by omega)
          clear e1 e2 e3 e4 hc hu
          generalize bkd P l k = y at *
          generalize rch P l (j + 1) = x at *
          generalize hq0 : l.getD (j + 1) Us.zero = u at *
          clear hq0
          obtain ⟨c, hcn⟩ : ∃ c : Nat, u.c = c := ⟨u.c.toNat, by omega⟩
          obtain ⟨q1, q2⟩ := sp_at HBR.out rbl rcc (k := c) (by omega)
          have er : P.rs.getD c Spn.zero = rateOf P u := by unfold rateOf; rw [hcn]; rfl
          have ml := mulc ut0 ut1 r1 (by omega)
          have mh := mulc ut0 ut1 (by omega : 0 ≤ (rateOf P u).2) r3
          rw [er] at q1 q2
          rw [hcn] at g3 cc0 cc1
          have HL := Lib.hid (show u.t * (rateOf P u).1 = addL P u from rfl)
          have HH := Lib.hid (show u.t * (rateOf P u).2 = addH P u from rfl)
          rw [← HL.out, ← HH.out] at ha
          rw [← HL.out, ← HH.out] at HST
          have HJ := Lib.hid hj
          have zr : rb < wr.heap.size := by have := HBR.out.size; omega
          clear hj rcc er hcn
          generalize rateOf P u = r at *
          generalize u.t = t at *
          have j1 : (0 : Int) ≤ (j : Int) := by omega
          have j2 : (j : Int) < l.length := by have := HJ.out; omega
          have j3 : (0 : Int) ≤ (j : Int) + 1 := by omega
          have j4 : (j : Int) + 1 < l.length := by have := HJ.out; omega
          have j5 : ((j : Int) + 1).toNat = j + 1 := by omega
          have j6 : IntKind.i64.wrap ((j : Int) + 1) = (j : Int) + 1 := by rw [IntKind.wrap_i64]; omega
          rw [hE]
          go_wp2_with fail
          go_region
          have bx : Below wr.heap.size wr (wr.alloc (Obj.cells #[.int .i64 r.1, .int .i64 r.2] 37)).drew := ((Below.refl _ _).alloc (Nat.le_refl _) _).drew
          have kx : (wr.alloc (Obj.cells #[.int .i64 r.1, .int .i64 r.2] 37)).drew.heap[wr.heap.size]? = some (Obj.cells #[.int .i64 r.1, .int .i64 r.2] 37) := block_new wr _ _ rfl
          generalize (wr.alloc (Obj.cells #[.int .i64 r.1, .int .i64 r.2] 37)).drew = wx at *
          have t1 := (bx.cell zg).trans s1
          have t2 := (bx.cell zg).trans s2
          have t3 := (bx.cell zg).trans s3
          have t4 := (bx.cell zg).trans s4
          have t5 := (bx.cell zb).trans g2
          have v3 := (bx.frozen (p := ⟨g, j * 2, none⟩) zg).trans f3
          have v4 := (bx.frozen (p := ⟨g, j * 2 + 1, none⟩) zg).trans f4
          have cx := block_cell kx
          have zx := lt_of_block kx
          have T2 := Lib.hid t2
          have T4 := Lib.hid t4
          have T5 := Lib.hid t5
          have V4 := Lib.hid v4
          have HRX := Lib.hid (hR.out.later bx)
          have BX := Lib.hid bx
          have KX := Lib.hid kx
          have zgx : g < wx.heap.size := Nat.lt_of_lt_of_le zg bx.size
          have zbx : b < wx.heap.size := Nat.lt_of_lt_of_le zb bx.size
          have o1 : IntKind.i64.wrap (y.1 - t * r.2) = y.1 - t * r.2 := by rw [IntKind.wrap_i64]; omega
          have o2 : IntKind.i64.wrap (y.2 - t * r.1) = y.2 - t * r.1 := by rw [IntKind.wrap_i64]; omega
          have o3 : IntKind.i64.wrap (t * r.2) = t * r.2 := by rw [IntKind.wrap_i64]; omega
          have o4 : IntKind.i64.wrap (t * r.1) = t * r.1 := by rw [IntKind.wrap_i64]; omega
          clear s1 s2 s3 s4 g2 g3 f3 f4 q1 q2 hc0 bx kx t2 t4 v4
          go_wp2_with fail
          refine wp_region_still_tail 26 (by kernel_rfl) (by kernel_rfl) ?_
          change wpStill _ _ (World.drew _) (fun a' => wpList _ _ _ _ a' (World.drew _)) _ _
          simp only [List.take_succ_cons, List.take_zero, List.drop_succ_cons, List.drop_zero]
          repeat still_step
          refine wpStill_nil ?_
          go_wp2_with fail
          · have hmx : y.1 - t * r.2 = max x.1 (y.1 - t * r.2) := by omega
            have by_ : Below g wx (wx.setCell ⟨g, j * 2, none⟩ (.int .i64 (y.1 - t * r.2))).drew := ((Below.refl g wx).setCell (p := ⟨g, j * 2, none⟩) (Nat.le_refl _) _).drew
            have n2 : (⟨g, j * 2, none⟩ : Addr) ≠ ⟨g, (j + 1) * 2 + 1, none⟩ := by intro h; injection h with _ h _; omega
            have n4 : (⟨g, j * 2, none⟩ : Addr) ≠ ⟨g, j * 2 + 1, none⟩ := by intro h; injection h with _ h _; omega
            have t2 : (wx.setCell ⟨g, j * 2, none⟩ (.int .i64 (y.1 - t * r.2))).drew.cell? ⟨g, (j + 1) * 2 + 1, none⟩ = some (.int .i64 y.2) := (World.cell?_setCell_other _ _ _ _ n2).trans T2.out
            have t4 : (wx.setCell ⟨g, j * 2, none⟩ (.int .i64 (y.1 - t * r.2))).drew.cell? ⟨g, j * 2 + 1, none⟩ = some (.int .i64 x.2) := (World.cell?_setCell_other _ _ _ _ n4).trans T4.out
            have t5 : (wx.setCell ⟨g, j * 2, none⟩ (.int .i64 (y.1 - t * r.2))).drew.cell? ⟨b, off + (j + 1) * 6 + 1, none⟩ = some (.int .i64 t) := (World.cell?_setCell_other _ _ _ _ (by intro h; injection h with h _ _; omega)).trans T5.out
            have v4 : (wx.setCell ⟨g, j * 2, none⟩ (.int .i64 (y.1 - t * r.2))).drew.frozen? ⟨g, j * 2 + 1, none⟩ = false := (World.frozen?_setCell _ _ _ _).trans V4.out
            have ky : (wx.setCell ⟨g, j * 2, none⟩ (.int .i64 (y.1 - t * r.2))).drew.heap[wr.heap.size]? = some (Obj.cells #[.int .i64 r.1, .int .i64 r.2] 37) := block_set_other KX.out (by show wr.heap.size ≠ g; omega) _
            have zy : (wx.setCell ⟨g, j * 2, none⟩ (.int .i64 (y.1 - t * r.2))).drew.heap.size = wx.heap.size := by simp
            have HSR := Lib.hid (fun (v : Int) (hv : v = min x.2 (y.2 - t * r.1)) => show SpRow ((wx.setCell ⟨g, j * 2, none⟩ (.int .i64 (y.1 - t * r.2))).drew.setCell ⟨g, j * 2 + 1, none⟩ (.int .i64 v)).drew g gc (lbL P l (k + 1)) by
              have h := HRX.out.set (i := j) (by rw [lbL_len]; omega) (common x (y.1 - t * r.2, y.2 - t * r.1))
              rw [← HST.out] at h
              simp only [common] at h
              rw [← hmx, ← hv] at h
              exact h)
            clear n2 n4
            generalize (wx.setCell ⟨g, j * 2, none⟩ (.int .i64 (y.1 - t * r.2))).drew = wy at *
            have cy := block_cell ky
            have zgy : g < wy.heap.size := by omega
            have zby : b < wy.heap.size := by omega
            have zky := lt_of_block ky
            have BY := Lib.hid by_
            have ZY := Lib.hid zy
            have HS1 := Lib.hid (fun (v : Int) => (((hb.out.trans (BX.out.mono hb.out.size)).trans (by_.mono hbase)).setCell (p := ⟨g, j * 2 + 1, none⟩) hbase (.int .i64 v)).drew)
            have HS2 := Lib.hid (fun (v : Int) => show (wy.setCell ⟨g, j * 2 + 1, none⟩ (.int .i64 v)).drew.heap[w.heap.size]? = some (Obj.cells #[Value.slice (some ⟨rb, ro, none⟩) P.rs.length cap, .int .i64 P.wo, .int .i64 P.tu, .int .i64 P.ag] 54) from block_set_other (((by_.block _ (by omega)).trans (BX.out.block _ z0)).trans hK.out) (by show w.heap.size ≠ g; omega) _)
            clear by_ ky zy t1 t3 v3 cx hmx
            go_wp2_with fail
            refine wp_region_still_tail 26 (by kernel_rfl) (by kernel_rfl) ?_
            change wpStill _ _ (World.drew _) (fun a' => wpList _ _ _ _ a' (World.drew _)) _ _
            simp only [List.take_succ_cons, List.take_zero, List.drop_succ_cons, List.drop_zero]
            repeat still_step
            refine wpStill_nil ?_
            go_wp2
            all_goals
              go_roundw
              case rel => exact ⟨k + 1, by omega, by have := HJ.out; refine congrArg (Value.int .i64) ?_; omega, HS1.out _, HS2.out _, HSR.out _ (by omega)⟩
              case measure => simp [intOf] <;> omega
          · have hmx : x.1 = max x.1 (y.1 - t * r.2) := by omega
            have by_ : Below g wx (wx.setCell ⟨g, j * 2, none⟩ (.int .i64 (x.1))).drew := ((Below.refl g wx).setCell (p := ⟨g, j * 2, none⟩) (Nat.le_refl _) _).drew
            have n2 : (⟨g, j * 2, none⟩ : Addr) ≠ ⟨g, (j + 1) * 2 + 1, none⟩ := by intro h; injection h with _ h _; omega
            have n4 : (⟨g, j * 2, none⟩ : Addr) ≠ ⟨g, j * 2 + 1, none⟩ := by intro h; injection h with _ h _; omega
            have t2 : (wx.setCell ⟨g, j * 2, none⟩ (.int .i64 (x.1))).drew.cell? ⟨g, (j + 1) * 2 + 1, none⟩ = some (.int .i64 y.2) := (World.cell?_setCell_other _ _ _ _ n2).trans T2.out
            have t4 : (wx.setCell ⟨g, j * 2, none⟩ (.int .i64 (x.1))).drew.cell? ⟨g, j * 2 + 1, none⟩ = some (.int .i64 x.2) := (World.cell?_setCell_other _ _ _ _ n4).trans T4.out
            have t5 : (wx.setCell ⟨g, j * 2, none⟩ (.int .i64 (x.1))).drew.cell? ⟨b, off + (j + 1) * 6 + 1, none⟩ = some (.int .i64 t) := (World.cell?_setCell_other _ _ _ _ (by intro h; injection h with h _ _; omega)).trans T5.out
            have v4 : (wx.setCell ⟨g, j * 2, none⟩ (.int .i64 (x.1))).drew.frozen? ⟨g, j * 2 + 1, none⟩ = false := (World.frozen?_setCell _ _ _ _).trans V4.out
            have ky : (wx.setCell ⟨g, j * 2, none⟩ (.int .i64 (x.1))).drew.heap[wr.heap.size]? = some (Obj.cells #[.int .i64 r.1, .int .i64 r.2] 37) := block_set_other KX.out (by show wr.heap.size ≠ g; omega) _
            have zy : (wx.setCell ⟨g, j * 2, none⟩ (.int .i64 (x.1))).drew.heap.size = wx.heap.size := by simp
            have HSR := Lib.hid (fun (v : Int) (hv : v = min x.2 (y.2 - t * r.1)) => show SpRow ((wx.setCell ⟨g, j * 2, none⟩ (.int .i64 (x.1))).drew.setCell ⟨g, j * 2 + 1, none⟩ (.int .i64 v)).drew g gc (lbL P l (k + 1)) by
              have h := HRX.out.set (i := j) (by rw [lbL_len]; omega) (common x (y.1 - t * r.2, y.2 - t * r.1))
              rw [← HST.out] at h
              simp only [common] at h
              rw [← hmx, ← hv] at h
              exact h)
            clear n2 n4
            generalize (wx.setCell ⟨g, j * 2, none⟩ (.int .i64 (x.1))).drew = wy at *
            have cy := block_cell ky
            have zgy : g < wy.heap.size := by omega
            have zby : b < wy.heap.size := by omega
            have zky := lt_of_block ky
            have BY := Lib.hid by_
            have ZY := Lib.hid zy
            have HS1 := Lib.hid (fun (v : Int) => (((hb.out.trans (BX.out.mono hb.out.size)).trans (by_.mono hbase)).setCell (p := ⟨g, j * 2 + 1, none⟩) hbase (.int .i64 v)).drew)
            have HS2 := Lib.hid (fun (v : Int) => show (wy.setCell ⟨g, j * 2 + 1, none⟩ (.int .i64 v)).drew.heap[w.heap.size]? = some (Obj.cells #[Value.slice (some ⟨rb, ro, none⟩) P.rs.length cap, .int .i64 P.wo, .int .i64 P.tu, .int .i64 P.ag] 54) from block_set_other (((by_.block _ (by omega)).trans (BX.out.block _ z0)).trans hK.out) (by show w.heap.size ≠ g; omega) _)
            clear by_ ky zy t1 t3 v3 cx hmx
            go_wp2_with fail
            refine wp_region_still_tail 26 (by kernel_rfl) (by kernel_rfl) ?_
            change wpStill _ _ (World.drew _) (fun a' => wpList _ _ _ _ a' (World.drew _)) _ _
            simp only [List.take_succ_cons, List.take_zero, List.drop_succ_cons, List.drop_zero]
            repeat still_step
            refine wpStill_nil ?_
            go_wp2
            all_goals
              go_roundw
              case rel => exact ⟨k + 1, by omega, by have := HJ.out; refine congrArg (Value.int .i64) ?_; omega, HS1.out _, HS2.out _, HSR.out _ (by omega)⟩
              case measure => simp [intOf] <;> omega
        · have hE : (l.length : Int) - 2 - k = -1 := by omega
          rw [hE]
          have HO := Lib.hid (show wr.ownsRow w.heap.size 37 2 (.slice (some ⟨g, 0, none⟩) l.length gc) l.length ((wearL P l).flatMap spnL) by
            have h := hR.out
            rw [lbL_end (by omega)] at h
            exact h.own (by omega) hgn (by unfold maxLen; omega) (wearL_len P l))
          go_wp2
          go_ret2
          exact RWearRes.yes HR.out HO.out (HB.out.trans (hb.out.mono HB.out.size))

end Go.Proofs.Ytkahhclmmlkpjaa
