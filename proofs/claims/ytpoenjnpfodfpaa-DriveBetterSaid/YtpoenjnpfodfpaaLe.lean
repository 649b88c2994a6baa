/- DriveBetter, the walk. -/
import Derived.Test.YtpoenjnpfodfpaaHt
import Derived.Test.YtpoenjnpfodfpaaLf
import Derived.BigGuardPart
import Derived.RegionTactic
import Derived.Deep.DeepCutAuto
import Derived.Laws.AppendOwnNone
import Derived.Deep.Slices
namespace Go.Proofs.Ytpoenjnpfodfpaa
open Go.RowKit Go.WideShapes

theorem infoBrake : (Try.prog.info? 65).map (fun i => (i.zero, i.size, i.bytes)) = some (some (.agg #[.int .i64 0, .int .i64 0]), 2, 16) := by kernel_rfl

/-- append of a nil slice, whatever capacity it bears. -/
theorem append_nilc {P : Program} {w : World} {ops : Array Oper} {rest : List Oper} {o : Oper} {a : Act} {Q : Exit → Act → World → Prop} (hgd : o.guard = none) (s x : Operand) (t : TypeId)
    (ho : o.op = .call { callee := .builtin .append, args := #[s, x], argTypes := #[t, t] })
    (base : Nat) (e : TypeId) (i : TypeInfo) (size : Nat) (ht : P.underlying t = some (.slice e)) (hi : P.info? e = some i)
    (v : Value) (n : Nat) (xs : List Value) (m c : Nat) (hm : m = 0) (hs : a.eval s = v) (hown : w.ownsRow base e size v n xs) (hx : a.eval x = .slice none m c)
    (h : wpList P ops Q rest (a.put o.dst v) w) : wpList P ops Q (o :: rest) a w := by
  subst hm
  refine wpList_plain hgd fun K hK => ?_
  have hrun : (Builtin.append_ #[t, t] o.type #[v, .slice none 0 c]).run P w = .ok v w := by
    rcases hown.2 with ⟨rfl, rfl⟩ | ⟨g, cap, cur, rfl, _, _, hnc, _⟩
    · simp [Builtin.append_, run_underlying ht, sizeOf, typeInfo, hi, Builtin.lenOf, Builtin.firstCells]
    · simp [Builtin.append_, run_underlying ht, sizeOf, typeInfo, hi, Builtin.lenOf, Builtin.firstCells, hnc, storeCells]
  unfold Oper.wp
  simp [execOp, ho, resolve, invoke, builtin, hs, hx, hrun, Result.andThen]
  exact hK _ _ h

/-- The cells of brakes that came in, as a row to be appended. -/
theorem BrAt.news {w : World} {b off n cap : Nat} {bs : List (Int × Int)} (h : BrAt w (.slice (some ⟨b, off, none⟩) n cap) bs) (_hp : 0 < bs.length) : ∀ j u, (brL bs)[j]? = some u → w.cell? ((⟨b, off, none⟩ : Addr).add j) = some u := by
  obtain ⟨a', cap', e, _, _, hc⟩ := h
  injection e with e1 e2 e3
  obtain ⟨b', off', e4, _, hc⟩ := hc _hp
  rw [← e1] at e4
  injection e4 with e4
  injection e4 with e5 e6
  subst e5 e6
  intro j u hj
  have hlt : j < (brL bs).length := (List.getElem?_eq_some_iff.1 hj).1
  rw [brL_len] at hlt
  rw [add_plain]
  rcases Nat.mod_two_eq_zero_or_one j with hm | hm
  · have ej : j = j / 2 * 2 := by omega
    rw [ej] at hj ⊢
    rw [brL_even bs (j / 2) (by omega)] at hj
    rw [(hc (j / 2) (by omega)).1, hj]
  · have ej : j = j / 2 * 2 + 1 := by omega
    rw [ej] at hj ⊢
    rw [brL_odd bs (j / 2) (by omega)] at hj
    rw [← Nat.add_assoc, (hc (j / 2) (by omega)).2, hj]

theorem brL_one (bs : List (Int × Int)) : ∀ u ∈ brL bs, u.oneCell' = true := by
  induction bs with
  | nil => intro u hu; cases hu
  | cons b bs ih =>
    intro u hu
    simp only [brL, List.mem_cons] at hu
    rcases hu with rfl | rfl | hu
    · rfl
    · rfl
    · exact ih u hu

/-- The state of the better stop in memory: the escalator (its brakes bs in a row of the call's own), the stop. -/
def BetSt (E : Esc) (bs : List (Int × Int)) (py pt base : Nat) (a2 : Option Addr) (c2 : Nat) (wB : World) (w : World) (S : Stp) : Prop :=
  w.heap[py]? = some (.cells #[.bool E.up, .int .i64 E.em, .int .i64 E.pu, .int .i64 E.dr, .int .i64 E.mo, .slice a2 E.bs.length c2] 24 (0, 0)) ∧
  w.heap[pt]? = some (.cells #[.int .i64 S.sp, .int .i64 S.lo, .int .i64 S.hi, .int .i64 S.fa] 38 (0, 0)) ∧
  w.ownsRow base 65 2 (.slice a2 E.bs.length c2) E.bs.length (brL bs) ∧ Below wB.heap.size wB w

theorem BetSt.set {E : Esc} {bs : List (Int × Int)} {py pt base : Nat} {a2 : Option Addr} {c2 : Nat} {wB w : World} {S : Stp} (h : BetSt E bs py pt base a2 c2 wB w S) (hne : py ≠ pt) (hb : pt < base) (hB : wB.heap.size ≤ pt) (o : Nat) (x : Int) (S' : Stp)
    (hS : (#[.int .i64 S.sp, .int .i64 S.lo, .int .i64 S.hi, .int .i64 S.fa] : Array Value).setIfInBounds o (.int .i64 x) = #[.int .i64 S'.sp, .int .i64 S'.lo, .int .i64 S'.hi, .int .i64 S'.fa]) : BetSt E bs py pt base a2 c2 wB (w.setCell ⟨pt, o, none⟩ (.int .i64 x)) S' := by
  obtain ⟨h1, h2, h3, h4⟩ := h
  refine ⟨block_set_other h1 (p := ⟨pt, o, none⟩) hne _, ?_, ownsRow_setCell h3 hb _, h4.setCell (p := ⟨pt, o, none⟩) hB _⟩
  rw [← hS]
  exact block_set h2 o _

set_option maxRecDepth 100000 in
set_option maxHeartbeats 8000000 in
theorem better_main (E : Esc) (v : Value) (S : Stp) (X : Bet) (w : World) (hv : BrAt w v E.bs) (hf : checkStopM E S = 0) (hr : pathM E S true (restN E S true) = 0) :
    Calls Try.prog 11 #[escV E v, stpV S, betV X] w fun e w' => e = .returned (.bool true) ∧ Below w.heap.size w w' := by
  have HV0 := Lib.hid hv
  have hbA := (((Below.refl w.heap.size w).alloc (Nat.le_refl _) (Obj.cells #[.bool E.up, .int .i64 E.em, .int .i64 E.pu, .int .i64 E.dr, .int .i64 E.mo, v] 24)).alloc (by simp) (Obj.cells #[.int .i64 S.sp, .int .i64 S.lo, .int .i64 S.hi, .int .i64 S.fa] 38)).alloc (by simp; omega) (Obj.cells #[.int .i64 X.br, .int .i64 X.fo, .int .i64 X.de, .int .i64 X.me, .int .i64 X.sl, .int .i64 X.lo, .int .i64 X.hi] 68)
  have k1 := block_alloc (block_alloc (block_new w (Obj.cells #[.bool E.up, .int .i64 E.em, .int .i64 E.pu, .int .i64 E.dr, .int .i64 E.mo, v] 24) w.heap.size rfl) (Obj.cells #[.int .i64 S.sp, .int .i64 S.lo, .int .i64 S.hi, .int .i64 S.fa] 38)) (Obj.cells #[.int .i64 X.br, .int .i64 X.fo, .int .i64 X.de, .int .i64 X.me, .int .i64 X.sl, .int .i64 X.lo, .int .i64 X.hi] 68)
  have k2 := block_alloc (block_new (w.alloc (Obj.cells #[.bool E.up, .int .i64 E.em, .int .i64 E.pu, .int .i64 E.dr, .int .i64 E.mo, v] 24)) (Obj.cells #[.int .i64 S.sp, .int .i64 S.lo, .int .i64 S.hi, .int .i64 S.fa] 38) (w.heap.size + 1) (by simp only [size_alloc])) (Obj.cells #[.int .i64 X.br, .int .i64 X.fo, .int .i64 X.de, .int .i64 X.me, .int .i64 X.sl, .int .i64 X.lo, .int .i64 X.hi] 68)
  have k3 := block_new ((w.alloc (Obj.cells #[.bool E.up, .int .i64 E.em, .int .i64 E.pu, .int .i64 E.dr, .int .i64 E.mo, v] 24)).alloc (Obj.cells #[.int .i64 S.sp, .int .i64 S.lo, .int .i64 S.hi, .int .i64 S.fa] 38)) (Obj.cells #[.int .i64 X.br, .int .i64 X.fo, .int .i64 X.de, .int .i64 X.me, .int .i64 X.sl, .int .i64 X.lo, .int .i64 X.hi] 68) (w.heap.size + 1 + 1) (by simp only [size_alloc])
  have hsz : (((w.alloc (Obj.cells #[.bool E.up, .int .i64 E.em, .int .i64 E.pu, .int .i64 E.dr, .int .i64 E.mo, v] 24)).alloc (Obj.cells #[.int .i64 S.sp, .int .i64 S.lo, .int .i64 S.hi, .int .i64 S.fa] 38)).alloc (Obj.cells #[.int .i64 X.br, .int .i64 X.fo, .int .i64 X.de, .int .i64 X.me, .int .i64 X.sl, .int .i64 X.lo, .int .i64 X.hi] 68)).heap.size = w.heap.size + 3 := by simp only [size_alloc]
  have hv1 := hv.below hbA (Nat.le_refl _)
  obtain ⟨a, cap, rfl, hn, hcap, hc⟩ := hv
  clear hc
  have Hfar := Lib.hid (far_no hf)
  have HD : Hid (∃ A B C D, distM E S = ⟨A, B, C, D, 0⟩ ∧ B = wayTo E S true (restN E S true)) := by unfold distM; rw [if_pos hf, if_pos hr]; exact ⟨_, _, _, _, rfl, rfl⟩
  have Hf := Lib.hid hf
  have Hr := Lib.hid hr
  have HBS := Lib.hid (better_says hf hr X)
  clear hf hr
  go_enter Try.func11, Try.ntmps11
  go_wp2_with fail
  generalize (((w.alloc (Obj.cells #[.bool E.up, .int .i64 E.em, .int .i64 E.pu, .int .i64 E.dr, .int .i64 E.mo, .slice a E.bs.length cap] 24)).alloc (Obj.cells #[.int .i64 S.sp, .int .i64 S.lo, .int .i64 S.hi, .int .i64 S.fa] 38)).alloc (Obj.cells #[.int .i64 X.br, .int .i64 X.fo, .int .i64 X.de, .int .i64 X.me, .int .i64 X.sl, .int .i64 X.lo, .int .i64 X.hi] 68)) = wA at *
  have HSZ := Lib.hid hsz
  have HV := Lib.hid hv1
  have K1 := Lib.hid k1
  have K2 := Lib.hid k2
  have K3 := Lib.hid k3
  clear hsz hv1 k1 k2 k3
  refine (far_any _ _ _ HV.out).mono ?_
  rintro e w1 ⟨rfl, hb1⟩
  rw [Hfar.out]
  have c1 := block_cell ((hb1.block w.heap.size (by have := HSZ.out; omega)).trans K1.out)
  have c2 := block_cell ((hb1.block (w.heap.size + 1) (by have := HSZ.out; omega)).trans K2.out)
  have c3 := block_cell ((hb1.block (w.heap.size + 1 + 1) (by have := HSZ.out; omega)).trans K3.out)
  go_wp2_with fail
  refine (rcheckStop_any E S _ _ (HV.out.below hb1 (Nat.le_refl _))).mono ?_
  rintro e w2 ⟨rfl, hb2⟩
  rw [Hf.out]
  have hb12 := hb1.trans (hb2.mono hb1.size)
  clear c1 c2 c3
  have c1 := block_cell ((hb12.block w.heap.size (by have := HSZ.out; omega)).trans K1.out)
  have c2 := block_cell ((hb12.block (w.heap.size + 1) (by have := HSZ.out; omega)).trans K2.out)
  have c3 := block_cell ((hb12.block (w.heap.size + 1 + 1) (by have := HSZ.out; omega)).trans K3.out)
  go_wp2_with fail
  obtain ⟨DA, DB, DC, DE, hd, hDB⟩ := HD.out
  refine (distance_any E S _ _ (HV.out.below hb12 (Nat.le_refl _))).mono ?_
  rintro e w4 ⟨rfl, hb4⟩
  rw [hd]
  unfold distV
  have hb14 := hb12.trans (hb4.mono hb12.size)
  clear c1 c2 c3
  have c1 := block_cell ((hb14.block w.heap.size (by have := HSZ.out; omega)).trans K1.out)
  have c2 := block_cell ((hb14.block (w.heap.size + 1) (by have := HSZ.out; omega)).trans K2.out)
  have c3 := block_cell ((hb14.block (w.heap.size + 1 + 1) (by have := HSZ.out; omega)).trans K3.out)
  have z1 : w.heap.size < w4.heap.size := by have := HSZ.out; have := hb14.size; omega
  have z2 : w.heap.size + 1 < w4.heap.size := by have := HSZ.out; have := hb14.size; omega
  have z3 : w.heap.size + 1 + 1 < w4.heap.size := by have := HSZ.out; have := hb14.size; omega
  have Hd := Lib.hid hd
  have HDB := Lib.hid hDB
  clear hd hDB
  go_upto_region 6 with fail
  have hbw4 := hbA.trans (hb14.mono hbA.size)
  have hbB := (hb14.alloc (by have := hb14.size; omega) (Obj.cells #[.int .i64 DA, .int .i64 DB] 36)).alloc (by have := hb14.size; simp; omega) (Obj.cells #[.int .i64 DC, .int .i64 DE] 36)
  have kW := block_alloc (block_new w4 (Obj.cells #[.int .i64 DA, .int .i64 DB] 36) w4.heap.size rfl) (Obj.cells #[.int .i64 DC, .int .i64 DE] 36)
  have kE := (hbB.block _ (lt_of_block K1.out)).trans K1.out
  have kS := (hbB.block _ (lt_of_block K2.out)).trans K2.out
  have kX := (hbB.block _ (lt_of_block K3.out)).trans K3.out
  generalize (w4.alloc (Obj.cells #[.int .i64 DA, .int .i64 DB] 36)).alloc (Obj.cells #[.int .i64 DC, .int .i64 DE] 36) = wB at *
  have KW := Lib.hid kW
  have KE := Lib.hid kE
  have KS := Lib.hid kS
  have KX := Lib.hid kX
  have hbwB := hbA.trans (hbB.mono hbA.size)
  clear c1 c2 c3 z1 z2 z3 hb1 hb2 hb12 hb4 hb14 kW hbw4 kX
  have c1 := block_cell kE
  have c2 := block_cell kS
  have z1 := lt_of_block kE
  have z2 := lt_of_block kS
  clear kE kS
  go_cut [10, 11] (fun s10 s11 wx => ∃ py pt : Nat, s10 = .pointer (some ⟨py, 0, none⟩) ∧ s11 = .pointer (some ⟨pt, 0, none⟩) ∧ wB.heap.size ≤ py ∧ wB.heap.size ≤ pt ∧ py ≠ pt ∧
    Hid (wx.heap[py]? = some (.cells #[.bool E.up, .int .i64 E.em, .int .i64 E.pu, .int .i64 E.dr, .int .i64 E.mo, .slice a E.bs.length cap] 24 (0, 0))) ∧ Hid (wx.heap[pt]? = some (.cells #[.int .i64 S.sp, .int .i64 S.lo, .int .i64 S.hi, .int .i64 S.fa] 38 (0, 0))) ∧ Below wB.heap.size wB wx)
  case first => as_aux_lemma =>
    go_region
    all_goals
      go_wp2_with fail
      go_meet
      first
        | exact ⟨_, _, rfl, rfl, by omega, by omega, by omega, block_alloc (block_new wB _ wB.heap.size rfl) _, block_new _ _ _ (by simp only [size_alloc]), Below.drew (((Below.refl _ _).alloc (Nat.le_refl _) _).alloc (by simp) _)⟩
        | exact ⟨_, _, rfl, rfl, by omega, by omega, by omega, block_new _ _ _ (by simp only [size_alloc]), block_alloc (block_new wB _ wB.heap.size rfl) _, Below.drew (((Below.refl _ _).alloc (Nat.le_refl _) _).alloc (by simp) _)⟩
  case rest => as_aux_lemma =>
    obtain ⟨py, pt, rfl, rfl, l1, l2, hne, hpy, hpt, hbx⟩ := hcut
    obtain ⟨wx, hwx⟩ : ∃ wx : World, wx = wc := ⟨_, rfl⟩
    subst hwx
    obtain ⟨i0, hi, hz0, hz1, hz2⟩ := info_parts infoBrake
    have hzx : wB.heap.size ≤ wx.heap.size := hbx.size
    have hbwx := hbwB.trans (hbx.mono hbwB.size)
    have hown0 : (wx.alloc (Obj.cells #[] 65)).ownsRow wx.heap.size 65 2 (.slice (some ⟨wx.heap.size, 0, none⟩) 0 0) 0 [] := ⟨rfl, .inr ⟨wx.heap.size, 0, #[], rfl, Nat.le_refl _, block_new _ _ _ rfl, Nat.le_refl _, by decide, rfl, rfl⟩⟩
    have hvx := HV0.out.below (hbwx.alloc hbwx.size (Obj.cells #[] 65)) (Nat.le_refl _)
    have lpy := lt_of_block hpy.out
    have lpt := lt_of_block hpt.out
    have hn3 : E.bs.length ≤ 3 := Esc.ok_len (checkStopM_num Hf.out).1
    have c1 := block_cell ((hbx.block _ (lt_of_block KE.out)).trans KE.out)
    have c3 := block_cell ((hbx.block _ (lt_of_block KX.out)).trans KX.out)
    have z3 : w.heap.size + 1 + 1 < wx.heap.size := by have := lt_of_block KX.out; omega
    go_upto_region 7 with fail
    go_cut [0] (fun s0 wz => s0 = escV E (.slice a E.bs.length cap) ∧ ∃ a2 c2 : _, Hid (wz.heap[py]? = some (.cells #[.bool E.up, .int .i64 E.em, .int .i64 E.pu, .int .i64 E.dr, .int .i64 E.mo, .slice a2 E.bs.length c2] 24 (0, 0))) ∧ Hid (wz.heap[pt]? = some (.cells #[.int .i64 S.sp, .int .i64 S.lo, .int .i64 S.hi, .int .i64 S.fa] 38 (0, 0))) ∧
      wz.ownsRow wx.heap.size 65 2 (.slice a2 E.bs.length c2) E.bs.length (brL E.bs) ∧ Below wB.heap.size wB wz)
    case first => as_aux_lemma =>
      have HVX := Lib.hid hvx
      have HC3 := Lib.hid c3
      clear hvx c3 z3
      have z0 : w.heap.size < wx.heap.size := by have := lt_of_block KE.out; omega
      have fin : ∀ (a2 : Option Addr) (c2 : Nat) (w2 : World), w2.ownsRow wx.heap.size 65 2 (.slice a2 E.bs.length c2) E.bs.length (brL E.bs) → Below wx.heap.size wx w2 →
          (w2.cell? ⟨py, 5, none⟩ = some (.slice a E.bs.length cap) ∧ w2.frozen? ⟨py, 5, none⟩ = false) ∧
          Hid ((w2.setCell ⟨py, 5, none⟩ (.slice a2 E.bs.length c2)).heap[py]? = some (.cells #[.bool E.up, .int .i64 E.em, .int .i64 E.pu, .int .i64 E.dr, .int .i64 E.mo, .slice a2 E.bs.length c2] 24 (0, 0))) ∧ Hid ((w2.setCell ⟨py, 5, none⟩ (.slice a2 E.bs.length c2)).heap[pt]? = some (.cells #[.int .i64 S.sp, .int .i64 S.lo, .int .i64 S.hi, .int .i64 S.fa] 38 (0, 0))) ∧
          (w2.setCell ⟨py, 5, none⟩ (.slice a2 E.bs.length c2)).ownsRow wx.heap.size 65 2 (.slice a2 E.bs.length c2) E.bs.length (brL E.bs) ∧ Below wB.heap.size wB (w2.setCell ⟨py, 5, none⟩ (.slice a2 E.bs.length c2)) := by
        intro a2 c2 w2 ho hb
        have k1 := (hb.block py lpy).trans hpy.out
        have k2 := (hb.block pt lpt).trans hpt.out
        refine ⟨⟨block_cell k1 5, block_free k1 5⟩, block_set k1 5 _, block_set_other k2 (p := ⟨py, 5, none⟩) (fun h => hne h.symm) _, ownsRow_setCell ho lpy _, (hbx.trans (hb.mono hzx)).setCell (p := ⟨py, 5, none⟩) l1 _⟩
      have FIN := Lib.hid fin
      clear fin
      cases a with
      | none =>
        have hn0 : E.bs.length = 0 := by
          obtain ⟨_, _, e, _, _, hc⟩ := HVX.out
          rcases Nat.eq_zero_or_pos E.bs.length with h | h
          · exact h
          · obtain ⟨b, off, h2, _⟩ := hc h
            cases e
            cases h2
        have hb0 : E.bs = [] := List.eq_nil_of_length_eq_zero hn0
        obtain ⟨up, em, pu, dr, mo, bs⟩ := E
        replace hb0 : bs = [] := hb0
        subst hb0
        have g1 := block_cell hpy.out 5
        have g2 := block_free hpy.out 5
        clear hn0
        go_wp2_with (at_builtin; refine append_nilc _ rfl (.tmp 41) (.tmp 43) 22 rfl wx.heap.size 65 i0 2 Try.underlying22 hi _ 0 [] 0 cap rfl rfl hown0 (by rfl) ?_)
        go_meet
        have hsz : (wx.setCell ⟨py, 5, none⟩ (.slice (some ⟨wx.heap.size, 0, none⟩) 0 0)).heap.size = wx.heap.size := by simp
        refine ⟨rfl, some ⟨wx.heap.size, 0, none⟩, 0, block_alloc (block_set hpy.out 5 _) _, block_alloc (block_set_other hpt.out (p := ⟨py, 5, none⟩) (fun h => hne h.symm) _) _, ⟨rfl, .inr ⟨wx.heap.size, 0, #[], rfl, Nat.le_refl _, block_new _ _ _ hsz.symm, Nat.le_refl _, by decide, rfl, rfl⟩⟩, ?_⟩
        exact (hbx.setCell (p := ⟨py, 5, none⟩) l1 _).alloc (by rw [hsz]; exact hzx) _
      | some ad =>
        have hnw : ∀ j u, (brL E.bs)[j]? = some u → (wx.alloc (Obj.cells #[] 65)).cell? (ad.add j) = some u := by
          rcases Nat.eq_zero_or_pos E.bs.length with h | h
          · have hb0 : E.bs = [] := List.eq_nil_of_length_eq_zero h
            rw [hb0]
            intro j u hj
            simp [brL] at hj
          · have hv' := HVX.out
            obtain ⟨_, _, e, _, _, hc⟩ := HVX.out
            obtain ⟨b, off, h2, _⟩ := hc h
            cases e
            cases h2
            exact hv'.news h
        go_wp2_with (at_builtin; refine wpList_append_own _ rfl (.tmp 41) (.tmp 43) 22 rfl wx.heap.size 65 i0 (.agg #[.int .i64 0, .int .i64 0]) 2 16 Try.underlying22 hi hz0 hz1 hz2 rfl (by decide) _ _ _ rfl hown0 ad E.bs.length cap (brL E.bs) rfl (brL_len _) hnw (brL_one _) ?c3 ?c4 ?c5 ?_)
        case c3 => unfold maxLen; omega
        case c4 => omega
        case c5 => rw [size_alloc]; omega
        intro v2 w2 hown2 hgrow _
        (try simp only [Nat.zero_add, List.nil_append] at hown2)
        obtain ⟨a2, c2, rfl, _⟩ := ownsRow_shape hown2
        have hb2 : Below wx.heap.size wx w2 := ((Below.refl _ _).alloc (Nat.le_refl _) _).trans (below_grown hgrow (fun k h => by cases h; exact Nat.le_refl _) (by rw [size_alloc]; omega))
        obtain ⟨⟨g1, g2⟩, f2⟩ := FIN.out a2 c2 w2 hown2 hb2
        have F2 := Lib.hid f2
        clear f2 hown2 hgrow hnw hb2
        go_wp2_with fail
        go_meet
        exact ⟨rfl, _, _, F2.out⟩
    case rest => as_aux_lemma =>
      obtain ⟨rfl, a2, c2, hpy2, hpt2, hown2, hb2⟩ := hcut
      clear hown0 hvx c1 c3 z3
      obtain ⟨wy, hwy⟩ : ∃ wy : World, wy = wc := ⟨_, rfl⟩
      subst hwy
      have HPY := Lib.hid hpy2.out
      have HPT := Lib.hid hpt2.out
      have c3 := block_cell ((hb2.block _ (lt_of_block KX.out)).trans KX.out)
      have c2' := block_cell ((hb2.block _ (lt_of_block KS.out)).trans KS.out)
      have c4 := block_cell HPY.out
      obtain ⟨q, hq⟩ : ∃ q : Bool, betIn E X = q := ⟨_, rfl⟩
      have hq' : (decide (0 ≤ X.br) && decide (X.br < E.bs.length)) = q := hq
      have HQ := Lib.hid hq
      have HQ' := Lib.hid hq'
      clear hq hq'
      go_upto_region 8 with fail
      go_cut [56] (fun s56 wz => s56 = .bool q ∧ wy = wz)
      case first => as_aux_lemma =>
        by_cases h1 : 0 ≤ X.br <;> by_cases h2 : X.br < E.bs.length
        all_goals try (exfalso; omega)
        all_goals
          have hqq : q = (decide (0 ≤ X.br) && decide (X.br < E.bs.length)) := HQ'.out.symm
          simp only [h1, h2, decide_true, decide_false, Bool.and_true, Bool.and_false] at hqq
          have HQQ := Lib.hid hqq
          clear hqq
          go_wp2_with fail
          go_meet
          exact ⟨by rw [HQQ.out], rfl⟩
      case rest => as_aux_lemma =>
        obtain ⟨rfl, rfl⟩ := hcut
        go_upto_if 56 with fail
        go_cut [] (fun wz => Hid (wz.heap[py]? = some (.cells #[.bool E.up, .int .i64 E.em, .int .i64 E.pu, .int .i64 E.dr, .int .i64 E.mo, .slice a2 E.bs.length c2] 24 (0, 0))) ∧ Hid (wz.heap[pt]? = some (.cells #[.int .i64 S.sp, .int .i64 S.lo, .int .i64 S.hi, .int .i64 S.fa] 38 (0, 0))) ∧
          wz.ownsRow wx.heap.size 65 2 (.slice a2 E.bs.length c2) E.bs.length (brL (betBs E X)) ∧ Below wB.heap.size wB wz)
        case first => as_aux_lemma =>
          cases q
          · have HBB : Hid (betBs E X = E.bs) := by unfold betBs; rw [HQ.out]; rfl
            go_wp2_with fail
            go_meet
            exact ⟨HPY.out, HPT.out, by rw [HBB.out]; exact hown2, hb2⟩
          · have hin := HQ'.out
            simp only [Bool.and_eq_true, decide_eq_true_eq] at hin
            obtain ⟨hin1, hin2⟩ := hin
            have HBB : Hid (betBs E X = E.bs.set X.br.toNat (betF X (E.bs.getD X.br.toNat (0, 0)), betD X (E.bs.getD X.br.toNat (0, 0)))) := by unfold betBs; rw [HQ.out]; rfl
            obtain ⟨br, fo, de, me, sl, lo, hi'⟩ := X
            dsimp only at *
            obtain ⟨k, rfl⟩ := Int.eq_ofNat_of_zero_le hin1
            have hk : k < E.bs.length := by omega
            rw [Int.toNat_natCast] at HBB
            obtain ⟨g, cg, hv, hg1, hg2⟩ := hown2.form (by omega)
            injection hv with e1 e2 e3
            subst e1 e3
            have r1 := hown2.cellAt (k * 2) (by omega)
            have r2 := hown2.cellAt (k * 2 + 1) (by omega)
            rw [brL_even E.bs k hk] at r1
            rw [brL_odd E.bs k hk] at r2
            have r1' := hown2.frozenAt (k * 2)
            have r2' := hown2.frozenAt (k * 2 + 1)
            have fin2 : ∀ (b : Int × Int) (o : Obj), Hid ((((wy.setCell ⟨g, k * 2, none⟩ (.int .i64 b.1)).setCell ⟨g, k * 2 + 1, none⟩ (.int .i64 b.2)).alloc o).heap[py]? = some (.cells #[.bool E.up, .int .i64 E.em, .int .i64 E.pu, .int .i64 E.dr, .int .i64 E.mo, .slice (some ⟨g, 0, none⟩) E.bs.length c2] 24 (0, 0))) ∧ Hid ((((wy.setCell ⟨g, k * 2, none⟩ (.int .i64 b.1)).setCell ⟨g, k * 2 + 1, none⟩ (.int .i64 b.2)).alloc o).heap[pt]? = some (.cells #[.int .i64 S.sp, .int .i64 S.lo, .int .i64 S.hi, .int .i64 S.fa] 38 (0, 0))) ∧
                (((wy.setCell ⟨g, k * 2, none⟩ (.int .i64 b.1)).setCell ⟨g, k * 2 + 1, none⟩ (.int .i64 b.2)).alloc o).ownsRow wx.heap.size 65 2 (.slice (some ⟨g, 0, none⟩) E.bs.length c2) E.bs.length (brL (E.bs.set k b)) ∧ Below wB.heap.size wB (((wy.setCell ⟨g, k * 2, none⟩ (.int .i64 b.1)).setCell ⟨g, k * 2 + 1, none⟩ (.int .i64 b.2)).alloc o) := by
              intro b o
              have n1 : py ≠ g := by omega
              have n2 : pt ≠ g := by omega
              refine ⟨block_alloc (block_set_other (block_set_other HPY.out (p := ⟨g, k * 2, none⟩) n1 _) (p := ⟨g, k * 2 + 1, none⟩) n1 _) o, block_alloc (block_set_other (block_set_other HPT.out (p := ⟨g, k * 2, none⟩) n2 _) (p := ⟨g, k * 2 + 1, none⟩) n2 _) o, ?_, ?_⟩
              · have := ((hown2.stored (k * 2) (.int .i64 b.1)).1.stored (k * 2 + 1) (.int .i64 b.2)).1
                rw [brL_set E.bs k b hk] at this
                exact this.alloc o
              · have hz := hb2.size
                exact ((hb2.setCell (p := ⟨g, k * 2, none⟩) (by show wB.heap.size ≤ g; omega) _).setCell (p := ⟨g, k * 2 + 1, none⟩) (by show wB.heap.size ≤ g; omega) _).alloc (by simp; exact hz) o
            have FIN2 := Lib.hid fin2
            have i1 : (0 : Int) ≤ (k : Int) := by omega
            have zg : g < wy.heap.size := hg2
            have z0 : w.heap.size + 1 + 1 < wy.heap.size := by have := lt_of_block KX.out; have := hb2.size; omega
            have z4 : py < wy.heap.size := lt_of_block HPY.out
            clear fin2
            generalize hb0 : E.bs.getD k (0, 0) = b at *
            obtain ⟨f, d⟩ := b
            by_cases hfo : f ≤ fo ∧ fo ≤ 10000000
            all_goals
              by_cases hde : 0 ≤ de ∧ de ≤ d
              all_goals
                first
                  | (have HF1 : Hid (betF ⟨k, fo, de, me, sl, lo, hi'⟩ (f, d) = fo) := if_pos hfo
                     have HD1 : Hid (betD ⟨k, fo, de, me, sl, lo, hi'⟩ (f, d) = de) := if_pos hde)
                  | (have HF1 : Hid (betF ⟨k, fo, de, me, sl, lo, hi'⟩ (f, d) = fo) := if_pos hfo
                     have HD1 : Hid (betD ⟨k, fo, de, me, sl, lo, hi'⟩ (f, d) = d) := if_neg hde)
                  | (have HF1 : Hid (betF ⟨k, fo, de, me, sl, lo, hi'⟩ (f, d) = f) := if_neg hfo
                     have HD1 : Hid (betD ⟨k, fo, de, me, sl, lo, hi'⟩ (f, d) = de) := if_pos hde)
                  | (have HF1 : Hid (betF ⟨k, fo, de, me, sl, lo, hi'⟩ (f, d) = f) := if_neg hfo
                     have HD1 : Hid (betD ⟨k, fo, de, me, sl, lo, hi'⟩ (f, d) = d) := if_neg hde)
                have Hb0 := Lib.hid hb0
                clear hb0
                go_wp2_with fail
                all_goals
                  go_meet
                  rw [HBB.out, HF1.out, HD1.out]
                  exact FIN2.out (_, _) _
        case rest => as_aux_lemma =>
          obtain ⟨hpy3, hpt3, hown3, hb3⟩ := hcut
          obtain ⟨wv, hwv⟩ : ∃ wv : World, wv = wc := ⟨_, rfl⟩
          subst hwv
          have hst : BetSt E (betBs E X) py pt wx.heap.size a2 c2 wB wv S := ⟨hpy3.out, hpt3.out, hown3, hb3⟩
          have HST := Lib.hid hst
          have n1 : pt ≠ w.heap.size + 1 := by have := lt_of_block KS.out; omega
          have n2 : pt ≠ w.heap.size + 1 + 1 := by have := lt_of_block KX.out; omega
          have n3 : w.heap.size + 1 ≠ pt := by omega
          have n4 : w.heap.size + 1 + 1 ≠ pt := by omega
          have lw : w.heap.size ≤ pt := by have := hbwB.size; omega
          clear hst hpy3 hpt3 hown3 hb3 hb2 hown2 hpy2 hpt2 HPY HPT c3 c2' c4
          have d3 := block_cell ((HST.out.2.2.2.block _ (lt_of_block KX.out)).trans KX.out)
          have d5 := block_cell HST.out.2.1
          have f5 := block_free HST.out.2.1
          go_upto_region 15 with fail
          go_cut [] (fun wz => Hid (BetSt E (betBs E X) py pt wx.heap.size a2 c2 wB wz ⟨S.sp, S.lo, S.hi, bits BinOp.andNot IntKind.i64 S.fa X.me⟩))
          case first => as_aux_lemma =>
            go_wp2_with fail
            go_meet
            exact HST.out.set hne lpt l2 3 _ _ rfl
          case rest => as_aux_lemma =>
          obtain ⟨w15, hw15⟩ : ∃ wv : World, wv = wc := ⟨_, rfl⟩
          subst hw15
          have HS15 := Lib.hid hcut.out
          clear hcut d3 d5 f5 HST
          generalize hfa : bits BinOp.andNot IntKind.i64 S.fa X.me = fa' at *
          have HFA := Lib.hid hfa
          clear hfa
          have d3 := block_cell ((HS15.out.2.2.2.block _ (lt_of_block KX.out)).trans KX.out)
          have d2 := block_cell ((HS15.out.2.2.2.block _ (lt_of_block KS.out)).trans KS.out)
          obtain ⟨q1, hq1⟩ : ∃ q : Bool, (decide (0 ≤ X.sl) && decide (X.sl ≤ S.sp)) = q := ⟨_, rfl⟩
          have HQ1 := Lib.hid hq1
          clear hq1
          go_upto_region 16 with fail
          go_cut [110] (fun s wz => s = .bool q1 ∧ w15 = wz)
          case first => as_aux_lemma =>
            by_cases h1 : 0 ≤ X.sl <;> by_cases h2 : X.sl ≤ S.sp
            all_goals try (exfalso; omega)
            all_goals
              have hqq := HQ1.out
              simp only [h1, h2, decide_true, decide_false, Bool.and_true, Bool.and_false] at hqq
              have HQQ := Lib.hid hqq
              clear hqq
              go_wp2_with fail
              go_meet
              exact ⟨by rw [HQQ.out], rfl⟩
          case rest => as_aux_lemma =>
          obtain ⟨rfl, rfl⟩ := hcut
          go_upto_if 110 with fail
          go_cut [] (fun wz => Hid (BetSt E (betBs E X) py pt wx.heap.size a2 c2 wB wz ⟨betSp S X, S.lo, S.hi, fa'⟩))
          case first => as_aux_lemma =>
            cases q1
            · have HSP : Hid (betSp S X = S.sp) := by unfold betSp; rw [if_neg (fun h => by have := HQ1.out; rw [decide_eq_true h.1, decide_eq_true h.2] at this; cases this)]; rfl
              go_wp2_with fail
              go_meet
              rw [HSP.out]
              exact HS15.out
            · have hq1 := HQ1.out
              simp only [Bool.and_eq_true, decide_eq_true_eq] at hq1
              have HSP : Hid (betSp S X = X.sl) := if_pos hq1
              have d5 := block_cell HS15.out.2.1
              have f5 := block_free HS15.out.2.1
              clear hq1
              go_wp2_with fail
              go_meet
              rw [HSP.out]
              exact HS15.out.set hne lpt l2 0 _ _ rfl
          case rest => as_aux_lemma =>
          obtain ⟨w17, hw17⟩ : ∃ wv : World, wv = wc := ⟨_, rfl⟩
          subst hw17
          have HS17 := Lib.hid hcut.out
          clear hcut d3 d2 HS15
          have d3 := block_cell ((HS17.out.2.2.2.block _ (lt_of_block KX.out)).trans KX.out)
          have d2 := block_cell ((HS17.out.2.2.2.block _ (lt_of_block KS.out)).trans KS.out)
          obtain ⟨q2, hq2⟩ : ∃ q : Bool, betOk S X = q := ⟨_, rfl⟩
          have hq2' : (decide (S.lo ≤ X.lo) && decide (X.lo ≤ X.hi) && decide (X.hi ≤ S.hi)) = q2 := hq2
          have HQ2 := Lib.hid hq2
          have HQ2' := Lib.hid hq2'
          clear hq2 hq2'
          go_upto_region 18 with fail
          go_cut [138] (fun s wz => s = .bool q2 ∧ w17 = wz)
          case first => as_aux_lemma =>
            by_cases h1 : S.lo ≤ X.lo <;> by_cases h2 : X.lo ≤ X.hi <;> by_cases h3 : X.hi ≤ S.hi
            all_goals try (exfalso; omega)
            all_goals
              have hqq := HQ2'.out
              simp only [h1, h2, h3, decide_true, decide_false, Bool.and_true, Bool.and_false] at hqq
              have HQQ := Lib.hid hqq
              clear hqq
              go_wp2_with fail
              go_meet
              exact ⟨by rw [HQQ.out], rfl⟩
          case rest => as_aux_lemma =>
          obtain ⟨rfl, rfl⟩ := hcut
          go_upto_if 138 with fail
          go_cut [] (fun wz => Hid (BetSt E (betBs E X) py pt wx.heap.size a2 c2 wB wz ⟨betSp S X, if q2 = true then X.lo else S.lo, if q2 = true then X.hi else S.hi, fa'⟩))
          case first => as_aux_lemma =>
            cases q2
            · go_wp2_with fail
              go_meet
              exact HS17.out
            · have d5 := block_cell HS17.out.2.1
              have f5 := block_free HS17.out.2.1
              go_wp2_with fail
              go_meet
              exact (HS17.out.set hne lpt l2 1 X.lo ⟨betSp S X, X.lo, S.hi, fa'⟩ rfl).set hne lpt l2 2 X.hi _ rfl
          case rest => as_aux_lemma =>
          obtain ⟨w19, hw19⟩ : ∃ wv : World, wv = wc := ⟨_, rfl⟩
          subst hw19
          have heq : (⟨betSp S X, if q2 = true then X.lo else S.lo, if q2 = true then X.hi else S.hi, fa'⟩ : Stp) = betS S X := by rw [← HQ2.out, ← HFA.out]; rfl
          have hfin := hcut.out
          rw [heq] at hfin
          obtain ⟨k1, k2, k3, k4⟩ := hfin
          have hbr : BrAt w19 (.slice a2 E.bs.length c2) (betBs E X) := by
            rw [← betBs_len E X] at k3 ⊢
            exact BrAt.of_own k3
          have HBR := Lib.hid hbr
          obtain ⟨A, B, C, D, hds, hBle⟩ := HBS.out
          have hBD : B ≤ DB := by rw [HDB.out]; exact hBle
          have HDS := Lib.hid hds
          have d4 := block_cell k1
          have d5 := block_cell k2
          have HB19 := Lib.hid k4
          have hbw := hbwB.trans (k4.mono hbwB.size)
          generalize betS S X = S' at *
          clear hcut d3 d2 HS17 hbr hds hBle k1 k2 k3 k4 heq
          go_wp2_with fail
          refine (distance_any (betE E X) S' (.slice a2 E.bs.length c2) _ HBR.out).mono ?_
          rintro e w8 ⟨rfl, hb8⟩
          rw [HDS.out]
          unfold distV
          have hb8B := HB19.out.trans (hb8.mono HB19.out.size)
          have dW := block_cell ((hb8B.block _ (lt_of_block KW.out)).trans KW.out)
          have zW : w4.heap.size < w8.heap.size := by have := lt_of_block KW.out; have := hb8B.size; omega
          have hbw8 := hbw.trans (hb8.mono hbw.size)
          have hz8 := hbw8.size
          clear d4 d5
          go_wp2_with (go_at_call 16; refine (calls_big (A := w) (B := w.heap.size) ?_ (Nat.le_refl _) (works_any _)).mono ?_)
          · repeat' (first | exact hbw8 | (with_reducible refine Below.drew ?_) | (with_reducible refine Below.alloc ?_ ?_ _) | (with_reducible refine Below.setCell ?_ ?_ _))
            all_goals (first | omega | (simp; done) | (simp; omega))
          rintro e w9 ⟨rfl, hb9⟩
          go_wp2
          go_ret
          exact ⟨rfl, hb9⟩

end Go.Proofs.Ytpoenjnpfodfpaa
