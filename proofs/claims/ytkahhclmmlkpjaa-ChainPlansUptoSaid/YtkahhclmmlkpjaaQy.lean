/- Walks of layer 2 (chain), parts: CheckPart, added, common, spent. -/
import Derived.Test.YtkahhclmmlkpjaaQx
namespace Go.Proofs.Ytkahhclmmlkpjaa
open Go.RowKit

theorem partM_part {P : Prt} {l : List Us} (h : partOk P = false) : 22 = partM P l := by unfold partM; rw [if_pos h]
theorem partM_many {P : Prt} {l : List Us} (h : partOk P = true) (h2 : 40 < l.length) : 23 = partM P l := by unfold partM; rw [if_neg (by simp [h]), if_pos h2]
theorem partM_use {P : Prt} {l : List Us} (h : partOk P = true) (h2 : ¬ 40 < l.length) {k : Nat} (hk : k < l.length) (h3 : useOk P.rs.length (l.getD k Us.zero) (sinceAt l k) = false) : 23 = partM P l := by
  unfold partM; rw [if_neg (by simp [h]), if_neg h2, if_neg (fun hu => by have := hu k hk; rw [h3] at this; cases this)]
theorem partM_fine {P : Prt} {l : List Us} (h : partOk P = true) (h2 : ¬ 40 < l.length) (h3 : ∀ i, i < l.length → useOk P.rs.length (l.getD i Us.zero) (sinceAt l i) = true) : 0 = partM P l := by
  unfold partM; rw [if_neg (by simp [h]), if_neg h2, if_pos (show usesOk P l from h3)]

theorem isPart_is (q : Bool) (P : Prt) (bv : Value) (w : World) (hv : SpAt w bv P.rs) (h : partOk P = q) :
    Calls Try.prog 79 #[prtV P bv] w fun e w' => e = .returned (.bool q) ∧ Below w.heap.size w w' := by
  subst h
  exact isPart_any P bv w hv

set_option maxHeartbeats 2000000 in
theorem kcheckPart_any (P : Prt) (l : List Us) (bv v : Value) (w : World) (hv : SpAt w bv P.rs) (hl : UsAt w v l) :
    Calls Try.prog 40 #[prtV P bv, v] w fun e w' => e = .returned (.int .i64 (partM P l)) ∧ Below w.heap.size w w' := by
  have hb0 := (Below.refl w.heap.size w).alloc (Nat.le_refl _) (Obj.cells #[bv, .int .i64 P.wo, .int .i64 P.tu, .int .i64 P.ag] 54)
  have k0 := block_new w (Obj.cells #[bv, .int .i64 P.wo, .int .i64 P.tu, .int .i64 P.ag] 54) w.heap.size rfl
  have HV := Lib.hid (hv.below hb0 (Nat.le_refl _))
  obtain ⟨a, cap, rfl, hn, hcap, hc⟩ := hv
  clear hc
  have HB := Lib.hid hb0
  have K0 := Lib.hid k0
  clear hb0 k0
  obtain ⟨ua, ucap, rfl, un, ucl, uc⟩ := hl
  have HU := Lib.hid uc
  clear uc
  cases hq : partOk P
  · have HQ := Lib.hid hq
    have HR := Lib.hid (partM_part (l := l) hq)
    clear hq
    go_enter Try.func40, Try.ntmps40
    go_wp2_with fail
    generalize w.alloc (Obj.cells #[Value.slice a P.rs.length cap, .int .i64 P.wo, .int .i64 P.tu, .int .i64 P.ag] 54) = wA at *
    have hce := block_cell K0.out
    go_wp2_with fail
    refine (isPart_is _ P _ _ HV.out HQ.out).mono ?_
    rintro e w1 ⟨rfl, hb1⟩
    go_wp2
    go_ret
    exact ⟨ret_int HR.out, HB.out.trans (hb1.mono HB.out.size)⟩
  · have HQ := Lib.hid hq
    clear hq
    by_cases h40 : (40 : Int) < l.length
    · have HR := Lib.hid (partM_many (l := l) HQ.out (by omega))
      go_enter Try.func40, Try.ntmps40
      go_wp2_with fail
      generalize w.alloc (Obj.cells #[Value.slice a P.rs.length cap, .int .i64 P.wo, .int .i64 P.tu, .int .i64 P.ag] 54) = wA at *
      have hce := block_cell K0.out
      go_wp2_with fail
      refine (isPart_is _ P _ _ HV.out HQ.out).mono ?_
      rintro e w1 ⟨rfl, hb1⟩
      go_wp2
      go_ret
      exact ⟨ret_int HR.out, HB.out.trans (hb1.mono HB.out.size)⟩
    · go_enter Try.func40, Try.ntmps40
      go_wp2_with fail
      generalize w.alloc (Obj.cells #[Value.slice a P.rs.length cap, .int .i64 P.wo, .int .i64 P.tu, .int .i64 P.ag] 54) = wA at *
      have hce := block_cell K0.out
      go_wp2_with fail
      refine (isPart_is _ P _ _ HV.out HQ.out).mono ?_
      rintro e w1 ⟨rfl, hb1⟩
      go_wp2_with fail
      clear hce
      go_loopw [5, 16] (fun s i wr => ∃ k : Nat, k ≤ l.length ∧ i = .int .i64 k ∧ s = .int .i64 (sinceAt l k) ∧ Below wA.heap.size wA wr ∧ Hid (∀ i, i < k → useOk P.rs.length (l.getD i Us.zero) (sinceAt l i) = true)) (fun _ i _ => l.length - (intOf i).toNat)
      case atStart => exact ⟨0, Nat.zero_le _, rfl, rfl, hb1, fun i hi => by omega⟩
      case round =>
        obtain ⟨k, hk, rfl, rfl, hb, hf⟩ := hrel
        by_cases hlt : k < l.length
        · obtain ⟨b, off, rfl, hbl, hc⟩ := HU.out (by omega)
          have hbw := HB.out.trans (hb.mono HB.out.size)
          have kp := (hb.block _ (lt_of_block K0.out)).trans K0.out
          have hce := block_cell kp
          have hz := lt_of_block kp
          obtain ⟨g1, g2, g3, g4, g5, g6⟩ := us_at hbw hbl hc hlt
          have Hs := Lib.hid (show sinceAt l (k + 1) = (l.getD k Us.zero).d from rfl)
          clear hc kp
          generalize hs0 : sinceAt l k = s at *
          generalize hq0 : l.getD k Us.zero = u at *
          have HS0 := Lib.hid hs0
          have HU0 := Lib.hid hq0
          clear hs0 hq0
          have hz2 : b < wr.heap.size := by have := hbw.size; omega
          go_wp2_with fail
          have hb2 := (Below.refl wr.heap.size wr).alloc (Nat.le_refl _) (Obj.cells #[.int .i64 u.d, .int .i64 u.t, .int .i64 u.c, .bool u.m, .int .i64 u.lo, .int .i64 u.hi] 89)
          refine (isUse_any P _ u s _ ((HV.out.below hb (Nat.le_refl _)).below hb2 (Nat.le_refl _))).mono ?_
          rintro e w2 ⟨rfl, hb3⟩
          have hb4 := hb.trans ((hb2.trans (hb3.mono hb2.size)).mono hb.size)
          have kU := block_cell ((hb3.block _ (by simp only [size_alloc]; omega)).trans (block_new wr (Obj.cells #[.int .i64 u.d, .int .i64 u.t, .int .i64 u.c, .bool u.m, .int .i64 u.lo, .int .i64 u.hi] 89) wr.heap.size rfl))
          clear hb hbw hb2 hb3 hce g1 g2 g3 g4 g5 g6 hz hz2
          cases hq : useOk P.rs.length u s
          · have HR := Lib.hid (partM_use (l := l) HQ.out (by omega) hlt (by rw [HU0.out, HS0.out]; exact hq))
            clear hq
            go_wp2
            go_ret
            exact ⟨ret_int HR.out, HB.out.trans (hb4.mono HB.out.size)⟩
          · have HK := Lib.hid hq
            clear hq
            go_wp2
            go_roundw
            case rel => exact ⟨k + 1, hlt, by go_num, by rw [Hs.out], hb4, fun i hi => by
              by_cases hik : i = k
              · rw [hik, HU0.out, HS0.out]; exact HK.out
              · exact hf.out i (by omega)⟩
            case measure => simp [intOf]; omega
        · have HR := Lib.hid (partM_fine HQ.out (by omega) (fun i hi => hf.out i (by omega)))
          go_wp2
          go_ret
          exact ⟨ret_int HR.out, HB.out.trans (hb.mono HB.out.size)⟩

set_option maxHeartbeats 1000000 in
theorem added_any (P : Prt) (bv : Value) (u : Us) (s : Int) (w : World) (hv : SpAt w bv P.rs) (hP : POk P) (hu : UOk P.rs.length u s) :
    Calls Try.prog 102 #[prtV P bv, usV u] w fun e w' => e = .returned (spnV (addL P u, addH P u)) ∧ Below w.heap.size w w' := by
  have hb0 := (((Below.refl w.heap.size w).alloc (Nat.le_refl _) (Obj.cells #[bv, .int .i64 P.wo, .int .i64 P.tu, .int .i64 P.ag] 54)).alloc (by simp only [size_alloc]; omega) (Obj.cells #[.int .i64 u.d, .int .i64 u.t, .int .i64 u.c, .bool u.m, .int .i64 u.lo, .int .i64 u.hi] 89)).alloc (by simp only [size_alloc]; omega) (Obj.cells #[.int .i64 0, .int .i64 0] 37)
  have k0 := block_alloc (block_alloc (block_new w (Obj.cells #[bv, .int .i64 P.wo, .int .i64 P.tu, .int .i64 P.ag] 54) w.heap.size rfl) (Obj.cells #[.int .i64 u.d, .int .i64 u.t, .int .i64 u.c, .bool u.m, .int .i64 u.lo, .int .i64 u.hi] 89)) (Obj.cells #[.int .i64 0, .int .i64 0] 37)
  have k1 := block_alloc (block_new (w.alloc (Obj.cells #[bv, .int .i64 P.wo, .int .i64 P.tu, .int .i64 P.ag] 54)) (Obj.cells #[.int .i64 u.d, .int .i64 u.t, .int .i64 u.c, .bool u.m, .int .i64 u.lo, .int .i64 u.hi] 89) (w.heap.size + 1) (by simp only [size_alloc])) (Obj.cells #[.int .i64 0, .int .i64 0] 37)
  have k2 := block_new ((w.alloc (Obj.cells #[bv, .int .i64 P.wo, .int .i64 P.tu, .int .i64 P.ag] 54)).alloc (Obj.cells #[.int .i64 u.d, .int .i64 u.t, .int .i64 u.c, .bool u.m, .int .i64 u.lo, .int .i64 u.hi] 89)) (Obj.cells #[.int .i64 0, .int .i64 0] 37) (w.heap.size + 1 + 1) (by simp only [size_alloc])
  have hbw := hb0
  obtain ⟨a, cap, rfl, hn, hcap, hc⟩ := hv
  obtain ⟨r1, r2, r3⟩ := rateOf_ok hP hu
  have m1 := mulc hu.t0 hu.t1 r1 (by omega)
  have m2 := mulc hu.t0 hu.t1 (by omega : 0 ≤ (rateOf P u).2) r3
  have c0 := hu.c0
  have c1 := hu.c1
  obtain ⟨b, off, rfl, hbl, hcc⟩ := hc (by omega)
  obtain ⟨n, hcn⟩ : ∃ n : Nat, u.c = n := ⟨u.c.toNat, by omega⟩
  obtain ⟨g1, g2⟩ := sp_at hbw hbl hcc (k := n) (by omega)
  have er : P.rs.getD n Spn.zero = rateOf P u := by unfold rateOf; rw [hcn]; rfl
  rw [er] at g1 g2
  have HL := Lib.hid (show u.t * (rateOf P u).1 = addL P u from rfl)
  have HH := Lib.hid (show u.t * (rateOf P u).2 = addH P u from rfl)
  have HB := Lib.hid hb0
  have K0 := Lib.hid k0
  have K1 := Lib.hid k1
  have K2 := Lib.hid k2
  have n1 : (0 : Int) ≤ n := by omega
  have n2 : (n : Int) < P.rs.length := by omega
  have hz : b < w.heap.size := hbl
  obtain ⟨d, t, c, m, lo, hi⟩ := u
  dsimp only at hcn
  subst hcn
  generalize rateOf P ⟨d, t, n, m, lo, hi⟩ = r at *
  clear hc hcc hb0 hbw k0 k1 k2 er hu hP c0 c1
  obtain ⟨m11, m12⟩ := m1
  obtain ⟨m21, m22⟩ := m2
  dsimp only at *
  go_enter Try.func102, Try.ntmps102
  go_wp2
  refine bodyPost_ret (v := spnV (t * r.1, t * r.2)) ?_ rfl ⟨?_, ?_⟩
  · simp (maxDischargeDepth := 8) [results, Try.results102, go_sem]
  · rw [HL.out, HH.out]
  · repeat' (first | exact Below.refl w.heap.size w | (with_reducible refine Below.drew ?_) | (with_reducible refine Below.alloc ?_ ?_ _) | (with_reducible refine Below.setCell ?_ ?_ _))
    all_goals (first | omega | (simp; done) | (simp; omega))

set_option maxHeartbeats 1000000 in
theorem common_any (x y : Spn) (w : World) :
    Calls Try.prog 103 #[spnV x, spnV y] w fun e w' => e = .returned (spnV (common x y)) ∧ Below w.heap.size w w' := by
  go_enter Try.func103, Try.ntmps103
  go_wp2
  all_goals
    refine bodyPost_ret (v := spnV (common x y)) ?_ rfl ⟨rfl, ?_⟩
    focus
      simp [results, Try.results103, go_sem, common]
      omega
    repeat' (first | exact Below.refl w.heap.size w | (with_reducible refine Below.drew ?_) | (with_reducible refine Below.alloc ?_ ?_ _) | (with_reducible refine Below.setCell ?_ ?_ _))
    all_goals (first | omega | (simp; done) | (simp; omega))

set_option maxHeartbeats 1000000 in
theorem spent_any (P : Prt) (bv : Value) (we tu da : Int) (w : World) (h1 : 0 ≤ P.wo) (h2 : P.wo ≤ 1000) :
    Calls Try.prog 92 #[prtV P bv, .int .i64 we, .int .i64 tu, .int .i64 da] w fun e w' => e = .returned (.bool (spentM P we tu da)) ∧ Below w.heap.size w w' := by
  go_enter Try.func92, Try.ntmps92
  go_wp2
  all_goals
    go_ret
    refine ⟨ret_bool ?_, (Below.refl _ _).alloc (Nat.le_refl _) _⟩
    simp [spentM]
    try omega

end Go.Proofs.Ytkahhclmmlkpjaa
