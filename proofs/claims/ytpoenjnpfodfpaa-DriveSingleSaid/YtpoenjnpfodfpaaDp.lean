/- Walks of layer 1: the specification's Check; Step of both. -/
import Derived.Test.YtpoenjnpfodfpaaDf
import Derived.Test.YtpoenjnpfodfpaaDn
namespace Go.Proofs.Ytpoenjnpfodfpaa
open Go.RowKit

theorem rwithin_is (q : Bool) (n lo hi : Int) (w : World) (h : (decide (lo ≤ n) && decide (n ≤ hi)) = q) :
    Calls Try.prog 47 #[.int .i64 n, .int .i64 lo, .int .i64 hi] w fun e w' => e = .returned (.bool q) ∧ w = w' := by
  subst h
  exact rwithin_any n lo hi w

set_option maxHeartbeats 1000000 in
theorem rcheck_any (E : Esc) (v : Value) (w : World) (hv : BrAt w v E.bs) :
    Calls Try.prog 22 #[escV E v] w fun e w' => e = .returned (.int .i64 (checkM E)) ∧ Below w.heap.size w w' := by
  have hb0 := (Below.refl w.heap.size w).alloc (Nat.le_refl _) (Obj.cells #[.bool E.up, .int .i64 E.em, .int .i64 E.pu, .int .i64 E.dr, .int .i64 E.mo, v] 24)
  have k0 := block_new w (Obj.cells #[.bool E.up, .int .i64 E.em, .int .i64 E.pu, .int .i64 E.dr, .int .i64 E.mo, v] 24) w.heap.size rfl
  obtain ⟨a, cap, rfl, hn, hcap, hc⟩ := hv
  have HC := Lib.hid hc
  clear hc
  by_cases hx : (1 ≤ E.em ∧ E.em ≤ 100000) ∧ (0 ≤ E.pu ∧ E.pu ≤ 100) ∧ (0 ≤ E.dr ∧ E.dr ≤ 10000000) ∧ (0 ≤ E.mo ∧ E.mo ≤ 10000000) ∧ (E.bs.length : Int) ≤ 3
  · have HX := Lib.hid hx
    obtain ⟨⟨e1, e2⟩, ⟨p1, p2⟩, ⟨d1, d2⟩, ⟨m1, m2⟩, hl⟩ := hx
    go_enter Try.func22, Try.ntmps22
    go_wp2_with (go_at_call 47; refine (rwithin_any _ _ _ _).mono ?_; rintro e w' ⟨rfl, rfl⟩)
    generalize w.alloc (Obj.cells #[.bool E.up, .int .i64 E.em, .int .i64 E.pu, .int .i64 E.dr, .int .i64 E.mo, .slice a E.bs.length cap] 24) = wA at *
    have hce := block_cell k0
    clear k0
    go_loop [3] (fun i => ∃ k : Nat, k ≤ E.bs.length ∧ i = .int .i64 k ∧ Hid (∀ i, i < k → brakeBad (E.bs.getD i (0, 0)) = false)) (fun i => E.bs.length - (intOf i).toNat)
    case atStart => exact ⟨0, Nat.zero_le _, rfl, fun i hi => by omega⟩
    case round =>
      obtain ⟨k, hk, rfl, hf⟩ := hrel
      by_cases hlt : k < E.bs.length
      · obtain ⟨b, off, rfl, hbl, hc⟩ := HC.out (by omega)
        obtain ⟨c1, c2⟩ := hc k hlt
        have g1 := (hb0.cell (p := ⟨b, off + k * 2, none⟩) hbl).trans c1
        have g2 := (hb0.cell (p := ⟨b, off + k * 2 + 1, none⟩) hbl).trans c2
        clear hc c1 c2
        generalize hq0 : E.bs.getD k (0, 0) = q at g1 g2
        obtain ⟨f, d⟩ := q
        have Hq := Lib.hid hq0
        clear hq0
        cases hq : brakeBad (f, d)
        · have HQ := Lib.hid hq
          simp only [brakeBad, Bool.or_eq_false_iff, Bool.not_eq_false', Bool.and_eq_true, decide_eq_true_eq] at hq
          obtain ⟨⟨q1, q2⟩, q3, q4⟩ := hq
          go_wp2_with (go_at_call 47; refine (rwithin_any _ _ _ _).mono ?_; rintro e w' ⟨rfl, rfl⟩)
          go_round
          case rel => exact ⟨k + 1, hlt, by go_num, fun i hi => by
            by_cases hik : i = k
            · rw [hik, Hq.out]; exact HQ.out
            · exact hf.out i (by omega)⟩
          case measure => simp [intOf]; omega
        · have HQ := Lib.hid hq
          have HN := Lib.hid (check_no (E := E) (fun h => by
            have := any_true_of (d := (0, 0)) (p := brakeBad) hlt (by rw [Hq.out]; exact HQ.out)
            rw [this] at h; cases h.2))
          simp only [brakeBad, Bool.or_eq_true, Bool.not_eq_true', Bool.and_eq_false_iff, decide_eq_false_iff_not] at hq
          go_wp2_with (go_at_call 47; refine (rwithin_any _ _ _ _).mono ?_; rintro e w' ⟨rfl, rfl⟩)
          all_goals first | (go_ret; exact ⟨ret_int HN.out, hb0⟩) | (exfalso; have h := ‹(!decide (0 ≤ d)) = false ∧ (!decide (d ≤ 20)) = false›; simp at h; omega)
      · have HY := Lib.hid (check_yes (E := E) HX.out.1 HX.out.2.1 HX.out.2.2.1 HX.out.2.2.2.1 HX.out.2.2.2.2 (any_false_of (d := (0, 0)) (fun i hi => hf.out i (by omega))))
        go_wp2
        go_ret
        exact ⟨ret_int HY.out, hb0⟩
  · have HN := Lib.hid (check_no (E := E) (fun h => hx h.1))
    have HX := Lib.hid hx
    clear hx
    go_enter Try.func22, Try.ntmps22
    go_wp2_with (go_at_call 47; refine (rwithin_any _ _ _ _).mono ?_; rintro e w' ⟨rfl, rfl⟩)
    all_goals first | (go_ret; exact ⟨ret_int HN.out, hb0⟩) | (exfalso; exact HX.out ⟨‹_›, ‹_›, ‹_›, ‹_›, ‹_›⟩)

structure Pair where
  a : Int
  f : Int
abbrev pairV (D : Pair) : Value := .tuple #[.int .i64 D.a, .int .i64 D.f]

def stepM (E : Esc) (v load f : Int) : Pair :=
  if E.ok = true then
    (if (-10000000 ≤ v ∧ v ≤ 10000000) ∧ (0 ≤ load ∧ load ≤ 100000) ∧ (0 ≤ f ∧ f ≤ 30000000) then ⟨nextM E v load f, 0⟩ else ⟨0, 1⟩)
  else ⟨0, 10⟩

set_option maxHeartbeats 1000000 in
theorem step_any (E : Esc) (bv : Value) (v load f : Int) (w : World) (hv : BrAt w bv E.bs) :
    Calls Try.prog 17 #[escV E bv, .int .i64 v, .int .i64 load, .int .i64 f] w fun e w' => e = .returned (pairV (stepM E v load f)) ∧ Below w.heap.size w w' := by
  have hb0 := (Below.refl w.heap.size w).alloc (Nat.le_refl _) (Obj.cells #[.bool E.up, .int .i64 E.em, .int .i64 E.pu, .int .i64 E.dr, .int .i64 E.mo, bv] 24)
  have hv1 := hv.below hb0 (Nat.le_refl _)
  obtain ⟨a, cap, rfl, hn, hcap, hc⟩ := hv
  clear hc
  by_cases hE : E.ok = true
  · have hck : checkM E = 0 := by simp [checkM, hE]
    have Hck := Lib.hid hck
    have HE := Lib.hid hE
    have hN := Esc.ok_num hE
    clear hck hE
    by_cases hx : (-10000000 ≤ v ∧ v ≤ 10000000) ∧ (0 ≤ load ∧ load ≤ 100000) ∧ (0 ≤ f ∧ f ≤ 30000000)
    · have HX := Lib.hid hx
      obtain ⟨⟨x1, x2⟩, ⟨x3, x4⟩, x5, x6⟩ := hx
      go_enter Try.func17, Try.ntmps17
      go_wp2_with fail
      refine (check_any _ _ _ hv1).mono ?_
      rintro e w1 ⟨rfl, hb1⟩
      rw [Hck.out]
      obtain ⟨hcl, hfz⟩ := bcell hb1
      go_wp2_with (first | (go_at_call 45; refine (within_any _ _ _ _).mono ?_; rintro e w' ⟨rfl, rfl⟩) | (go_at_call 46; refine (next_any E _ v load f _ hN x3 x4 x5 (by omega) (by omega) (by omega)).mono ?_; rintro e w2 ⟨rfl, hb2⟩))
      go_ret2
      refine ⟨?_, hb0.trans ((hb1.trans (hb2.mono hb1.size)).mono hb0.size)⟩
      unfold stepM
      rw [if_pos HE.out, if_pos HX.out]
      rfl
    · have HX := Lib.hid hx
      clear hx
      go_enter Try.func17, Try.ntmps17
      go_wp2_with fail
      refine (check_any _ _ _ hv1).mono ?_
      rintro e w1 ⟨rfl, hb1⟩
      rw [Hck.out]
      obtain ⟨hcl, hfz⟩ := bcell hb1
      go_wp2_with (go_at_call 45; refine (within_any _ _ _ _).mono ?_; rintro e w' ⟨rfl, rfl⟩)
      all_goals first | (exfalso; have h := ‹(!decide (0 ≤ f)) = false ∧ (!decide (f ≤ 30000000)) = false›; simp at h; exact HX.out ⟨by assumption, by assumption, h⟩) | (go_ret2; refine ⟨?_, hb0.trans (hb1.mono hb0.size)⟩; unfold stepM; rw [if_pos HE.out, if_neg HX.out]; rfl)
  · have hck : checkM E = 10 := by simp [checkM, hE]
    have Hck := Lib.hid hck
    have HE := Lib.hid hE
    clear hck hE
    go_enter Try.func17, Try.ntmps17
    go_wp2_with fail
    refine (check_any _ _ _ hv1).mono ?_
    rintro e w1 ⟨rfl, hb1⟩
    rw [Hck.out]
    go_wp2
    go_ret2
    refine ⟨?_, hb0.trans (hb1.mono hb0.size)⟩
    unfold stepM
    rw [if_neg HE.out]
    rfl

set_option maxHeartbeats 1000000 in
theorem rstep_any (E : Esc) (bv : Value) (v load f : Int) (w : World) (hv : BrAt w bv E.bs) :
    Calls Try.prog 18 #[escV E bv, .int .i64 v, .int .i64 load, .int .i64 f] w fun e w' => e = .returned (pairV (stepM E v load f)) ∧ Below w.heap.size w w' := by
  have hb0 := (Below.refl w.heap.size w).alloc (Nat.le_refl _) (Obj.cells #[.bool E.up, .int .i64 E.em, .int .i64 E.pu, .int .i64 E.dr, .int .i64 E.mo, bv] 24)
  have hv1 := hv.below hb0 (Nat.le_refl _)
  obtain ⟨a, cap, rfl, hn, hcap, hc⟩ := hv
  clear hc
  by_cases hE : E.ok = true
  · have hck : checkM E = 0 := by simp [checkM, hE]
    have Hck := Lib.hid hck
    have HE := Lib.hid hE
    have hN := Esc.ok_num hE
    clear hck hE
    by_cases hx : (-10000000 ≤ v ∧ v ≤ 10000000) ∧ (0 ≤ load ∧ load ≤ 100000) ∧ (0 ≤ f ∧ f ≤ 30000000)
    · have HX := Lib.hid hx
      obtain ⟨⟨x1, x2⟩, ⟨x3, x4⟩, x5, x6⟩ := hx
      go_enter Try.func18, Try.ntmps18
      go_wp2_with fail
      refine (rcheck_any _ _ _ hv1).mono ?_
      rintro e w1 ⟨rfl, hb1⟩
      rw [Hck.out]
      obtain ⟨hcl, hfz⟩ := bcell hb1
      go_wp2_with (first | (go_at_call 47; refine (rwithin_any _ _ _ _).mono ?_; rintro e w' ⟨rfl, rfl⟩) | (go_at_call 48; refine (rnext_any E _ v load f _ hN x3 x4 x5 (by omega) (by omega) (by omega)).mono ?_; rintro e w2 ⟨rfl, hb2⟩))
      go_ret2
      refine ⟨?_, hb0.trans ((hb1.trans (hb2.mono hb1.size)).mono hb0.size)⟩
      unfold stepM
      rw [if_pos HE.out, if_pos HX.out]
      rfl
    · have HX := Lib.hid hx
      clear hx
      go_enter Try.func18, Try.ntmps18
      go_wp2_with fail
      refine (rcheck_any _ _ _ hv1).mono ?_
      rintro e w1 ⟨rfl, hb1⟩
      rw [Hck.out]
      obtain ⟨hcl, hfz⟩ := bcell hb1
      go_wp2_with (go_at_call 47; refine (rwithin_any _ _ _ _).mono ?_; rintro e w' ⟨rfl, rfl⟩)
      all_goals first | (exfalso; have h := ‹(!decide (0 ≤ f)) = false ∧ (!decide (f ≤ 30000000)) = false›; simp at h; exact HX.out ⟨by assumption, by assumption, h⟩) | (go_ret2; refine ⟨?_, hb0.trans (hb1.mono hb0.size)⟩; unfold stepM; rw [if_pos HE.out, if_neg HX.out]; rfl)
  · have hck : checkM E = 10 := by simp [checkM, hE]
    have Hck := Lib.hid hck
    have HE := Lib.hid hE
    clear hck hE
    go_enter Try.func18, Try.ntmps18
    go_wp2_with fail
    refine (rcheck_any _ _ _ hv1).mono ?_
    rintro e w1 ⟨rfl, hb1⟩
    rw [Hck.out]
    go_wp2
    go_ret2
    refine ⟨?_, hb0.trans (hb1.mono hb0.size)⟩
    unfold stepM
    rw [if_neg HE.out]
    rfl

end Go.Proofs.Ytpoenjnpfodfpaa
