/- CircuitTwo walked. -/
import Derived.Test.YtbkhfmigaehgaaaMd
namespace Go.Proofs.Ytbkhfmigaehgaaa
open Go.RowKit

theorem run_eqPair (a b c d : Int) (W : World) : (Op.equalIn 10000 71 (.agg #[.int .i64 a, .int .i64 b]) (.agg #[.int .i64 c, .int .i64 d])).run Try.prog W = .ok ((a == c) && (b == d)) W := by
  have hu : Try.prog.underlying 71 = some (.array 2 3) := by kernel_rfl
  have h1 : (Op.equalIn 9999 3 (.int .i64 a) (.int .i64 c)).run Try.prog W = .ok (a == c) W := run_equalIn_int W 9998 3 .i64 .i64 a c (by kernel_rfl)
  have h2 : (Op.equalIn 9999 3 (.int .i64 b) (.int .i64 d)).run Try.prog W = .ok (b == d) W := run_equalIn_int W 9998 3 .i64 .i64 b d (by kernel_rfl)
  have hs : ∀ W : World, (sizeOf 3).run Try.prog W = .ok 1 W := fun _ => by kernel_rfl
  have p0 : ∀ (x y : Int) (W : World), (Go.part 3 #[.int .i64 x, .int .i64 y] 0).run Try.prog W = .ok (.int .i64 x) W := fun _ _ _ => by kernel_rfl
  have p1 : ∀ (x y : Int) (W : World), (Go.part 3 #[.int .i64 x, .int .i64 y] 1).run Try.prog W = .ok (.int .i64 y) W := fun _ _ _ => by kernel_rfl
  unfold Op.equalIn
  have hr : List.range' 0 2 = [0, 1] := rfl
  cases h3 : (a == c) <;> cases h4 : (b == d) <;> rw [h3] at h1 <;> rw [h4] at h2 <;> simp [run_underlying hu, hs, hr, p0, p1, h1, h2]

set_option maxRecDepth 100000 in
set_option maxHeartbeats 1000000 in
theorem hasOf_is (q : Bool) (v : Value) (l : List Int) (x : Int) (w : World) (hv : InAt w v l) (hq : (l.any fun y => y == x) = q) :
    Calls Try.prog 49 #[v, .int .i64 x] w fun e w' => e = .returned (.bool q) ∧ w = w' := by
  subst hq
  obtain ⟨a, cap, rfl, hn, hcap, hc⟩ := hv
  have HC := Lib.hid hc
  clear hc
  go_enter Try.func49, Try.ntmps49
  go_wp2_with fail
  go_loop [5] (fun i => ∃ k : Nat, k ≤ l.length ∧ i = .int .i64 k ∧ Hid (∀ i, i < k → (l.getD i 0 == x) = false)) (fun i => l.length - (intOf i).toNat)
  case atStart => exact ⟨0, Nat.zero_le _, rfl, fun i hi => by omega⟩
  case round =>
    obtain ⟨k, hk, rfl, hf⟩ := hrel
    by_cases hlt : k < l.length
    · obtain ⟨b, off, rfl, hbl, hc⟩ := HC.out (by omega)
      have g1 := hc k hlt
      have k1 : (0 : Int) ≤ k := by omega
      have k2 : (k : Int) < l.length := by omega
      clear hc
      generalize hq0 : l.getD k 0 = q at g1
      have Hq := Lib.hid hq0
      clear hq0
      cases hq : (q == x)
      · have HQ := Lib.hid hq
        go_wp2_with fail
        go_round
        case rel => exact ⟨k + 1, hlt, by go_num, fun i hi => by
          by_cases hik : i = k
          · rw [hik, Hq.out]; exact HQ.out
          · exact hf.out i (by omega)⟩
        case measure => simp [intOf]; omega
      · have HQ := Lib.hid hq
        go_wp2_with fail
        go_ret
        exact ⟨ret_bool (by rw [any_true_of (d := 0) hlt (by rw [Hq.out]; exact HQ.out)]), rfl⟩
    · go_wp2_with fail
      go_ret
      exact ⟨ret_bool (by rw [any_false_of (d := 0) (fun i hi => hf.out i (by omega))]), rfl⟩

/-! ### Weak of the program -/
def weakE (c : Cir) (k : Int) : Int := if validB c = true then (if setB k c.sw.length = true then 0 else 1) else 30
def weakR (c : Cir) (k : Int) : List Int := if weakE c k = 0 then natL (weakM c k.toNat) else []

set_option maxRecDepth 100000 in
set_option maxHeartbeats 4000000 in
theorem cweak_any (c : Cir) (sv wv : Value) (k : Int) (w : World) (hv : CirAt w sv wv c) :
    Calls Try.prog 24 #[cirV c sv wv, .int .i64 k] w (ListErr (weakR c k) (weakE c k) w) := by
  have HB := Lib.hid ((Below.refl w.heap.size w).alloc (Nat.le_refl _) (cirO c sv wv))
  have K0 := Lib.hid (block_new w (cirO c sv wv) w.heap.size rfl)
  have HV := Lib.hid (hv.below HB.out (Nat.le_refl _))
  obtain ⟨⟨sa, scap, rfl, _, m2, _⟩, _⟩ := hv
  cases hq : validB c
  · have HR0 := Lib.hid (chkC_bad hq)
    have HE := Lib.hid (show weakE c k = 30 by unfold weakE; rw [hq]; rfl)
    have HL := Lib.hid (show weakR c k = [] by unfold weakR; rw [HE.out]; rfl)
    clear hq
    go_enter Try.func24, Try.ntmps24
    go_wp2_with fail
    generalize w.alloc (cirO c (.slice sa c.sw.length scap) wv) = wA at *
    refine (ccheck_any c _ _ _ HV.out).mono ?_
    rintro e w1 ⟨rfl, hb1⟩
    rw [← HR0.out]
    go_wp2
    go_ret2
    exact ⟨.slice none 0 0, by rw [HE.out]; rfl, by rw [HL.out]; exact InAt.nil _, HB.out.trans (hb1.mono HB.out.size)⟩
  · have HR0 := Lib.hid (chkC_ok hq)
    have HC := Lib.hid (cval hq)
    have s12 := (cval hq).s2
    cases hs : setB k c.sw.length
    · have HE := Lib.hid (show weakE c k = 1 by unfold weakE; rw [hq, hs]; rfl)
      have HL := Lib.hid (show weakR c k = [] by unfold weakR; rw [HE.out]; rfl)
      have HS := Lib.hid hs
      clear hq hs
      go_enter Try.func24, Try.ntmps24
      go_wp2_with fail
      generalize w.alloc (cirO c (.slice sa c.sw.length scap) wv) = wA at *
      refine (ccheck_any c _ _ _ HV.out).mono ?_
      rintro e w1 ⟨rfl, hb1⟩
      rw [← HR0.out]
      have c0 := block_cell (keepZ K0.out hb1)
      have HB1 := Lib.hid hb1
      clear hb1
      go_wp2_with (go_at_call 72; refine (isSet_is _ k c.sw.length _ (by omega) HS.out).mono ?_; rintro e w2 ⟨rfl, rfl⟩)
      go_ret2
      exact ⟨.slice none 0 0, by rw [HE.out]; rfl, by rw [HL.out]; exact InAt.nil _, HB.out.trans (HB1.out.mono HB.out.size)⟩
    · have HE := Lib.hid (show weakE c k = 0 by unfold weakE; rw [hq, hs]; rfl)
      have HL := Lib.hid (show weakR c k = natL (weakM c k.toNat) by unfold weakR; rw [HE.out]; rfl)
      have HS := Lib.hid hs
      obtain ⟨kn, rfl, kn20⟩ := set_nat hs (by omega)
      clear hq hs
      go_enter Try.func24, Try.ntmps24
      go_wp2_with fail
      generalize w.alloc (cirO c (.slice sa c.sw.length scap) wv) = wA at *
      refine (ccheck_any c _ _ _ HV.out).mono ?_
      rintro e w1 ⟨rfl, hb1⟩
      rw [← HR0.out]
      have c0 := block_cell (keepZ K0.out hb1)
      have HB1 := Lib.hid hb1
      clear hb1
      go_wp2_with (go_at_call 72; refine (isSet_is _ (kn : Int) c.sw.length _ (by omega) HS.out).mono ?_; rintro e w2 ⟨rfl, rfl⟩)
      refine (weak_any c _ wv kn _ (HV.out.below HB1.out (Nat.le_refl _)) HC.out kn20).mono ?_
      rintro e w2 ⟨v, rfl, hin, hb2⟩
      have HI := Lib.hid hin
      clear hin c0
      go_wp2
      go_ret2
      exact ⟨v, by rw [HE.out]; rfl, by rw [HL.out, Int.toNat_natCast]; exact HI.out, HB.out.trans ((HB1.out.trans (hb2.mono HB1.out.size)).mono HB.out.size)⟩

end Go.Proofs.Ytbkhfmigaehgaaa
