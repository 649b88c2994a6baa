/- Walks of layer 1 (drive): force, grip, holds. -/
import Derived.Test.YtpoenjnpfodfpaaDs
import Derived.Test.YtpoenjnpfodfpaaGe
namespace Go.Proofs.Ytpoenjnpfodfpaa
open Go.RowKit

theorem grip1_any (S : Stp) (E : Esc) (tick : Int) (bs be bt : Nat) (a : Option Addr) (cap : Nat) (k : Nat) (w : World) (hc : Capt w bs be bt S E (.slice a E.bs.length cap) tick) (hv : BrAt w (.slice a E.bs.length cap) E.bs) (h0 : 0 ≤ S.fa) (h7 : S.fa ≤ 7)
    (hk' : k < E.bs.length) (hl : E.bs.length ≤ 3) :
    Calls Try.prog 73 #[.int .i64 k, .pointer (some ⟨bs, 0, none⟩), .pointer (some ⟨be, 0, none⟩), .pointer (some ⟨bt, 0, none⟩)] w fun e w' => e = .returned (.bool (gripB E S tick k)) ∧ Below w.heap.size w w' := by
  cases hf : failB S.fa k
  · obtain ⟨a', cap', hv0, hn, hcap, hcells⟩ := hv
    obtain ⟨b, off, rfl, hbl, hc'⟩ := hcells (by omega)
    cases hv0
    have := grip1_not S E tick bs be bt b off cap k _ w hc (by omega) h0 h7 hf hk' hl (hc' k hk').2 hbl
    simpa [gripB, hf] using this
  · have := grip1_fail S E (.slice a E.bs.length cap) tick bs be bt k w hc (by omega) h0 h7 hf
    simpa [gripB, hf] using this

set_option maxHeartbeats 400000 in
theorem force_grip (E : Esc) (v : Value) (w : World) (bs be bt : Nat) (g : Nat → Bool) (hv : BrAt w v E.bs) (hE : E.ok = true)
    (hg : ∀ (k : Nat) (w1 : World), k < E.bs.length → Below w.heap.size w w1 → Calls Try.prog 73 #[.int .i64 k, .pointer (some ⟨bs, 0, none⟩), .pointer (some ⟨be, 0, none⟩), .pointer (some ⟨bt, 0, none⟩)] w1 fun e w' => e = .returned (.bool (g k)) ∧ Below w1.heap.size w1 w') :
    Calls Try.prog 72 #[escV E v, .func (.func 73) #[] #[.pointer (some ⟨bs, 0, none⟩), .pointer (some ⟨be, 0, none⟩), .pointer (some ⟨bt, 0, none⟩)]] w fun e w' => e = .returned (.int .i64 (forceTo E.bs g E.bs.length)) ∧ Below w.heap.size w w' := by
  have HG := Lib.hid hg
  clear hg
  have hlen := Esc.ok_len hE
  obtain ⟨a, cap, rfl, hn, hcap, hc⟩ := hv
  have HC := Lib.hid hc
  clear hc
  have HB := Lib.hid (forceTo_bd hE g)
  go_enter Try.func72, Try.ntmps72
  go_wp2_with fail
  have hbA : Below w.heap.size w (w.alloc (Obj.cells #[.bool E.up, .int .i64 E.em, .int .i64 E.pu, .int .i64 E.dr, .int .i64 E.mo, .slice a E.bs.length cap] 24)) := (Below.refl w.heap.size w).alloc (Nat.le_refl _) _
  have hc5 : (w.alloc (Obj.cells #[.bool E.up, .int .i64 E.em, .int .i64 E.pu, .int .i64 E.dr, .int .i64 E.mo, .slice a E.bs.length cap] 24)).cell? ⟨w.heap.size, 5, none⟩ = some (.slice a E.bs.length cap) := by simp
  have hsz : (w.alloc (Obj.cells #[.bool E.up, .int .i64 E.em, .int .i64 E.pu, .int .i64 E.dr, .int .i64 E.mo, .slice a E.bs.length cap] 24)).heap.size = w.heap.size + 1 := by simp
  generalize w.alloc (Obj.cells #[.bool E.up, .int .i64 E.em, .int .i64 E.pu, .int .i64 E.dr, .int .i64 E.mo, .slice a E.bs.length cap] 24) = wA at *
  have HC5 := Lib.hid hc5
  have HSZ := Lib.hid hsz
  clear hc5 hsz
  go_loopw [5, 10] (fun t i wr => ∃ k : Nat, k ≤ E.bs.length ∧ i = .int .i64 k ∧ t = .int .i64 (forceTo E.bs g k) ∧ Below (w.heap.size + 1) wA wr) (fun _ i _ => E.bs.length - (intOf i).toNat)
  case atStart => exact ⟨0, Nat.zero_le _, rfl, rfl, Below.refl _ _⟩
  case round =>
    obtain ⟨k, hk, rfl, rfl, hb⟩ := hrel
    obtain ⟨fb1, fb2⟩ := HB.out k hk
    have hkn : (k : Int) * 10000000 ≤ 30000000 := by omega
    have hbw : Below w.heap.size w wr := hbA.trans (hb.mono (by omega))
    have g5 := (hb.cell (p := ⟨w.heap.size, 5, none⟩) (by show w.heap.size < w.heap.size + 1; omega)).trans HC5.out
    have hszr : w.heap.size < wr.heap.size := by have := hb.size; have := HSZ.out; omega
    by_cases hlt : k < E.bs.length
    · obtain ⟨b, off, rfl, hbl, hc⟩ := HC.out (by omega)
      have HC1 := Lib.hid (hc k hlt).1
      have br := Esc.ok_brake hE hlt
      generalize hq0 : E.bs.getD k (0, 0) = q at HC1 br
      obtain ⟨f, d⟩ := q
      obtain ⟨br1, br2, _, _⟩ := br
      dsimp only at br1 br2
      have Hq := Lib.hid hq0
      clear hq0 hc
      go_wp2_with fail
      refine (HG.out k wr hlt hbw).mono ?_
      rintro e w1 ⟨rfl, hb1⟩
      have hb2 := hb.trans (hb1.mono (by omega))
      have hbw2 : Below w.heap.size w w1 := hbA.trans (hb2.mono (by omega))
      have g5' := (hb1.cell (p := ⟨w.heap.size, 5, none⟩) hszr).trans g5
      have g1 := (hbw2.cell (p := ⟨b, off + k * 2, none⟩) hbl).trans HC1.out
      clear g5 hb hb1 hbw hszr
      cases hq : g k
      all_goals
        have HQ := Lib.hid hq
        clear hq
        go_wp2
        go_roundw
        case rel => exact ⟨k + 1, hlt, by go_num, congrArg (Value.int .i64) (by simp only [forceTo]; rw [HQ.out, Hq.out]; simp), hb2⟩
        case measure => simp [intOf]; omega
    · have : k = E.bs.length := by omega
      subst this
      go_wp2
      go_ret
      exact ⟨rfl, hbw⟩

set_option maxHeartbeats 400000 in
theorem force_holds (E : Esc) (v : Value) (w : World) (bs : Nat) (g : Nat → Bool) (hv : BrAt w v E.bs) (hE : E.ok = true)
    (hg : ∀ (k : Nat) (w1 : World), k < E.bs.length → Below w.heap.size w w1 → Calls Try.prog 76 #[.int .i64 k, .pointer (some ⟨bs, 0, none⟩)] w1 fun e w' => e = .returned (.bool (g k)) ∧ Below w1.heap.size w1 w') :
    Calls Try.prog 72 #[escV E v, .func (.func 76) #[] #[.pointer (some ⟨bs, 0, none⟩)]] w fun e w' => e = .returned (.int .i64 (forceTo E.bs g E.bs.length)) ∧ Below w.heap.size w w' := by
  have HG := Lib.hid hg
  clear hg
  have hlen := Esc.ok_len hE
  obtain ⟨a, cap, rfl, hn, hcap, hc⟩ := hv
  have HC := Lib.hid hc
  clear hc
  have HB := Lib.hid (forceTo_bd hE g)
  go_enter Try.func72, Try.ntmps72
  go_wp2_with fail
  have hbA : Below w.heap.size w (w.alloc (Obj.cells #[.bool E.up, .int .i64 E.em, .int .i64 E.pu, .int .i64 E.dr, .int .i64 E.mo, .slice a E.bs.length cap] 24)) := (Below.refl w.heap.size w).alloc (Nat.le_refl _) _
  have hc5 : (w.alloc (Obj.cells #[.bool E.up, .int .i64 E.em, .int .i64 E.pu, .int .i64 E.dr, .int .i64 E.mo, .slice a E.bs.length cap] 24)).cell? ⟨w.heap.size, 5, none⟩ = some (.slice a E.bs.length cap) := by simp
  have hsz : (w.alloc (Obj.cells #[.bool E.up, .int .i64 E.em, .int .i64 E.pu, .int .i64 E.dr, .int .i64 E.mo, .slice a E.bs.length cap] 24)).heap.size = w.heap.size + 1 := by simp
  generalize w.alloc (Obj.cells #[.bool E.up, .int .i64 E.em, .int .i64 E.pu, .int .i64 E.dr, .int .i64 E.mo, .slice a E.bs.length cap] 24) = wA at *
  have HC5 := Lib.hid hc5
  have HSZ := Lib.hid hsz
  clear hc5 hsz
  go_loopw [5, 10] (fun t i wr => ∃ k : Nat, k ≤ E.bs.length ∧ i = .int .i64 k ∧ t = .int .i64 (forceTo E.bs g k) ∧ Below (w.heap.size + 1) wA wr) (fun _ i _ => E.bs.length - (intOf i).toNat)
  case atStart => exact ⟨0, Nat.zero_le _, rfl, rfl, Below.refl _ _⟩
  case round =>
    obtain ⟨k, hk, rfl, rfl, hb⟩ := hrel
    obtain ⟨fb1, fb2⟩ := HB.out k hk
    have hkn : (k : Int) * 10000000 ≤ 30000000 := by omega
    have hbw : Below w.heap.size w wr := hbA.trans (hb.mono (by omega))
    have g5 := (hb.cell (p := ⟨w.heap.size, 5, none⟩) (by show w.heap.size < w.heap.size + 1; omega)).trans HC5.out
    have hszr : w.heap.size < wr.heap.size := by have := hb.size; have := HSZ.out; omega
    by_cases hlt : k < E.bs.length
    · obtain ⟨b, off, rfl, hbl, hc⟩ := HC.out (by omega)
      have HC1 := Lib.hid (hc k hlt).1
      have br := Esc.ok_brake hE hlt
      generalize hq0 : E.bs.getD k (0, 0) = q at HC1 br
      obtain ⟨f, d⟩ := q
      obtain ⟨br1, br2, _, _⟩ := br
      dsimp only at br1 br2
      have Hq := Lib.hid hq0
      clear hq0 hc
      go_wp2_with fail
      refine (HG.out k wr hlt hbw).mono ?_
      rintro e w1 ⟨rfl, hb1⟩
      have hb2 := hb.trans (hb1.mono (by omega))
      have hbw2 : Below w.heap.size w w1 := hbA.trans (hb2.mono (by omega))
      have g5' := (hb1.cell (p := ⟨w.heap.size, 5, none⟩) hszr).trans g5
      have g1 := (hbw2.cell (p := ⟨b, off + k * 2, none⟩) hbl).trans HC1.out
      clear g5 hb hb1 hbw hszr
      cases hq : g k
      all_goals
        have HQ := Lib.hid hq
        clear hq
        go_wp2
        go_roundw
        case rel => exact ⟨k + 1, hlt, by go_num, congrArg (Value.int .i64) (by simp only [forceTo]; rw [HQ.out, Hq.out]; simp), hb2⟩
        case measure => simp [intOf]; omega
    · have : k = E.bs.length := by omega
      subst this
      go_wp2
      go_ret
      exact ⟨rfl, hbw⟩

theorem Capt.below {w w' : World} {bs be bt : Nat} {S : Stp} {E : Esc} {v : Value} {tick : Int} (h : Capt w bs be bt S E v tick) (hb : Below w.heap.size w w') : Capt w' bs be bt S E v tick := by
  obtain ⟨⟨⟨s0, s1, s2, s3⟩, e5, t0⟩, hb⟩ := h.at hb
  have hs := hb.size
  exact ⟨s0, s1, s2, s3, e5, t0, by have := h.ls; omega, by have := h.le; omega, by have := h.lt; omega⟩

set_option maxHeartbeats 400000 in
theorem grip_any (E : Esc) (S : Stp) (v : Value) (tick : Int) (w : World) (hv : BrAt w v E.bs) (hE : E.ok = true) (h0 : 0 ≤ S.fa) (h7 : S.fa ≤ 7) :
    Calls Try.prog 57 #[escV E v, stpV S, .int .i64 tick] w fun e w' => e = .returned (.int .i64 (gripM E S tick)) ∧ Below w.heap.size w w' := by
  have hb0 := (((Below.refl w.heap.size w).alloc (Nat.le_refl _) (Obj.cells #[.bool E.up, .int .i64 E.em, .int .i64 E.pu, .int .i64 E.dr, .int .i64 E.mo, v] 24)).alloc (by simp) (Obj.cells #[.int .i64 S.sp, .int .i64 S.lo, .int .i64 S.hi, .int .i64 S.fa] 38)).alloc (by simp; omega) (Obj.cells #[.int .i64 tick] 3)
  have hv1 := hv.below hb0 (Nat.le_refl _)
  have hC : Capt (((w.alloc (Obj.cells #[.bool E.up, .int .i64 E.em, .int .i64 E.pu, .int .i64 E.dr, .int .i64 E.mo, v] 24)).alloc (Obj.cells #[.int .i64 S.sp, .int .i64 S.lo, .int .i64 S.hi, .int .i64 S.fa] 38)).alloc (Obj.cells #[.int .i64 tick] 3)) (w.heap.size + 1) w.heap.size (w.heap.size + 1 + 1) S E v tick := by
    constructor
    all_goals first | (rw [size_alloc, size_alloc, size_alloc]; omega) | skip
    all_goals first | (rw [cell_alloc_new _ _ _ _ _ _ (by rw [size_alloc, size_alloc])]; rfl) | (rw [cell_alloc_old (by rw [size_alloc, size_alloc]; first | (simp; done) | (simp; omega))]; first | (rw [cell_alloc_new _ _ _ _ _ _ (by rw [size_alloc])]; rfl) | (rw [cell_alloc_old (by rw [size_alloc]; first | (simp; done) | (simp; omega)), cell_alloc_new _ _ _ _ _ _ rfl]; rfl))
  have hlen := Esc.ok_len hE
  obtain ⟨a, cap, rfl, hn, hcap, hc⟩ := hv
  clear hc
  have HC := Lib.hid hC
  have HV := Lib.hid hv1
  have HB0 := Lib.hid hb0
  clear hC hv1 hb0
  go_enter Try.func57, Try.ntmps57
  go_wp2_with fail
  refine (force_grip E _ _ _ _ _ (gripB E S tick) HV.out hE (fun k w1 hk hb => grip1_any S E tick _ _ _ a cap k w1 (HC.out.below hb) (HV.out.below hb (Nat.le_refl _)) h0 h7 hk hlen)).mono ?_
  rintro e w1 ⟨rfl, hb⟩
  go_wp2
  go_ret
  exact ⟨rfl, HB0.out.trans (hb.mono HB0.out.size)⟩

set_option maxHeartbeats 400000 in
theorem holds1_any (S : Stp) (bs : Nat) (k : Nat) (w : World) (hk : k ≤ 2) (h0 : 0 ≤ S.fa) (h7 : S.fa ≤ 7)
    (s0 : w.cell? ⟨bs, 0, none⟩ = some (.int .i64 S.sp)) (s1 : w.cell? ⟨bs, 1, none⟩ = some (.int .i64 S.lo)) (s2 : w.cell? ⟨bs, 2, none⟩ = some (.int .i64 S.hi)) (s3 : w.cell? ⟨bs, 3, none⟩ = some (.int .i64 S.fa)) :
    Calls Try.prog 76 #[.int .i64 k, .pointer (some ⟨bs, 0, none⟩)] w fun e w' => e = .returned (.bool (!failB S.fa k)) ∧ Below w.heap.size w w' := by
  go_enter Try.func76, Try.ntmps76
  go_wp2_with fail
  refine (fails_any S k _ hk h0 h7).mono ?_
  rintro e w1 ⟨rfl, hb⟩
  go_wp2
  go_ret
  exact ⟨rfl, hb⟩

def holdsM (E : Esc) (S : Stp) : Bool := decide (E.pu * S.hi ≤ E.dr + heldM E S)

set_option maxHeartbeats 400000 in
theorem holds_any (E : Esc) (S : Stp) (v : Value) (w : World) (hv : BrAt w v E.bs) (hE : E.ok = true) (h0 : 0 ≤ S.fa) (h7 : S.fa ≤ 7) (hh0 : 0 ≤ S.hi) (hh1 : S.hi ≤ 100000) :
    Calls Try.prog 62 #[escV E v, stpV S] w fun e w' => e = .returned (.bool (holdsM E S)) ∧ Below w.heap.size w w' := by
  have hb0 := ((Below.refl w.heap.size w).alloc (Nat.le_refl _) (Obj.cells #[.bool E.up, .int .i64 E.em, .int .i64 E.pu, .int .i64 E.dr, .int .i64 E.mo, v] 24)).alloc (by simp) (Obj.cells #[.int .i64 S.sp, .int .i64 S.lo, .int .i64 S.hi, .int .i64 S.fa] 38)
  have hv1 := hv.below hb0 (Nat.le_refl _)
  have hlen := Esc.ok_len hE
  obtain ⟨m1, m2⟩ := (Esc.ok_num hE).mul hh0 hh1
  obtain ⟨e1, e2, p1, p2, d1, d2, _, _⟩ := Esc.ok_num hE
  obtain ⟨b1, b2⟩ := forceTo_bd3 hE (fun k => !failB S.fa k)
  obtain ⟨a, cap, rfl, hn, hcap, hc⟩ := hv
  clear hc
  have hs : ∀ o : Nat, ((w.alloc (Obj.cells #[.bool E.up, .int .i64 E.em, .int .i64 E.pu, .int .i64 E.dr, .int .i64 E.mo, .slice a E.bs.length cap] 24)).alloc (Obj.cells #[.int .i64 S.sp, .int .i64 S.lo, .int .i64 S.hi, .int .i64 S.fa] 38)).cell? ⟨w.heap.size + 1, o, none⟩ = #[.int .i64 S.sp, .int .i64 S.lo, .int .i64 S.hi, .int .i64 S.fa][o]? := by
    intro o
    exact cell_alloc_new _ _ _ _ _ _ (by rw [size_alloc])
  have HV := Lib.hid hv1
  have HB0 := Lib.hid hb0
  have HS := Lib.hid hs
  clear hs hv1 hb0
  go_enter Try.func62, Try.ntmps62
  go_wp2_with fail
  refine (force_holds E _ _ _ (fun k => !failB S.fa k) HV.out hE (fun k w1 hk hb => holds1_any S _ k w1 (by omega) h0 h7 ((hb.cell (p := ⟨w.heap.size + 1, 0, none⟩) (by simp)).trans (HS.out 0)) ((hb.cell (p := ⟨w.heap.size + 1, 1, none⟩) (by simp)).trans (HS.out 1)) ((hb.cell (p := ⟨w.heap.size + 1, 2, none⟩) (by simp)).trans (HS.out 2)) ((hb.cell (p := ⟨w.heap.size + 1, 3, none⟩) (by simp)).trans (HS.out 3)))).mono ?_
  rintro e w1 ⟨rfl, hb⟩
  obtain ⟨hcl, hfz⟩ := bcell hb
  go_wp2
  go_ret
  exact ⟨rfl, HB0.out.trans (hb.mono HB0.out.size)⟩

end Go.Proofs.Ytpoenjnpfodfpaa
