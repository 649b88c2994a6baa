/- Walks of layer 1 (drive): fails, force, grip. -/
import Derived.Test.YtpoenjnpfodfpaaDc
import Derived.Deep.RegionHeld3
namespace Go.Proofs.Ytpoenjnpfodfpaa
open Go.RowKit

theorem bcell {W w1 : World} (hb : Below W.heap.size W w1) : (∀ b o, b < W.heap.size → w1.cell? ⟨b, o, none⟩ = W.cell? ⟨b, o, none⟩) ∧ (∀ b o, b < W.heap.size → w1.frozen? ⟨b, o, none⟩ = W.frozen? ⟨b, o, none⟩) :=
  ⟨fun b o h => hb.cell (p := ⟨b, o, none⟩) h, fun b o h => hb.frozen (p := ⟨b, o, none⟩) h⟩

set_option maxHeartbeats 400000 in
theorem fails_any (S : Stp) (k : Nat) (w : World) (hk : k ≤ 2) (h0 : 0 ≤ S.fa) (h7 : S.fa ≤ 7) :
    Calls Try.prog 65 #[stpV S, .int .i64 k] w fun e w' => e = .returned (.bool (failB S.fa k)) ∧ Below w.heap.size w w' := by
  go_enter Try.func65, Try.ntmps65
  go_wp2
  go_ret
  exact ⟨ret_bool (bits_fail hk h0 h7), (Below.refl _ _).alloc (Nat.le_refl _) _⟩

theorem fails_is (q : Bool) (S : Stp) (k : Nat) (w : World) (hk : k ≤ 2) (h0 : 0 ≤ S.fa) (h7 : S.fa ≤ 7) (hq : failB S.fa k = q) :
    Calls Try.prog 65 #[stpV S, .int .i64 k] w fun e w' => e = .returned (.bool q) ∧ Below w.heap.size w w' := by
  subst hq
  exact fails_any S k w hk h0 h7

/-- What a function literal that captured a stop, an escalator and a tick finds in its variables. -/
structure Capt (w : World) (bs be bt : Nat) (S : Stp) (E : Esc) (v : Value) (tick : Int) : Prop where
  s0 : w.cell? ⟨bs, 0, none⟩ = some (.int .i64 S.sp)
  s1 : w.cell? ⟨bs, 1, none⟩ = some (.int .i64 S.lo)
  s2 : w.cell? ⟨bs, 2, none⟩ = some (.int .i64 S.hi)
  s3 : w.cell? ⟨bs, 3, none⟩ = some (.int .i64 S.fa)
  e5 : w.cell? ⟨be, 5, none⟩ = some v
  t0 : w.cell? ⟨bt, 0, none⟩ = some (.int .i64 tick)
  ls : bs < w.heap.size
  le : be < w.heap.size
  lt : bt < w.heap.size

theorem Capt.at {w w' : World} {bs be bt : Nat} {S : Stp} {E : Esc} {v : Value} {tick : Int} (h : Capt w bs be bt S E v tick) (hb : Below w.heap.size w w') :
    ((w'.cell? ⟨bs, 0, none⟩ = some (.int .i64 S.sp) ∧ w'.cell? ⟨bs, 1, none⟩ = some (.int .i64 S.lo) ∧ w'.cell? ⟨bs, 2, none⟩ = some (.int .i64 S.hi) ∧ w'.cell? ⟨bs, 3, none⟩ = some (.int .i64 S.fa)) ∧
      w'.cell? ⟨be, 5, none⟩ = some v ∧ w'.cell? ⟨bt, 0, none⟩ = some (.int .i64 tick)) ∧ Below w.heap.size w w' := by
  obtain ⟨s0, s1, s2, s3, e5, t0, ls, le, lt⟩ := h
  exact ⟨⟨⟨(hb.cell (p := ⟨bs, 0, none⟩) ls).trans s0, (hb.cell (p := ⟨bs, 1, none⟩) ls).trans s1, (hb.cell (p := ⟨bs, 2, none⟩) ls).trans s2, (hb.cell (p := ⟨bs, 3, none⟩) ls).trans s3⟩,
    (hb.cell (p := ⟨be, 5, none⟩) le).trans e5, (hb.cell (p := ⟨bt, 0, none⟩) lt).trans t0⟩, hb⟩

set_option maxHeartbeats 1000000 in
theorem grip1_fail (S : Stp) (E : Esc) (v : Value) (tick : Int) (bs be bt : Nat) (k : Nat) (w : World) (hc : Capt w bs be bt S E v tick) (hk : k ≤ 2) (h0 : 0 ≤ S.fa) (h7 : S.fa ≤ 7) (hf : failB S.fa k = true) :
    Calls Try.prog 73 #[.int .i64 k, .pointer (some ⟨bs, 0, none⟩), .pointer (some ⟨be, 0, none⟩), .pointer (some ⟨bt, 0, none⟩)] w fun e w' => e = .returned (.bool false) ∧ Below w.heap.size w w' := by
  have Hf := Lib.hid hf
  clear hf
  obtain ⟨s0, s1, s2, s3, e5, t0, ls, le, lt⟩ := hc
  go_enter Try.func73, Try.ntmps73
  go_wp2
  first | (go_region_with (go_at_call 65; refine (fails_is true S _ _ hk h0 h7 Hf.out).mono ?_; rintro e w1 ⟨rfl, hb1⟩)) | fail
  all_goals
    go_wp2
    go_ret
    exact ⟨rfl, Below.trans ((Below.refl _ _).drew) ((by assumption : Below w.drew.heap.size w.drew _).mono (Nat.le_refl _))⟩

set_option maxHeartbeats 400000 in
theorem grip1_not (S : Stp) (E : Esc) (tick : Int) (bs be bt : Nat) (b off : Nat) (cap : Nat) (k : Nat) (d : Int) (w : World) (hc : Capt w bs be bt S E (.slice (some ⟨b, off, none⟩) E.bs.length cap) tick) (hk : k ≤ 2) (h0 : 0 ≤ S.fa) (h7 : S.fa ≤ 7) (hf : failB S.fa k = false)
    (hk' : k < E.bs.length) (_hl : E.bs.length ≤ 3) (hd : w.cell? ⟨b, off + k * 2 + 1, none⟩ = some (.int .i64 d)) (hbl : b < w.heap.size) :
    Calls Try.prog 73 #[.int .i64 k, .pointer (some ⟨bs, 0, none⟩), .pointer (some ⟨be, 0, none⟩), .pointer (some ⟨bt, 0, none⟩)] w fun e w' => e = .returned (.bool (decide (d ≤ tick))) ∧ Below w.heap.size w w' := by
  have Hf := Lib.hid hf
  clear hf
  have hC := hc
  have hD : ∀ w', Below w.heap.size w w' → w'.cell? ⟨b, off + k * 2 + 1, none⟩ = some (.int .i64 d) := fun w' hb => (hb.cell (p := ⟨b, off + k * 2 + 1, none⟩) hbl).trans hd
  have HD := Lib.hid hD
  clear hD
  obtain ⟨s0, s1, s2, s3, e5, t0, ls, le, lt⟩ := hc
  go_enter Try.func73, Try.ntmps73
  go_wp2
  go_region_held3 (fun w' => w'.cell? ⟨b, off + k * 2 + 1, none⟩ = some (.int .i64 d) ∧ ((w'.cell? ⟨bs, 0, none⟩ = some (.int .i64 S.sp) ∧ w'.cell? ⟨bs, 1, none⟩ = some (.int .i64 S.lo) ∧ w'.cell? ⟨bs, 2, none⟩ = some (.int .i64 S.hi) ∧ w'.cell? ⟨bs, 3, none⟩ = some (.int .i64 S.fa)) ∧ w'.cell? ⟨be, 5, none⟩ = some (.slice (some ⟨b, off, none⟩) E.bs.length cap) ∧ w'.cell? ⟨bt, 0, none⟩ = some (.int .i64 tick)) ∧ Below w.heap.size w w') (first | exact ⟨HD.out _ ((Below.refl _ _).drew), hC.at ((Below.refl _ _).drew)⟩ | exact ⟨HD.out _ hB1, hC.at hB1⟩)
    (first | (go_at_call 65; refine (fails_is false S _ _ hk h0 h7 Hf.out).mono ?_; rintro e w1 ⟨rfl, hb1⟩; have hB0 := And.right (And.right ‹_ ∧ _ ∧ Below w.heap.size w _›); have hB1 := hB0.trans (hb1.mono hB0.size)))
  go_wp2
  go_ret
  exact ⟨rfl, by assumption⟩

end Go.Proofs.Ytpoenjnpfodfpaa
