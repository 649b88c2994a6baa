/- Walks of the statements' own helpers (layer 3): Far. -/
import Derived.Test.YtbkhfmigaehgaaaCt
import Derived.Test.YtbkhfmigaehgaaaCy
namespace Go.Proofs.Ytbkhfmigaehgaaa
open Go.RowKit

theorem int_is {f : FuncId} {args : Array Value} {w : World} {a q : Int} (ha : a = q) (h : Calls Try.prog f args w fun e w' => e = .returned (.int .i64 a) ∧ Below w.heap.size w w') : Calls Try.prog f args w fun e w' => e = .returned (.int .i64 q) ∧ Below w.heap.size w w' := by
  subst ha
  exact h

def BoolRes (w : World) (e : Ending) (w' : World) : Prop := ∃ b : Bool, e = .returned (.bool b) ∧ Below w.heap.size w w'

set_option maxRecDepth 100000 in
set_option maxHeartbeats 4000000 in
theorem far_any (c : Cir) (sv wv : Value) (w : World) (hv : CirAt w sv wv c) : Calls Try.prog 18 #[cirV c sv wv] w (BoolRes w) := by
  have HB := Lib.hid ((Below.refl w.heap.size w).alloc (Nat.le_refl _) (cirO c sv wv))
  have K0 := Lib.hid (block_new w (cirO c sv wv) w.heap.size rfl)
  obtain ⟨⟨sa, scap, rfl, _, m2, _⟩, ⟨wa, wcap, rfl, _, m4, hwc⟩⟩ := hv
  have HWC := Lib.hid hwc
  have m5 : (c.sw.length : Int) ≤ 9223372036854775807 := by omega
  have m6 : (c.ws.length : Int) ≤ 9223372036854775807 := by omega
  clear hwc
  by_cases h1 : (20 : Int) < c.sw.length
  · go_enter Try.func18, Try.ntmps18
    go_wp2_with fail
    go_ret
    exact ⟨true, rfl, HB.out⟩
  · by_cases h2 : (40 : Int) < c.ws.length
    · go_enter Try.func18, Try.ntmps18
      go_wp2_with fail
      go_ret
      exact ⟨true, rfl, HB.out⟩
    · have c0 := block_cell K0.out
      go_enter Try.func18, Try.ntmps18
      go_wp2_with fail
      generalize w.alloc (cirO c (.slice sa c.sw.length scap) (.slice wa c.ws.length wcap)) = wA at *
      go_loop [3] (fun i => ∃ k : Nat, k ≤ c.ws.length ∧ i = .int .i64 k) (fun i => c.ws.length - (intOf i).toNat)
      case atStart => exact ⟨0, Nat.zero_le _, rfl⟩
      case round =>
        obtain ⟨k, hk, rfl⟩ := hrel
        by_cases hlt : k < c.ws.length
        · obtain ⟨b, off, rfl, hbl, hcc⟩ := HWC.out (by omega)
          obtain ⟨q1, u, q2, q3⟩ := hcc k hlt
          have g2 := (HB.out.cell (p := ⟨b, off + k * 2 + 1, none⟩) hbl).trans q2
          have hbl2 := Nat.lt_of_lt_of_le hbl HB.out.size
          have k1 : (0 : Int) ≤ k := by omega
          have k2 : (k : Int) < c.ws.length := by omega
          obtain ⟨ua, ucap, rfl, _⟩ := q3
          generalize (c.ws.getD k Wir.zero).of.length = n at *
          clear hcc q1 q2
          by_cases h3 : (40 : Int) < n
          · go_wp2_with fail
            go_ret
            exact ⟨true, rfl, HB.out⟩
          · go_wp2_with fail
            go_round
            case rel => exact ⟨k + 1, hlt, by go_num⟩
            case measure => simp [intOf]; omega
        · go_wp2_with fail
          go_ret
          exact ⟨false, rfl, HB.out⟩

end Go.Proofs.Ytbkhfmigaehgaaa
