/- Walks of the statements' own helpers (layer 3): works. -/
import Derived.Test.YtbkhfmigaehgaaaCs
namespace Go.Proofs.Ytbkhfmigaehgaaa
open Go.RowKit

def woOs (n : Nat) : List Obj := [
  .cells #[.int .i64 0] 3, .cells #[.int .i64 1] 3, .cells #[.int .i64 2] 3, .cells #[.int .i64 3] 3,
  .cells #[.slice (some ⟨n, 0, none⟩) 1 1, .slice (some ⟨n + 1, 0, none⟩) 1 1, .slice (some ⟨n + 2, 0, none⟩) 1 1, .slice (some ⟨n + 3, 0, none⟩) 1 1] 22]

theorem wo_rota (w : World) : NsAt (allocs w (woOs w.heap.size)) (.slice (some ⟨w.heap.size + 4, 0, none⟩) 4 4) exR.nights := by
  have h := allocs_at (woOs w.heap.size) w
  have h4 := h 4 _ rfl
  refine ⟨_, 4, rfl, Nat.le_refl _, by decide, fun _ => ⟨w.heap.size + 4, 0, rfl, lt_of_block h4, fun i hi => ?_⟩⟩
  have hi' : i < 4 := hi
  rw [block_cell h4]
  match i, hi' with
  | 0, _ => exact ⟨_, rfl, in_block (xs := [0]) (h 0 _ rfl) (by decide)⟩
  | 1, _ => exact ⟨_, rfl, in_block (xs := [1]) (h 1 _ rfl) (by decide)⟩
  | 2, _ => exact ⟨_, rfl, in_block (xs := [2]) (h 2 _ rfl) (by decide)⟩
  | 3, _ => exact ⟨_, rfl, in_block (xs := [3]) (h 3 _ rfl) (by decide)⟩

set_option maxRecDepth 100000 in
set_option maxHeartbeats 4000000 in
theorem works_any (w : World) : Calls Try.prog 19 #[] w fun e w' => e = .returned (.bool true) ∧ Below w.heap.size w w' := by
  go_enter Try.func19, Try.ntmps19
  go_wp2_with fail
  refine (example_any _).mono ?_
  rintro e w1 ⟨sv, wv, tv, rfl, hc, ht, hb1⟩
  have HC := Lib.hid hc
  have HT := Lib.hid ht
  have HB1 := Lib.hid hb1
  obtain ⟨⟨sa, scap, rfl, _, _, _⟩, ⟨wa, wcap, rfl, _, _, _⟩⟩ := hc
  obtain ⟨ta, tcap, rfl, _, _, _⟩ := ht
  clear hb1
  have k0 := block_new w1 (cirO exC (.slice sa exC.sw.length scap) (.slice wa exC.ws.length wcap)) w1.heap.size rfl
  have hb0 := (Below.refl w1.heap.size w1).alloc (Nat.le_refl _) (cirO exC (.slice sa exC.sw.length scap) (.slice wa exC.ws.length wcap))
  have K0 := Lib.hid k0
  have HB0 := Lib.hid hb0
  clear k0 hb0
  go_wp2_with fail
  generalize w1.alloc (cirO exC (.slice sa exC.sw.length scap) (.slice wa exC.ws.length wcap)) = wA at *
  refine (cpairs_any exC _ _ _ (HC.out.below HB0.out (Nat.le_refl _))).mono ?_
  rintro e w2 ⟨pv, rfl, hp, hb2⟩
  rw [exChk]
  rw [exPairs] at hp
  have HP := Lib.hid hp
  obtain ⟨pa, pcap, rfl, _, _, hpc⟩ := hp
  obtain ⟨pb, poff, rfl, hpb, hpc⟩ := hpc (by decide)
  have HPC := Lib.hid hpc
  have HB2 := Lib.hid (HB0.out.trans (hb2.mono HB0.out.size))
  have K2 := Lib.hid (keepZ K0.out hb2)
  have c0 := block_cell (keepZ K0.out hb2)
  have z0 := lt_of_block (keepZ K0.out hb2)
  clear hb2 hpc
  go_wp2_with fail
  clear c0 z0
  have hwo := wo_rota w2
  have hbo := allocs_below (woOs w2.heap.size) w2
  have HWO := Lib.hid hwo
  have HBO := Lib.hid hbo
  clear hwo hbo
  have HB3 := Lib.hid (HB2.out.trans (HBO.out.mono HB2.out.size))
  refine (crota_any exC exT exR _ _ _ (.slice (some ⟨w2.heap.size + 4, 0, none⟩) 4 4) (allocs w2 (woOs w2.heap.size)) (HC.out.below HB3.out (Nat.le_refl _)) (HT.out.below HB3.out (Nat.le_refl _)) HWO.out).mono ?_
  rintro e w4 ⟨rfl, hb4⟩
  rw [exRota, exChkR]
  have hx := HBO.out.trans (hb4.mono HBO.out.size)
  have q0 := (hx.cell (p := ⟨pb, poff + 0 * 2 + 0, none⟩) hpb).trans (HPC.out 0 (0, 1) rfl 0 _ rfl)
  have q1 := (hx.cell (p := ⟨pb, poff + 0 * 2 + 1, none⟩) hpb).trans (HPC.out 0 (0, 1) rfl 1 _ rfl)
  have q2 := (hx.cell (p := ⟨pb, poff + 1 * 2 + 0, none⟩) hpb).trans (HPC.out 1 (2, 3) rfl 0 _ rfl)
  have q3 := (hx.cell (p := ⟨pb, poff + 1 * 2 + 1, none⟩) hpb).trans (HPC.out 1 (2, 3) rfl 1 _ rfl)
  have HX := Lib.hid (HB1.out.trans ((HB3.out.trans (hb4.mono HB3.out.size)).mono HB1.out.size))
  clear hx hb4
  simp only [Nat.zero_mul, Nat.add_zero, Nat.one_mul] at q0 q1 q2 q3
  have e1 : ∀ W : World, (Op.equalIn 10000 71 (.agg #[.int .i64 0, .int .i64 1]) (.agg #[.int .i64 0, .int .i64 1])).run Try.prog W = .ok true W := fun W => by kernel_rfl
  have e2 : ∀ W : World, (Op.equalIn 10000 71 (.agg #[.int .i64 2, .int .i64 3]) (.agg #[.int .i64 2, .int .i64 3])).run Try.prog W = .ok true W := fun W => by kernel_rfl
  go_wp2_with fail
  go_ret
  exact ⟨rfl, HX.out⟩

end Go.Proofs.Ytbkhfmigaehgaaa
