/- Walks of the statements' own helpers (layer 2): works. -/
import Derived.Test.YtkahhclmmlkpjaaTa
import Derived.Test.YtkahhclmmlkpjaaKi
import Derived.Test.YtkahhclmmlkpjaaQd
namespace Go.Proofs.Ytkahhclmmlkpjaa
open Go.RowKit

theorem exRun : runM exC exL 0 4 = ⟨421, 425, 0⟩ := by kernel_rfl
theorem exWitE : witE exC exL 0 4 421 = 0 := by kernel_rfl
theorem exWit : witG exC exL 0 4 421 = [100, 103, 108, 110] := by kernel_rfl
theorem exDue : dueM exP exU 0 1000 = (160000, 0) := by kernel_rfl

theorem int4 (w : World) (a b c d : Int) : InAt (w.alloc (.cells #[.int .i64 a, .int .i64 b, .int .i64 c, .int .i64 d] 3)) (.slice (some ⟨w.heap.size, 0, none⟩) 4 4) [a, b, c, d] := by
  refine ⟨_, 4, rfl, Nat.le_refl _, by decide, fun _ => ⟨w.heap.size, 0, rfl, by rw [size_alloc]; omega, fun i hi => ?_⟩⟩
  have hi' : i < 4 := hi
  rw [block_cell (block_new w _ _ rfl)]
  match i, hi' with
  | 0, _ => rfl
  | 1, _ => rfl
  | 2, _ => rfl
  | 3, _ => rfl

set_option maxHeartbeats 4000000 in
theorem works_any (w : World) : Calls Try.prog 18 #[] w fun e w' => e = .returned (.bool true) ∧ Below w.heap.size w w' := by
  go_enter Try.func18, Try.ntmps18
  go_wp2_with fail
  refine (example_any _).mono ?_
  rintro e w1 ⟨v1, v2, v3, rfl, h1, h2, h3, hb1⟩
  have H1 := Lib.hid h1
  have H2 := Lib.hid h2
  have H3 := Lib.hid h3
  have HB1 := Lib.hid hb1
  obtain ⟨a1, c1, rfl, _, _, _⟩ := h1
  obtain ⟨a2, c2, rfl, _, _, _⟩ := h2
  obtain ⟨a3, c3, rfl, _, _, _⟩ := h3
  clear hb1
  rw [show exL.length = 2 from rfl] at *
  rw [show exP.rs.length = 2 from rfl] at *
  rw [show exU.length = 2 from rfl] at *
  simp only [exC, exP]
  go_wp2_with fail
  generalize hW : (w1.alloc (Obj.cells #[.int .i64 4, .int .i64 100, .int .i64 110] 23)).alloc (Obj.cells #[.slice a2 2 c2, .int .i64 1, .int .i64 300000, .int .i64 1000] 54) = w2 at *
  have hb2 : Below w1.heap.size w1 w2 := by rw [← hW]; exact blw2 _ _ _
  have kC : w2.heap[w1.heap.size]? = some (Obj.cells #[.int .i64 4, .int .i64 100, .int .i64 110] 23) := by rw [← hW]; exact two_od _ _ _
  have kP : w2.heap[w1.heap.size + 1]? = some (Obj.cells #[.slice a2 2 c2, .int .i64 1, .int .i64 300000, .int .i64 1000] 54) := by rw [← hW]; exact two_nw _ _ _
  have G1 := Lib.hid (H1.out.below hb2 (Nat.le_refl _))
  have G2 := Lib.hid (H2.out.below hb2 (Nat.le_refl _))
  have G3 := Lib.hid (H3.out.below hb2 (Nat.le_refl _))
  have HB2 := Lib.hid (HB1.out.trans (hb2.mono HB1.out.size))
  have KC := Lib.hid kC
  have KP := Lib.hid kP
  clear hb2 kC kP hW H1 H2 H3 HB1
  refine (krun_any exC exL _ 0 4 _ G1.out).mono ?_
  rintro e w3 ⟨rfl, hb3⟩
  rw [exRun]
  have cC := block_cell ((hb3.block _ (lt_of_block KC.out)).trans KC.out)
  have zC := Nat.lt_of_lt_of_le (lt_of_block KC.out) hb3.size
  have HB3 := Lib.hid hb3
  clear hb3
  go_wp2_with fail
  have bx : Below w3.heap.size w3 (w3.alloc (Obj.cells #[.int .i64 421, .int .i64 425] 37)) := (Below.refl _ _).alloc (Nat.le_refl _) _
  have kx : (w3.alloc (Obj.cells #[.int .i64 421, .int .i64 425] 37)).heap[w3.heap.size]? = some (Obj.cells #[.int .i64 421, .int .i64 425] 37) := block_new _ _ _ rfl
  generalize w3.alloc (Obj.cells #[.int .i64 421, .int .i64 425] 37) = w4 at *
  have hb4 := HB3.out.trans (bx.mono HB3.out.size)
  have HB4 := Lib.hid hb4
  have KX := Lib.hid kx
  clear bx kx cC zC hb4
  refine (kwit_any exC exL _ 0 4 421 _ (G1.out.below HB4.out (Nat.le_refl _))).mono ?_
  rintro e w5 ⟨v5, rfl, h5, hb5⟩
  rw [exWitE]
  rw [exWit] at h5
  have HB5 := Lib.hid (HB4.out.trans (hb5.mono HB4.out.size))
  have KX5 := Lib.hid ((hb5.block _ (lt_of_block KX.out)).trans KX.out)
  have H5 := Lib.hid h5
  obtain ⟨a5, c5, rfl, _, _, _⟩ := h5
  rw [show [(100 : Int), 103, 108, 110].length = 4 from rfl] at *
  have cP := block_cell ((HB5.out.block _ (lt_of_block KP.out)).trans KP.out)
  have zP := Nat.lt_of_lt_of_le (lt_of_block KP.out) HB5.out.size
  clear hb5
  go_wp2_with fail
  refine (kdue_any exP exU _ _ 0 1000 _ (G2.out.below HB5.out (Nat.le_refl _)) (G3.out.below HB5.out (Nat.le_refl _))).mono ?_
  rintro e w6 ⟨rfl, hb6⟩
  rw [exDue]
  have HB6 := Lib.hid (HB5.out.trans (hb6.mono HB5.out.size))
  have cX := block_cell ((hb6.block _ (lt_of_block KX5.out)).trans KX5.out)
  have zX := Nat.lt_of_lt_of_le (lt_of_block KX5.out) hb6.size
  have H6 := Lib.hid (H5.out.below hb6 (Nat.le_refl _))
  clear hb6 cP zP
  go_wp2_with fail
  refine (sameInts_any _ _ [100, 103, 108, 110] [100, 103, 108, 110] _ (H6.out.below ((Below.refl _ _).alloc (Nat.le_refl _) _) (Nat.le_refl _)) (int4 _ _ _ _ _)).mono ?_
  rintro e w7 ⟨rfl, hb7⟩
  go_wp2
  go_ret
  exact ⟨rfl, HB2.out.trans ((HB6.out.trans ((((Below.refl _ _).alloc (Nat.le_refl _) _).trans (hb7.mono (al_le _ _))).mono HB6.out.size)).mono HB2.out.size)⟩

end Go.Proofs.Ytkahhclmmlkpjaa
