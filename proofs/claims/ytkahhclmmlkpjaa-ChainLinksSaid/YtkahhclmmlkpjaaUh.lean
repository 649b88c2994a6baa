/- ChainLongest, the walk. -/
import Derived.Test.YtkahhclmmlkpjaaTb
import Derived.Test.YtkahhclmmlkpjaaSf
import Derived.Test.YtkahhclmmlkpjaaVg
namespace Go.Proofs.Ytkahhclmmlkpjaa
open Go.RowKit

set_option maxRecDepth 100000 in
set_option maxHeartbeats 8000000 in
theorem longest_any (c : Chn) (l : List Gau) (v : Value) (m : Int) (w : World) (hv : GaAt w v l) (hn : l.length * 32 ≤ 140737488351232) :
    Calls Try.prog 4 #[chnV c, v, .int .i64 m] w fun e w' => e = .returned (.bool true) ∧ Below w.heap.size w w' := by
  have hb0 := (Below.refl w.heap.size w).alloc (Nat.le_refl _) (Obj.cells #[.int .i64 c.n, .int .i64 c.pi, .int .i64 c.li] 23)
  have k0 := block_new w (Obj.cells #[.int .i64 c.n, .int .i64 c.pi, .int .i64 c.li] 23) w.heap.size rfl
  have hsz : (w.alloc (Obj.cells #[.int .i64 c.n, .int .i64 c.pi, .int .i64 c.li] 23)).heap.size = w.heap.size + 1 := size_alloc _ _
  have K0 := Lib.hid k0
  have HB := Lib.hid hb0
  have HSZ := Lib.hid hsz
  clear k0 hb0 hsz
  have HV := Lib.hid (hv.below HB.out (Nat.le_refl _))
  obtain ⟨va, cap, rfl, hn1, hcap, hc⟩ := hv
  clear hc
  cases hfar : decide (42 < l.length)
  · obtain ⟨⟨r1, r2, r3⟩, hr⟩ : ∃ x, lonM c l m = x := ⟨_, rfl⟩
    have HR := Lib.hid hr
    clear hr
    go_enter Try.func4, Try.ntmps4
    go_wp2_with fail
    generalize hwA : w.alloc (Obj.cells #[.int .i64 c.n, .int .i64 c.pi, .int .i64 c.li] 23) = wA at *
    clear hwA
    have hce := block_cell K0.out
    go_wp2_with (go_at_call 17; refine (far_any l _ _ HV.out).mono ?_; rintro e w' ⟨rfl, rfl⟩; rw [hfar])
    have D : ∀ w', Below wA.heap.size wA w' → ((w'.cell? ⟨w.heap.size, 0, none⟩ = some (.int .i64 c.n) ∧ w'.cell? ⟨w.heap.size, 1, none⟩ = some (.int .i64 c.pi) ∧ w'.cell? ⟨w.heap.size, 2, none⟩ = some (.int .i64 c.li)) ∧ Below wA.heap.size wA w') := by
      intro w' h
      have c1 := block_cell ((h.block _ (lt_of_block K0.out)).trans K0.out)
      exact ⟨⟨c1 0, c1 1, c1 2⟩, h⟩
    clear hce
    go_cut [7, 8, 9] (fun s7 s8 s9 wx => s7 = .int .i64 r1 ∧ s8 = .int .i64 r2 ∧ s9 = .int .i64 r3 ∧ Hid (Below wA.heap.size wA wx))
    case first =>
      go_region_held3 (fun w' => (w'.cell? ⟨w.heap.size, 0, none⟩ = some (.int .i64 c.n) ∧ w'.cell? ⟨w.heap.size, 1, none⟩ = some (.int .i64 c.pi) ∧ w'.cell? ⟨w.heap.size, 2, none⟩ = some (.int .i64 c.li)) ∧ Below wA.heap.size wA w')
        (first | (with_reducible exact D _ (Below.drew (Below.refl _ _))) | (with_reducible exact D _ hB1) | (with_reducible exact D _ hB2) | fail)
        (first | (go_at_call 19; have hB0 := And.right ‹_ ∧ Below wA.heap.size wA _›; refine (copyGauges_any _ l _ (HV.out.below hB0 (Nat.le_refl _)) hn).mono ?_; rintro e w3 ⟨v3, rfl, ho3, hb3⟩; have hB1 := hB0.trans (hb3.mono hB0.size); have hU3 := ElAt.of_own (m := 4) (f := gauL) (xs := l) (fun _ => rfl) ho3) | (go_at_call 27; refine (kLongest_any c l _ _ _ hU3).mono ?_; rintro e w4 ⟨rfl, hb4⟩; rw [HR.out]; have hB2 := hB1.trans (hb4.mono hB1.size)))
      all_goals
        go_wp2_with fail
        go_meet
        exact ⟨rfl, rfl, rfl, And.right ‹_ ∧ Below wA.heap.size wA _›⟩
    case rest =>
      obtain ⟨rfl, rfl, rfl, HN1⟩ := hcut
      have hce := block_cell ((HN1.out.block _ (lt_of_block K0.out)).trans K0.out)
      have hz := Nat.lt_of_lt_of_le (lt_of_block K0.out) HN1.out.size
      clear D
      go_wp2_with fail
      refine (rLongest_any c l _ _ _ (HV.out.below HN1.out (Nat.le_refl _))).mono ?_
      rintro e w5 ⟨rfl, hb5⟩
      rw [HR.out]
      have HN2 := Lib.hid (HN1.out.trans (hb5.mono HN1.out.size))
      have e1 : (r1 == r1) = true := by simp
      have e2 : (r2 == r2) = true := by simp
      have e3 : (r3 == r3) = true := by simp
      clear hb5 hce
      go_wp2_with fail
      refine (works_any _).mono ?_
      rintro e w6 ⟨rfl, hb6⟩
      go_wp2
      go_ret
      exact ⟨rfl, HB.out.trans ((HN2.out.trans (hb6.mono HN2.out.size)).mono HB.out.size)⟩
  · go_enter Try.func4, Try.ntmps4
    go_wp2_with fail
    generalize hwA : w.alloc (Obj.cells #[.int .i64 c.n, .int .i64 c.pi, .int .i64 c.li] 23) = wA at *
    clear hwA
    go_wp2_with (go_at_call 17; refine (far_any l _ _ HV.out).mono ?_; rintro e w' ⟨rfl, rfl⟩; rw [hfar])
    refine (works_any _).mono ?_
    rintro e w6 ⟨rfl, hb6⟩
    go_wp2
    go_ret
    exact ⟨rfl, HB.out.trans (hb6.mono HB.out.size)⟩

end Go.Proofs.Ytkahhclmmlkpjaa
