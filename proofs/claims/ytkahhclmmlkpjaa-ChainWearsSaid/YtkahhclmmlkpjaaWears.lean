/-
  ChainWears: CheckPart, Wear, Refuted, Beyond and Surely of the program return what the specification's return, for every part and uses.
-/
import Derived.Test.YtkahhclmmlkpjaaUa
import Derived.Test.YtkahhclmmlkpjaaUo
import Derived.OpenShut
namespace Go.Proofs.Ytkahhclmmlkpjaa
open Go.ChangeShapes Go.WideShapes Go.ChangeAt Go.RowKit Go.Deep
set_option maxRecDepth 100000

theorem ownChainWears : ownKnob Try.prog.godebug = none := by kernel_rfl
theorem laidChainWears : laidOutB Try.prog = true := by kernel_rfl

theorem chainWears_lifted (os : Os) (started : os.Started) (H : Type) (enc : TypeId × Value → H) :
    ReturnsInHanded {} Try.checked os 8 .any (Rows.chainWearsSpec.pre6 enc Try.prog Try.f8 Rows.chainWearsRow.domain false) (Rows.chainWearsSpec.post enc Try.prog Try.f8 false true false false) := by
  refine returnsInHanded_of_change_sized (C := Try.checked) ownChainWears started (by kernel_rfl) Try.func8
    (ChangeSpec.witness6 (enc := enc) (C := Try.checked) false ⟨#[], #[.agg #[.slice none 0 0, .int .i64 0, .int .i64 0, .int .i64 0], .slice none 0 0], []⟩ 8 (by kernel_rfl) (by kernel_rfl) (by kernel_rfl) (by kernel_rfl)) ?_
  intro W base args ds gs before hval0 hW hcnd hsz0 _
  have hval : ∀ (j : Nat) t v, Try.f8.params[j]? = some t → args[j]? = some v → Value.okWide Try.prog W .any base t v := hval0
  have hW' := hW
  obtain ⟨p, q, hA0, hV, rfl, hfz, hnd⟩ := hW
  have hA : DataW.TrodAll enc Try.prog W 0 (fun _ => true) true Try.f8.params.toList args.toList ds p := hA0
  have hsz : (DataW.weightsEach Try.prog (Try.f8.params.toList ++ Rows.chainWearsSpec.plain.varTypes Try.prog) (ds ++ gs)).all (· ≤ reachBytes) = true := hsz0
  rw [Try.params8] at hA hval hsz
  obtain ⟨v0, vs0, d0, ds0, p0, q0, hargs, rfl, rfl, h0, r0⟩ := trodAll_cons hA
  obtain ⟨v1, vs1, d1, ds1, p1, q1, rfl, rfl, rfl, h1, r1⟩ := trodAll_cons r0
  obtain ⟨rfl, rfl, rfl⟩ := trodAll_nil r1
  obtain rfl : args = #[v0, v1] := by cases args; simp_all
  obtain ⟨rfl, rfl⟩ := trodVars_none hV
  have lt0 : ∀ x ∈ p0, x.block < W.heap.size := by obtain ⟨m, hm⟩ := h0; exact DataW.trod_lt m _ _ _ hm
  have lt1 : ∀ x ∈ p1, x.block < W.heap.size := by obtain ⟨m, hm⟩ := h1; exact DataW.trod_lt m _ _ _ hm
  obtain ⟨P0, bv0, rfl, hr0, parts0, dd0, rfl, hp0, hs0⟩ := prt_of (hval 0 _ v0 rfl rfl) h0
  obtain ⟨us1, hu1, hs1⟩ := uses_of (hval 1 _ v1 rfl rfl) h1
  have wr0 : P0.rs.length * 16 ≤ 140737488351232 := by have := hs0.weight (P := Try.prog) Try.underlying32 (weights_part Try.underlying54 (i := 0) rfl hp0 (weights_arg hsz (j := 0) rfl rfl)); rw [show Try.prog.bytesOf 37 = 16 by kernel_rfl] at this; exact this
  have wu1 : us1.length * 48 ≤ 140737488351232 := by have := hs1.weight (P := Try.prog) Try.underlying55 (weights_arg hsz (j := 1) rfl rfl); rw [show Try.prog.bytesOf 89 = 48 by kernel_rfl] at this; exact this
  clear hA0 hval0
  refine (wears_any P0 us1 bv0 v1 W hr0 hu1 wr0 wu1).mono fun e W' ⟨he, bel⟩ => ?_
  subst he
  exact ⟨_, rfl, _, _, _, [], _, [], hW', trodAll_mk1 (shut_bool Try.underlying4 _), (trodAll_cons_mk (Below.trod laidChainWears (by kernel_rfl) (of_decide_eq_true (by kernel_rfl)) h0 bel lt0) (trodAll_cons_mk (Below.trod laidChainWears (by kernel_rfl) (of_decide_eq_true (by kernel_rfl)) h1 bel lt1) trodAll_mk0)), rfl, bel.frame _, fun h => by cases h⟩

theorem chainWears_holds : Rows.ChainWearsSaid :=
  OpenClaim.holds_of_wide 8 Try.f8 rfl rfl rfl rfl rfl rfl rfl ⟨rfl, rfl, rfl, rfl, rfl⟩ rfl rfl rfl rfl rfl (by kernel_rfl) Try.func8 (by kernel_rfl)
    (of_decide_eq_true (by kernel_rfl)) (by unfold Func.isWrapper; rw [if_neg (of_decide_eq_false (by kernel_rfl))]; exact ⟨rfl, rfl⟩)
    (fun os started H enc _ => chainWears_lifted os started H enc)

#print axioms chainWears_holds
end Go.Proofs.Ytkahhclmmlkpjaa
