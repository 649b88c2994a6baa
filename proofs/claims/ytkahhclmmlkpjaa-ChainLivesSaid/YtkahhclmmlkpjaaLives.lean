/-
  ChainLives: in each possible history the wear behind each use lies in Wear, nothing is refuted, and the part is beyond its life behind no use before Beyond and behind each from Surely on, for every part, uses and history.
-/
import Derived.Test.YtkahhclmmlkpjaaUd
import Derived.Test.YtkahhclmmlkpjaaUo
import Derived.OpenShut
namespace Go.Proofs.Ytkahhclmmlkpjaa
open Go.ChangeShapes Go.WideShapes Go.ChangeAt Go.RowKit Go.Deep
set_option maxRecDepth 100000

theorem ownChainLives : ownKnob Try.prog.godebug = none := by kernel_rfl
theorem laidChainLives : laidOutB Try.prog = true := by kernel_rfl

theorem chainLives_lifted (os : Os) (started : os.Started) (H : Type) (enc : TypeId × Value → H) :
    ReturnsInHanded {} Try.checked os 14 .any (Rows.chainLivesSpec.pre6 enc Try.prog Try.f14 Rows.chainLivesRow.domain false) (Rows.chainLivesSpec.post enc Try.prog Try.f14 false true false false) := by
  refine returnsInHanded_of_change_sized (C := Try.checked) ownChainLives started (by kernel_rfl) Try.func14
    (ChangeSpec.witness6 (enc := enc) (C := Try.checked) false ⟨#[], #[.agg #[.slice none 0 0, .int .i64 0, .int .i64 0, .int .i64 0], .slice none 0 0, .slice none 0 0], []⟩ 8 (by kernel_rfl) (by kernel_rfl) (by kernel_rfl) (by kernel_rfl)) ?_
  intro W base args ds gs before hval0 hW hcnd hsz0 _
  have hval : ∀ (j : Nat) t v, Try.f14.params[j]? = some t → args[j]? = some v → Value.okWide Try.prog W .any base t v := hval0
  have hW' := hW
  obtain ⟨p, q, hA0, hV, rfl, hfz, hnd⟩ := hW
  have hA : DataW.TrodAll enc Try.prog W 0 (fun _ => true) true Try.f14.params.toList args.toList ds p := hA0
  have hsz : (DataW.weightsEach Try.prog (Try.f14.params.toList ++ Rows.chainLivesSpec.plain.varTypes Try.prog) (ds ++ gs)).all (· ≤ reachBytes) = true := hsz0
  rw [Try.params14] at hA hval hsz
  obtain ⟨v0, vs0, d0, ds0, p0, q0, hargs, rfl, rfl, h0, r0⟩ := trodAll_cons hA
  obtain ⟨v1, vs1, d1, ds1, p1, q1, rfl, rfl, rfl, h1, r1⟩ := trodAll_cons r0
  obtain ⟨v2, vs2, d2, ds2, p2, q2, rfl, rfl, rfl, h2, r2⟩ := trodAll_cons r1
  obtain ⟨rfl, rfl, rfl⟩ := trodAll_nil r2
  obtain rfl : args = #[v0, v1, v2] := by cases args; simp_all
  obtain ⟨rfl, rfl⟩ := trodVars_none hV
  have lt0 : ∀ x ∈ p0, x.block < W.heap.size := by obtain ⟨m, hm⟩ := h0; exact DataW.trod_lt m _ _ _ hm
  have lt1 : ∀ x ∈ p1, x.block < W.heap.size := by obtain ⟨m, hm⟩ := h1; exact DataW.trod_lt m _ _ _ hm
  have lt2 : ∀ x ∈ p2, x.block < W.heap.size := by obtain ⟨m, hm⟩ := h2; exact DataW.trod_lt m _ _ _ hm
  obtain ⟨P0, bv0, rfl, hr0, parts0, dd0, rfl, hp0, hs0⟩ := prt_of (hval 0 _ v0 rfl rfl) h0
  obtain ⟨us1, hu1, hs1⟩ := uses_of (hval 1 _ v1 rfl rfl) h1
  obtain ⟨xs2, hu2, hs2⟩ := ints_of (hval 2 _ v2 rfl rfl) h2
  have wr0 : P0.rs.length * 16 ≤ 140737488351232 := by have := hs0.weight (P := Try.prog) Try.underlying32 (weights_part Try.underlying54 (i := 0) rfl hp0 (weights_arg hsz (j := 0) rfl rfl)); rw [show Try.prog.bytesOf 37 = 16 by kernel_rfl] at this; exact this
  have wu1 : us1.length * 48 ≤ 140737488351232 := by have := hs1.weight (P := Try.prog) Try.underlying55 (weights_arg hsz (j := 1) rfl rfl); rw [show Try.prog.bytesOf 89 = 48 by kernel_rfl] at this; exact this
  clear hA0 hval0
  refine (lives_any P0 us1 xs2 bv0 v1 v2 W hr0 hu1 hu2).mono fun e W' ⟨he, bel⟩ => ?_
  subst he
  exact ⟨_, rfl, _, _, _, [], _, [], hW', trodAll_mk1 (shut_bool Try.underlying4 _), (trodAll_cons_mk (Below.trod laidChainLives (by kernel_rfl) (of_decide_eq_true (by kernel_rfl)) h0 bel lt0) (trodAll_cons_mk (Below.trod laidChainLives (by kernel_rfl) (of_decide_eq_true (by kernel_rfl)) h1 bel lt1) (trodAll_cons_mk (Below.trod laidChainLives (by kernel_rfl) (of_decide_eq_true (by kernel_rfl)) h2 bel lt2) trodAll_mk0))), rfl, bel.frame _, fun h => by cases h⟩

theorem chainLives_holds : Rows.ChainLivesSaid :=
  OpenClaim.holds_of_wide 14 Try.f14 rfl rfl rfl rfl rfl rfl rfl ⟨rfl, rfl, rfl, rfl, rfl⟩ rfl rfl rfl rfl rfl (by kernel_rfl) Try.func14 (by kernel_rfl)
    (of_decide_eq_true (by kernel_rfl)) (by unfold Func.isWrapper; rw [if_neg (of_decide_eq_false (by kernel_rfl))]; exact ⟨rfl, rfl⟩)
    (fun os started H enc _ => chainLives_lifted os started H enc)

#print axioms chainLives_holds
end Go.Proofs.Ytkahhclmmlkpjaa
