/-
  ChainFuture: in no possible history the part is beyond its life behind the uses of a plan that Last allows, and with one use more Beyond names it, for every part, uses, plan and history (where what comes in is of bulk at most 1048576).
-/
import Derived.Test.YtkahhclmmlkpjaaUe
import Derived.Test.YtkahhclmmlkpjaaUo
import Derived.Test.YtkahhclmmlkpjaaGb
import Derived.OpenShut
import Derived.JoinedCond
namespace Go.Proofs.Ytkahhclmmlkpjaa
open Go.ChangeShapes Go.WideShapes Go.ChangeAt Go.RowKit Go.Deep
set_option maxRecDepth 100000

theorem ownChainFuture : ownKnob Try.prog.godebug = none := by kernel_rfl
theorem laidChainFuture : laidOutB Try.prog = true := by kernel_rfl

theorem chainFuture_lifted (os : Os) (started : os.Started) (H : Type) (enc : TypeId × Value → H) (F : Stop.Interp) :
    ReturnsInHanded {} Try.checked os 15 .any ((Rows.OpenSpec.upto Rows.chainFutureSpec).pre6 enc Try.prog Try.f15 Rows.chainFutureUptoRow.domain false) (((Rows.OpenSpec.upto Rows.chainFutureSpec).at F).post enc Try.prog Try.f15 false true false false) := by
  refine returnsInHanded_of_cond (C := Try.checked) (s := Rows.OpenSpec.upto Rows.chainFutureSpec) (k := Rows.uptoSmall) rfl ownChainFuture started (by kernel_rfl) Try.func15
    (OpenSpec.witness (enc := enc) (C := Try.checked) (s := Rows.OpenSpec.upto Rows.chainFutureSpec) (k := Rows.uptoSmall) rfl false ⟨#[], #[.agg #[.slice none 0 0, .int .i64 0, .int .i64 0, .int .i64 0], .slice none 0 0, .agg #[.slice none 0 0, .slice none 0 0]], []⟩ 8 (by kernel_rfl) (by kernel_rfl) (by kernel_rfl)
      (x := ([.agg [.nil, .lit (.int .i64 0), .lit (.int .i64 0), .lit (.int .i64 0)], .nil, .agg [.nil, .nil]], [], [])) (by kernel_rfl) rfl (by kernel_rfl)) ?_
  intro W base args ds gs before hval0 hW _ hk0 _
  have hval : ∀ (j : Nat) t v, Try.f15.params[j]? = some t → args[j]? = some v → Value.okWide Try.prog W .any base t v := hval0
  have hW' := hW
  obtain ⟨p, q, hA0, hV, rfl, hfz, hnd⟩ := hW
  have hA : DataW.TrodAll enc Try.prog W 0 (fun _ => true) true Try.f15.params.toList args.toList ds p := hA0
  have hk := bulk_bound hk0
  rw [Try.params15] at hA hval
  obtain ⟨v0, vs0, d0, ds0, p0, q0, hargs, rfl, rfl, h0, r0⟩ := trodAll_cons hA
  obtain ⟨v1, vs1, d1, ds1, p1, q1, rfl, rfl, rfl, h1, r1⟩ := trodAll_cons r0
  obtain ⟨v2, vs2, d2, ds2, p2, q2, rfl, rfl, rfl, h2, r2⟩ := trodAll_cons r1
  obtain ⟨rfl, rfl, rfl⟩ := trodAll_nil r2
  obtain rfl : args = #[v0, v1, v2] := by cases args; simp_all
  obtain ⟨rfl, rfl⟩ := trodVars_none hV
  have lt0 : ∀ x ∈ p0, x.block < W.heap.size := by obtain ⟨m, hm⟩ := h0; exact DataW.trod_lt m _ _ _ hm
  have lt1 : ∀ x ∈ p1, x.block < W.heap.size := by obtain ⟨m, hm⟩ := h1; exact DataW.trod_lt m _ _ _ hm
  have lt2 : ∀ x ∈ p2, x.block < W.heap.size := by obtain ⟨m, hm⟩ := h2; exact DataW.trod_lt m _ _ _ hm
  obtain ⟨P0, bv0, rfl, hr0, parts0, dd0, rfl, hp0, hs0⟩ := prt_of (hval 0 _ v0 rfl rfl) h0
  obtain ⟨us1, hu1, hs1⟩ := uses_of (hval 1 _ v1 rfl rfl) h1
  obtain ⟨pv2, wv2, us2, ws2, rfl, hu2, hw2, parts2, dd2, rfl, hp2, hs2⟩ := planned_of (hval 2 _ v2 rfl rfl) h2
  simp only [List.append_nil, Rows.uptoBulkAll] at hk
  have hN0 : P0.rs.length ≤ 1048576 := by have := hs0.bulk; have := bulk_part hp0; omega
  have hN1 : us1.length ≤ 1048576 := by have := hs1.bulk; omega
  have hN2 : us2.length ≤ 1048576 := by have := hs2.bulk; have := bulk_part hp2; omega
  clear hA0 hval0
  refine (future_any P0 us1 us2 ws2 bv0 v1 pv2 wv2 W hr0 hu1 hu2 hw2 (by omega) (by omega)).mono fun e W' ⟨he, bel⟩ => ?_
  subst he
  exact ⟨_, rfl, _, _, _, [], _, [], hW', trodAll_mk1 (shut_bool Try.underlying4 _), (trodAll_cons_mk (Below.trod laidChainFuture (by kernel_rfl) (of_decide_eq_true (by kernel_rfl)) h0 bel lt0) (trodAll_cons_mk (Below.trod laidChainFuture (by kernel_rfl) (of_decide_eq_true (by kernel_rfl)) h1 bel lt1) (trodAll_cons_mk (Below.trod laidChainFuture (by kernel_rfl) (of_decide_eq_true (by kernel_rfl)) h2 bel lt2) trodAll_mk0))), rfl, bel.frame _, fun h => by cases h⟩

theorem chainFuture_holds : Rows.ChainFutureUptoSaid :=
  OpenClaim.holds_of_cond 15 Try.f15 rfl rfl rfl rfl rfl rfl rfl ⟨rfl, rfl, rfl, rfl, rfl⟩ rfl rfl rfl rfl rfl (by kernel_rfl) Try.func15 (by kernel_rfl)
    (of_decide_eq_true (by kernel_rfl)) (by unfold Func.isWrapper; first | (rw [if_pos (by decide +kernel)]; kernel_rfl) | (rw [if_neg (by decide +kernel)]; exact ⟨rfl, rfl⟩))
    (fun os started H enc _ F => chainFuture_lifted os started H enc F)

#print axioms chainFuture_holds
end Go.Proofs.Ytkahhclmmlkpjaa
