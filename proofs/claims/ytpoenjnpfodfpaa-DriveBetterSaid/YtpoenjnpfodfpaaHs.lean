/- The plain mathematics of layer 1 (drive), seventh part: what runs back; brakes that grip at once. -/
import Derived.Test.YtpoenjnpfodfpaaHr
namespace Go.Proofs.Ytpoenjnpfodfpaa
open Go.RowKit

def onceTo (E : Esc) (S : Stp) : Nat → Bool
  | 0 => holdsM E S
  | k + 1 => onceTo E S k && ((E.bs.getD k (0, 0)).2 == 0 || failB S.fa k)

theorem onceTo_spec {E : Esc} {S : Stp} : ∀ n, onceTo E S n = true → holdsM E S = true ∧ ∀ k, k < n → (E.bs.getD k (0, 0)).2 = 0 ∨ failB S.fa k = true := by
  intro n
  induction n with
  | zero => intro h; exact ⟨h, fun k hk => by omega⟩
  | succ n ih =>
    intro h
    simp only [onceTo, Bool.and_eq_true, Bool.or_eq_true, beq_iff_eq] at h
    obtain ⟨h1, h2⟩ := ih h.1
    refine ⟨h1, fun k hk => ?_⟩
    by_cases hkn : k = n
    · rw [hkn]; exact h.2
    · exact h2 k (by omega)

theorem once_grip {E : Esc} {S : Stp} (h : onceTo E S E.bs.length = true) (t : Nat) : gripM E S t = heldM E S := by
  obtain ⟨_, h2⟩ := onceTo_spec _ h
  unfold gripM heldM
  apply forceTo_congr
  intro k hk
  unfold gripB
  rcases h2 k hk with h | h
  · rw [h, decide_eq_true (by omega), Bool.and_true]
  · rw [h]; rfl

theorem once_rest {E : Esc} {S : Stp} (hE : E.ok = true) (hS : S.Num) (h : onceTo E S E.bs.length = true) (t : Nat) {load : Int} (h1 : S.lo ≤ load) (h2 : load ≤ S.hi) : nextM E 0 load (gripM E S t) = 0 := by
  have hh := (onceTo_spec _ h).1
  unfold holdsM at hh
  rw [decide_eq_true_eq] at hh
  have h0 := hS.lo0
  have p := (Esc.ok_num hE).pu1
  apply nextM_rest (Int.mul_nonneg p (by omega))
  rw [once_grip h]
  have := Int.mul_le_mul_of_nonneg_left h2 p
  omega

theorem once_path {E : Esc} {S : Stp} (hE : E.ok = true) (hS : S.Num) (h : onceTo E S E.bs.length = true) : ∀ t : Nat, 0 ≤ pathM E S false t := by
  intro t
  induction t with
  | zero => exact hS.sp0
  | succ t ih =>
    obtain ⟨a1, a2, a3⟩ := ext_at (E := E) (S := S) (v := pathM E S false t) (tick := t) false hS.lohi
    simp only [pathM]
    rw [a3]
    by_cases hz : pathM E S false t = 0
    · rw [hz] at a1 a2 ⊢
      rw [once_rest hE hS h t a1 a2]
      exact Int.le_refl _
    · exact nextM_pos (by omega)

theorem once_back {E : Esc} {S : Stp} (hE : E.ok = true) (hS : S.Num) (hf : checkStopM E S = 0) (h : onceTo E S E.bs.length = true) : backM E S = ⟨0, 0⟩ := by
  have hp := once_path hE hS h
  unfold backM
  rw [if_pos hf, if_pos (hp 100)]
  have : ∀ n, backTo E S n = 0 := by
    intro n
    induction n with
    | zero => rfl
    | succ n ih => simp only [backTo]; have := hp (n + 1); omega
  rw [this]

theorem once_play {E : Esc} {S : Stp} {L : List Int} (hE : E.ok = true) (hS : S.Num) (hL : InSpan S L) (h : onceTo E S E.bs.length = true) {t : Nat} (ht : t < L.length) (hz : playM E S L t = 0) : playM E S L (t + 1) = 0 := by
  obtain ⟨l1, l2⟩ := hL t ht
  simp only [playM]
  rw [hz]
  exact once_rest hE hS h t l1 l2

/-- THE RUN BACK: no history runs back farther. -/
theorem behind_le {E : Esc} {S : Stp} {L : List Int} (hE : E.ok = true) (hS : S.Num) (hL : InSpan S L) (hl : L.length ≤ 100) : behG (playM E S L) L.length ≤ backTo E S 100 := by
  rw [backTo_behG]
  have a := behG_le (u := playM E S L) (v := pathM E S false) L.length (fun i _ hi => (play_between hE hS hL i hi).1)
  have b := behG_more (u := pathM E S false) (m := L.length) 100 hl
  omega

theorem behind_play {E : Esc} {S : Stp} (hE : E.ok = true) (hS : S.Num) (v : Value) (xs : List Int) (w : World) (hL : InSpan S xs) (hl : xs.length ≤ 100) (h : InAt w v (speedsL E S xs)) :
    Calls Try.prog 43 #[v] w fun e w' => e = .returned (.int .i64 (behG (playM E S xs) xs.length)) ∧ w = w' := by
  refine (behind_any v _ w h (speedsL_small hE hS hL hl) (by rw [speedsL_len]; exact hl)).mono ?_
  rintro e w' ⟨rfl, rfl⟩
  refine ⟨?_, rfl⟩
  rw [speedsL_len]
  apply ret_int
  have : ∀ n, n ≤ xs.length → behG (seqOf 0 (speedsL E S xs)) n = behG (playM E S xs) n := by
    intro n
    induction n with
    | zero => intro _; rfl
    | succ n ih =>
      intro hn
      simp only [behG]
      rw [ih (by omega), seqOf_succ, speedsL_at E S xs (by omega)]
  exact this _ (Nat.le_refl _)

end Go.Proofs.Ytpoenjnpfodfpaa
