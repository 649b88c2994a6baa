/- The plain mathematics of layer 1 (drive), sixth part: each history lies within the bounds, which are reached. -/
import Derived.Test.YtpoenjnpfodfpaaHq
import Derived.Test.YtpoenjnpfodfpaaPl
import Derived.Test.YtpoenjnpfodfpaaRx
namespace Go.Proofs.Ytpoenjnpfodfpaa
open Go.RowKit

theorem rep_span {S : Stp} (h : S.lo ≤ S.hi) (n : Nat) : InSpan S (List.replicate n S.lo) := by
  intro t ht
  rw [List.length_replicate] at ht
  rw [List.getD_eq_getElem?_getD, List.getElem?_replicate, if_pos ht]
  exact ⟨Int.le_refl _, h⟩

theorem path_between {E : Esc} {S : Stp} (hE : E.ok = true) (hS : S.Num) (t : Nat) : pathM E S false t ≤ pathM E S true t := by
  have := play_between hE hS (rep_span hS.lohi t) t (by rw [List.length_replicate]; exact Nat.le_refl _)
  omega

theorem path_low {E : Esc} {S : Stp} (hE : E.ok = true) (hS : S.Num) (hr : pathM E S true (restN E S true) = 0) : pathM E S false (restN E S false) = 0 ∧ restN E S false ≤ restN E S true := by
  obtain ⟨r1, r2, r3⟩ := restN_spec E S true
  obtain ⟨s1, s2, s3⟩ := restN_spec E S false
  have hle : restN E S false ≤ restN E S true := by
    rcases Nat.lt_or_ge (restN E S true) (restN E S false) with hlt | hge
    · have a := path_between hE hS (restN E S true)
      have b := path_nonneg (E := E) hS false (restN E S true) (by omega)
      exact absurd (by omega) (s2 _ hlt)
    · exact hge
  refine ⟨?_, hle⟩
  rcases Nat.lt_or_ge (restN E S false) 100 with hlt | hge
  · exact s3 hlt
  · have e : restN E S false = restN E S true := by omega
    have a := path_between hE hS (restN E S false)
    have b := path_nonneg (E := E) hS false (restN E S false) (Nat.le_refl _)
    rw [e] at a b
    rw [e]
    omega

theorem play_nonneg {E : Esc} {S : Stp} (hS : S.Num) (L : List Int) (n : Nat) : ∀ t, t ≤ restG (playM E S L) n → 0 ≤ playM E S L t := by
  intro t
  induction t with
  | zero => intro _; exact hS.sp0
  | succ t ih =>
    intro ht
    have h0 := ih (by omega)
    have h1 := (restG_spec (playM E S L) n).2.1 t (by omega)
    have h2 : 0 < playM E S L t := by omega
    simp only [playM]
    exact nextM_pos h2

/-- THE STOP: each history lies within the bounds. -/
theorem within_says {E : Esc} {S : Stp} {L : List Int} (hE : E.ok = true) (hS : S.Num) (hL : InSpan S L) (hr : pathM E S true (restN E S true) = 0) :
    wayG (playM E S L) (restG (playM E S L) L.length) ≤ wayTo E S true (restN E S true) ∧
    (playM E S L (restG (playM E S L) L.length) = 0 → wayTo E S false (restN E S false) ≤ wayG (playM E S L) (restG (playM E S L) L.length) ∧ restN E S false ≤ restG (playM E S L) L.length ∧ restG (playM E S L) L.length ≤ restN E S true) ∧
    (playM E S L (restG (playM E S L) L.length) ≠ 0 → restG (playM E S L) L.length < restN E S true) := by
  obtain ⟨g1, g2, g3⟩ := restG_spec (playM E S L) L.length
  have pn := play_nonneg (E := E) hS L L.length
  generalize restG (playM E S L) L.length = n at *
  obtain ⟨s1, s2, s3⟩ := restN_spec E S false
  have bt := play_between hE hS hL
  have nle : n ≤ restN E S true := by
    rcases Nat.lt_or_ge (restN E S true) n with hlt | hge
    · have a := (bt (restN E S true) (by omega)).2
      have b := pn (restN E S true) (by omega)
      exact absurd (by omega) (g2 _ hlt)
    · exact hge
  refine ⟨?_, fun hz => ⟨?_, ?_, nle⟩, fun hz => ?_⟩
  · rw [wayTo_wayG]
    have a := wayG_le (u := playM E S L) (v := pathM E S true) n (fun i _ hi => (bt i (by omega)).2)
    have b := wayG_more (u := pathM E S true) (m := n) (restN E S true) nle (fun i _ hi => path_nonneg hS true i hi)
    omega
  · have mle : restN E S false ≤ n := by
      rcases Nat.lt_or_ge n (restN E S false) with hlt | hge
      · have a := (bt n g1).1
        have b := path_nonneg (E := E) hS false n (by omega)
        exact absurd (by omega) (s2 _ hlt)
      · exact hge
    rw [wayTo_wayG]
    have a := wayG_le (u := pathM E S false) (v := playM E S L) (restN E S false) (fun i _ hi => (bt i (by omega)).1)
    have b := wayG_more (u := playM E S L) (m := restN E S false) n mle (fun i _ hi => pn i hi)
    omega
  · rcases Nat.lt_or_ge n (restN E S false) with hlt | hge
    · have a := (bt n g1).1
      have b := path_nonneg (E := E) hS false n (by omega)
      exact absurd (by omega) (s2 _ hlt)
    · exact hge
  · rcases Nat.lt_or_ge n (restN E S true) with hlt | hge
    · exact hlt
    · have e : n = restN E S true := by omega
      have a := (bt n g1).2
      have b := pn n (Nat.le_refl _)
      rw [e, hr] at a
      rw [e] at hz b
      omega

/-- The witness' loads make the extreme path. -/
theorem play_path {E : Esc} {S : Stp} (hS : S.Num) (most : Bool) (K : Nat) : ∀ t, t ≤ K → playM E S (loadsTo E S most K) t = pathM E S most t := by
  intro t
  induction t with
  | zero => intro _; rfl
  | succ t ih =>
    intro ht
    have e : (loadsTo E S most K).getD t 0 = (extM E S (pathM E S most t) t most).1 := by
      have ht' : t < K := by omega
      simp [loadsTo, loadAt, List.getD_eq_getElem?_getD, ht']
    simp only [playM, pathM]
    rw [ih (by omega), e, (ext_at most hS.lohi).2.2]

theorem loads_span {E : Esc} {S : Stp} (hS : S.Num) (most : Bool) (K : Nat) : InSpan S (loadsTo E S most K) := by
  intro t ht
  rw [loadsTo_len] at ht
  have e : (loadsTo E S most K).getD t 0 = (extM E S (pathM E S most t) t most).1 := by simp [loadsTo, loadAt, List.getD_eq_getElem?_getD, ht]
  rw [e]
  have := ext_at (E := E) (S := S) (v := pathM E S most t) (tick := t) most hS.lohi
  exact ⟨this.1, this.2.1⟩

theorem span_histB {S : Stp} {xs : List Int} (h : InSpan S xs) (hl : xs.length ≤ 100) : histB S xs = true := by
  unfold histB
  rw [all_of (d := 0) (fun i hi => by have := h i hi; unfold inB; rw [Bool.and_eq_true, decide_eq_true_eq, decide_eq_true_eq]; exact this), decide_eq_true hl]
  rfl

theorem loads_hist {E : Esc} {S : Stp} (hS : S.Num) (most : Bool) : histB S (loadsTo E S most (restN E S most)) = true :=
  span_histB (loads_span hS most _) (by rw [loadsTo_len]; exact (restN_spec E S most).1)

theorem rest_loads {E : Esc} {S : Stp} (hS : S.Num) (most : Bool) :
    restG (playM E S (loadsTo E S most (restN E S most))) (loadsTo E S most (restN E S most)).length = restN E S most ∧
    wayG (playM E S (loadsTo E S most (restN E S most))) (restN E S most) = wayTo E S most (restN E S most) ∧
    playM E S (loadsTo E S most (restN E S most)) (restN E S most) = pathM E S most (restN E S most) := by
  have hp := play_path (E := E) hS most (restN E S most)
  obtain ⟨s1, s2, s3⟩ := restN_spec E S most
  refine ⟨?_, ?_, hp _ (Nat.le_refl _)⟩
  · rw [loadsTo_len]
    exact restG_eq (Nat.le_refl _) (fun i hi => by rw [hp i (by omega)]; exact s2 i hi) (fun h => by omega)
  · rw [wayTo_wayG]
    exact wayG_congr _ hp

theorem speedsL_small {E : Esc} {S : Stp} {xs : List Int} (hE : E.ok = true) (hS : S.Num) (hL : InSpan S xs) (hl : xs.length ≤ 100) : Small (speedsL E S xs) := by
  intro i hi
  rw [speedsL_len] at hi
  rw [speedsL_at E S xs hi]
  have := play_bd hE hS hL (i + 1) (by omega)
  omega

theorem seq_play (E : Esc) (S : Stp) (xs : List Int) (i : Nat) (h : i ≤ xs.length) : seqOf S.sp (speedsL E S xs) i = playM E S xs i :=
  seqOf_map (u := playM E S xs) (sp := S.sp) rfl i h

theorem rest_play {E : Esc} {S : Stp} (hE : E.ok = true) (hS : S.Num) (v : Value) (xs : List Int) (w : World) (hL : InSpan S xs) (hl : xs.length ≤ 100) (h : InAt w v (speedsL E S xs)) :
    Calls Try.prog 42 #[.int .i64 S.sp, v] w fun e w' => e = .returned (restV (wayG (playM E S xs) (restG (playM E S xs) xs.length)) (restG (playM E S xs) xs.length) (playM E S xs (restG (playM E S xs) xs.length) == 0)) ∧ w = w' := by
  refine (rest_any S.sp v _ w h (speedsL_small hE hS hL hl) (by rw [speedsL_len]; exact hl)).mono ?_
  rintro e w' ⟨rfl, rfl⟩
  have e1 : restG (seqOf S.sp (speedsL E S xs)) (speedsL E S xs).length = restG (playM E S xs) xs.length := by
    rw [speedsL_len, restG_congr (seq_play E S xs)]
  have hr := (restG_spec (playM E S xs) xs.length).1
  rw [e1, seq_play E S xs _ hr, wayG_congr _ (fun i hi => seq_play E S xs i (by omega))]
  exact ⟨rfl, rfl⟩

end Go.Proofs.Ytpoenjnpfodfpaa
