import Derived.Test.YtbiihhokcmdlhaaZzQ
/- Texts of one seat, merged: Yi Yj Yk -/
/- The plain mathematics of layer 3 (circuit), sixth part: with the trials of a checked rota never two switches are stuck. Nothing here speaks of the program. -/
namespace Go.Proofs.Ytbiihhokcmdlhaa

/-- The night of the last switch that stuck among the first k upsets. -/
def lastS (u : List Ups) : Nat → Int
  | 0 => -60
  | k + 1 => if (u.getD k Ups.zero).ki = 1 then (u.getD k Ups.zero).ni else lastS u k
/-- Switches stick at least so many nights one after the other. -/
def apartB (u : List Ups) (gap : Int) : Nat → Bool
  | 0 => true
  | k + 1 => if (u.getD k Ups.zero).ki = 1 then apartB u gap k && decide (gap ≤ (u.getD k Ups.zero).ni - lastS u k) else apartB u gap k

theorem apart_le {u : List Ups} {gap : Int} : ∀ {n k : Nat}, k ≤ n → apartB u gap n = true → apartB u gap k = true
  | 0, k, h, ha => by have : k = 0 := by omega
                      subst this; exact ha
  | n + 1, k, h, ha => by
    by_cases e : k = n + 1
    · rw [e]; exact ha
    · refine apart_le (n := n) (by omega) ?_
      unfold apartB at ha
      split at ha
      · rw [Bool.and_eq_true] at ha; exact ha.1
      · exact ha

theorem last_ge {c : Cir} {u : List Ups} (hu : UVal c u) : ∀ {k j : Nat}, k ≤ u.length → j < k → (u.getD j Ups.zero).ki = 1 → (u.getD j Ups.zero).ni ≤ lastS u k
  | 0, j, _, h, _ => by omega
  | k + 1, j, hk, h, hj => by
    unfold lastS
    split
    · exact hu.le (by omega) (by omega)
    · rename_i hk1
      by_cases e : j = k
      · rw [e] at hj; exact absurd hj hk1
      · exact last_ge hu (by omega) (by omega) hj

/-- Two switches that stick do so at least so many nights apart. -/
theorem apart_two {c : Cir} {u : List Ups} (hu : UVal c u) {gap : Int} (ha : apartB u gap u.length = true) {i j : Nat} (hij : i < j) (hj : j < u.length) (hi1 : (u.getD i Ups.zero).ki = 1) (hj1 : (u.getD j Ups.zero).ki = 1) :
    gap ≤ (u.getD j Ups.zero).ni - (u.getD i Ups.zero).ni := by
  have h1 := apart_le (k := j + 1) (by omega) ha
  unfold apartB at h1
  rw [if_pos hj1, Bool.and_eq_true, decide_eq_true_eq] at h1
  have h2 := last_ge hu (k := j) (by omega) hij hi1
  omega

/-- What sticks in a night: nothing, or one switch. -/
theorem stk_one {c : Cir} {u : List Ups} (hu : UVal c u) {gap : Int} (hg : 1 ≤ gap) (ha : apartB u gap u.length = true) (n : Nat) :
    (∀ cl, stkL u cl (todM u n) = cl) ∨ ∃ i, i < u.length ∧ (u.getD i Ups.zero).ki = 1 ∧ (u.getD i Ups.zero).ni = n ∧ ∀ cl, stkL u cl (todM u n) = cl ||| 2 ^ (u.getD i Ups.zero).nu.toNat := by
  have key : ∀ T : List Nat, (∀ i ∈ T, i < u.length ∧ (u.getD i Ups.zero).ni = n) → T.Pairwise (· < ·) →
      (∀ cl, stkL u cl T = cl) ∨ ∃ i, i ∈ T ∧ (u.getD i Ups.zero).ki = 1 ∧ ∀ cl, stkL u cl T = cl ||| 2 ^ (u.getD i Ups.zero).nu.toNat := by
    intro T
    induction T with
    | nil => intro _ _; exact Or.inl fun _ => rfl
    | cons i T ih =>
      intro hT hp
      rw [List.pairwise_cons] at hp
      by_cases hk : (u.getD i Ups.zero).ki = 1
      · right
        refine ⟨i, List.mem_cons_self, hk, fun cl => ?_⟩
        show stkL u (if (u.getD i Ups.zero).ki = 1 then _ else cl) T = _
        rw [if_pos hk]
        refine stk_same T fun j hj hj1 => ?_
        have h1 := hT i List.mem_cons_self
        have h2 := hT j (List.mem_cons_of_mem _ hj)
        have h3 := apart_two hu ha (hp.1 j hj) h2.1 hk hj1
        rw [h1.2, h2.2] at h3
        omega
      · rcases ih (fun j hj => hT j (List.mem_cons_of_mem _ hj)) hp.2 with h | ⟨j, hj, hj1, h⟩
        · left
          intro cl
          show stkL u (if (u.getD i Ups.zero).ki = 1 then _ else cl) T = _
          rw [if_neg hk]; exact h cl
        · right
          refine ⟨j, List.mem_cons_of_mem _ hj, hj1, fun cl => ?_⟩
          show stkL u (if (u.getD i Ups.zero).ki = 1 then _ else cl) T = _
          rw [if_neg hk]; exact h cl
  have hT : ∀ i ∈ todM u n, i < u.length ∧ (u.getD i Ups.zero).ni = n := fun i hi => by
    unfold todM at hi
    rw [List.mem_filter, List.mem_range, decide_eq_true_eq] at hi
    exact hi
  have hp : (todM u n).Pairwise (· < ·) := by
    unfold todM
    exact List.Pairwise.filter _ List.pairwise_lt_range
  rcases key _ hT hp with h | ⟨i, hi, hi1, h⟩
  · exact Or.inl h
  · exact Or.inr ⟨i, (hT i hi).1, hi1, (hT i hi).2, h⟩

/-- A switch that stuck alone is found by a trial that shows it. -/
theorem beh_found {c : Cir} {l : List Tri} {ks : List Int} {k : Nat} (hk : k < c.sw.length) (h : (unionM (setsM c l) ks).testBit k = true) (hks : ∀ x ∈ ks, 0 ≤ x ∧ x < l.length) : behM c l ks (2 ^ k) = 0 := by
  rw [testBit_union, List.any_eq_true] at h
  obtain ⟨x, hx, hb⟩ := h
  have hxl := hks x hx
  have e : (setsM c l).getD x.toNat 0 = shownM c (l.getD x.toNat Tri.zero) := by
    unfold setsM
    rw [List.getD_eq_getElem?_getD, List.getElem?_map, List.getD_eq_getElem?_getD, List.getElem?_eq_getElem (by omega)]; rfl
  rw [e] at hb
  unfold shownM at hb
  rw [testBit_bitsOf, decide_eq_true hk, Bool.true_and] at hb
  unfold behM
  rw [if_pos]
  exact List.any_eq_true.2 ⟨x, hx, hb⟩

theorem behM_or (c : Cir) (l : List Tri) (ks : List Int) (cl : Nat) : behM c l ks cl = 0 ∨ behM c l ks cl = cl := by
  unfold behM; split
  · exact Or.inl rfl
  · exact Or.inr rfl

/-- THE THEOREM OF THE HIDDEN FAULTS, in plain words: behind the trials of each night at most one switch is stuck, and it stuck fewer than gap nights ago. -/
theorem never_two {c : Cir} {l : List Tri} {r : Rot} {u : List Ups} (hu : UVal c u) {gap : Nat} (hg : 1 ≤ gap) (ha : apartB u gap u.length = true) (hr : 1 ≤ r.nights.length)
    (hok : ∀ k, k < c.sw.length → ∀ i, i < r.nights.length → triedB (roundM c l r) gap k i = true) (hks : ∀ ks ∈ r.nights, ∀ x ∈ ks, 0 ≤ x ∧ x < l.length) :
    ∀ n, cloM c l r u n = 0 ∨ ∃ k i, k < c.sw.length ∧ cloM c l r u n = 2 ^ k ∧ i < u.length ∧ (u.getD i Ups.zero).ki = 1 ∧ (u.getD i Ups.zero).nu = k ∧ 0 ≤ (u.getD i Ups.zero).ni ∧ (u.getD i Ups.zero).ni < n ∧
      ∀ s : Nat, (u.getD i Ups.zero).ni ≤ s → s < n → (unionM (setsM c l) (r.nights.getD (s % r.nights.length) [])).testBit k = false
  | 0 => Or.inl rfl
  | n + 1 => by
    have hmod : ∀ s, s % r.nights.length < r.nights.length := fun s => Nat.mod_lt _ (by omega)
    have hmem : ∀ s, r.nights.getD (s % r.nights.length) [] ∈ r.nights := fun s => by
      rw [List.getD_eq_getElem?_getD, List.getElem?_eq_getElem (hmod s)]; exact List.getElem_mem _
    have hcl : cloM c l r u (n + 1) = behM c l (r.nights.getD (n % r.nights.length) []) (stkL u (cloM c l r u n) (todM u n)) := rfl
    -- one switch alone behind the night's trials
    have one : ∀ k i, k < c.sw.length → i < u.length → (u.getD i Ups.zero).ki = 1 → (u.getD i Ups.zero).nu = k → 0 ≤ (u.getD i Ups.zero).ni → (u.getD i Ups.zero).ni ≤ n →
        (∀ s : Nat, (u.getD i Ups.zero).ni ≤ s → s < n → (unionM (setsM c l) (r.nights.getD (s % r.nights.length) [])).testBit k = false) → stkL u (cloM c l r u n) (todM u n) = 2 ^ k →
        (cloM c l r u (n + 1) = 0 ∨ ∃ k i, k < c.sw.length ∧ cloM c l r u (n + 1) = 2 ^ k ∧ i < u.length ∧ (u.getD i Ups.zero).ki = 1 ∧ (u.getD i Ups.zero).nu = k ∧ 0 ≤ (u.getD i Ups.zero).ni ∧ (u.getD i Ups.zero).ni < ((n + 1 : Nat) : Int) ∧
          ∀ s : Nat, (u.getD i Ups.zero).ni ≤ s → s < n + 1 → (unionM (setsM c l) (r.nights.getD (s % r.nights.length) [])).testBit k = false) := by
      intro k i hk hi hi1 hi2 hi0 hin hs hst
      rw [hst] at hcl
      cases hb : (unionM (setsM c l) (r.nights.getD (n % r.nights.length) [])).testBit k
      · rcases behM_or c l (r.nights.getD (n % r.nights.length) []) (2 ^ k) with h | h
        · exact Or.inl (hcl.trans h)
        · right
          refine ⟨k, i, hk, hcl.trans h, hi, hi1, hi2, hi0, by omega, fun s h1 h2 => ?_⟩
          by_cases e : s = n
          · rw [e]; exact hb
          · exact hs s h1 (by omega)
      · exact Or.inl (hcl.trans (beh_found hk hb (hks _ (hmem n))))
    rcases never_two hu hg ha hr hok hks n with h0 | ⟨k, i, hk, hc, hi, hi1, hi2, hi0, hin, hs⟩
    · rcases stk_one hu (gap := gap) (by omega) ha n with h | ⟨j, hj, hj1, hjn, h⟩
      · left
        rw [hcl, h, h0]
        rcases behM_or c l (r.nights.getD (n % r.nights.length) []) 0 with h2 | h2 <;> exact h2
      · rcases isU_out (okU_out (hu.ok j hj)).2.2.2 with ⟨_, b1, b2⟩ | ⟨b1, _⟩
        · refine one (u.getD j Ups.zero).nu.toNat j (by omega) hj hj1 (by omega) (by omega) (by omega) (fun s h1 h2 => by omega) ?_
          rw [h, h0, Nat.zero_or]
        · omega
    · -- something is stuck: so nothing sticks now
      have hlt : (n : Int) - (u.getD i Ups.zero).ni < gap := by
        apply Int.lt_of_not_ge
        intro hge
        obtain ⟨t, ht⟩ : ∃ t : Nat, (u.getD i Ups.zero).ni = t := ⟨(u.getD i Ups.zero).ni.toNat, by omega⟩
        have h1 := hok k hk (t % r.nights.length) (hmod t)
        unfold triedB at h1
        rw [List.any_eq_true] at h1
        obtain ⟨d, hd, hb⟩ := h1
        have hd := List.mem_range.1 hd
        have hlen : (roundM c l r).length = r.nights.length := by simp [roundM]
        rw [hlen, Nat.mod_add_mod] at hb
        have h2 := hs (t + d) (by omega) (by omega)
        have e : (roundM c l r).getD ((t + d) % r.nights.length) 0 = unionM (setsM c l) (r.nights.getD ((t + d) % r.nights.length) []) := by
          unfold roundM
          rw [List.getD_eq_getElem?_getD, List.getElem?_map, List.getD_eq_getElem?_getD, List.getElem?_eq_getElem (hmod _)]; rfl
        rw [e, h2] at hb
        cases hb
      rcases stk_one hu (gap := gap) (by omega) ha n with h | ⟨j, hj, hj1, hjn, h⟩
      · exact one k i hk hi hi1 hi2 hi0 (by omega) hs (by rw [h, hc])
      · exfalso
        have hij : i < j := by
          apply Nat.lt_of_not_le
          intro hle
          have := hu.le hle hi
          omega
        have := apart_two hu ha hij hj hi1 hj1
        omega

end Go.Proofs.Ytbiihhokcmdlhaa

/- The plain mathematics of layer 3 (circuit), seventh part: what a play of a checked rota gives. Nothing here speaks of the program. -/
namespace Go.Proofs.Ytbiihhokcmdlhaa

/-- What is stuck behind a night is nothing or one switch. -/
theorem stuck_few {c : Cir} {l : List Tri} {r : Rot} {u : List Ups} (h : ∀ n, cloM c l r u n = 0 ∨ ∃ k, k < c.sw.length ∧ cloM c l r u n = 2 ^ k) : ∀ n, ∀ x ∈ stuckM c l r u n, x = 0 ∨ ∃ k, k < c.sw.length ∧ x = 2 ^ k
  | 0, x, hx => by cases hx
  | n + 1, x, hx => by
    unfold stuckM at hx
    split at hx
    · exact stuck_few h n x hx
    · rcases List.mem_append.1 hx with hx | hx
      · exact stuck_few h n x hx
      · rw [List.mem_singleton] at hx; subst hx; exact h (n + 1)

/-- No hazard passes a stop that no single switch endangers, with nothing or one switch stuck. -/
theorem pass_no {c : Cir} (hc : critM c = []) (hn : 1 ≤ c.sw.length) {cl : Nat} (h : cl = 0 ∨ ∃ k, k < c.sw.length ∧ cl = 2 ^ k) {hz : Nat} (h0 : hz ≠ 0) (hh : hz < 2 ^ c.hz.toNat) : passM c hz cl = false := by
  unfold passM
  rcases h with rfl | ⟨k, hk, rfl⟩
  · cases hp : cond c ⟨hz, 0, 0⟩ 24 0
    · rfl
    · have := cond_mono (c := c) (s := ⟨hz, 0, 0⟩) (t := ⟨hz, 2 ^ 0, 0⟩) ⟨fun i hi => hi, fun i hi => by rw [Nat.zero_testBit] at hi; (cases hi), fun i hi => hi⟩ 24 0 hp
      rw [single_stop hc (k := 0) (by omega) h0 hh] at this
      cases this
  · exact single_stop hc hk h0 hh 0

theorem passed_none {c : Cir} {l : List Tri} {r : Rot} {u : List Ups} (hu : UVal c u) (hc : critM c = []) (hn : 1 ≤ c.sw.length) (h : ∀ n, cloM c l r u n = 0 ∨ ∃ k, k < c.sw.length ∧ cloM c l r u n = 2 ^ k) : ∀ n, passedM c l r u n = []
  | 0 => rfl
  | n + 1 => by
    unfold passedM
    rw [passed_none hu hc hn h n, List.nil_append]
    unfold pasL
    rw [List.filter_eq_nil_iff]
    intro i hi hb
    rw [Bool.and_eq_true, decide_eq_true_eq] at hb
    have hlt := tod_lt hi
    rcases isU_out (okU_out (hu.ok i hlt)).2.2.2 with ⟨h1, _⟩ | ⟨_, h2⟩
    · omega
    · unfold setB at h2
      obtain ⟨h3, h4⟩ := h2
      rw [decide_eq_true_eq] at h4
      have e : ((2 ^ c.hz.toNat : Nat) : Int) = (2 : Int) ^ c.hz.toNat := by rw [Int.natCast_pow]; rfl
      rw [← e] at h4
      have := pass_no hc hn (h (n + 1)) (hz := (u.getD i Ups.zero).nu.toNat) (by omega) (by omega)
      rw [this] at hb
      cases hb.2

theorem ones_pow (k : Nat) (hk : k < 16) : ones (2 ^ k) = 1 := by
  rcases (by omega : k = 0 ∨ k = 1 ∨ k = 2 ∨ k = 3 ∨ k = 4 ∨ k = 5 ∨ k = 6 ∨ k = 7 ∨ k = 8 ∨ k = 9 ∨ k = 10 ∨ k = 11 ∨ k = 12 ∨ k = 13 ∨ k = 14 ∨ k = 15) with h | h | h | h | h | h | h | h | h | h | h | h | h | h | h | h <;> subst h <;> rfl

/-- So it has at most one bit, and is a set of switches. -/
theorem few_ones {c : Cir} (hn : c.sw.length ≤ 12) {x : Nat} (h : x = 0 ∨ ∃ k, k < c.sw.length ∧ x = 2 ^ k) : ones x ≤ 1 ∧ x < 2 ^ c.sw.length := by
  rcases h with rfl | ⟨k, hk, rfl⟩
  · exact ⟨by rw [ones_zero]; omega, Nat.two_pow_pos _⟩
  · exact ⟨by rw [ones_pow k (by omega)]; omega, Nat.pow_lt_pow_right (by decide) hk⟩

theorem UVal.night0 {c : Cir} {u : List Ups} (hu : UVal c u) : ∀ {k : Nat}, k < u.length → 0 ≤ (u.getD k Ups.zero).ni
  | 0, h => (okU_out (hu.ok 0 h)).2.1
  | k + 1, h => Int.le_trans (hu.night0 (by omega)) (okU_out (hu.ok (k + 1) h)).2.1

theorem last_bound {c : Cir} {u : List Ups} (hu : UVal c u) : ∀ k, k ≤ u.length → -60 ≤ lastS u k ∧ lastS u k ≤ 1000
  | 0, _ => by unfold lastS; omega
  | k + 1, h => by
    have h0 := hu.night0 (k := k) (by omega)
    have h1 := (okU_out (hu.ok k (by omega))).2.2.1
    have h2 := last_bound hu k (by omega)
    unfold lastS
    split <;> omega

theorem never_few {c : Cir} {l : List Tri} {r : Rot} {u : List Ups} {t1 t2 : Int} {t3 : Bool} (ht : triesM (roundM c l r) r.gap.toNat c.sw.length = ⟨t1, t2, t3⟩) (hr : rotB l.length r = true) (hu : UVal c u) (hq : (t3 && apartB u r.gap u.length) = true) :
    ∀ n, cloM c l r u n = 0 ∨ ∃ k, k < c.sw.length ∧ cloM c l r u n = 2 ^ k := by
  rw [Bool.and_eq_true] at hq
  unfold rotB at hr
  rw [Bool.and_eq_true, Bool.and_eq_true, decide_eq_true_eq, decide_eq_true_eq] at hr
  have hok := (tries_ok (round := roundM c l r) (gap := r.gap.toNat) (n := c.sw.length)).1 (by rw [ht]; exact hq.1)
  have e : ((r.gap.toNat : Nat) : Int) = r.gap := Int.toNat_of_nonneg (by omega)
  intro n
  rcases never_two hu (gap := r.gap.toNat) (by omega) (by rw [e]; exact hq.2) hr.1.1.1 (fun k hk i hi => hok k hk i (by unfold roundM; rw [List.length_map]; exact hi)) (fun ks hks x hx => by
    have h1 := List.all_eq_true.1 hr.2 ks hks
    have h2 := ascB_mem h1 x hx
    omega) n with h | ⟨k, _, hk, h, _⟩
  · exact Or.inl h
  · exact Or.inr ⟨k, hk, h⟩

end Go.Proofs.Ytbiihhokcmdlhaa

/- CircuitNever walked. -/
namespace Go.Proofs.Ytbiihhokcmdlhaa
open Go.RowKit

theorem stuck_all {c : Cir} {l : List Tri} {r : Rot} {u : List Ups} (h : ∀ n, cloM c l r u n = 0 ∨ ∃ k, k < c.sw.length ∧ cloM c l r u n = 2 ^ k) (h12 : c.sw.length ≤ 12) {n k : Nat} (hk : k < (natL (stuckM c l r u n)).length) :
    ∃ m : Nat, (natL (stuckM c l r u n)).getD k 0 = m ∧ ones m ≤ 1 ∧ setB m c.sw.length = true ∧ m < 1048576 := by
  rw [natL_len] at hk
  have hmem : (stuckM c l r u n).getD k 0 ∈ stuckM c l r u n := by
    rw [List.getD_eq_getElem?_getD, List.getElem?_eq_getElem hk]; exact List.getElem_mem _
  have h1 := few_ones h12 (stuck_few h n _ hmem)
  have h2 : 2 ^ c.sw.length ≤ 2 ^ 12 := Nat.pow_le_pow_right (by decide) h12
  have e : ((2 ^ c.sw.length : Nat) : Int) = (2 : Int) ^ c.sw.length := by rw [Int.natCast_pow]; rfl
  refine ⟨_, natL_getD _ _, h1.1, ?_, by omega⟩
  unfold setB
  rw [decide_eq_true_eq, ← e]
  omega

theorem ronesN_is {m o : Nat} {w : World} (ho : ones m = o) (hm : m < 1048576) : Calls Try.prog 50 #[.int .i64 m] w fun e w' => e = .returned (.int .i64 (o : Nat)) ∧ w = w' := by
  subst ho; exact rones_any m w hm

set_option maxRecDepth 100000 in
set_option maxHeartbeats 8000000 in
theorem lawNever_any (c : Cir) (sv wv : Value) (l : List Tri) (tv : Value) (r : Rot) (nv : Value) (u : List Ups) (uv : Value) (w : World) (hv : CirAt w sv wv c) (hl : TrAt w tv l) (hr : NsAt w nv r.nights) (hu : UpAt w uv u) :
    Calls Try.prog 14 #[cirV c sv wv, .agg #[tv, nv, .int .i64 r.gap], uv] w fun e w' => e = .returned (.bool true) ∧ Below w.heap.size w w' := by
  have hb0 := blw2 w (cirO c sv wv) (kepO' tv nv r.gap)
  have HB := Lib.hid hb0
  have K0 := Lib.hid (two_od w (cirO c sv wv) (kepO' tv nv r.gap))
  have K1 := Lib.hid (two_nw w (cirO c sv wv) (kepO' tv nv r.gap))
  have HV := Lib.hid (hv.below hb0 (Nat.le_refl _))
  have HT := Lib.hid (hl.below hb0 (Nat.le_refl _))
  have HN := Lib.hid (hr.below hb0 (Nat.le_refl _))
  have HU := Lib.hid (hu.below hb0 (Nat.le_refl _))
  obtain ⟨ta, tcap, rfl, _, m2, _⟩ := hl
  obtain ⟨ua, ucap, rfl, _, m6, _⟩ := hu
  obtain ⟨na, ncap, rfl, m3, m4, _⟩ := hr
  have m7 : (l.length : Int) ≤ 9223372036854775807 := by omega
  have m8 : (u.length : Int) ≤ 9223372036854775807 := by omega
  clear hb0 hv
  go_enter Try.func14, Try.ntmps14
  go_wp2_with fail
  generalize (w.alloc (cirO c sv wv)).alloc (kepO' (.slice ta l.length tcap) (.slice na r.nights.length ncap) r.gap) = wA at *
  refine (far_any c _ wv _ HV.out).mono ?_
  rintro e w1 ⟨q, rfl, hb1⟩
  have HB1 := Lib.hid hb1
  clear hb1
  cases q
  rotate_left
  · go_wp2_with fail
    refine (works_any _).mono ?_
    rintro e wz ⟨rfl, hbz⟩
    go_wp2_with fail
    go_ret
    exact ⟨rfl, HB.out.trans ((HB1.out.trans (hbz.mono HB1.out.size)).mono HB.out.size)⟩
  have c1 := block_cell (keepZ K1.out HB1.out)
  go_wp2_with fail
  refine (farRota_any r _ _ (HN.out.below HB1.out (Nat.le_refl _))).mono ?_
  rintro e w2 ⟨q, rfl, hb2⟩
  have HB2 := Lib.hid (HB1.out.trans (hb2.mono HB1.out.size))
  clear hb2
  clear c1
  cases q
  rotate_left
  · go_wp2_with fail
    refine (works_any _).mono ?_
    rintro e wz ⟨rfl, hbz⟩
    go_wp2_with fail
    go_ret
    exact ⟨rfl, HB.out.trans ((HB2.out.trans (hbz.mono HB2.out.size)).mono HB.out.size)⟩
  have c0 := block_cell (keepZ K0.out HB2.out)
  have c1 := block_cell (keepZ K1.out HB2.out)
  go_wp2_with fail
  refine (rcheckT_any c l _ wv _ _ (HV.out.below HB2.out (Nat.le_refl _)) (HT.out.below HB2.out (Nat.le_refl _))).mono ?_
  rintro e w3 ⟨rfl, hb3⟩
  have HB3 := Lib.hid (HB2.out.trans (hb3.mono HB2.out.size))
  clear hb3
  clear c0 c1
  by_cases h0 : chkT c l = 0
  rotate_left
  · have h1 : (chkT c l == 0) = false := by simpa using h0
    generalize chkT c l = E at *
    go_wp2_with fail
    refine (works_any _).mono ?_
    rintro e wz ⟨rfl, hbz⟩
    go_wp2_with fail
    go_ret
    exact ⟨rfl, HB.out.trans ((HB3.out.trans (hbz.mono HB3.out.size)).mono HB.out.size)⟩
  have TV := Lib.hid (tval h0)
  have H0 := Lib.hid h0
  rw [h0]
  clear h0
  have c0 := block_cell (keepZ K0.out HB3.out)
  have c1 := block_cell (keepZ K1.out HB3.out)
  go_wp2_with fail
  refine (rvalidR_any r l.length _ _ (HN.out.below HB3.out (Nat.le_refl _)) (by have := TV.out.n; omega)).mono ?_
  rintro e w4 ⟨rfl, hb4⟩
  have HB4 := Lib.hid (HB3.out.trans (hb4.mono HB3.out.size))
  clear hb4
  clear c0 c1
  obtain ⟨q, hq⟩ : ∃ q, rotB l.length r = q := ⟨_, rfl⟩
  have HR := Lib.hid hq
  rw [hq]
  clear hq
  cases q
  · go_wp2_with fail
    refine (works_any _).mono ?_
    rintro e wz ⟨rfl, hbz⟩
    go_wp2_with fail
    go_ret
    exact ⟨rfl, HB.out.trans ((HB4.out.trans (hbz.mono HB4.out.size)).mono HB.out.size)⟩
  have c0 := block_cell (keepZ K0.out HB4.out)
  have c1 := block_cell (keepZ K1.out HB4.out)
  go_wp2_with fail
  refine (rvalidU_any c u _ wv _ _ (HV.out.below HB4.out (Nat.le_refl _)) (HU.out.below HB4.out (Nat.le_refl _)) TV.out.cv).mono ?_
  rintro e w5 ⟨rfl, hb5⟩
  have HB5 := Lib.hid (HB4.out.trans (hb5.mono HB4.out.size))
  clear hb5
  clear c0 c1
  obtain ⟨q, hq⟩ : ∃ q, upsB c u = q := ⟨_, rfl⟩
  have HUV := Lib.hid hq
  rw [hq]
  clear hq
  cases q
  · go_wp2_with fail
    refine (works_any _).mono ?_
    rintro e wz ⟨rfl, hbz⟩
    go_wp2_with fail
    go_ret
    exact ⟨rfl, HB.out.trans ((HB5.out.trans (hbz.mono HB5.out.size)).mono HB.out.size)⟩
  have c0 := block_cell (keepZ K0.out HB5.out)
  have c1 := block_cell (keepZ K1.out HB5.out)
  obtain ⟨t1, t2, t3, hT⟩ : ∃ t1 t2 t3, rotaM c l r = ⟨t1, t2, t3⟩ := ⟨_, _, _, rfl⟩
  have HTT := Lib.hid hT
  clear hT
  go_wp2_with fail
  refine (crota_any c l r _ wv _ _ _ (HV.out.below HB5.out (Nat.le_refl _)) (HT.out.below HB5.out (Nat.le_refl _)) (HN.out.below HB5.out (Nat.le_refl _))).mono ?_
  rintro e w6 ⟨rfl, hb6⟩
  rw [HTT.out]
  have HB6 := Lib.hid (HB5.out.trans (hb6.mono HB5.out.size))
  clear hb6
  clear c0 c1
  have hcr0 : chkR c l r = 0 := by unfold chkR; rw [if_pos H0.out, if_pos HR.out]
  rw [hcr0]
  have HCR := Lib.hid hcr0
  clear hcr0
  have c0 := block_cell (keepZ K0.out HB6.out)
  have c1 := block_cell (keepZ K1.out HB6.out)
  go_wp2_with fail
  refine (ccritical_any c _ wv _ (HV.out.below HB6.out (Nat.le_refl _))).mono ?_
  rintro e w7 ⟨v7, rfl, hi7, hb7⟩
  have hchk : chkC c = 0 := by
    have := H0.out
    unfold chkT at this
    unfold chkC
    split at this
    · rename_i h; simp_all
    · simp_all
  rw [hchk]
  have hcrit : critR c = natL (critM c) := by unfold critR; rw [if_pos (by have := H0.out; unfold chkT at this; cases hvb : validB c <;> simp_all)]
  rw [hcrit] at hi7
  obtain ⟨a7, p7, rfl, _, m9, _⟩ := hi7
  have HB7 := Lib.hid (HB6.out.trans (hb7.mono HB6.out.size))
  clear hb7
  clear c0 c1
  have c0 := block_cell (keepZ K0.out HB7.out)
  have c1 := block_cell (keepZ K1.out HB7.out)
  go_wp2_with fail
  refine (cplay_any c l r u _ wv _ _ _ _ (HV.out.below HB7.out (Nat.le_refl _)) (HT.out.below HB7.out (Nat.le_refl _)) (HN.out.below HB7.out (Nat.le_refl _)) (HU.out.below HB7.out (Nat.le_refl _))).mono ?_
  rintro e w8 ⟨v1, v2, rfl, hi1, hi2, hb8⟩
  have hpl : playE c l r u = 0 := by unfold playE; rw [if_pos HCR.out, if_pos HUV.out]
  rw [hpl]
  unfold playS at hi1
  unfold playP at hi2
  rw [if_pos hpl] at hi1 hi2
  have HI1 := Lib.hid hi1
  obtain ⟨a1, p1, rfl, _, m10, _⟩ := hi1
  obtain ⟨a2, p2, rfl, _, m11, _⟩ := hi2
  have HB8 := Lib.hid (HB7.out.trans (hb8.mono HB7.out.size))
  clear hb8
  clear c0 c1
  have c0 := block_cell (keepZ K0.out HB8.out)
  have c1 := block_cell (keepZ K1.out HB8.out)
  have UV := Lib.hid (uval HUV.out)
  have HLB := Lib.hid (last_bound (uval HUV.out))
  go_wp2_with fail
  go_loopw [9, 16, 17] (fun x y z wr => ∃ k : Nat, k ≤ u.length ∧ x = .bool (t3 && apartB u r.gap k) ∧ y = .int .i64 (lastS u k) ∧ z = .int .i64 k ∧ Hid (Below w8.heap.size w8 wr)) (fun _ _ z _ => u.length - (intOf z).toNat)
  case atStart => exact ⟨0, Nat.zero_le _, by simp [apartB], rfl, rfl, Lib.hid (Below.refl _ _)⟩
  case round =>
    obtain ⟨k, hk, rfl, rfl, rfl, hb⟩ := hrel
    have HBR := Lib.hid (HB8.out.trans (hb.out.mono HB8.out.size))
    have c0 := block_cell (keepZ K0.out HBR.out)
    have c1 := block_cell (keepZ K1.out HBR.out)
    by_cases hlt : k < u.length
    · obtain ⟨_, _, e1, _, _, hcc⟩ := HU.out
      injection e1 with e1 e2 e3
      subst e1
      obtain ⟨b, off, rfl, hbl, hcc⟩ := hcc (by omega)
      obtain ⟨g1, g2, g3⟩ := up_at HBR.out hbl hcc hlt
      clear hcc e2 e3
      have hx := okU_out (UV.out.ok k hlt)
      have hx0 : 0 ≤ (u.getD k Ups.zero).ni := by
        have := UV.out.night0 hlt
        omega
      have hx1 := hx.2.2.1
      have hlb := HLB.out k (by omega)
      have HL : Hid (lastS u (k + 1) = if (u.getD k Ups.zero).ki = 1 then (u.getD k Ups.zero).ni else lastS u k) := Lib.hid rfl
      have HA : Hid (apartB u r.gap (k + 1) = if (u.getD k Ups.zero).ki = 1 then apartB u r.gap k && decide (r.gap ≤ (u.getD k Ups.zero).ni - lastS u k) else apartB u r.gap k) := Lib.hid rfl
      clear hx
      generalize u.getD k Ups.zero = X at *
      obtain ⟨xn, xk, xu⟩ := X
      dsimp only at g1 g2 g3 hx0 hx1 HL HA
      generalize lastS u k = ls at *
      have k1 : (0 : Int) ≤ k := by omega
      have k2 : (k : Int) < u.length := by omega
      have hw : IntKind.i64.wrap (xn - ls) = xn - ls := IntWalk.i64_in _ (by omega)
      by_cases hk1 : xk = 1
      · subst hk1
        obtain ⟨Q, hQ⟩ : ∃ Q, (t3 && apartB u r.gap k) = Q := ⟨_, rfl⟩
        have HQ := Lib.hid hQ
        rw [hQ]
        clear hQ
        cases Q
        · go_wp2_with fail
          go_quiet (fail)
          go_wp2
          go_roundw
          case rel => exact ⟨k + 1, hlt, by rw [HA.out, if_pos trivial, ← Bool.and_assoc, HQ.out]; rfl, by rw [HL.out, if_pos trivial], by go_num, Lib.hid (below_drewN hb.out _)⟩
          case measure => simp [intOf]; omega
        · go_wp2_with fail
          go_quiet (fail)
          go_wp2
          go_roundw
          case rel => exact ⟨k + 1, hlt, by rw [HA.out, if_pos trivial, ← Bool.and_assoc, HQ.out]; simp, by rw [HL.out, if_pos trivial], by go_num, Lib.hid (below_drewN hb.out _)⟩
          case measure => simp [intOf]; omega
      · have hkb : (xk == 1) = false := by simpa using hk1
        go_wp2_with fail
        go_roundw
        case rel => exact ⟨k + 1, hlt, by rw [HA.out, if_neg hk1], by rw [HL.out, if_neg hk1], by go_num, hb⟩
        case measure => simp [intOf]; omega
    · obtain rfl : k = u.length := by omega
      obtain ⟨Q, hQ⟩ : ∃ Q, (t3 && apartB u r.gap u.length) = Q := ⟨_, rfl⟩
      have HQ := Lib.hid hQ
      rw [hQ]
      clear hQ
      cases Q
      · go_wp2_with fail
        refine (works_any _).mono ?_
        rintro e wz ⟨rfl, hbz⟩
        go_wp2_with fail
        go_ret
        exact ⟨rfl, HB.out.trans ((HBR.out.trans (hbz.mono HBR.out.size)).mono HB.out.size)⟩
      have HF := Lib.hid (never_few (by have := HTT.out; unfold rotaM at this; rw [if_pos HCR.out] at this; exact this) HR.out (uval HUV.out) HQ.out)
      have HST := Lib.hid (fun k => stuck_all (n := nN u) HF.out TV.out.cv.s2 (k := k))
      have HPA := Lib.hid (fun h => passed_none (uval HUV.out) h TV.out.cv.s1 HF.out (nN u))
      rw [natL_len]
      clear hpl hchk hcrit
      generalize natL (stuckM c l r u (nN u)) = SS at *
      go_wp2_with fail
      go_loopw [18] (fun x wr => ∃ k : Nat, k ≤ SS.length ∧ x = .int .i64 k ∧ Hid (Below w8.heap.size w8 wr)) (fun x _ => SS.length - (intOf x).toNat)
      case atStart => exact ⟨0, Nat.zero_le _, rfl, hb⟩
      case round =>
        obtain ⟨k, hk, rfl, hb⟩ := hrel
        have HBR := Lib.hid (HB8.out.trans (hb.out.mono HB8.out.size))
        have kc := keepZ K0.out HBR.out
        by_cases hlt : k < SS.length
        · obtain ⟨_, _, e1, _, _, hcc⟩ := HI1.out
          injection e1 with e1 e2 e3
          subst e1
          obtain ⟨b, off, rfl, hbl, hcc⟩ := hcc (by omega)
          have g1 := in_at hb.out hbl hcc hlt
          have hblr := Nat.lt_of_lt_of_le hbl hb.out.size
          clear hcc e2 e3
          obtain ⟨m, hm, ho, hs, hm20⟩ := HST.out k hlt
          rw [hm] at g1
          clear hm
          have HM := Lib.hid hm20
          have HS := Lib.hid hs
          obtain ⟨o, hoo⟩ : ∃ o, ones m = o := ⟨_, rfl⟩
          have HO := Lib.hid hoo
          rw [hoo] at ho
          clear hs hm20 hoo
          have ho2 : ¬ (1 : Int) < (o : Int) := by omega
          have k1 : (0 : Int) ≤ k := by omega
          have k2 : (k : Int) < SS.length := by omega
          have HVR := Lib.hid (HV.out.below HBR.out (Nat.le_refl _))
          have y1 := bw_cells (B := wr.heap.size) kc (lt_of_block kc)
          have y2 := bw_cell (B := wr.heap.size) g1 hblr
          clear g1 kc
          go_wp2_with fail
          refine wp_region_below (by kernel_rfl) (by kernel_rfl) (Below.refl wr.heap.size wr) ?_
          repeat ((with_reducible refine wpQuiet_step (fun K hK => ?_)); go_simp; first | (refine hK _ ?_; clear hK K) | (apply Exists.intro; refine ⟨fun _ => ?_, hK _ ?_⟩; (first | (go_at_call 50; exact bw_same (ronesN_is HO.out HM.out)) | (go_at_call 47; exact bw_call (Nat.le_refl _) (rcond_is HS.out (rswi_any c _ wv m _ (HVR.out.below (BW.b _) (Nat.le_refl _)) TV.out.cv)))); clear hK K))
          refine wpQuiet_nil ?_
          intro wq hwq0
          have hwq := bw_out hwq0
          clear hwq0
          clear y1 y2
          go_wp2_with fail
          go_roundw
          case rel => exact ⟨k + 1, hlt, by go_num, Lib.hid (hb.out.trans (hwq.mono hb.out.size))⟩
          case measure => simp [intOf]; omega
        · obtain rfl : k = SS.length := by omega
          by_cases hcr : 0 < (critM c).length
          · have hcr2 : (0 : Int) < (critM c).length := by omega
            generalize (critM c).length = L at *
            go_wp2_with fail
            refine (works_any _).mono ?_
            rintro e wz ⟨rfl, hbz⟩
            go_wp2_with fail
            go_ret
            exact ⟨rfl, HB.out.trans ((HBR.out.trans (hbz.mono HBR.out.size)).mono HB.out.size)⟩
          have hp := HPA.out (List.eq_nil_of_length_eq_zero (by omega))
          have hcr2 : ¬ (0 : Int) < (critM c).length := by omega
          have hp0 : (natL (passedM c l r u (nN u))).length = 0 := by rw [hp]; rfl
          generalize (critM c).length = L at *
          rw [hp0]
          go_wp2_with fail
          refine (works_any _).mono ?_
          rintro e wz ⟨rfl, hbz⟩
          go_wp2_with fail
          go_ret
          exact ⟨rfl, HB.out.trans ((HBR.out.trans (hbz.mono HBR.out.size)).mono HB.out.size)⟩

end Go.Proofs.Ytbiihhokcmdlhaa
