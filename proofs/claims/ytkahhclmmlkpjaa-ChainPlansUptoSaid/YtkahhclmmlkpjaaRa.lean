/- Walks of layer 2 (chain), parts: the specification's CheckPart. -/
import Derived.Test.YtkahhclmmlkpjaaQd
namespace Go.Proofs.Ytkahhclmmlkpjaa
open Go.RowKit

theorem rfromq (q : Bool) (n lo hi : Int) (w : World) (h : decide (lo ≤ n ∧ n ≤ hi) = q) :
    Calls Try.prog 65 #[.int .i64 n, .int .i64 lo, .int .i64 hi] w fun e w' => e = .returned (.bool q) ∧ w' = w := by
  subst h
  exact (rfrom_any n lo hi w).mono fun _ _ ⟨h1, h2⟩ => ⟨h1, h2.symm⟩

theorem since_pos {P : Prt} {l : List Us} : ∀ {k : Nat}, (∀ i, i < k → useOk P.rs.length (l.getD i Us.zero) (sinceAt l i) = true) → 0 ≤ sinceAt l k
  | 0, _ => Int.le_refl _
  | k + 1, h => by
    have h1 := (uok_of (h k (by omega))).d0
    have h2 := since_pos (k := k) (fun i hi => h i (by omega))
    simp only [sinceAt]
    omega

theorem useOk_iff {n : Int} {u : Us} {s : Int} : useOk n u s = true ↔ (s ≤ u.d ∧ u.d ≤ 100000) ∧ (0 ≤ u.t ∧ u.t ≤ 1000000) ∧ (0 ≤ u.c ∧ u.c ≤ n - 1) ∧ (0 ≤ u.lo ∧ u.lo ≤ u.hi ∧ u.hi ≤ 2000000000) ∧ (u.m = true ∨ (u.lo = 0 ∧ u.hi = 0)) := by
  unfold useOk spanBad
  simp only [Bool.and_eq_true, Bool.or_eq_true, Bool.not_eq_true', Bool.or_eq_false_iff, Bool.not_eq_false', decide_eq_true_eq]
  constructor
  · rintro ⟨⟨⟨⟨h1, h2⟩, h3⟩, h4, h5⟩, h6⟩
    exact ⟨h1, h2, h3, ⟨by omega, by omega, by omega⟩, h6⟩
  · rintro ⟨h1, h2, h3, h4, h6⟩
    exact ⟨⟨⟨⟨h1, h2⟩, h3⟩, ⟨by omega, by omega⟩, ⟨by omega, by omega⟩⟩, h6⟩

theorem useOk_no {n : Int} {u : Us} {s : Int} (h : ¬ ((s ≤ u.d ∧ u.d ≤ 100000) ∧ (0 ≤ u.t ∧ u.t ≤ 1000000) ∧ (0 ≤ u.c ∧ u.c ≤ n - 1) ∧ (0 ≤ u.lo ∧ u.lo ≤ u.hi ∧ u.hi ≤ 2000000000) ∧ (u.m = true ∨ (u.lo = 0 ∧ u.hi = 0)))) : useOk n u s = false := by
  cases e : useOk n u s
  · rfl
  · exact absurd (useOk_iff.1 e) h

theorem partOk_iff {P : Prt} : partOk P = true ↔ (1 ≤ (P.rs.length : Int) ∧ (P.rs.length : Int) ≤ 4) ∧ (∀ i, i < P.rs.length → rateBad (P.rs.getD i Spn.zero) = false) ∧ (0 ≤ P.wo ∧ P.wo ≤ 1000) ∧ (0 ≤ P.tu ∧ P.tu ≤ 1000000) ∧ (0 ≤ P.ag ∧ P.ag ≤ 100000) := by
  unfold partOk
  simp only [Bool.and_eq_true, Bool.not_eq_true', decide_eq_true_eq]
  have e : P.rs.any rateBad = false ↔ ∀ i, i < P.rs.length → rateBad (P.rs.getD i Spn.zero) = false := by
    constructor
    · intro h i hi
      cases hq : rateBad (P.rs.getD i Spn.zero)
      · rfl
      · rw [any_true_of (d := Spn.zero) hi hq] at h; cases h
    · exact any_false_of
  rw [e]
  constructor
  · rintro ⟨⟨⟨⟨h1, h2⟩, h3⟩, h4⟩, h5⟩; exact ⟨h1, h2, h3, h4, h5⟩
  · rintro ⟨h1, h2, h3, h4, h5⟩; exact ⟨⟨⟨⟨h1, h2⟩, h3⟩, h4⟩, h5⟩

theorem partOk_no {P : Prt} (h : ¬ ((1 ≤ (P.rs.length : Int) ∧ (P.rs.length : Int) ≤ 4) ∧ (∀ i, i < P.rs.length → rateBad (P.rs.getD i Spn.zero) = false) ∧ (0 ≤ P.wo ∧ P.wo ≤ 1000) ∧ (0 ≤ P.tu ∧ P.tu ≤ 1000000) ∧ (0 ≤ P.ag ∧ P.ag ≤ 100000))) : partOk P = false := by
  cases e : partOk P
  · rfl
  · exact absurd (partOk_iff.1 e) h

set_option maxRecDepth 100000 in
set_option maxHeartbeats 8000000 in
theorem rcheckPart_any (P : Prt) (l : List Us) (bv v : Value) (w : World) (hv : SpAt w bv P.rs) (hl : UsAt w v l) :
    Calls Try.prog 41 #[prtV P bv, v] w fun e w' => e = .returned (.int .i64 (partM P l)) ∧ Below w.heap.size w w' := by
  have hb0 := (Below.refl w.heap.size w).alloc (Nat.le_refl _) (Obj.cells #[bv, .int .i64 P.wo, .int .i64 P.tu, .int .i64 P.ag] 54)
  have k0 := block_new w (Obj.cells #[bv, .int .i64 P.wo, .int .i64 P.tu, .int .i64 P.ag] 54) w.heap.size rfl
  obtain ⟨a, cap, rfl, hn, hcap, hc⟩ := hv
  have HRC := Lib.hid hc
  obtain ⟨ua, ucap, rfl, un, ucl, uc⟩ := hl
  have HU := Lib.hid uc
  have HB := Lib.hid hb0
  have K0 := Lib.hid k0
  clear hb0 k0 hc uc
  obtain ⟨b1, h1⟩ : ∃ b, decide (1 ≤ (P.rs.length : Int) ∧ (P.rs.length : Int) ≤ 4) = b := ⟨_, rfl⟩
  obtain ⟨b3, h3⟩ : ∃ b, decide (0 ≤ P.wo ∧ P.wo ≤ 1000) = b := ⟨_, rfl⟩
  obtain ⟨b4, h4⟩ : ∃ b, decide (0 ≤ P.tu ∧ P.tu ≤ 1000000) = b := ⟨_, rfl⟩
  obtain ⟨b5, h5⟩ : ∃ b, decide (0 ≤ P.ag ∧ P.ag ≤ 100000) = b := ⟨_, rfl⟩
  by_cases hall : b1 = true ∧ b3 = true ∧ b4 = true ∧ b5 = true
  · obtain ⟨rfl, rfl, rfl, rfl⟩ := hall
    have H1 := Lib.hid h1
    have H3 := Lib.hid h3
    have H4 := Lib.hid h4
    have H5 := Lib.hid h5
    rw [decide_eq_true_eq] at h1
    obtain ⟨l1, l4⟩ := h1
    clear h3 h4 h5
    go_enter Try.func41, Try.ntmps41
    go_wp2_with fail
    generalize w.alloc (Obj.cells #[Value.slice a P.rs.length cap, .int .i64 P.wo, .int .i64 P.tu, .int .i64 P.ag] 54) = wA at *
    have hce := block_cell K0.out
    go_wp2_with (go_at_call 65; (first | with_reducible refine (rfrom_is _ (P.rs.length : Int) 1 4 _ H1.out).mono ?_ | with_reducible refine (rfrom_is _ P.wo 0 1000 _ H3.out).mono ?_ | with_reducible refine (rfrom_is _ P.tu 0 1000000 _ H4.out).mono ?_ | with_reducible refine (rfrom_is _ P.ag 0 100000 _ H5.out).mono ?_); rintro e w' ⟨rfl, rfl⟩)
    clear hce
    go_loopw [5] (fun i wr => ∃ k : Nat, k ≤ P.rs.length ∧ i = .int .i64 k ∧ Below wA.heap.size wA wr ∧ Hid (∀ i, i < k → rateBad (P.rs.getD i Spn.zero) = false)) (fun i _ => P.rs.length - (intOf i).toNat)
    case atStart => exact ⟨0, Nat.zero_le _, rfl, Below.refl _ _, fun i hi => by omega⟩
    case round =>
      obtain ⟨k, hk, rfl, hb, hf⟩ := hrel
      have hbw := HB.out.trans (hb.mono HB.out.size)
      have hce := block_cell ((hb.block _ (lt_of_block K0.out)).trans K0.out)
      have HBR := Lib.hid hb
      by_cases hlt : k < P.rs.length
      · obtain ⟨rb, ro, rfl, rbl, rcc⟩ := HRC.out (by omega)
        obtain ⟨g1, g2⟩ := sp_at hbw rbl rcc hlt
        clear rcc hbw hb
        generalize hr0 : P.rs.getD k Spn.zero = r at *
        have HR0 := Lib.hid hr0
        clear hr0
        have k1 : (0 : Int) ≤ k := by omega
        have k2 : (k : Int) < P.rs.length := by omega
        cases hq : decide (0 ≤ r.1 ∧ r.1 ≤ r.2)
        · have HQ := Lib.hid hq
          have hbad : rateBad r = true := by
            rw [decide_eq_false_iff_not] at hq
            cases e : rateBad r
            · have := rate_ok e; omega
            · rfl
          have HR := Lib.hid (partM_part (l := l) (partOk_no (P := P) (fun h => by have := h.2.1 k hlt; rw [HR0.out, hbad] at this; cases this)))
          clear hbad hq
          go_wp2_with fail
          go_quiet ((go_at_call 65; exact Calls.quiet_of_same (rfromq _ _ _ _ _ HQ.out)))
          go_wp2
          go_ret
          exact ⟨ret_int HR.out, below_drewN (HB.out.trans (HBR.out.mono HB.out.size)) _⟩
        · have HQ := Lib.hid hq
          rw [decide_eq_true_eq] at hq
          by_cases hm : 1000000 < r.2
          · have hmb : decide (1000000 < r.2) = true := by simpa using hm
            have hbad : rateBad r = true := by
              cases e : rateBad r
              · have := rate_ok e; omega
              · rfl
            have HR := Lib.hid (partM_part (l := l) (partOk_no (P := P) (fun h => by have := h.2.1 k hlt; rw [HR0.out, hbad] at this; cases this)))
            clear hbad hq
            go_wp2_with fail
            go_quiet ((go_at_call 65; exact Calls.quiet_of_same (rfromq _ _ _ _ _ HQ.out)))
            go_wp2
            go_ret
            exact ⟨ret_int HR.out, below_drewN (HB.out.trans (HBR.out.mono HB.out.size)) _⟩
          · have hmb : decide (1000000 < r.2) = false := by simpa using hm
            have HG := Lib.hid (show rateBad r = false by simp [rateBad, spanBad]; omega)
            clear hq
            go_wp2_with fail
            go_quiet ((go_at_call 65; exact Calls.quiet_of_same (rfromq _ _ _ _ _ HQ.out)))
            go_wp2
            go_roundw
            case rel => exact ⟨k + 1, hlt, by go_num, below_drewN HBR.out _, fun i hi => by
              by_cases hik : i = k
              · rw [hik, HR0.out]; exact HG.out
              · exact hf.out i (by omega)⟩
            case measure => simp [intOf]; omega
      · have HPO := Lib.hid (partOk_iff.2 ⟨by have := H1.out; rw [decide_eq_true_eq] at this; exact this, fun i hi => hf.out i (by omega), of_decide_eq_true H3.out, of_decide_eq_true H4.out, of_decide_eq_true H5.out⟩)
        clear hb hbw
        by_cases h40 : (40 : Int) < l.length
        · have HR := Lib.hid (partM_many (l := l) HPO.out (by omega))
          go_wp2
          go_ret
          exact ⟨ret_int HR.out, HB.out.trans (HBR.out.mono HB.out.size)⟩
        · go_wp2_with fail
          clear hce
          go_loopw [6] (fun i wy => ∃ k : Nat, k ≤ l.length ∧ i = .int .i64 k ∧ Below wA.heap.size wA wy ∧ Hid (∀ i, i < k → useOk P.rs.length (l.getD i Us.zero) (sinceAt l i) = true)) (fun i _ => l.length - (intOf i).toNat)
          case atStart => exact ⟨0, Nat.zero_le _, rfl, HBR.out, fun i hi => by omega⟩
          case round =>
            obtain ⟨j, hj, rfl, hb, hf2⟩ := hrel
            have hbw := HB.out.trans (hb.mono HB.out.size)
            have HBY := Lib.hid hb
            by_cases hltj : j < l.length
            · obtain ⟨b, off, rfl, hbl, hcc⟩ := HU.out (by omega)
              obtain ⟨g1, g2, g3, g4, g5, g6⟩ := us_at hbw hbl hcc hltj
              have hspos := since_pos (k := j) hf2.out
              have hce := block_cell ((hb.block _ (lt_of_block K0.out)).trans K0.out)
              have hz0 := Nat.lt_of_lt_of_le (lt_of_block K0.out) hb.size
              have hz1 : b < wr.heap.size := by have := hbw.size; omega
              have k1 : (0 : Int) ≤ j := by omega
              have k2 : (j : Int) < l.length := by omega
              have hprev : 0 < j → ∃ x, wr.cell? ⟨b, off + (j - 1) * 6, none⟩ = some (.int .i64 x) ∧ x = sinceAt l j := fun h0 => by
                obtain ⟨q1, _⟩ := us_at hbw hbl hcc (k := j - 1) (by omega)
                refine ⟨_, q1, ?_⟩
                obtain ⟨i, rfl⟩ : ∃ i, j = i + 1 := ⟨j - 1, by omega⟩
                rfl
              clear hcc hbw hb
              generalize hu0 : l.getD j Us.zero = u at *
              generalize hs0 : sinceAt l j = s at *
              have HU1 := Lib.hid hu0
              have HS1 := Lib.hid hs0
              clear hu0
              cases ha1 : decide (0 ≤ u.d ∧ u.d ≤ 100000)
              · have A1 := Lib.hid ha1
                have HR := Lib.hid (partM_use (l := l) HPO.out (by omega) hltj (by rw [HU1.out, HS1.out]; exact useOk_no (fun ⟨q, _, _, _, _⟩ => by rw [decide_eq_false_iff_not] at ha1; omega)))
                clear ha1 hprev hs0
                go_wp2_with fail
                go_quiet ((go_at_call 65; with_reducible exact Calls.quiet_of_same (rfromq _ u.d 0 100000 _ A1.out)))
                go_wp2
                go_ret
                exact ⟨ret_int HR.out, below_drewN (HB.out.trans ((HBY.out.alloc HBY.out.size _).mono HB.out.size)) _⟩
              · have A1 := Lib.hid ha1
                rw [decide_eq_true_eq] at ha1
                by_cases hj0 : 0 < j
                · obtain ⟨x, gx, hx⟩ := hprev hj0
                  rw [hx] at gx
                  clear hx
                  have hjb : decide ((0 : Int) < (j : Int)) = true := by simp; omega
                  have j1 : (0 : Int) ≤ (j : Int) - 1 := by omega
                  have j2 : (j : Int) - 1 < l.length := by omega
                  have j3 : ((j : Int) - 1).toNat = j - 1 := by omega
                  have j4 : IntKind.i64.wrap ((j : Int) - 1) = (j : Int) - 1 := by rw [IntKind.wrap_i64]; omega
                  clear hprev hs0
                  by_cases hds : u.d < s
                  · have hdb : decide (u.d < s) = true := by simpa using hds
                    have HR := Lib.hid (partM_use (l := l) HPO.out (by omega) hltj (by rw [HU1.out, HS1.out]; exact useOk_no (fun ⟨q, _, _, _, _⟩ => by omega)))
                    go_wp2_with fail
                    go_quiet ((go_at_call 65; with_reducible exact Calls.quiet_of_same (rfromq _ u.d 0 100000 _ A1.out)))
                    go_wp2
                    go_ret
                    exact ⟨ret_int HR.out, below_drewN (HB.out.trans ((HBY.out.alloc HBY.out.size _).mono HB.out.size)) _⟩
                  · have hdb : decide (u.d < s) = false := by simpa using hds
                    have hs2 : s ≤ u.d := by omega
                    cases ha3 : decide (0 ≤ u.t ∧ u.t ≤ 1000000)
                    · have A3 := Lib.hid ha3
                      have HR := Lib.hid (partM_use (l := l) HPO.out (by omega) hltj (by rw [HU1.out, HS1.out]; exact useOk_no (fun ⟨_, q, _, _, _⟩ => by rw [decide_eq_false_iff_not] at ha3; omega)))
                      have A4 : True := trivial
                      clear ha3
                      go_wp2_with fail
                      go_quiet ((go_at_call 65; first | with_reducible exact Calls.quiet_of_same (rfromq _ u.d 0 100000 _ A1.out) | with_reducible exact Calls.quiet_of_same (rfromq _ u.t 0 1000000 _ A3.out)))
                      go_wp2
                      go_ret
                      exact ⟨ret_int HR.out, below_drewN (HB.out.trans ((HBY.out.alloc HBY.out.size _).mono HB.out.size)) _⟩
                    · have A3 := Lib.hid ha3
                      rw [decide_eq_true_eq] at ha3
                      cases ha4 : decide (0 ≤ u.c ∧ u.c ≤ (P.rs.length : Int) - 1)
                      · have A4 := Lib.hid ha4
                        have HR := Lib.hid (partM_use (l := l) HPO.out (by omega) hltj (by rw [HU1.out, HS1.out]; exact useOk_no (fun ⟨_, _, q, _, _⟩ => by rw [decide_eq_false_iff_not] at ha4; omega)))
                        clear ha4
                        go_wp2_with fail
                        go_quiet ((go_at_call 65; first | with_reducible exact Calls.quiet_of_same (rfromq _ u.d 0 100000 _ A1.out) | with_reducible exact Calls.quiet_of_same (rfromq _ u.t 0 1000000 _ A3.out) | with_reducible exact Calls.quiet_of_same (rfromq _ u.c 0 ((P.rs.length : Int) - 1) _ A4.out)))
                        go_wp2
                        go_ret
                        exact ⟨ret_int HR.out, below_drewN (HB.out.trans ((HBY.out.alloc HBY.out.size _).mono HB.out.size)) _⟩
                      · have A4 := Lib.hid ha4
                        rw [decide_eq_true_eq] at ha4
                        have hq5 : True := trivial
                        have LQ := Lib.hid hq5
                        cases hm : u.m
                        · rw [hm] at g4
                          by_cases hlo : u.lo = 0
                          · by_cases hhi : u.hi = 0
                            · have HG := Lib.hid (show useOk P.rs.length u s = true from useOk_iff.2 ⟨⟨(by omega : s ≤ u.d), by omega⟩, ⟨by omega, by omega⟩, ⟨by omega, by omega⟩, ⟨by omega, by omega, by omega⟩, .inr ⟨hlo, hhi⟩⟩)
                              rw [hlo] at g5
                              rw [hhi] at g6
                              clear hm hlo hhi hq5
                              go_wp2_with fail
                              go_quiet ((go_at_call 65; first | with_reducible exact Calls.quiet_of_same (rfromq _ u.d 0 100000 _ A1.out) | with_reducible exact Calls.quiet_of_same (rfromq _ u.t 0 1000000 _ A3.out) | with_reducible exact Calls.quiet_of_same (rfromq _ u.c 0 ((P.rs.length : Int) - 1) _ A4.out)))
                              go_wp2
                              go_roundw
                              case rel => exact ⟨j + 1, hltj, by go_num, below_drewN (HBY.out.alloc HBY.out.size _) _, fun i hi => by
                                by_cases hik : i = j
                                · rw [hik, HU1.out, HS1.out]; exact HG.out
                                · exact hf2.out i (by omega)⟩
                              case measure => simp [intOf]; omega
                            · have HR := Lib.hid (partM_use (l := l) HPO.out (by omega) hltj (by rw [HU1.out, HS1.out]; exact useOk_no (fun ⟨_, _, _, _, q⟩ => by rcases q with q | q; (rw [hm] at q; cases q); exact hhi q.2)))
                              clear hm hq5
                              go_wp2_with fail
                              go_quiet ((go_at_call 65; first | with_reducible exact Calls.quiet_of_same (rfromq _ u.d 0 100000 _ A1.out) | with_reducible exact Calls.quiet_of_same (rfromq _ u.t 0 1000000 _ A3.out) | with_reducible exact Calls.quiet_of_same (rfromq _ u.c 0 ((P.rs.length : Int) - 1) _ A4.out)))
                              go_wp2
                              go_ret
                              exact ⟨ret_int HR.out, below_drewN (HB.out.trans ((HBY.out.alloc HBY.out.size _).mono HB.out.size)) _⟩
                          · have HR := Lib.hid (partM_use (l := l) HPO.out (by omega) hltj (by rw [HU1.out, HS1.out]; exact useOk_no (fun ⟨_, _, _, _, q⟩ => by rcases q with q | q; (rw [hm] at q; cases q); exact hlo q.1)))
                            clear hm hq5
                            go_wp2_with fail
                            go_quiet ((go_at_call 65; first | with_reducible exact Calls.quiet_of_same (rfromq _ u.d 0 100000 _ A1.out) | with_reducible exact Calls.quiet_of_same (rfromq _ u.t 0 1000000 _ A3.out) | with_reducible exact Calls.quiet_of_same (rfromq _ u.c 0 ((P.rs.length : Int) - 1) _ A4.out)))
                            go_wp2
                            go_ret
                            exact ⟨ret_int HR.out, below_drewN (HB.out.trans ((HBY.out.alloc HBY.out.size _).mono HB.out.size)) _⟩
                        · rw [hm] at g4
                          cases ha5 : decide (0 ≤ u.lo ∧ u.lo ≤ u.hi)
                          · have A5 := Lib.hid ha5
                            have HR := Lib.hid (partM_use (l := l) HPO.out (by omega) hltj (by rw [HU1.out, HS1.out]; exact useOk_no (fun ⟨_, _, _, q, _⟩ => by rw [decide_eq_false_iff_not] at ha5; omega)))
                            clear hm hq5 ha5
                            go_wp2_with fail
                            go_quiet ((go_at_call 65; first | with_reducible exact Calls.quiet_of_same (rfromq _ u.d 0 100000 _ A1.out) | with_reducible exact Calls.quiet_of_same (rfromq _ u.t 0 1000000 _ A3.out) | with_reducible exact Calls.quiet_of_same (rfromq _ u.c 0 ((P.rs.length : Int) - 1) _ A4.out)))
                            go_wp2_with (go_at_call 65; with_reducible refine (rfrom_is _ u.lo 0 u.hi _ A5.out).mono ?_; rintro e w' ⟨rfl, rfl⟩)
                            go_ret
                            exact ⟨ret_int HR.out, below_drewN (HB.out.trans ((HBY.out.alloc HBY.out.size _).mono HB.out.size)) _⟩
                          · have A5 := Lib.hid ha5
                            rw [decide_eq_true_eq] at ha5
                            by_cases h6 : 2000000000 < u.hi
                            · have HR := Lib.hid (partM_use (l := l) HPO.out (by omega) hltj (by rw [HU1.out, HS1.out]; exact useOk_no (fun ⟨_, _, _, q, _⟩ => by omega)))
                              clear hm hq5 ha5
                              go_wp2_with fail
                              go_quiet ((go_at_call 65; first | with_reducible exact Calls.quiet_of_same (rfromq _ u.d 0 100000 _ A1.out) | with_reducible exact Calls.quiet_of_same (rfromq _ u.t 0 1000000 _ A3.out) | with_reducible exact Calls.quiet_of_same (rfromq _ u.c 0 ((P.rs.length : Int) - 1) _ A4.out)))
                              go_wp2_with (go_at_call 65; with_reducible refine (rfrom_is _ u.lo 0 u.hi _ A5.out).mono ?_; rintro e w' ⟨rfl, rfl⟩)
                              go_ret
                              exact ⟨ret_int HR.out, below_drewN (HB.out.trans ((HBY.out.alloc HBY.out.size _).mono HB.out.size)) _⟩
                            · have HG := Lib.hid (show useOk P.rs.length u s = true from useOk_iff.2 ⟨⟨(by omega : s ≤ u.d), by omega⟩, ⟨by omega, by omega⟩, ⟨by omega, by omega⟩, ⟨by omega, by omega, by omega⟩, .inl hm⟩)
                              clear hm hq5 ha5
                              go_wp2_with fail
                              go_quiet ((go_at_call 65; first | with_reducible exact Calls.quiet_of_same (rfromq _ u.d 0 100000 _ A1.out) | with_reducible exact Calls.quiet_of_same (rfromq _ u.t 0 1000000 _ A3.out) | with_reducible exact Calls.quiet_of_same (rfromq _ u.c 0 ((P.rs.length : Int) - 1) _ A4.out)))
                              go_wp2_with (go_at_call 65; with_reducible refine (rfrom_is _ u.lo 0 u.hi _ A5.out).mono ?_; rintro e w' ⟨rfl, rfl⟩)
                              go_roundw
                              case rel => exact ⟨j + 1, hltj, by go_num, below_drewN (HBY.out.alloc HBY.out.size _) _, fun i hi => by
                                by_cases hik : i = j
                                · rw [hik, HU1.out, HS1.out]; exact HG.out
                                · exact hf2.out i (by omega)⟩
                              case measure => simp [intOf]; omega
                · have hjb : decide ((0 : Int) < (j : Int)) = false := by simp; omega
                  have hs1 : s = 0 := by rw [← hs0]; obtain rfl : j = 0 := by omega
                                         rfl
                  have hs2 : s ≤ 0 := by omega
                  clear hprev hs0 hs1
                  cases ha3 : decide (0 ≤ u.t ∧ u.t ≤ 1000000)
                  · have A3 := Lib.hid ha3
                    have HR := Lib.hid (partM_use (l := l) HPO.out (by omega) hltj (by rw [HU1.out, HS1.out]; exact useOk_no (fun ⟨_, q, _, _, _⟩ => by rw [decide_eq_false_iff_not] at ha3; omega)))
                    have A4 : True := trivial
                    clear ha3
                    go_wp2_with fail
                    go_quiet ((go_at_call 65; first | with_reducible exact Calls.quiet_of_same (rfromq _ u.d 0 100000 _ A1.out) | with_reducible exact Calls.quiet_of_same (rfromq _ u.t 0 1000000 _ A3.out)))
                    go_wp2
                    go_ret
                    exact ⟨ret_int HR.out, below_drewN (HB.out.trans ((HBY.out.alloc HBY.out.size _).mono HB.out.size)) _⟩
                  · have A3 := Lib.hid ha3
                    rw [decide_eq_true_eq] at ha3
                    cases ha4 : decide (0 ≤ u.c ∧ u.c ≤ (P.rs.length : Int) - 1)
                    · have A4 := Lib.hid ha4
                      have HR := Lib.hid (partM_use (l := l) HPO.out (by omega) hltj (by rw [HU1.out, HS1.out]; exact useOk_no (fun ⟨_, _, q, _, _⟩ => by rw [decide_eq_false_iff_not] at ha4; omega)))
                      clear ha4
                      go_wp2_with fail
                      go_quiet ((go_at_call 65; first | with_reducible exact Calls.quiet_of_same (rfromq _ u.d 0 100000 _ A1.out) | with_reducible exact Calls.quiet_of_same (rfromq _ u.t 0 1000000 _ A3.out) | with_reducible exact Calls.quiet_of_same (rfromq _ u.c 0 ((P.rs.length : Int) - 1) _ A4.out)))
                      go_wp2
                      go_ret
                      exact ⟨ret_int HR.out, below_drewN (HB.out.trans ((HBY.out.alloc HBY.out.size _).mono HB.out.size)) _⟩
                    · have A4 := Lib.hid ha4
                      rw [decide_eq_true_eq] at ha4
                      have hq5 : True := trivial
                      have LQ := Lib.hid hq5
                      cases hm : u.m
                      · rw [hm] at g4
                        by_cases hlo : u.lo = 0
                        · by_cases hhi : u.hi = 0
                          · have HG := Lib.hid (show useOk P.rs.length u s = true from useOk_iff.2 ⟨⟨(by omega : s ≤ u.d), by omega⟩, ⟨by omega, by omega⟩, ⟨by omega, by omega⟩, ⟨by omega, by omega, by omega⟩, .inr ⟨hlo, hhi⟩⟩)
                            rw [hlo] at g5
                            rw [hhi] at g6
                            clear hm hlo hhi hq5
                            go_wp2_with fail
                            go_quiet ((go_at_call 65; first | with_reducible exact Calls.quiet_of_same (rfromq _ u.d 0 100000 _ A1.out) | with_reducible exact Calls.quiet_of_same (rfromq _ u.t 0 1000000 _ A3.out) | with_reducible exact Calls.quiet_of_same (rfromq _ u.c 0 ((P.rs.length : Int) - 1) _ A4.out)))
                            go_wp2
                            go_roundw
                            case rel => exact ⟨j + 1, hltj, by go_num, below_drewN (HBY.out.alloc HBY.out.size _) _, fun i hi => by
                              by_cases hik : i = j
                              · rw [hik, HU1.out, HS1.out]; exact HG.out
                              · exact hf2.out i (by omega)⟩
                            case measure => simp [intOf]; omega
                          · have HR := Lib.hid (partM_use (l := l) HPO.out (by omega) hltj (by rw [HU1.out, HS1.out]; exact useOk_no (fun ⟨_, _, _, _, q⟩ => by rcases q with q | q; (rw [hm] at q; cases q); exact hhi q.2)))
                            clear hm hq5
                            go_wp2_with fail
                            go_quiet ((go_at_call 65; first | with_reducible exact Calls.quiet_of_same (rfromq _ u.d 0 100000 _ A1.out) | with_reducible exact Calls.quiet_of_same (rfromq _ u.t 0 1000000 _ A3.out) | with_reducible exact Calls.quiet_of_same (rfromq _ u.c 0 ((P.rs.length : Int) - 1) _ A4.out)))
                            go_wp2
                            go_ret
                            exact ⟨ret_int HR.out, below_drewN (HB.out.trans ((HBY.out.alloc HBY.out.size _).mono HB.out.size)) _⟩
                        · have HR := Lib.hid (partM_use (l := l) HPO.out (by omega) hltj (by rw [HU1.out, HS1.out]; exact useOk_no (fun ⟨_, _, _, _, q⟩ => by rcases q with q | q; (rw [hm] at q; cases q); exact hlo q.1)))
                          clear hm hq5
                          go_wp2_with fail
                          go_quiet ((go_at_call 65; first | with_reducible exact Calls.quiet_of_same (rfromq _ u.d 0 100000 _ A1.out) | with_reducible exact Calls.quiet_of_same (rfromq _ u.t 0 1000000 _ A3.out) | with_reducible exact Calls.quiet_of_same (rfromq _ u.c 0 ((P.rs.length : Int) - 1) _ A4.out)))
                          go_wp2
                          go_ret
                          exact ⟨ret_int HR.out, below_drewN (HB.out.trans ((HBY.out.alloc HBY.out.size _).mono HB.out.size)) _⟩
                      · rw [hm] at g4
                        cases ha5 : decide (0 ≤ u.lo ∧ u.lo ≤ u.hi)
                        · have A5 := Lib.hid ha5
                          have HR := Lib.hid (partM_use (l := l) HPO.out (by omega) hltj (by rw [HU1.out, HS1.out]; exact useOk_no (fun ⟨_, _, _, q, _⟩ => by rw [decide_eq_false_iff_not] at ha5; omega)))
                          clear hm hq5 ha5
                          go_wp2_with fail
                          go_quiet ((go_at_call 65; first | with_reducible exact Calls.quiet_of_same (rfromq _ u.d 0 100000 _ A1.out) | with_reducible exact Calls.quiet_of_same (rfromq _ u.t 0 1000000 _ A3.out) | with_reducible exact Calls.quiet_of_same (rfromq _ u.c 0 ((P.rs.length : Int) - 1) _ A4.out)))
                          go_wp2_with (go_at_call 65; with_reducible refine (rfrom_is _ u.lo 0 u.hi _ A5.out).mono ?_; rintro e w' ⟨rfl, rfl⟩)
                          go_ret
                          exact ⟨ret_int HR.out, below_drewN (HB.out.trans ((HBY.out.alloc HBY.out.size _).mono HB.out.size)) _⟩
                        · have A5 := Lib.hid ha5
                          rw [decide_eq_true_eq] at ha5
                          by_cases h6 : 2000000000 < u.hi
                          · have HR := Lib.hid (partM_use (l := l) HPO.out (by omega) hltj (by rw [HU1.out, HS1.out]; exact useOk_no (fun ⟨_, _, _, q, _⟩ => by omega)))
                            clear hm hq5 ha5
                            go_wp2_with fail
                            go_quiet ((go_at_call 65; first | with_reducible exact Calls.quiet_of_same (rfromq _ u.d 0 100000 _ A1.out) | with_reducible exact Calls.quiet_of_same (rfromq _ u.t 0 1000000 _ A3.out) | with_reducible exact Calls.quiet_of_same (rfromq _ u.c 0 ((P.rs.length : Int) - 1) _ A4.out)))
                            go_wp2_with (go_at_call 65; with_reducible refine (rfrom_is _ u.lo 0 u.hi _ A5.out).mono ?_; rintro e w' ⟨rfl, rfl⟩)
                            go_ret
                            exact ⟨ret_int HR.out, below_drewN (HB.out.trans ((HBY.out.alloc HBY.out.size _).mono HB.out.size)) _⟩
                          · have HG := Lib.hid (show useOk P.rs.length u s = true from useOk_iff.2 ⟨⟨(by omega : s ≤ u.d), by omega⟩, ⟨by omega, by omega⟩, ⟨by omega, by omega⟩, ⟨by omega, by omega, by omega⟩, .inl hm⟩)
                            clear hm hq5 ha5
                            go_wp2_with fail
                            go_quiet ((go_at_call 65; first | with_reducible exact Calls.quiet_of_same (rfromq _ u.d 0 100000 _ A1.out) | with_reducible exact Calls.quiet_of_same (rfromq _ u.t 0 1000000 _ A3.out) | with_reducible exact Calls.quiet_of_same (rfromq _ u.c 0 ((P.rs.length : Int) - 1) _ A4.out)))
                            go_wp2_with (go_at_call 65; with_reducible refine (rfrom_is _ u.lo 0 u.hi _ A5.out).mono ?_; rintro e w' ⟨rfl, rfl⟩)
                            go_roundw
                            case rel => exact ⟨j + 1, hltj, by go_num, below_drewN (HBY.out.alloc HBY.out.size _) _, fun i hi => by
                              by_cases hik : i = j
                              · rw [hik, HU1.out, HS1.out]; exact HG.out
                              · exact hf2.out i (by omega)⟩
                            case measure => simp [intOf]; omega
            · have HR := Lib.hid (partM_fine HPO.out (by omega) (fun i hi => hf2.out i (by omega)))
              go_wp2
              go_ret
              exact ⟨ret_int HR.out, HB.out.trans (HBY.out.mono HB.out.size)⟩
  · have HR := Lib.hid (partM_part (l := l) (partOk_no (P := P) (fun h => hall ⟨by rw [← h1]; exact decide_eq_true h.1, by rw [← h3]; exact decide_eq_true h.2.2.1, by rw [← h4]; exact decide_eq_true h.2.2.2.1, by rw [← h5]; exact decide_eq_true h.2.2.2.2⟩)))
    have H1 := Lib.hid h1
    have H3 := Lib.hid h3
    have H4 := Lib.hid h4
    have H5 := Lib.hid h5
    have HALL := Lib.hid hall
    clear h1 h3 h4 h5 hall
    cases b1 <;> cases b3 <;> cases b4 <;> cases b5
    all_goals first
      | (exfalso; exact HALL.out ⟨rfl, rfl, rfl, rfl⟩)
      | (go_enter Try.func41, Try.ntmps41
         go_wp2_with fail
         generalize w.alloc (Obj.cells #[Value.slice a P.rs.length cap, .int .i64 P.wo, .int .i64 P.tu, .int .i64 P.ag] 54) = wA at *
         have hce := block_cell K0.out
         go_wp2_with (go_at_call 65; (first | with_reducible refine (rfrom_is _ (P.rs.length : Int) 1 4 _ H1.out).mono ?_ | with_reducible refine (rfrom_is _ P.wo 0 1000 _ H3.out).mono ?_ | with_reducible refine (rfrom_is _ P.tu 0 1000000 _ H4.out).mono ?_ | with_reducible refine (rfrom_is _ P.ag 0 100000 _ H5.out).mono ?_); rintro e w' ⟨rfl, rfl⟩)
         go_ret
         exact ⟨ret_int HR.out, HB.out⟩)

end Go.Proofs.Ytkahhclmmlkpjaa
