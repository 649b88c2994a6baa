/- Walks of layer 3 (circuit): tries of the program. -/
import Derived.Test.YtbkhfmigaehgaaaCo
namespace Go.Proofs.Ytbkhfmigaehgaaa
open Go.RowKit

theorem tries_fail {round : List Nat} {gap n k i : Nat} (hk : k < n) (h1 : ∀ j, j < k → missN round gap j = round.length) (hi : i < round.length) (h2 : ∀ j, j < i → triedB round gap k j = true) (h3 : triedB round gap k i = false) : triesM round gap n = ⟨k, i, false⟩ := by
  have e1 : missN round gap k = i := fstB_eq (by omega) (fun j hj => by rw [h2 j hj]; rfl) (fun _ => by rw [h3]; rfl)
  have e2 : missS round gap n = k := fstB_eq (by omega) (fun j hj => by rw [h1 j hj]; simp) (fun _ => by rw [e1]; simpa using hi)
  unfold triesM
  rw [e2, if_pos hk, e1]

theorem tries_done {round : List Nat} {gap n : Nat} (h1 : ∀ j, j < n → missN round gap j = round.length) : triesM round gap n = ⟨0, 0, true⟩ := by
  have e2 : missS round gap n = n := fstB_eq (Nat.le_refl _) (fun j hj => by rw [h1 j hj]; simp) (fun h => by omega)
  unfold triesM
  rw [e2, if_neg (by omega)]

theorem miss_all {round : List Nat} {gap k : Nat} (h : ∀ j, j < round.length → triedB round gap k j = true) : missN round gap k = round.length :=
  fstB_eq (Nat.le_refl _) (fun j hj => by rw [h j hj]; rfl) (fun hh => by omega)

theorem tried_len (round : List Nat) (gap k i : Nat) : (((natL ((List.range gap).filter fun d => (round.getD ((i + d) % round.length) 0).testBit k)).length : Int) == 0) = !triedB round gap k i := by
  rw [natL_len]
  unfold triedB
  cases hq : (List.range gap).any fun d => (round.getD ((i + d) % round.length) 0).testBit k
  · have : (List.range gap).filter (fun d => (round.getD ((i + d) % round.length) 0).testBit k) = [] := by
      rw [List.filter_eq_nil_iff]; exact List.any_eq_false.1 hq
    rw [this]; rfl
  · obtain ⟨x, hx, hp⟩ := List.any_eq_true.1 hq
    have hm : x ∈ (List.range gap).filter fun d => (round.getD ((i + d) % round.length) 0).testBit k := List.mem_filter.2 ⟨hx, hp⟩
    have hl := List.length_pos_of_mem hm
    simp only [Bool.not_true, beq_eq_false_iff_ne, ne_eq]
    omega

abbrev trV (r : TrA) : Value := .tuple #[.int .i64 r.sw, .int .i64 r.night, .bool r.ok]
theorem ret_tr {a b : TrA} (h : a = b) : Ending.returned (trV a) = .returned (trV b) := by rw [h]

set_option maxRecDepth 100000 in
set_option maxHeartbeats 4000000 in
theorem tries_any (n : Nat) (round : List Nat) (gap : Nat) (rv : Value) (w : World) (hr : InAt w rv (natL round)) (h1 : 1 ≤ round.length) (h60 : round.length ≤ 100) (hg : gap ≤ 100) (hn : n ≤ 12) (hb : ∀ s ∈ round, s < 1048576) :
    Calls Try.prog 105 #[.int .i64 n, rv, .int .i64 gap] w fun e w' => e = .returned (trV (triesM round gap n)) ∧ Below w.heap.size w w' := by
  have hb0 := (Below.refl w.heap.size w).alloc (Nat.le_refl _) (.cells #[rv] 22)
  have HB := Lib.hid hb0
  have K0 := Lib.hid (block_new w (.cells #[rv] 22) w.heap.size rfl)
  have HR := Lib.hid (hr.below hb0 (Nat.le_refl _))
  have HS := Lib.hid hb
  have HF := Lib.hid (fun k i => tries_fail (round := round) (gap := gap) (n := n) (k := k) (i := i))
  have HD := Lib.hid (tries_done (round := round) (gap := gap) (n := n))
  have HM := Lib.hid (fun k => miss_all (round := round) (gap := gap) (k := k))
  have HT := Lib.hid (tried_len round gap)
  obtain ⟨ra, rcap, hrv, _⟩ := hr
  rw [natL_len] at hrv
  subst hrv
  clear hb hb0
  go_enter Try.func105, Try.ntmps105
  go_wp2_with fail
  generalize w.alloc (.cells #[.slice ra round.length rcap] 22) = wA at *
  go_loopw [13] (fun i wr => ∃ k : Nat, k ≤ n ∧ i = .int .i64 k ∧ Hid (Below wA.heap.size wA wr) ∧ Hid (∀ j, j < k → missN round gap j = round.length)) (fun i _ => n - (intOf i).toNat)
  case atStart => exact ⟨0, Nat.zero_le _, rfl, Lib.hid (Below.refl _ _), Lib.hid (fun j hj => by omega)⟩
  case round =>
    obtain ⟨k, hk, rfl, hbr, hP⟩ := hrel
    obtain ⟨wo, rfl⟩ : ∃ wo : World, wo = wr := ⟨_, rfl⟩
    by_cases hlt : k < n
    · have hb1 := hbr.out.alloc hbr.out.size (.cells #[.int .i64 k] 3)
      have HB1 := Lib.hid hb1
      have KR := Lib.hid (block_alloc (keepZ K0.out hbr.out) (.cells #[.int .i64 k] 3))
      have KS := Lib.hid (block_new wo (.cells #[.int .i64 k] 3) wo.heap.size rfl)
      have c0 := block_cell KR.out
      have z0 := lt_of_block KR.out
      clear hb1
      go_wp2_with fail
      generalize wo.alloc (.cells #[.int .i64 k] 3) = wB at *
      generalize wo.heap.size = gs at *
      clear c0
      go_loopw [18] (fun i wr => ∃ j : Nat, j ≤ round.length ∧ i = .int .i64 j ∧ Hid (Below wB.heap.size wB wr) ∧ Hid (∀ i, i < j → triedB round gap k i = true)) (fun i _ => round.length - (intOf i).toNat)
      case atStart => exact ⟨0, Nat.zero_le _, rfl, Lib.hid (Below.refl _ _), Lib.hid (fun j hj => by omega)⟩
      case round =>
        obtain ⟨j, hj, rfl, hbq, hQ⟩ := hrel
        by_cases hlj : j < round.length
        · have hb2 := hbq.out.alloc hbq.out.size (.cells #[.int .i64 j] 3)
          have HB2 := Lib.hid hb2
          have KR2 := Lib.hid (block_alloc (keepZ KR.out hbq.out) (.cells #[.int .i64 j] 3))
          have KS2 := Lib.hid (block_alloc (keepZ KS.out hbq.out) (.cells #[.int .i64 j] 3))
          have KN2 := Lib.hid (block_new wr (.cells #[.int .i64 j] 3) wr.heap.size rfl)
          clear hb2
          go_wp2_with fail
          generalize wr.alloc (.cells #[.int .i64 j] 3) = wC at *
          generalize wr.heap.size = gn at *
          refine (those_any _ #[] #[.pointer (some ⟨w.heap.size, 0, none⟩), .pointer (some ⟨gn, 0, none⟩), .pointer (some ⟨gs, 0, none⟩)] gap (fun d => (round.getD ((j + d) % round.length) 0).testBit k) _ (by omega) enters_tries1 (fun d w1 hd hb3 => ?_)).mono ?_
          · exact tries1_any round _ d _ _ _ j k w1 (HR.out.below (HB1.out.trans ((HB2.out.trans (hb3.mono HB2.out.size)).mono HB1.out.size)) (Nat.le_refl _)) h1 h60 (by omega) (by omega) (by omega) HS.out (keepZ KR2.out hb3) (keepZ KN2.out hb3) (keepZ KS2.out hb3)
          rintro e w1 ⟨v, rfl, ⟨va, vcap, rfl, _, hvc, _⟩, hb3⟩
          have hlen := HT.out k j
          generalize (natL ((List.range gap).filter fun d => (round.getD ((j + d) % round.length) 0).testBit k)).length = L at *
          have HB3 := Lib.hid (HB2.out.trans (hb3.mono HB2.out.size))
          have cN := bw_cells (B := w1.heap.size) (keepZ KN2.out hb3) (lt_of_block (keepZ KN2.out hb3))
          have cS := bw_cells (B := w1.heap.size) (keepZ KS2.out hb3) (lt_of_block (keepZ KS2.out hb3))
          clear hb3
          cases hq : triedB round gap k j
          · have HFA := Lib.hid (HF.out k j hlt hP.out hlj hQ.out hq)
            rw [hq] at hlen
            clear hq
            have hlen2 : ((L : Int) == 0) = true := hlen
            clear hlen
            go_wp2_with fail
            refine wp_region_below (by kernel_rfl) (by kernel_rfl) (Below.refl w1.heap.size w1) ?_
            repeat ((with_reducible refine wpQuiet_step (fun K hK => ?_)); go_simp; first | (refine hK _ ?_; clear hK K) | (apply Exists.intro; refine ⟨fun _ => ?_, hK _ ?_⟩; (fail); clear hK K))
            refine wpQuiet_nil ?_
            intro wq hwq0
            have hwq := bw_out hwq0
            clear hwq0
            go_wp2
            go_ret3
            exact ⟨ret_tr HFA.out.symm, HB.out.trans ((HB1.out.trans ((HB3.out.trans (hwq.mono HB3.out.size)).mono HB1.out.size)).mono HB.out.size)⟩
          · have HQ := Lib.hid hq
            rw [hq] at hlen
            clear hq cN cS
            have hlen2 : ((L : Int) == 0) = false := hlen
            clear hlen
            go_wp2_with fail
            go_roundw
            case rel => exact ⟨j + 1, by omega, by go_num, HB3, Lib.hid (fun i hi => by
              by_cases e : i = j
              · rw [e]; exact HQ.out
              · exact hQ.out i (by omega))⟩
            case measure => simp [intOf]; omega
        · obtain rfl : j = round.length := by omega
          have HMM := Lib.hid (HM.out k hQ.out)
          have HBX := Lib.hid (HB1.out.trans (hbq.out.mono HB1.out.size))
          go_wp2_with fail
          go_roundw
          case rel => exact ⟨k + 1, by omega, by go_num, HBX, Lib.hid (fun i hi => by
            by_cases e : i = k
            · rw [e]; exact HMM.out
            · exact hP.out i (by omega))⟩
          case measure => simp [intOf]; omega
    · obtain rfl : n = k := by omega
      have HDD := Lib.hid (HD.out hP.out)
      go_wp2_with fail
      go_ret3
      exact ⟨ret_tr HDD.out.symm, HB.out.trans (hbr.out.mono HB.out.size)⟩

end Go.Proofs.Ytbkhfmigaehgaaa
