/- Walks of layer 2 (chain), parts: the specification's Worn, beyond. -/
import Derived.Test.YtkahhclmmlkpjaaSc
namespace Go.Proofs.Ytkahhclmmlkpjaa
open Go.RowKit

set_option maxHeartbeats 2000000 in
theorem rworn_any (P : Prt) (l : List Us) (bv v : Value) (i : Nat) (we : Int) (w : World) (hv : SpAt w bv P.rs) (hl : UsAt w v l) (hP : POk P) (hU : UOks P l) (h40 : l.length ≤ 40) (hi : i < l.length) :
    Calls Try.prog 58 #[prtV P bv, v, .int .i64 i, .int .i64 we] w fun e w' => e = .returned (.bool (wornM P l i we)) ∧ Below w.heap.size w w' := by
  have hb0 := (Below.refl w.heap.size w).alloc (Nat.le_refl _) (Obj.cells #[bv, .int .i64 P.wo, .int .i64 P.tu, .int .i64 P.ag] 54)
  have k0 := block_new w (Obj.cells #[bv, .int .i64 P.wo, .int .i64 P.tu, .int .i64 P.ag] 54) w.heap.size rfl
  have HV := Lib.hid (hv.below hb0 (Nat.le_refl _))
  obtain ⟨a, cap, rfl, hn, hcap, hc⟩ := hv
  clear hc
  have HB := Lib.hid hb0
  have K0 := Lib.hid k0
  clear hb0 k0
  obtain ⟨ua, ucap, rfl, un, ucl, uc⟩ := hl
  obtain ⟨b, off, rfl, hbl, hc⟩ := uc (by omega)
  have HUC := Lib.hid (fun k (hk : k < l.length) => us_at HB.out hbl hc hk)
  have HDU := Lib.hid (fun k (hk : k < l.length) => hU k hk)
  have HT := Lib.hid (fun k (hk : k ≤ l.length) => turnsTo_bd hU k hk)
  have HW := Lib.hid (show wornM P l i we = (decide (P.wo * 1000000 < we) || decide (P.tu < turnsTo l (i + 1)) || decide (P.ag < (l.getD i Us.zero).d)) from rfl)
  have w0 := hP.w0
  have w1 := hP.w1
  clear uc hc hU hP
  go_enter Try.func58, Try.ntmps58
  go_wp2_with fail
  generalize w.alloc (Obj.cells #[Value.slice a P.rs.length cap, .int .i64 P.wo, .int .i64 P.tu, .int .i64 P.ag] 54) = wA at *
  have hce := block_cell K0.out
  go_loop [9, 10] (fun t x => ∃ k : Nat, k ≤ i + 1 ∧ x = .int .i64 k ∧ t = .int .i64 (turnsTo l k)) (fun _ x => i + 1 - (intOf x).toNat)
  case atStart => exact ⟨0, Nat.zero_le _, rfl, rfl⟩
  case round =>
    obtain ⟨k, hk, rfl, rfl⟩ := hrel
    by_cases hlt : k ≤ i
    · obtain ⟨_, g2, _⟩ := HUC.out k (by omega)
      have Hs := Lib.hid (show turnsTo l (k + 1) = turnsTo l k + (l.getD k Us.zero).t from rfl)
      have hu := HDU.out k (by omega)
      have ht := HT.out k (by omega)
      obtain ⟨t0, t1⟩ : 0 ≤ (l.getD k Us.zero).t ∧ (l.getD k Us.zero).t ≤ 1000000 := ⟨hu.t0, hu.t1⟩
      clear hu
      generalize turnsTo l k = t at *
      generalize l.getD k Us.zero = u at *
      go_wp2
      go_round
      case rel => exact ⟨k + 1, by omega, by go_num, by rw [Hs.out]⟩
      case measure => simp [intOf]; omega
    · obtain rfl : k = i + 1 := by omega
      obtain ⟨g1, _⟩ := HUC.out i (by omega)
      generalize turnsTo l (i + 1) = t at *
      generalize (l.getD i Us.zero).d = d at *
      have i1 : (0 : Int) ≤ i := by omega
      have i2 : (i : Int) < l.length := by omega
      cases hA : decide (P.wo * 1000000 < we)
      · cases hB : decide (P.tu < t)
        · have HR := Lib.hid (show wornM P l i we = decide (P.ag < d) by rw [HW.out, hA, hB]; rfl)
          go_wp2_with fail
          go_quiet (fail)
          go_wp2
          go_ret
          exact ⟨ret_bool HR.out.symm, below_drewN HB.out _⟩
        · have HR := Lib.hid (show wornM P l i we = true by rw [HW.out, hA, hB]; rfl)
          go_wp2_with fail
          go_quiet (fail)
          go_wp2
          go_ret
          exact ⟨ret_bool HR.out.symm, below_drewN HB.out _⟩
      · have HR := Lib.hid (show wornM P l i we = true by rw [HW.out, hA]; rfl)
        go_wp2_with fail
        go_quiet (fail)
        go_wp2
        go_ret
        exact ⟨ret_bool HR.out.symm, below_drewN HB.out _⟩

theorem firstM_at {P : Prt} {l : List Us} {g : Bool} {k : Nat} (hk : k < l.length) (h1 : ∀ i, i < k → wornM P l i (endOf g (wearAt P l i)) = false) (h2 : wornM P l k (endOf g (wearAt P l k)) = true) : (k : Int) = firstM P l g := by
  have e : spentN P l g = k := firstB_eq (by omega) h1 (fun _ => h2)
  unfold firstM
  rw [e, if_pos hk]

theorem firstM_none {P : Prt} {l : List Us} {g : Bool} (h1 : ∀ i, i < l.length → wornM P l i (endOf g (wearAt P l i)) = false) : -1 = firstM P l g := by
  have e : spentN P l g = l.length := firstB_eq (by omega) h1 (fun h => by omega)
  unfold firstM
  rw [e, if_neg (by omega)]

theorem rworn_is (q : Bool) {P : Prt} {l : List Us} {bv v : Value} {i : Nat} {we : Int} {w : World} (hv : SpAt w bv P.rs) (hl : UsAt w v l) (hP : POk P) (hU : UOks P l) (h40 : l.length ≤ 40) (hi : i < l.length) (hq : wornM P l i we = q) :
    Calls Try.prog 58 #[prtV P bv, v, .int .i64 i, .int .i64 we] w fun e w' => e = .returned (.bool q) ∧ Below w.heap.size w w' := by
  subst hq
  exact rworn_any P l bv v i we w hv hl hP hU h40 hi

set_option maxHeartbeats 2000000 in
theorem rbeyondHi_any (P : Prt) (l : List Us) (bv v sv : Value) (w : World) (hv : SpAt w bv P.rs) (hl : UsAt w v l) (hs : SpAt w sv (wearL P l)) (hP : POk P) (hU : UOks P l) (h40 : l.length ≤ 40) :
    Calls Try.prog 87 #[prtV P bv, v, sv, .bool true] w fun e w' => e = .returned (.int .i64 (firstM P l true)) ∧ Below w.heap.size w w' := by
  have HU0 := Lib.hid hl
  have HS0 := Lib.hid hs
  have hb0 := (Below.refl w.heap.size w).alloc (Nat.le_refl _) (Obj.cells #[bv, .int .i64 P.wo, .int .i64 P.tu, .int .i64 P.ag] 54)
  have k0 := block_new w (Obj.cells #[bv, .int .i64 P.wo, .int .i64 P.tu, .int .i64 P.ag] 54) w.heap.size rfl
  have HV := Lib.hid (hv.below hb0 (Nat.le_refl _))
  obtain ⟨a, cap, rfl, hn, hcap, hc⟩ := hv
  clear hc
  have HB := Lib.hid hb0
  have K0 := Lib.hid k0
  clear hb0 k0
  have HU := Lib.hid (HU0.out.below HB.out (Nat.le_refl _))
  obtain ⟨ua, ucap, rfl, un, ucl, uc⟩ := hl
  obtain ⟨sa, scap, rfl, sn, scl, sc⟩ := hs
  rw [wearL_len] at sn sc
  rw [wearL_len] at *
  have HSC := Lib.hid sc
  have HP := Lib.hid hP
  have HUO := Lib.hid hU
  have HLM := Lib.hid (fun k => firstM_at (P := P) (l := l) (g := true) (k := k))
  have HLN := Lib.hid (firstM_none (P := P) (l := l) (g := true))
  clear uc sc hP hU
  go_enter Try.func87, Try.ntmps87
  go_wp2_with fail
  generalize w.alloc (Obj.cells #[Value.slice a P.rs.length cap, .int .i64 P.wo, .int .i64 P.tu, .int .i64 P.ag] 54) = wA at *
  go_loopw [9] (fun i wr => ∃ k : Nat, k ≤ l.length ∧ i = .int .i64 k ∧ Hid (Below wA.heap.size wA wr) ∧ Hid (∀ i, i < k → wornM P l i (endOf true (wearAt P l i)) = false)) (fun i _ => l.length - (intOf i).toNat)
  case atStart => exact ⟨0, Nat.zero_le _, rfl, Below.refl _ _, fun i hi => by omega⟩
  case round =>
    obtain ⟨k, hk, rfl, hb, hf⟩ := hrel
    by_cases hlt : k < l.length
    · obtain ⟨b, off, rfl, hbl, hc⟩ := HSC.out (by omega)
      obtain ⟨s1, s2⟩ := sp_at (HB.out.trans (hb.out.mono HB.out.size)) hbl hc (k := k) (by rw [wearL_len]; omega)
      rw [wearL_get hlt] at s1 s2
      have hce := block_cell ((hb.out.block _ (lt_of_block K0.out)).trans K0.out)
      have hz := Nat.lt_of_lt_of_le (lt_of_block K0.out) hb.out.size
      have hz2 : b < wr.heap.size := by have := hb.out.size; have := HB.out.size; omega
      have k1 : (0 : Int) ≤ k := by omega
      have k2 : (k : Int) < l.length := by omega
      have HE := Lib.hid (show endOf true (wearAt P l k) = (wearAt P l k).2 from rfl)
      clear hc
      generalize hs0 : wearAt P l k = s at *
      have HS := Lib.hid hs0
      clear hs0
      cases hq : wornM P l k s.2
      · have HQ := Lib.hid hq
        clear hq
        go_wp2_with fail
        refine (rworn_is false (HV.out.below hb.out (Nat.le_refl _)) (HU.out.below hb.out (Nat.le_refl _)) HP.out HUO.out h40 hlt HQ.out).mono ?_
        rintro e w2 ⟨rfl, hb2⟩
        have HB2 := Lib.hid (hb.out.trans (hb2.mono hb.out.size))
        clear hb2
        go_wp2
        go_roundw
        case rel => exact ⟨k + 1, hlt, by go_num, HB2.out, fun i hi => by
          by_cases hik : i = k
          · rw [hik, HS.out, HE.out]; exact HQ.out
          · exact hf.out i (by omega)⟩
        case measure => simp [intOf]; omega
      · have HQ := Lib.hid hq
        have HR := Lib.hid (HLM.out k hlt hf.out (by rw [HS.out, HE.out]; exact hq))
        clear hq
        go_wp2_with fail
        refine (rworn_is true (HV.out.below hb.out (Nat.le_refl _)) (HU.out.below hb.out (Nat.le_refl _)) HP.out HUO.out h40 hlt HQ.out).mono ?_
        rintro e w2 ⟨rfl, hb2⟩
        have HB2 := Lib.hid (hb.out.trans (hb2.mono hb.out.size))
        clear hb2
        go_wp2
        go_ret
        exact ⟨ret_int HR.out, HB.out.trans (HB2.out.mono HB.out.size)⟩
    · have HR := Lib.hid (HLN.out (fun i hi => hf.out i (by omega)))
      go_wp2
      go_ret
      exact ⟨ret_int HR.out, HB.out.trans (hb.out.mono HB.out.size)⟩

set_option maxHeartbeats 2000000 in
theorem rbeyondLo_any (P : Prt) (l : List Us) (bv v sv : Value) (w : World) (hv : SpAt w bv P.rs) (hl : UsAt w v l) (hs : SpAt w sv (wearL P l)) (hP : POk P) (hU : UOks P l) (h40 : l.length ≤ 40) :
    Calls Try.prog 87 #[prtV P bv, v, sv, .bool false] w fun e w' => e = .returned (.int .i64 (firstM P l false)) ∧ Below w.heap.size w w' := by
  have HU0 := Lib.hid hl
  have HS0 := Lib.hid hs
  have hb0 := (Below.refl w.heap.size w).alloc (Nat.le_refl _) (Obj.cells #[bv, .int .i64 P.wo, .int .i64 P.tu, .int .i64 P.ag] 54)
  have k0 := block_new w (Obj.cells #[bv, .int .i64 P.wo, .int .i64 P.tu, .int .i64 P.ag] 54) w.heap.size rfl
  have HV := Lib.hid (hv.below hb0 (Nat.le_refl _))
  obtain ⟨a, cap, rfl, hn, hcap, hc⟩ := hv
  clear hc
  have HB := Lib.hid hb0
  have K0 := Lib.hid k0
  clear hb0 k0
  have HU := Lib.hid (HU0.out.below HB.out (Nat.le_refl _))
  obtain ⟨ua, ucap, rfl, un, ucl, uc⟩ := hl
  obtain ⟨sa, scap, rfl, sn, scl, sc⟩ := hs
  rw [wearL_len] at sn sc
  rw [wearL_len] at *
  have HSC := Lib.hid sc
  have HP := Lib.hid hP
  have HUO := Lib.hid hU
  have HLM := Lib.hid (fun k => firstM_at (P := P) (l := l) (g := false) (k := k))
  have HLN := Lib.hid (firstM_none (P := P) (l := l) (g := false))
  clear uc sc hP hU
  go_enter Try.func87, Try.ntmps87
  go_wp2_with fail
  generalize w.alloc (Obj.cells #[Value.slice a P.rs.length cap, .int .i64 P.wo, .int .i64 P.tu, .int .i64 P.ag] 54) = wA at *
  go_loopw [9] (fun i wr => ∃ k : Nat, k ≤ l.length ∧ i = .int .i64 k ∧ Hid (Below wA.heap.size wA wr) ∧ Hid (∀ i, i < k → wornM P l i (endOf false (wearAt P l i)) = false)) (fun i _ => l.length - (intOf i).toNat)
  case atStart => exact ⟨0, Nat.zero_le _, rfl, Below.refl _ _, fun i hi => by omega⟩
  case round =>
    obtain ⟨k, hk, rfl, hb, hf⟩ := hrel
    by_cases hlt : k < l.length
    · obtain ⟨b, off, rfl, hbl, hc⟩ := HSC.out (by omega)
      obtain ⟨s1, s2⟩ := sp_at (HB.out.trans (hb.out.mono HB.out.size)) hbl hc (k := k) (by rw [wearL_len]; omega)
      rw [wearL_get hlt] at s1 s2
      have hce := block_cell ((hb.out.block _ (lt_of_block K0.out)).trans K0.out)
      have hz := Nat.lt_of_lt_of_le (lt_of_block K0.out) hb.out.size
      have hz2 : b < wr.heap.size := by have := hb.out.size; have := HB.out.size; omega
      have k1 : (0 : Int) ≤ k := by omega
      have k2 : (k : Int) < l.length := by omega
      have HE := Lib.hid (show endOf false (wearAt P l k) = (wearAt P l k).1 from rfl)
      clear hc
      generalize hs0 : wearAt P l k = s at *
      have HS := Lib.hid hs0
      clear hs0
      cases hq : wornM P l k s.1
      · have HQ := Lib.hid hq
        clear hq
        go_wp2_with fail
        refine (rworn_is false (HV.out.below hb.out (Nat.le_refl _)) (HU.out.below hb.out (Nat.le_refl _)) HP.out HUO.out h40 hlt HQ.out).mono ?_
        rintro e w2 ⟨rfl, hb2⟩
        have HB2 := Lib.hid (hb.out.trans (hb2.mono hb.out.size))
        clear hb2
        go_wp2
        go_roundw
        case rel => exact ⟨k + 1, hlt, by go_num, HB2.out, fun i hi => by
          by_cases hik : i = k
          · rw [hik, HS.out, HE.out]; exact HQ.out
          · exact hf.out i (by omega)⟩
        case measure => simp [intOf]; omega
      · have HQ := Lib.hid hq
        have HR := Lib.hid (HLM.out k hlt hf.out (by rw [HS.out, HE.out]; exact hq))
        clear hq
        go_wp2_with fail
        refine (rworn_is true (HV.out.below hb.out (Nat.le_refl _)) (HU.out.below hb.out (Nat.le_refl _)) HP.out HUO.out h40 hlt HQ.out).mono ?_
        rintro e w2 ⟨rfl, hb2⟩
        have HB2 := Lib.hid (hb.out.trans (hb2.mono hb.out.size))
        clear hb2
        go_wp2
        go_ret
        exact ⟨ret_int HR.out, HB.out.trans (HB2.out.mono HB.out.size)⟩
    · have HR := Lib.hid (HLN.out (fun i hi => hf.out i (by omega)))
      go_wp2
      go_ret
      exact ⟨ret_int HR.out, HB.out.trans (hb.out.mono HB.out.size)⟩

end Go.Proofs.Ytkahhclmmlkpjaa
