/- Walks of layer 2 (chain): Longest of the program. -/
import Derived.Test.YtkahhclmmlkpjaaVe
import Derived.Test.YtkahhclmmlkpjaaKi
namespace Go.Proofs.Ytkahhclmmlkpjaa
open Go.RowKit

theorem followC_any (c : Chn) (l : List Gau) (v : Value) (w : World) (hv : GaAt w v l) (h : chkM c l = 0) :
    Calls Try.prog 66 #[chnV c, v, .func (.func 67) #[] #[]] w fun e w' =>
      ∃ M1 : Net, e = .returned (.tuple #[.agg (netC M1), .bool (agreeB c l)]) ∧ Below w.heap.size w w' ∧ (agreeB c l = true → ∀ i k, i ≤ c.n.toNat → k ≤ c.n.toNat → M1 i k = RM c l i k) := by
  obtain ⟨n, pi, li⟩ := c
  obtain ⟨n, rfl⟩ : ∃ m : Nat, n = m := ⟨n.toNat, by have := (chk_goks h).1.n1; dsimp only at this; omega⟩
  exact follow_any n pi li l v w hv h

theorem brun1 (M : Net) (b i k : Nat) (kI : Int) (w : World) (h : Bd w b M) (hkI : kI = k) (hi : i < 25) (hk : k < 25) (h1 : -1000000000000000 ≤ M k i) (h2 : M k i ≤ 1000000000000000) :
    Calls Try.prog 68 #[.pointer (some ⟨b, 0, none⟩), .int .i64 i, .int .i64 kI] w fun e w' => e = .returned (.agg #[.int .i64 (-M k i), .int .i64 (M i k)]) ∧ Below w.heap.size w w' := by
  subst hkI
  exact brun_any M b i k w h hi hk h1 h2

set_option maxRecDepth 100000 in
set_option maxHeartbeats 4000000 in
theorem kLongest_any (c : Chn) (l : List Gau) (v : Value) (m : Int) (w : World) (hv : GaAt w v l) :
    Calls Try.prog 27 #[chnV c, v, .int .i64 m] w fun e w' => e = .returned (lonV (lonM c l m)) ∧ Below w.heap.size w w' := by
  have hb0 := (Below.refl w.heap.size w).alloc (Nat.le_refl _) (Obj.cells #[.int .i64 c.n, .int .i64 c.pi, .int .i64 c.li] 23)
  have k0 := block_new w (Obj.cells #[.int .i64 c.n, .int .i64 c.pi, .int .i64 c.li] 23) w.heap.size rfl
  have hsz : (w.alloc (Obj.cells #[.int .i64 c.n, .int .i64 c.pi, .int .i64 c.li] 23)).heap.size = w.heap.size + 1 := size_alloc _ _
  have K0 := Lib.hid k0
  have HB := Lib.hid hb0
  have HSZ := Lib.hid hsz
  clear k0 hb0 hsz
  have HV := Lib.hid (hv.below HB.out (Nat.le_refl _))
  obtain ⟨va, cap, rfl, hn, hcap, hc⟩ := hv
  clear hc
  by_cases hq : chkM c l = 0
  · have HQ := Lib.hid hq
    obtain ⟨hck1, hck2, hck3⟩ := chk_goks hq
    have n24 := hck1.n2
    have n1 := hck1.n1
    have HC1 := Lib.hid hck1
    have HC2 := Lib.hid hck2
    have hzb := zeroBounds
    clear hck1 hck2 hck3 hq
    go_enter Try.func27, Try.ntmps27
    go_wp2_with fail
    generalize hwA : w.alloc (Obj.cells #[.int .i64 c.n, .int .i64 c.pi, .int .i64 c.li] 23) = wA at *
    clear hwA
    have hce := block_cell K0.out
    go_wp2_with fail
    refine (kcheck_any c l _ _ HV.out).mono ?_
    rintro e w1 ⟨rfl, hb1⟩
    rw [HQ.out]
    clear hce
    have hce := block_cell ((hb1.block _ (lt_of_block K0.out)).trans K0.out)
    have hz := Nat.lt_of_lt_of_le (lt_of_block K0.out) hb1.size
    have HB1 := Lib.hid hb1
    have HV1 := Lib.hid (HV.out.below hb1 (Nat.le_refl _))
    clear hb1
    cases hm : decide (1 ≤ m ∧ m ≤ c.n)
    · have HR := Lib.hid (lon_arg HQ.out (of_decide_eq_false hm))
      go_wp2_with (go_at_call 60; refine (kwithin_is false m 1 c.n _ hm).mono ?_; rintro e w' ⟨rfl, rfl⟩)
      refine bodyPost_ret (v := lonV ⟨0, 0, 1⟩) (by simp [results, Try.results27, go_sem]) rfl ⟨by rw [HR.out], HB.out.trans (HB1.out.mono HB.out.size)⟩
    · have hm2 := of_decide_eq_true hm
      obtain ⟨m, rfl⟩ : ∃ k : Nat, m = k := ⟨m.toNat, by omega⟩
      have HM2 := Lib.hid hm2
      have hm0 := hm2.1
      have hm1 := hm2.2
      clear hm2
      go_wp2_with (go_at_call 60; refine (kwithin_is true m 1 c.n _ hm).mono ?_; rintro e w' ⟨rfl, rfl⟩)
      refine (followC_any c l _ _ HV1.out HQ.out).mono ?_
      rintro e w2 ⟨M1, rfl, hb2, hM⟩
      have HBW := Lib.hid (HB.out.trans ((HB1.out.trans (hb2.mono HB1.out.size)).mono HB.out.size))
      have kE := (hb2.block _ hz).trans ((HB1.out.block _ (lt_of_block K0.out)).trans K0.out)
      have KE := Lib.hid kE
      have HM := Lib.hid hM
      have hst := storeBounds M1
      have hs1 := netC_size M1
      clear hb2 hM hce hz kE hm
      cases hag : agreeB c l
      · have HR := Lib.hid (lon_none HQ.out HM2.out hag)
        clear hag
        go_wp2
        refine bodyPost_ret (v := lonV ⟨0, 0, 3⟩) (by simp [results, Try.results27, go_sem]) rfl ⟨by rw [HR.out], ?_⟩
        exact HBW.out.alloc HBW.out.size _
      · have HR := Lib.hid (lon_ok HQ.out HM2.out hag)
        have HH := Lib.hid (fun k (hk : k + m ≤ c.n.toNat) => show M1 k (k + m) = lonH c l m k from HM.out hag k (k + m) (by omega) hk)
        have HS := Lib.hid (fun i k (hi : i ≤ c.n.toNat) (hk : k ≤ c.n.toNat) => show -335544320000000 ≤ M1 i k ∧ M1 i k ≤ 1099511627776 by rw [HM.out hag i k hi hk]; exact RM_small HC1.out HC2.out hi hk)
        have kB : (w2.alloc (.cells (netC M1) 100)).heap[w2.heap.size]? = some (.cells (netC M1) 100) := block_new _ _ _ rfl
        have kE := block_alloc KE.out (.cells (netC M1) 100)
        have hbB := HBW.out.alloc HBW.out.size (.cells (netC M1) 100)
        have KB := Lib.hid kB
        have KE2 := Lib.hid kE
        have HBB := Lib.hid hbB
        have hce := block_cell (block_alloc KE.out (.cells (netC M1) 100))
        have zc := lt_of_block (block_alloc KE.out (.cells (netC M1) 100))
        have hce0 := block_cell KE.out
        have zc0 := lt_of_block KE.out
        clear hag kB kE hbB
        generalize lonH c l m = H at *
        go_wp2_with fail
        clear hce hce0 zc zc0 hst hs1 hzb
        generalize w2.alloc (.cells (netC M1) 100) = wB at *
        generalize w2.heap.size = p at *
        go_loopw [6, 7, 38] (fun a x i wr => ∃ k : Nat, k + m ≤ c.n.toNat + 1 ∧ i = .int .i64 k ∧ a = .int .i64 (lngTo H k).1 ∧ x = .int .i64 (lngTo H k).2 ∧ Hid (Below wB.heap.size wB wr)) (fun _ _ i _ => c.n.toNat + 1 - (intOf i).toNat)
        case atStart => exact ⟨0, by omega, rfl, rfl, rfl, Below.refl _ _⟩
        case round =>
          obtain ⟨k, hk, rfl, rfl, rfl, hb⟩ := hrel
          by_cases hlt : k + m ≤ c.n.toNat
          · have s1 := HS.out (k + m) k (by omega) (by omega)
            have kb := (hb.out.block _ (lt_of_block KB.out)).trans KB.out
            have KBr := Lib.hid kb
            clear kb
            have hf1 := spanField1
            by_cases hgt : (lngTo H k).2 < H k
            · have HL := Lib.hid (lng_more hgt)
              have HX := Lib.hid (HH.out k hlt)
              generalize lngTo H k = r at *
              generalize H k = h at *
              go_wp2_with fail
              refine (brun1 M1 p k (k + m) _ _ KBr.out (by omega) (by omega) (by omega) (by omega) (by omega)).mono ?_
              rintro e w3 ⟨rfl, hb3⟩
              rw [HX.out]
              have HB3 := Lib.hid (hb.out.trans (hb3.mono hb.out.size))
              clear hb3
              go_wp2_with fail
              go_roundw
              case rel => exact ⟨k + 1, by omega, by go_num, by rw [HL.out], by rw [HL.out], HB3.out⟩
              case measure => simp [intOf]; omega
            · have HL := Lib.hid (lng_same hgt)
              have HX := Lib.hid (HH.out k hlt)
              generalize lngTo H k = r at *
              generalize H k = h at *
              go_wp2_with fail
              refine (brun1 M1 p k (k + m) _ _ KBr.out (by omega) (by omega) (by omega) (by omega) (by omega)).mono ?_
              rintro e w3 ⟨rfl, hb3⟩
              rw [HX.out]
              have HB3 := Lib.hid (hb.out.trans (hb3.mono hb.out.size))
              clear hb3
              go_wp2_with fail
              go_roundw
              case rel => exact ⟨k + 1, by omega, by go_num, by rw [HL.out], by rw [HL.out], HB3.out⟩
              case measure => simp [intOf]; omega
          · obtain rfl : k = c.n.toNat - m + 1 := by omega
            generalize lngTo H (c.n.toNat - m + 1) = r at *
            go_wp2
            refine bodyPost_ret (v := lonV ⟨r.1, r.2, 0⟩) (by simp [results, Try.results27, go_sem]) rfl ⟨by rw [HR.out], HBB.out.trans (hb.out.mono HBB.out.size)⟩
  · have HR := Lib.hid (lon_bad (m := m) hq)
    go_enter Try.func27, Try.ntmps27
    go_wp2_with fail
    generalize hwA : w.alloc (Obj.cells #[.int .i64 c.n, .int .i64 c.pi, .int .i64 c.li] 23) = wA at *
    clear hwA
    have hce := block_cell K0.out
    go_wp2_with fail
    refine (kcheck_any c l _ _ HV.out).mono ?_
    rintro e w1 ⟨rfl, hb1⟩
    generalize chkM c l = q at *
    go_wp2
    refine bodyPost_ret (v := lonV ⟨0, 0, q⟩) (by simp [results, Try.results27, go_sem]) rfl ⟨by rw [HR.out], HB.out.trans (hb1.mono HB.out.size)⟩

end Go.Proofs.Ytkahhclmmlkpjaa
