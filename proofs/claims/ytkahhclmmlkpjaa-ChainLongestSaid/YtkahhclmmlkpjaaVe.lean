/- Walks of layer 2 (chain): Longest of the specification. -/
import Derived.Test.YtkahhclmmlkpjaaVd
namespace Go.Proofs.Ytkahhclmmlkpjaa
open Go.RowKit

/-- The first of the longest among the first k runs. -/
def lngTo (H : Nat → Int) : Nat → Nat × Int
  | 0 => (0, 0)
  | k + 1 => if (lngTo H k).2 < H k then (k, H k) else lngTo H k

theorem lng_more {H : Nat → Int} {k : Nat} (h : (lngTo H k).2 < H k) : lngTo H (k + 1) = (k, H k) := by rw [lngTo, if_pos h]
theorem lng_same {H : Nat → Int} {k : Nat} (h : ¬ (lngTo H k).2 < H k) : lngTo H (k + 1) = lngTo H k := by rw [lngTo, if_neg h]

structure LonA where
  a : Int
  m : Int
  e : Int
abbrev lonV (r : LonA) : Value := .tuple #[.int .i64 r.a, .int .i64 r.m, .int .i64 r.e]
def lonH (c : Chn) (l : List Gau) (m : Nat) : Nat → Int := fun i => RM c l i (i + m)
def lonM (c : Chn) (l : List Gau) (m : Int) : LonA :=
  if chkM c l = 0 then (if 1 ≤ m ∧ m ≤ c.n then (if agreeB c l = true then ⟨(lngTo (lonH c l m.toNat) (c.n.toNat - m.toNat + 1)).1, (lngTo (lonH c l m.toNat) (c.n.toNat - m.toNat + 1)).2, 0⟩ else ⟨0, 0, 3⟩) else ⟨0, 0, 1⟩) else ⟨0, 0, chkM c l⟩

theorem lon_bad {c : Chn} {l : List Gau} {m : Int} (h : ¬ chkM c l = 0) : (⟨0, 0, chkM c l⟩ : LonA) = lonM c l m := by unfold lonM; rw [if_neg h]
theorem lon_arg {c : Chn} {l : List Gau} {m : Int} (h : chkM c l = 0) (h2 : ¬ (1 ≤ m ∧ m ≤ c.n)) : (⟨0, 0, 1⟩ : LonA) = lonM c l m := by unfold lonM; rw [if_pos h, if_neg h2]
theorem lon_none {c : Chn} {l : List Gau} {m : Int} (h : chkM c l = 0) (h2 : 1 ≤ m ∧ m ≤ c.n) (h3 : agreeB c l = false) : (⟨0, 0, 3⟩ : LonA) = lonM c l m := by unfold lonM; rw [if_pos h, if_pos h2, if_neg (by rw [h3]; decide)]
theorem lon_ok {c : Chn} {l : List Gau} {m : Nat} (h : chkM c l = 0) (h2 : 1 ≤ (m : Int) ∧ (m : Int) ≤ c.n) (h3 : agreeB c l = true) : (⟨(lngTo (lonH c l m) (c.n.toNat - m + 1)).1, (lngTo (lonH c l m) (c.n.toNat - m + 1)).2, 0⟩ : LonA) = lonM c l m := by
  unfold lonM; rw [if_pos h, if_pos h2, if_pos h3]; rfl

set_option maxRecDepth 100000 in
set_option maxHeartbeats 4000000 in
theorem rLongest_any (c : Chn) (l : List Gau) (v : Value) (m : Int) (w : World) (hv : GaAt w v l) :
    Calls Try.prog 28 #[chnV c, v, .int .i64 m] w fun e w' => e = .returned (lonV (lonM c l m)) ∧ Below w.heap.size w w' := by
  have hb0 := (Below.refl w.heap.size w).alloc (Nat.le_refl _) (Obj.cells #[.int .i64 c.n, .int .i64 c.pi, .int .i64 c.li] 23)
  have k0 := block_new w (Obj.cells #[.int .i64 c.n, .int .i64 c.pi, .int .i64 c.li] 23) w.heap.size rfl
  have hsz : (w.alloc (Obj.cells #[.int .i64 c.n, .int .i64 c.pi, .int .i64 c.li] 23)).heap.size = w.heap.size + 1 := size_alloc _ _
  have K0 := Lib.hid k0
  have HB := Lib.hid hb0
  have HSZ := Lib.hid hsz
  clear k0 hb0 hsz
  have HV := Lib.hid (hv.below HB.out (Nat.le_refl _))
  obtain ⟨va, cap, rfl, hn, hcap, hc⟩ := hv
  clear hc
  by_cases hq : chkM c l = 0
  · have HQ := Lib.hid hq
    obtain ⟨hck1, hck2, hck3⟩ := chk_goks hq
    have n24 := hck1.n2
    have n1 := hck1.n1
    have HC1 := Lib.hid hck1
    have HC2 := Lib.hid hck2
    have hl : l.length ≤ 100 := by omega
    clear hck1 hck2 hck3 hq
    go_enter Try.func28, Try.ntmps28
    go_wp2_with fail
    generalize hwA : w.alloc (Obj.cells #[.int .i64 c.n, .int .i64 c.pi, .int .i64 c.li] 23) = wA at *
    clear hwA
    have hce := block_cell K0.out
    go_wp2_with fail
    refine (rcheck_any c l _ _ HV.out).mono ?_
    rintro e w1 ⟨rfl, hb1⟩
    rw [HQ.out]
    clear hce
    have hce := block_cell ((hb1.block _ (lt_of_block K0.out)).trans K0.out)
    have hz := Nat.lt_of_lt_of_le (lt_of_block K0.out) hb1.size
    have HB1 := Lib.hid hb1
    have HV1 := Lib.hid (HV.out.below hb1 (Nat.le_refl _))
    clear hb1
    cases hm : decide (1 ≤ m ∧ m ≤ c.n)
    · have HR := Lib.hid (lon_arg HQ.out (of_decide_eq_false hm))
      go_wp2_with (go_at_call 65; refine (rfrom_is false m 1 c.n _ hm).mono ?_; rintro e w' ⟨rfl, rfl⟩)
      refine bodyPost_ret (v := lonV ⟨0, 0, 1⟩) (by simp [results, Try.results28, go_sem]) rfl ⟨by rw [HR.out], HB.out.trans (HB1.out.mono HB.out.size)⟩
    · have hm2 := of_decide_eq_true hm
      obtain ⟨m, rfl⟩ : ∃ k : Nat, m = k := ⟨m.toNat, by omega⟩
      have HM2 := Lib.hid hm2
      have hm0 := hm2.1
      have hm1 := hm2.2
      clear hm2
      go_wp2_with (go_at_call 65; refine (rfrom_is true m 1 c.n _ hm).mono ?_; rintro e w' ⟨rfl, rfl⟩)
      refine (rbuildC_any c l _ _ HV1.out HC1.out HC2.out hl).mono ?_
      rintro e w2 ⟨hd, cp, G, C, M1, rfl, hb2, hN, hM⟩
      have HBW := Lib.hid (HB.out.trans ((HB1.out.trans (hb2.mono HB1.out.size)).mono HB.out.size))
      have kE := (hb2.block _ hz).trans ((HB1.out.block _ (lt_of_block K0.out)).trans K0.out)
      have KE := Lib.hid kE
      have HN := Lib.hid hN
      have HM := Lib.hid hM
      clear hb2 hN hM hce hz kE hm
      cases hag : agreeB c l
      · have HR := Lib.hid (lon_none HQ.out HM2.out hag)
        clear hag
        go_wp2
        refine bodyPost_ret (v := lonV ⟨0, 0, 3⟩) (by simp [results, Try.results28, go_sem]) rfl ⟨by rw [HR.out], HBW.out⟩
      · have HR := Lib.hid (lon_ok HQ.out HM2.out hag)
        have HH := Lib.hid (fun k (hk : k + m ≤ c.n.toNat) => show M1 k (k + m) = lonH c l m k from HM.out hag k (k + m) (by omega) hk)
        clear hag
        generalize lonH c l m = H at *
        go_wp2_with fail
        go_loopw [12, 13, 14] (fun a x i wr => ∃ k : Nat, k + m ≤ c.n.toNat + 1 ∧ i = .int .i64 k ∧ a = .int .i64 (lngTo H k).1 ∧ x = .int .i64 (lngTo H k).2 ∧ Hid (Below w2.heap.size w2 wr)) (fun _ _ i _ => c.n.toNat + 1 - (intOf i).toNat)
        case atStart => exact ⟨0, by omega, rfl, rfl, rfl, Below.refl _ _⟩
        case round =>
          obtain ⟨k, hk, rfl, rfl, rfl, hb⟩ := hrel
          have kc := (hb.out.block _ (lt_of_block KE.out)).trans KE.out
          have hce := block_cell kc
          have zc := lt_of_block kc
          clear kc
          by_cases hlt : k + m ≤ c.n.toNat
          · obtain ⟨p1, p2, p3⟩ := (HN.out.below hb.out).2.1 k (by omega)
            obtain ⟨p4, p5⟩ := (HN.out.below hb.out).2.2.2 k (k + m) (by omega) (by omega)
            have zh := (HN.out.below hb.out).1
            rw [HH.out k hlt] at p4
            have i1 : (0 : Int) ≤ k := by omega
            have i2 : (k : Int) < (c.n.toNat : Int) + 1 := by omega
            have i3 : (0 : Int) ≤ (k : Int) + m := by omega
            have i4 : (k : Int) + m < (c.n.toNat : Int) + 1 := by omega
            have i5 : ((k : Int) + m).toNat = k + m := by omega
            clear p3 p5
            by_cases hgt : (lngTo H k).2 < H k
            · have HL := Lib.hid (lng_more hgt)
              generalize lngTo H k = r at *
              generalize H k = h at *
              go_wp2_with fail
              go_roundw
              case rel => exact ⟨k + 1, by omega, by go_num, by rw [HL.out], by rw [HL.out], hb.out⟩
              case measure => simp [intOf]; omega
            · have HL := Lib.hid (lng_same hgt)
              generalize lngTo H k = r at *
              generalize H k = h at *
              go_wp2_with fail
              go_roundw
              case rel => exact ⟨k + 1, by omega, by go_num, by rw [HL.out], by rw [HL.out], hb.out⟩
              case measure => simp [intOf]; omega
          · obtain rfl : k = c.n.toNat - m + 1 := by omega
            have hlt' : ¬ (((c.n.toNat - m + 1 : Nat) : Int) + m ≤ c.n) := by omega
            generalize lngTo H (c.n.toNat - m + 1) = r at *
            go_wp2
            refine bodyPost_ret (v := lonV ⟨r.1, r.2, 0⟩) (by simp [results, Try.results28, go_sem]) rfl ⟨by rw [HR.out], HBW.out.trans (hb.out.mono HBW.out.size)⟩
  · have HR := Lib.hid (lon_bad (m := m) hq)
    go_enter Try.func28, Try.ntmps28
    go_wp2_with fail
    generalize hwA : w.alloc (Obj.cells #[.int .i64 c.n, .int .i64 c.pi, .int .i64 c.li] 23) = wA at *
    clear hwA
    have hce := block_cell K0.out
    go_wp2_with fail
    refine (rcheck_any c l _ _ HV.out).mono ?_
    rintro e w1 ⟨rfl, hb1⟩
    generalize chkM c l = q at *
    go_wp2
    refine bodyPost_ret (v := lonV ⟨0, 0, q⟩) (by simp [results, Try.results28, go_sem]) rfl ⟨by rw [HR.out], HB.out.trans (hb1.mono HB.out.size)⟩

end Go.Proofs.Ytkahhclmmlkpjaa
