/- Walks of layer 5 (lift): IsTrip of the specification. -/
import Derived.Test.YtnefbiaopconkaaJB
import Derived.Test.YtnefbiaopconkaaJq
namespace Go.Proofs.Ytnefbiaopconkaa
open Go.RowKit

def isTrG (spd acc : Int) (s : Int) : List Int → Bool
  | [] => inB 0 0 spd && !decide (acc < apaM 0 s)
  | v :: l => inB v 0 spd && !decide (acc < apaM v s) && isTrG spd acc v l

theorem apa_le {acc a b : Int} : acc < apaM a b ↔ (acc < a - b ∨ acc < b - a) := by
  unfold apaM
  constructor <;> intro h <;> omega

theorem isTr_iff {spd acc : Int} (hp : 1 ≤ spd) : ∀ (l : List Int) (s : Int), 0 ≤ s → (isTrG spd acc s l = true ↔ IsTr spd acc s l)
  | [], s, h0 => by
    simp only [isTrG, IsTr, Bool.and_eq_true, inB_iff, Bool.not_eq_true', decide_eq_false_iff_not, apa_le]
    constructor <;> intro h <;> omega
  | v :: l, s, h0 => by
    simp only [isTrG, IsTr, Bool.and_eq_true, inB_iff, Bool.not_eq_true', decide_eq_false_iff_not, apa_le]
    refine ⟨fun h => ?_, fun h => ?_⟩
    · exact ⟨h.1.1.1, h.1.1.2, by omega, by omega, (isTr_iff hp l v h.1.1.1).1 h.2⟩
    · exact ⟨⟨⟨h.1, h.2.1⟩, by omega⟩, (isTr_iff hp l v h.1).2 h.2.2.2.2⟩

theorem drop_cons {l : List Int} {k : Nat} (hk : k < l.length) : l.drop k = l.getD k 0 :: l.drop (k + 1) := by
  rw [List.drop_eq_getElem_cons hk, List.getD_eq_getElem?_getD, List.getElem?_eq_getElem hk]
  rfl

theorem apa_bd {a b : Int} (h1 : 0 ≤ a) (h2 : a ≤ 100) (h3 : 0 ≤ b) (h4 : b ≤ 100) : 0 ≤ apaM a b ∧ apaM a b ≤ 100 := by unfold apaM; omega

set_option maxRecDepth 100000 in
set_option maxHeartbeats 4000000 in
theorem rIsTrip_any (L : Lif) (fv v : Value) (l : List Int) (w : World) (hl : InAt w v l) (hL : LOk L) (hlen : l.length ≤ 1000000) :
    Calls Try.prog 45 #[lifV L fv, v] w fun e w' => e = .returned (.bool (isTrG L.spd L.acc 0 l)) ∧ Below w.heap.size w w' := by
  have HB := Lib.hid ((Below.refl w.heap.size w).alloc (Nat.le_refl _) (lifO L fv))
  have K0 := Lib.hid (block_new w (lifO L fv) w.heap.size rfl)
  have HSZ := Lib.hid (size_alloc w (lifO L fv))
  have s1 := hL.s1
  have s2 := hL.s2
  have a1 := hL.a1
  have a2 := hL.a2
  obtain ⟨a, cap, rfl, hn, hcap, hc⟩ := hl
  have HC := Lib.hid hc
  clear hc hL
  go_enter Try.func45, Try.ntmps45
  go_wp2_with fail
  generalize w.alloc (lifO L fv) = wA at *
  have c0 := block_cell K0.out
  go_wp2_with fail
  clear c0
  go_loopw [5, 6] (fun x i wr => ∃ (k : Nat) (s : Int), i = .int .i64 k ∧ x = .int .i64 s ∧ k ≤ l.length + 1 ∧ Hid (k ≤ l.length → isTrG L.spd L.acc 0 l = isTrG L.spd L.acc s (l.drop k)) ∧ Hid (k = l.length + 1 → isTrG L.spd L.acc 0 l = true) ∧ 0 ≤ s ∧ s ≤ 100 ∧ Hid (Below wA.heap.size wA wr)) (fun _ i _ => l.length + 1 - (intOf i).toNat)
  case atStart => exact ⟨0, 0, rfl, rfl, by omega, Lib.hid (fun _ => rfl), Lib.hid (fun h => by omega), by omega, by omega, Lib.hid (Below.refl _ _)⟩
  case round =>
    obtain ⟨k, s, rfl, rfl, hk, hG, hD, h0, h1, hb⟩ := hrel
    by_cases hle : k ≤ l.length
    · have y0 := bw_cells (B := wr.heap.size) (keepZ K0.out hb.out) (lt_of_block (keepZ K0.out hb.out))
      have HBK := Lib.hid (HB.out.trans (hb.out.mono HB.out.size))
      have j0 : (0 : Int) ≤ k := by omega
      by_cases hlt : k < l.length
      · obtain ⟨b, off, rfl, hbl, hc⟩ := HC.out (by omega)
        have g1 := in_at HBK.out hbl hc hlt
        have HDC := Lib.hid (drop_cons hlt)
        have j1 : (k : Int) < l.length := by omega
        have HGK := Lib.hid (hG.out hle)
        rw [HDC.out] at HGK
        generalize l.getD k 0 = x at *
        clear hc
        cases hq : inB x 0 L.spd
        · have HQ := Lib.hid hq
          have HR := Lib.hid (show isTrG L.spd L.acc 0 l = false by rw [HGK.out]; simp only [isTrG, hq, Bool.false_and])
          clear hq
          go_wp2_with fail
          refine wp_region_below (by kernel_rfl) (by kernel_rfl) (Below.refl wr.heap.size wr) ?_
          repeat ((with_reducible refine wpQuiet_step (fun K hK => ?_)); go_simp; first | (refine hK _ ?_; clear hK K) | (apply Exists.intro; refine ⟨fun _ => ?_, hK _ ?_⟩; ((go_at_call 55; exact bw_same (rwithin_is false _ _ _ _ HQ.out))); clear hK K))
          refine wpQuiet_nil ?_
          intro wq hwq0
          have hwq := bw_out hwq0
          clear hwq0
          go_wp2
          go_ret
          exact ⟨ret_bool HR.out.symm, HBK.out.trans (hwq.mono HBK.out.size)⟩
        · have HQ := Lib.hid hq
          obtain ⟨x0, x1⟩ := inB_iff.1 hq
          obtain ⟨p0, p1⟩ := apa_bd x0 (show x ≤ 100 by omega) h0 h1
          have HAP := Lib.hid (fun w1 => rapart_any x s w1 (by omega) (by omega) (by omega) (by omega))
          by_cases hap : L.acc < apaM x s
          · have hd := decide_eq_true hap
            have HR := Lib.hid (show isTrG L.spd L.acc 0 l = false by rw [HGK.out]; simp only [isTrG, hd, Bool.not_true, Bool.and_false, Bool.false_and])
            clear hq
            go_wp2_with fail
            refine wp_region_below (by kernel_rfl) (by kernel_rfl) (Below.refl wr.heap.size wr) ?_
            repeat ((with_reducible refine wpQuiet_step (fun K hK => ?_)); go_simp; first | (refine hK _ ?_; clear hK K) | (apply Exists.intro; refine ⟨fun _ => ?_, hK _ ?_⟩; (first | (go_at_call 55; exact bw_same (rwithin_is true _ _ _ _ HQ.out)) | (go_at_call 79; exact bw_same (HAP.out _))); clear hK K))
            refine wpQuiet_nil ?_
            intro wq hwq0
            have hwq := bw_out hwq0
            clear hwq0
            go_wp2
            go_ret
            exact ⟨ret_bool HR.out.symm, HBK.out.trans (hwq.mono HBK.out.size)⟩
          · have hd := decide_eq_false hap
            have HR := Lib.hid (show isTrG L.spd L.acc 0 l = isTrG L.spd L.acc x (l.drop (k + 1)) by rw [HGK.out]; simp only [isTrG, hq, hd, Bool.not_false, Bool.true_and])
            clear hq
            go_wp2_with fail
            refine wp_region_below (by kernel_rfl) (by kernel_rfl) (Below.refl wr.heap.size wr) ?_
            repeat ((with_reducible refine wpQuiet_step (fun K hK => ?_)); go_simp; first | (refine hK _ ?_; clear hK K) | (apply Exists.intro; refine ⟨fun _ => ?_, hK _ ?_⟩; (first | (go_at_call 55; exact bw_same (rwithin_is true _ _ _ _ HQ.out)) | (go_at_call 79; exact bw_same (HAP.out _))); clear hK K))
            refine wpQuiet_nil ?_
            intro wq hwq0
            have hwq := bw_out hwq0
            clear hwq0
            go_wp2
            go_roundw
            case rel => exact ⟨k + 1, x, by go_num, rfl, by omega, Lib.hid (fun _ => HR.out), Lib.hid (fun h => by omega), x0, by omega, Lib.hid (hb.out.trans (hwq.mono hb.out.size))⟩
            case measure => simp [intOf]; omega
      · have hkl : k = l.length := by omega
        have HGK := Lib.hid (hG.out hle)
        rw [hkl, List.drop_length] at HGK
        have HQ : Hid (inB 0 0 L.spd = true) := Lib.hid (inB_iff.2 ⟨Int.le_refl _, by omega⟩)
        obtain ⟨p0, p1⟩ := apa_bd (Int.le_refl 0) (show (0 : Int) ≤ 100 by omega) h0 h1
        have HAP := Lib.hid (fun w1 => rapart_any 0 s w1 (by omega) (by omega) (by omega) (by omega))
        have hnl : ¬ (k : Int) < l.length := by omega
        by_cases hap : L.acc < apaM 0 s
        · have hd := decide_eq_true hap
          have HR := Lib.hid (show isTrG L.spd L.acc 0 l = false by rw [HGK.out]; simp only [isTrG, hd, Bool.not_true, Bool.and_false])
          clear hkl
          go_wp2_with fail
          refine wp_region_below (by kernel_rfl) (by kernel_rfl) (Below.refl wr.heap.size wr) ?_
          repeat ((with_reducible refine wpQuiet_step (fun K hK => ?_)); go_simp; first | (refine hK _ ?_; clear hK K) | (apply Exists.intro; refine ⟨fun _ => ?_, hK _ ?_⟩; (first | (go_at_call 55; exact bw_same (rwithin_is true _ _ _ _ HQ.out)) | (go_at_call 79; exact bw_same (HAP.out _))); clear hK K))
          refine wpQuiet_nil ?_
          intro wq hwq0
          have hwq := bw_out hwq0
          clear hwq0
          go_wp2
          go_ret
          exact ⟨ret_bool HR.out.symm, HBK.out.trans (hwq.mono HBK.out.size)⟩
        · have hd := decide_eq_false hap
          have HR := Lib.hid (show isTrG L.spd L.acc 0 l = true by rw [HGK.out]; simp only [isTrG, HQ.out, hd, Bool.not_false, Bool.and_self])
          have HKL := Lib.hid hkl
          clear hkl
          go_wp2_with fail
          refine wp_region_below (by kernel_rfl) (by kernel_rfl) (Below.refl wr.heap.size wr) ?_
          repeat ((with_reducible refine wpQuiet_step (fun K hK => ?_)); go_simp; first | (refine hK _ ?_; clear hK K) | (apply Exists.intro; refine ⟨fun _ => ?_, hK _ ?_⟩; (first | (go_at_call 55; exact bw_same (rwithin_is true _ _ _ _ HQ.out)) | (go_at_call 79; exact bw_same (HAP.out _))); clear hK K))
          refine wpQuiet_nil ?_
          intro wq hwq0
          have hwq := bw_out hwq0
          clear hwq0
          go_wp2
          go_roundw
          case rel => exact ⟨k + 1, 0, by go_num, rfl, by omega, Lib.hid (fun h => by have := HKL.out; omega), Lib.hid (fun _ => HR.out), by omega, by omega, Lib.hid (hb.out.trans (hwq.mono hb.out.size))⟩
          case measure => simp [intOf]; omega
    · have HR := Lib.hid (hD.out (by omega))
      go_wp2_with fail
      go_ret
      exact ⟨ret_bool HR.out.symm, HB.out.trans (hb.out.mono HB.out.size)⟩

end Go.Proofs.Ytnefbiaopconkaa
