/- Walks of layer 3 (circuit): weak, Weak, Critical of the specification. -/
import Derived.Test.YtbkhfmigaehgaaaMe
namespace Go.Proofs.Ytbkhfmigaehgaaa
open Go.RowKit

theorem weakTo_no {c : Cir} {cl k : Nat} (h : passM c (2 ^ k) cl = false) : (List.range (k + 1)).filter (fun h => passM c (2 ^ h) cl) = (List.range k).filter (fun h => passM c (2 ^ h) cl) := filter_no (p := fun h => passM c (2 ^ h) cl) h
theorem weakTo_yes {c : Cir} {cl k : Nat} (h : passM c (2 ^ k) cl = true) : (List.range (k + 1)).filter (fun h => passM c (2 ^ h) cl) = (List.range k).filter (fun h => passM c (2 ^ h) cl) ++ [k] := filter_yes (p := fun h => passM c (2 ^ h) cl) h

/-- One number more in a list of new memory. -/
theorem own_snoc {w : World} {base : Nat} {v : Value} {L : List Nat} {k : Nat} (h : w.ownsRow base 3 1 v (L.length + 1) ((natL L).map (Value.int .i64) ++ [.int .i64 k])) : w.ownsRow base 3 1 v (L ++ [k]).length ((natL (L ++ [k])).map (Value.int .i64)) := by
  have e1 : (L ++ [k]).length = L.length + 1 := by simp
  have e2 : (natL (L ++ [k])).map (Value.int .i64) = (natL L).map (Value.int .i64) ++ [.int .i64 k] := by simp [natL]
  rw [e1, e2]; exact h

set_option maxRecDepth 100000 in
set_option maxHeartbeats 4000000 in
theorem rweak_any (c : Cir) (sv wv : Value) (cl : Nat) (w : World) (hv : CirAt w sv wv c) (hc : CVal c) (h2 : cl < 1048576) :
    Calls Try.prog 82 #[cirV c sv wv, .int .i64 cl] w (ListRes (natL (weakM c cl)) w) := by
  have HB := Lib.hid ((Below.refl w.heap.size w).alloc (Nat.le_refl _) (cirO c sv wv))
  have K0 := Lib.hid (block_new w (cirO c sv wv) w.heap.size rfl)
  have HV := Lib.hid (hv.below HB.out (Nat.le_refl _))
  have HC := Lib.hid hc
  obtain ⟨n, hn⟩ : ∃ n : Nat, c.hz = n := ⟨c.hz.toNat, by have := hc.h1; omega⟩
  have n8 : n ≤ 8 := by have := hc.h2; omega
  have ww1 := hc.w1
  have ww2 := hc.w2
  have HFIN := Lib.hid (show weakM c cl = (List.range n).filter (fun h => passM c (2 ^ h) cl) by unfold weakM; rw [show c.hz.toNat = n by omega])
  have HZ := Lib.hid hn
  obtain ⟨i0, hi0, hz0, hz1, hz2⟩ := info_parts infoInt
  clear hv hc hn
  go_enter Try.func82, Try.ntmps82
  go_wp2_with fail
  generalize w.alloc (cirO c sv wv) = wA at *
  go_loopw [5, 6] (fun v x wr => ∃ k : Nat, k ≤ n ∧ x = .int .i64 k ∧ Hid (Below wA.heap.size wA wr) ∧ Hid (wr.ownsRow wA.heap.size 3 1 v ((List.range k).filter (fun h => passM c (2 ^ h) cl)).length ((natL ((List.range k).filter (fun h => passM c (2 ^ h) cl))).map (Value.int .i64)))) (fun _ x _ => n - (intOf x).toNat)
  case atStart => exact ⟨0, Nat.zero_le _, rfl, Lib.hid (Below.refl _ _), Lib.hid ⟨by simp [natL], Or.inl ⟨rfl, by simp⟩⟩⟩
  case round =>
    obtain ⟨k, hk, rfl, hb, ho⟩ := hrel
    have c0 := block_cell (keepZ K0.out hb.out)
    rw [HZ.out] at c0
    obtain ⟨a, ac, rfl, hown⟩ := ownsRow_shape ho.out
    have HOWN := Lib.hid hown
    clear hown
    by_cases hlt : k < n
    · have hpw := wrap64_pow (k := k) (by omega)
      have k0 : (0 : Int) ≤ k := by omega
      obtain ⟨A, hA⟩ : ∃ A, 2 ^ k = A := ⟨_, rfl⟩
      have hA20 : A < 1048576 := by rw [← hA]; exact pow_set (by omega)
      have HOK := Lib.hid (sta_ok hA20 h2)
      have HNO := Lib.hid (weakTo_no (c := c) (cl := cl) (k := k))
      have HYES := Lib.hid (weakTo_yes (c := c) (cl := cl) (k := k))
      have HPM := Lib.hid (show passM c A cl = cond c ⟨A, cl, 0⟩ 24 0 from rfl)
      rw [hA] at hpw HNO HYES
      have hle := filter_len (fun h => passM c (2 ^ h) cl) k
      generalize hL : (List.range k).filter (fun h => passM c (2 ^ h) cl) = L at *
      have HL := Lib.hid hL
      clear hL hA
      go_wp2_with fail
      rw [← HZ.out]
      refine (rconducts_any c ⟨A, cl, 0⟩ sv wv HC.out HOK.out 24 0 _ (by omega) (by omega) (HV.out.below hb.out (Nat.le_refl _))).mono ?_
      rintro e w1 ⟨rfl, hb1⟩
      have HB1 := Lib.hid (hb.out.trans (hb1.mono hb.out.size))
      have HO1 := Lib.hid (ownsRow_below ho.out hb1)
      have hsz := HB1.out.size
      clear hb1 c0
      have c0 := block_cell (keepZ K0.out HB1.out)
      rw [HZ.out] at *
      cases hq : cond c ⟨A, cl, 0⟩ 24 0
      · have HN := Lib.hid (HNO.out (HPM.out.trans hq))
        clear hq
        go_wp2_with fail
        go_roundw
        case rel => exact ⟨k + 1, hlt, by go_num, HB1, by rw [HN.out]; exact HO1⟩
        case measure => simp [intOf]; omega
      · have HN := Lib.hid (HYES.out (HPM.out.trans hq))
        clear hq
        go_wp2_with (at_builtin; refine wpList_append_own _ rfl (.tmp 19) (.tmp 21) 22 rfl wA.heap.size 3 i0 (.int .i64 0) 1 8 Try.underlying22 hi0 hz0 hz1 hz2 rfl (by decide) _ L.length ((natL L).map (Value.int .i64)) rfl ?c0 _ _ _ [.int .i64 k] rfl rfl ?c1 ?c2 ?c3 ?c4 ?c5 ?_)
        case c0 => exact World.ownsRow.alloc HO1.out _
        case c1 => exact one_cell _ _ _ rfl
        case c2 => intro u hu; simp only [List.mem_cons, List.not_mem_nil, or_false] at hu; subst hu; rfl
        case c3 => unfold maxLen; omega
        case c4 => omega
        case c5 => exact Nat.le_trans hsz (al_le _ _)
        intro v2 w4 hown2 hgrow _
        have hbX := below_grown hgrow HOWN.out (Nat.le_trans hsz (al_le _ _))
        have HBX := Lib.hid (HB1.out.trans (((Below.refl _ _).alloc hsz _).trans hbX))
        have HO4 := Lib.hid (own_snoc hown2)
        obtain ⟨r2, rc2, rfl, _⟩ := ownsRow_shape hown2
        clear hown2 hgrow hbX c0
        go_wp2
        go_roundw
        case rel => exact ⟨k + 1, hlt, by go_num, HBX, by rw [HN.out]; exact HO4⟩
        case measure => simp [intOf]; omega
    · obtain rfl : n = k := by omega
      have HI := Lib.hid (InAt.of_own ho.out)
      go_wp2_with fail
      go_ret
      exact ⟨_, rfl, by rw [HFIN.out]; exact HI.out, HB.out.trans (hb.out.mono HB.out.size)⟩

end Go.Proofs.Ytbkhfmigaehgaaa
