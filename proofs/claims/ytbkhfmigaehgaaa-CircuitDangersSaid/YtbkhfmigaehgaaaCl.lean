/- Walks of layer 3 (circuit): shown, shownByEach, union of the program. -/
import Derived.Test.YtbkhfmigaehgaaaCk
namespace Go.Proofs.Ytbkhfmigaehgaaa
open Go.RowKit

/-! ### ints of a slice that was made -/
def IntRow (w : World) (g : Nat) (xs : List Int) : Prop := ∃ cur, w.heap[g]? = some (.cells cur 3 (0, 0)) ∧ cur.toList.take xs.length = xs.map (Value.int .i64)

theorem IntRow.lt {w : World} {g : Nat} {xs : List Int} (h : IntRow w g xs) : g < w.heap.size := by
  obtain ⟨cur, h1, _⟩ := h
  exact lt_of_block h1

theorem IntRow.cell {w : World} {g : Nat} {xs : List Int} (h : IntRow w g xs) {i : Nat} (hi : i < xs.length) : w.cell? ⟨g, i, none⟩ = some (.int .i64 (xs.getD i 0)) := by
  obtain ⟨cur, h1, h2⟩ := h
  rw [block_cell h1, ← Array.getElem?_toList]
  have h3 : (cur.toList.take xs.length)[i]? = (xs.map (Value.int .i64))[i]? := by rw [h2]
  rw [List.getElem?_take_of_lt hi, List.getElem?_map, List.getElem?_eq_getElem hi] at h3
  rw [h3, List.getD_eq_getElem?_getD, List.getElem?_eq_getElem hi]; rfl

theorem IntRow.free {w : World} {g : Nat} {xs : List Int} (h : IntRow w g xs) (o : Nat) : w.frozen? ⟨g, o, none⟩ = false := by
  obtain ⟨cur, h1, _⟩ := h
  exact block_free h1 o

theorem IntRow.later {w w' : World} {g B : Nat} {xs : List Int} (h : IntRow w g xs) (hb : Below B w w') (hg : g < B) : IntRow w' g xs := by
  obtain ⟨cur, h1, h2⟩ := h
  exact ⟨cur, (hb.block g hg).trans h1, h2⟩

theorem IntRow.alloc {w : World} {g : Nat} {xs : List Int} (h : IntRow w g xs) (o : Obj) : IntRow (w.alloc o) g xs := by
  obtain ⟨cur, h1, h2⟩ := h
  exact ⟨cur, block_alloc h1 o, h2⟩

theorem IntRow.set {w : World} {g : Nat} {xs : List Int} (h : IntRow w g xs) {i : Nat} (_hi : i < xs.length) (v : Int) : IntRow (w.setCell ⟨g, i, none⟩ (.int .i64 v)) g (xs.set i v) := by
  obtain ⟨cur, h1, h2⟩ := h
  refine ⟨cur.setIfInBounds i (.int .i64 v), block_set h1 i _, ?_⟩
  rw [List.length_set, Array.toList_setIfInBounds, List.take_set, h2, List.map_set]

theorem IntRow.inAt {w : World} {g cap : Nat} {xs : List Int} (h : IntRow w g xs) (h1 : xs.length ≤ cap) (h2 : cap ≤ 9223372036854775807) : InAt w (.slice (some ⟨g, 0, none⟩) xs.length cap) xs :=
  ⟨_, cap, rfl, h1, h2, fun _ => ⟨g, 0, rfl, h.lt, fun i hi => by rw [Nat.zero_add]; exact h.cell hi⟩⟩

theorem made1 (n : Nat) : (madeCells #[Value.int .i64 0] n).toList = (List.replicate n (0 : Int)).map (Value.int .i64) := by
  apply List.ext_getElem
  · simp [madeCells]
  · intro j h1 h2
    simp only [madeCells, Array.toList_map, List.getElem_map, List.getElem_replicate]
    have : j % 1 = 0 := Nat.mod_one j
    simp [this]

theorem IntRow.of_own {w : World} {base g cap : Nat} {xs : List Int} {n : Nat} (h : w.ownsRow base 3 1 (.slice (some ⟨g, 0, none⟩) n cap) n (xs.map (Value.int .i64))) : IntRow w g xs ∧ xs.length = n := by
  obtain ⟨h0, h1 | ⟨g', cap', cur, h1, h2, h3, h4, h5, h6, h7⟩⟩ := h
  · obtain ⟨h1, _⟩ := h1; cases h1
  · injection h1 with e1 e2 e3
    injection e1 with e1
    injection e1 with e1
    subst e1; subst e3
    have hl : xs.length = n := by simpa using h0
    refine ⟨⟨cur, h3, ?_⟩, hl⟩
    rw [hl, ← Nat.mul_one n]; exact h7

/-- The sets while they are made: of the first k trials, zeros behind. -/
def setsW (c : Cir) (l : List Tri) (k : Nat) : List Int := natL ((l.take k).map (shownM c)) ++ List.replicate (l.length - k) 0

theorem setsW_len (c : Cir) (l : List Tri) {k : Nat} (h : k ≤ l.length) : (setsW c l k).length = l.length := by
  unfold setsW natL; simp; omega
theorem setsW_zero (c : Cir) (l : List Tri) : setsW c l 0 = List.replicate l.length 0 := by simp [setsW, natL]
theorem setsW_all (c : Cir) (l : List Tri) : setsW c l l.length = natL (setsM c l) := by simp [setsW, setsM]
theorem setsW_set (c : Cir) (l : List Tri) {k : Nat} (h : k < l.length) : (setsW c l k).set k (shownM c (l.getD k Tri.zero) : Int) = setsW c l (k + 1) := by
  unfold setsW
  obtain ⟨d, hd⟩ : ∃ d, l.length - k = d + 1 := ⟨l.length - k - 1, by omega⟩
  have hd2 : l.length - (k + 1) = d := by omega
  have hn : (natL ((l.take k).map (shownM c))).length = k := by unfold natL; simp; omega
  rw [hd, hd2, List.set_append_right _ _ (by omega), hn, Nat.sub_self, List.replicate_succ, List.set_cons_zero, List.take_succ_eq_append_getElem h, List.getD_eq_getElem?_getD, List.getElem?_eq_getElem h]
  unfold natL
  rw [List.map_append, List.map_append, List.append_assoc]
  rfl

theorem shown_lt (c : Cir) (t : Tri) (hc : CVal c) : shownM c t < 4096 := by
  have h1 := bitsOf_lt (fun k => toldB c t (2 ^ k)) c.sw.length
  have h2 := Nat.pow_le_pow_right (show 0 < 2 by omega) hc.s2
  unfold shownM
  omega

theorem bitsOf_no {p : Nat → Bool} {k : Nat} (h : p k = false) : bitsOf p (k + 1) = bitsOf p k := by
  rw [show bitsOf p (k + 1) = if p k = true then bitsOf p k ||| 2 ^ k else bitsOf p k from rfl, if_neg (by simp [h])]
theorem bitsOf_yes {p : Nat → Bool} {k : Nat} (h : p k = true) : bitsOf p (k + 1) = bitsOf p k ||| 2 ^ k := by
  rw [show bitsOf p (k + 1) = if p k = true then bitsOf p k ||| 2 ^ k else bitsOf p k from rfl, if_pos h]

set_option maxRecDepth 100000 in
set_option maxHeartbeats 4000000 in
theorem shown_any (c : Cir) (t : Tri) (sv wv : Value) (w : World) (hv : CirAt w sv wv c) (hc : CVal c) (ht : triB c t = true) :
    Calls Try.prog 92 #[cirV c sv wv, triV t] w fun e w' => e = .returned (.int .i64 (shownM c t : Nat)) ∧ Below w.heap.size w w' := by
  have HB := Lib.hid (blw2 w (cirO c sv wv) (triO t))
  have K0 := Lib.hid (two_od w (cirO c sv wv) (triO t))
  have K1 := Lib.hid (two_nw w (cirO c sv wv) (triO t))
  have HV := Lib.hid (hv.below HB.out (Nat.le_refl _))
  have HC := Lib.hid hc
  have HT := Lib.hid ht
  have s2 := hc.s2
  have HP := Lib.hid (fun k (hk : k ≤ c.sw.length) => show bitsOf (fun k => toldB c t (2 ^ k)) k < 1048576 from Nat.lt_of_lt_of_le (bitsOf_lt _ k) (Nat.le_of_lt (pow_set (by omega))))
  have HFIN := Lib.hid (show shownM c t = bitsOf (fun k => toldB c t (2 ^ k)) c.sw.length from rfl)
  have HNO := Lib.hid (fun k h => bitsOf_no (p := fun k => toldB c t (2 ^ k)) (k := k) h)
  have HYES := Lib.hid (fun k h => bitsOf_yes (p := fun k => toldB c t (2 ^ k)) (k := k) h)
  obtain ⟨⟨sa, scap, rfl, _⟩, _⟩ := hv
  clear hc ht
  go_enter Try.func92, Try.ntmps92
  go_wp2_with fail
  generalize (w.alloc (cirO c (.slice sa c.sw.length scap) wv)).alloc (triO t) = wA at *
  go_loopw [5, 10] (fun x i wr => ∃ k : Nat, k ≤ c.sw.length ∧ i = .int .i64 k ∧ x = .int .i64 (bitsOf (fun k => toldB c t (2 ^ k)) k : Nat) ∧ Hid (Below wA.heap.size wA wr)) (fun _ i _ => c.sw.length - (intOf i).toNat)
  case atStart => exact ⟨0, Nat.zero_le _, rfl, rfl, Lib.hid (Below.refl _ _)⟩
  case round =>
    obtain ⟨k, hk, rfl, rfl, hb⟩ := hrel
    by_cases hlt : k < c.sw.length
    · have hp := HP.out k hk
      obtain ⟨A, hA⟩ : ∃ A, 2 ^ k = A := ⟨_, rfl⟩
      have a20 : A < 1048576 := by rw [← hA]; exact pow_set (by omega)
      have HA := Lib.hid hA
      have b1 := bw_cells (B := wr.heap.size) (keepZ K0.out hb.out) (lt_of_block (keepZ K0.out hb.out))
      have b2 := bw_cells (B := wr.heap.size) (keepZ K1.out hb.out) (lt_of_block (keepZ K1.out hb.out))
      have HV2 := Lib.hid (HV.out.below hb.out (Nat.le_refl _))
      cases hq : toldB c t (2 ^ k)
      · have HQ := Lib.hid hq
        have HN := Lib.hid (HNO.out k hq)
        rw [hA] at HQ
        generalize bitsOf (fun k => toldB c t (2 ^ k)) k = x at *
        clear hA hq
        go_wp2_with fail
        refine wp_region_below (by kernel_rfl) (by kernel_rfl) (Below.refl wr.heap.size wr) ?_
        repeat ((with_reducible refine wpQuiet_step (fun K hK => ?_)); go_simp; first | (refine hK _ ?_; clear hK K) | (apply Exists.intro; refine ⟨fun _ => ?_, hK _ ?_⟩; (first | (go_at_call 86; with_reducible exact bw_same (calone_is A k _ (by omega) HA.out)) | (go_at_call 148; with_reducible exact bw_call (Nat.le_refl _) (shows_is false c t _ wv A _ (HV2.out.below (BW.b _) (Nat.le_refl _)) HC.out HT.out a20 HQ.out))); clear hK K))
        refine wpQuiet_nil ?_
        intro wq hwq0
        have hwq := bw_out hwq0
        clear hwq0
        clear b1 b2
        have HB2 := Lib.hid (hb.out.trans (hwq.mono hb.out.size))
        clear hwq
        go_wp2_with fail
        go_roundw
        case rel => exact ⟨k + 1, hlt, by go_num, by rw [HN.out], HB2⟩
        case measure => simp [intOf]; omega
      · have HQ := Lib.hid hq
        have HN := Lib.hid (HYES.out k hq)
        have hor := i64_or_nat (bitsOf (fun k => toldB c t (2 ^ k)) k) A (by omega) (by omega)
        rw [hA] at HQ HN
        generalize bitsOf (fun k => toldB c t (2 ^ k)) k = x at *
        clear hA hq
        go_wp2_with fail
        refine wp_region_below (by kernel_rfl) (by kernel_rfl) (Below.refl wr.heap.size wr) ?_
        repeat ((with_reducible refine wpQuiet_step (fun K hK => ?_)); go_simp; first | (refine hK _ ?_; clear hK K) | (apply Exists.intro; refine ⟨fun _ => ?_, hK _ ?_⟩; (first | (go_at_call 86; with_reducible exact bw_same (calone_is A k _ (by omega) HA.out)) | (go_at_call 148; with_reducible exact bw_call (Nat.le_refl _) (shows_is true c t _ wv A _ (HV2.out.below (BW.b _) (Nat.le_refl _)) HC.out HT.out a20 HQ.out))); clear hK K))
        refine wpQuiet_nil ?_
        intro wq hwq0
        have hwq := bw_out hwq0
        clear hwq0
        clear b1 b2
        have HB2 := Lib.hid (hb.out.trans (hwq.mono hb.out.size))
        clear hwq
        go_wp2_with (go_at_call 86; refine (calone_is A k _ (by omega) HA.out).mono ?_; rintro e w3 ⟨rfl, rfl⟩)
        go_roundw
        case rel => exact ⟨k + 1, hlt, by go_num, by rw [HN.out], HB2⟩
        case measure => simp [intOf]; omega
    · obtain rfl : k = c.sw.length := by omega
      go_wp2_with fail
      go_ret
      exact ⟨ret_int (by rw [HFIN.out]), HB.out.trans (hb.out.mono HB.out.size)⟩

set_option maxRecDepth 100000 in
set_option maxHeartbeats 4000000 in
theorem shownEach_any (c : Cir) (l : List Tri) (sv wv v : Value) (w : World) (hv : CirAt w sv wv c) (hl : TrAt w v l) (ht : TVal c l) :
    Calls Try.prog 96 #[cirV c sv wv, v] w (ListRes (natL (setsM c l)) w) := by
  have hb0 := (Below.refl w.heap.size w).alloc (Nat.le_refl _) (cirO c sv wv)
  have HB := Lib.hid hb0
  have K0 := Lib.hid (block_new w (cirO c sv wv) w.heap.size rfl)
  have HV0 := Lib.hid hv
  have HC := Lib.hid ht.cv
  have HT := Lib.hid ht.t
  have l12 := ht.n
  have HL := Lib.hid hl
  obtain ⟨ta, tcap, rfl, m1, m2, hcc⟩ := hl
  have HCC := Lib.hid hcc
  have hsz : (w.alloc (cirO c sv wv)).heap.size = w.heap.size + 1 := size_alloc _ _
  have HSZ := Lib.hid hsz
  clear hv ht hcc hb0 hsz
  obtain ⟨i0, hi, hz0, hz1, hz2⟩ := info_parts infoInt
  go_enter Try.func96, Try.ntmps96
  go_wp2_with (refine wpList_make_full _ rfl (.tmp 8) (.tmp 8) 22 rfl (w.heap.size + 1) 3 i0 (.int .i64 0) 1 Try.underlying22 hi hz0 hz1 .i64 .i64 _ _ l.length rfl rfl (by omega) (by omega) ?m1 ?m2 (by rw [HSZ.out]; exact Nat.le_refl _) ?_)
  case m1 => rw [hz2]; omega
  case m2 => unfold maxLen; omega
  intro w3 hown hgrow
  have hb3 : Below (w.alloc (cirO c sv wv)).heap.size (w.alloc (cirO c sv wv)) w3 := (Below.refl _ _).grown hgrow (Nat.le_refl _) (fun k h => by cases h)
  have hrow := (IntRow.of_own (xs := List.replicate l.length 0) (by rw [← made1]; exact hown)).1
  rw [← setsW_zero c l] at hrow
  have R0 := Lib.hid hrow
  have K3 := Lib.hid (keepZ K0.out hb3)
  have HB3 := Lib.hid (HB.out.trans (hb3.mono HB.out.size))
  have z3 : w.heap.size + 1 < w3.heap.size := hrow.lt
  clear hown hgrow hb3 hrow hi hz0 hz1 hz2
  go_wp2_with fail
  go_loopw [12] (fun i wr => ∃ k : Nat, k ≤ l.length ∧ i = .int .i64 k ∧ Hid (Below w.heap.size w wr) ∧ Hid (wr.heap[w.heap.size]? = some (cirO c sv wv)) ∧ Hid (IntRow wr (w.heap.size + 1) (setsW c l k))) (fun i _ => l.length - (intOf i).toNat)
  case atStart => exact ⟨0, Nat.zero_le _, rfl, HB3, K3, R0⟩
  case round =>
    obtain ⟨k, hk, rfl, hb, hK, hR⟩ := hrel
    by_cases hlt : k < l.length
    · obtain ⟨tb, toff, rfl, hbl, hcc⟩ := HCC.out (by omega)
      obtain ⟨g1, g2⟩ := tr_at hb.out hbl hcc hlt
      have HTK := Lib.hid (HT.out _ (getD_mem hlt Tri.zero))
      have HSET := Lib.hid (setsW_set c l hlt)
      have hlen := setsW_len c l hk
      have hsh := shown_lt c (l.getD k Tri.zero) HC.out
      have hbl2 := Nat.lt_of_lt_of_le hbl hb.out.size
      have b1 := bw_cells (B := wr.heap.size) hK.out (lt_of_block hK.out)
      have b2 := bw_cell (B := wr.heap.size) g1 hbl2
      have b3 := bw_cell (B := wr.heap.size) g2 hbl2
      have zr := hR.out.lt
      have HV2 := Lib.hid (HL.out.below hb.out (Nat.le_refl _))
      have HVC := Lib.hid (HV0.out.below hb.out (Nat.le_refl _))
      have k1 : (0 : Int) ≤ k := by omega
      have k2 : (k : Int) < l.length := by omega
      have HLEN := Lib.hid hlen
      clear g1 g2 hcc hlen
      generalize hq : l.getD k Tri.zero = t at *
      have HQ := Lib.hid hq
      clear hq
      go_wp2_with fail
      refine wp_region_belowtail 9 (by kernel_rfl) (by kernel_rfl) (Below.refl wr.heap.size wr) ?_
      simp only [List.take_succ_cons, List.take_zero, List.drop_succ_cons, List.drop_zero]
      repeat ((with_reducible refine wpQuiet_step (fun K hK => ?_)); go_simp; first | (refine hK _ ?_; clear hK K) | (apply Exists.intro; refine ⟨fun _ => ?_, hK _ ?_⟩; ((go_at_call 92; exact bw_call (Nat.le_refl _) (shown_any c t sv wv _ (HVC.out.below (BW.b _) (Nat.le_refl _)) HC.out HTK.out))); clear hK K))
      refine wpQuiet_nil ?_
      intro wq hwq0
      have hwq := bw_out hwq0
      clear hwq0
      have hr4 := hR.out.later hwq zr
      have q1 := hr4.cell (i := k) (by rw [HLEN.out]; exact hlt)
      have f1 := hr4.free k
      have z4 := hr4.lt
      have HR4 := Lib.hid (hr4.set (i := k) (by rw [HLEN.out]; exact hlt) (shownM c t : Nat))
      have HB4 := Lib.hid ((hb.out.trans (hwq.mono hb.out.size)).setCell (p := ⟨w.heap.size + 1, k, none⟩) (by simp) (.int .i64 (shownM c t : Nat)))
      have HK4 := Lib.hid (block_set_other (p := ⟨w.heap.size + 1, k, none⟩) (keepZ hK.out hwq) (by simp) (.int .i64 (shownM c t : Nat)))
      clear b1 b2 b3 hr4 hwq
      go_wp2_with fail
      go_roundw
      case rel => exact ⟨k + 1, hlt, by go_num, HB4, HK4, by rw [← HSET.out]; exact HR4⟩
      case measure => simp [intOf]; omega
    · obtain rfl : k = l.length := by omega
      have hlen := setsW_len c l (Nat.le_refl l.length)
      have HRI := Lib.hid (hR.out.inAt (cap := l.length) (by rw [hlen]; exact Nat.le_refl _) (by omega))
      rw [hlen, setsW_all] at HRI
      clear hlen
      go_wp2_with fail
      go_ret
      exact ⟨_, rfl, HRI.out, hb.out⟩

end Go.Proofs.Ytbkhfmigaehgaaa
