import Derived.Test.YtbiihhokcmdlhaaZzD
/- Texts of one seat, merged: Cl Co Cp Cq -/
/- Walks of layer 3 (circuit): shown, shownByEach, union of the program. -/
namespace Go.Proofs.Ytbiihhokcmdlhaa
open Go.RowKit

/-! ### ints of a slice that was made -/
def IntRow (w : World) (g : Nat) (xs : List Int) : Prop := ∃ cur, w.heap[g]? = some (.cells cur 3 (0, 0)) ∧ cur.toList.take xs.length = xs.map (Value.int .i64)

theorem IntRow.lt {w : World} {g : Nat} {xs : List Int} (h : IntRow w g xs) : g < w.heap.size := by
  obtain ⟨cur, h1, _⟩ := h
  exact lt_of_block h1

theorem IntRow.cell {w : World} {g : Nat} {xs : List Int} (h : IntRow w g xs) {i : Nat} (hi : i < xs.length) : w.cell? ⟨g, i, none⟩ = some (.int .i64 (xs.getD i 0)) := by
  obtain ⟨cur, h1, h2⟩ := h
  rw [block_cell h1, ← Array.getElem?_toList]
  have h3 : (cur.toList.take xs.length)[i]? = (xs.map (Value.int .i64))[i]? := by rw [h2]
  rw [List.getElem?_take_of_lt hi, List.getElem?_map, List.getElem?_eq_getElem hi] at h3
  rw [h3, List.getD_eq_getElem?_getD, List.getElem?_eq_getElem hi]; rfl

theorem IntRow.free {w : World} {g : Nat} {xs : List Int} (h : IntRow w g xs) (o : Nat) : w.frozen? ⟨g, o, none⟩ = false := by
  obtain ⟨cur, h1, _⟩ := h
  exact block_free h1 o

theorem IntRow.later {w w' : World} {g B : Nat} {xs : List Int} (h : IntRow w g xs) (hb : Below B w w') (hg : g < B) : IntRow w' g xs := by
  obtain ⟨cur, h1, h2⟩ := h
  exact ⟨cur, (hb.block g hg).trans h1, h2⟩

theorem IntRow.alloc {w : World} {g : Nat} {xs : List Int} (h : IntRow w g xs) (o : Obj) : IntRow (w.alloc o) g xs := by
  obtain ⟨cur, h1, h2⟩ := h
  exact ⟨cur, block_alloc h1 o, h2⟩

theorem IntRow.set {w : World} {g : Nat} {xs : List Int} (h : IntRow w g xs) {i : Nat} (_hi : i < xs.length) (v : Int) : IntRow (w.setCell ⟨g, i, none⟩ (.int .i64 v)) g (xs.set i v) := by
  obtain ⟨cur, h1, h2⟩ := h
  refine ⟨cur.setIfInBounds i (.int .i64 v), block_set h1 i _, ?_⟩
  rw [List.length_set, Array.toList_setIfInBounds, List.take_set, h2, List.map_set]

theorem IntRow.inAt {w : World} {g cap : Nat} {xs : List Int} (h : IntRow w g xs) (h1 : xs.length ≤ cap) (h2 : cap ≤ 9223372036854775807) : InAt w (.slice (some ⟨g, 0, none⟩) xs.length cap) xs :=
  ⟨_, cap, rfl, h1, h2, fun _ => ⟨g, 0, rfl, h.lt, fun i hi => by rw [Nat.zero_add]; exact h.cell hi⟩⟩

theorem made1 (n : Nat) : (madeCells #[Value.int .i64 0] n).toList = (List.replicate n (0 : Int)).map (Value.int .i64) := by
  apply List.ext_getElem
  · simp [madeCells]
  · intro j h1 h2
    simp only [madeCells, Array.toList_map, List.getElem_map, List.getElem_replicate]
    have : j % 1 = 0 := Nat.mod_one j
    simp [this]

theorem IntRow.of_own {w : World} {base g cap : Nat} {xs : List Int} {n : Nat} (h : w.ownsRow base 3 1 (.slice (some ⟨g, 0, none⟩) n cap) n (xs.map (Value.int .i64))) : IntRow w g xs ∧ xs.length = n := by
  obtain ⟨h0, h1 | ⟨g', cap', cur, h1, h2, h3, h4, h5, h6, h7⟩⟩ := h
  · obtain ⟨h1, _⟩ := h1; cases h1
  · injection h1 with e1 e2 e3
    injection e1 with e1
    injection e1 with e1
    subst e1; subst e3
    have hl : xs.length = n := by simpa using h0
    refine ⟨⟨cur, h3, ?_⟩, hl⟩
    rw [hl, ← Nat.mul_one n]; exact h7

/-- The sets while they are made: of the first k trials, zeros behind. -/
def setsW (c : Cir) (l : List Tri) (k : Nat) : List Int := natL ((l.take k).map (shownM c)) ++ List.replicate (l.length - k) 0

theorem setsW_len (c : Cir) (l : List Tri) {k : Nat} (h : k ≤ l.length) : (setsW c l k).length = l.length := by
  unfold setsW natL; simp; omega
theorem setsW_zero (c : Cir) (l : List Tri) : setsW c l 0 = List.replicate l.length 0 := by simp [setsW, natL]
theorem setsW_all (c : Cir) (l : List Tri) : setsW c l l.length = natL (setsM c l) := by simp [setsW, setsM]
theorem setsW_set (c : Cir) (l : List Tri) {k : Nat} (h : k < l.length) : (setsW c l k).set k (shownM c (l.getD k Tri.zero) : Int) = setsW c l (k + 1) := by
  unfold setsW
  obtain ⟨d, hd⟩ : ∃ d, l.length - k = d + 1 := ⟨l.length - k - 1, by omega⟩
  have hd2 : l.length - (k + 1) = d := by omega
  have hn : (natL ((l.take k).map (shownM c))).length = k := by unfold natL; simp; omega
  rw [hd, hd2, List.set_append_right _ _ (by omega), hn, Nat.sub_self, List.replicate_succ, List.set_cons_zero, List.take_succ_eq_append_getElem h, List.getD_eq_getElem?_getD, List.getElem?_eq_getElem h]
  unfold natL
  rw [List.map_append, List.map_append, List.append_assoc]
  rfl

theorem shown_lt (c : Cir) (t : Tri) (hc : CVal c) : shownM c t < 4096 := by
  have h1 := bitsOf_lt (fun k => toldB c t (2 ^ k)) c.sw.length
  have h2 := Nat.pow_le_pow_right (show 0 < 2 by omega) hc.s2
  unfold shownM
  omega

theorem bitsOf_no {p : Nat → Bool} {k : Nat} (h : p k = false) : bitsOf p (k + 1) = bitsOf p k := by
  rw [show bitsOf p (k + 1) = if p k = true then bitsOf p k ||| 2 ^ k else bitsOf p k from rfl, if_neg (by simp [h])]
theorem bitsOf_yes {p : Nat → Bool} {k : Nat} (h : p k = true) : bitsOf p (k + 1) = bitsOf p k ||| 2 ^ k := by
  rw [show bitsOf p (k + 1) = if p k = true then bitsOf p k ||| 2 ^ k else bitsOf p k from rfl, if_pos h]

set_option maxRecDepth 100000 in
set_option maxHeartbeats 4000000 in
theorem shown_any (c : Cir) (t : Tri) (sv wv : Value) (w : World) (hv : CirAt w sv wv c) (hc : CVal c) (ht : triB c t = true) :
    Calls Try.prog 92 #[cirV c sv wv, triV t] w fun e w' => e = .returned (.int .i64 (shownM c t : Nat)) ∧ Below w.heap.size w w' := by
  have HB := Lib.hid (blw2 w (cirO c sv wv) (triO t))
  have K0 := Lib.hid (two_od w (cirO c sv wv) (triO t))
  have K1 := Lib.hid (two_nw w (cirO c sv wv) (triO t))
  have HV := Lib.hid (hv.below HB.out (Nat.le_refl _))
  have HC := Lib.hid hc
  have HT := Lib.hid ht
  have s2 := hc.s2
  have HP := Lib.hid (fun k (hk : k ≤ c.sw.length) => show bitsOf (fun k => toldB c t (2 ^ k)) k < 1048576 from Nat.lt_of_lt_of_le (bitsOf_lt _ k) (Nat.le_of_lt (pow_set (by omega))))
  have HFIN := Lib.hid (show shownM c t = bitsOf (fun k => toldB c t (2 ^ k)) c.sw.length from rfl)
  have HNO := Lib.hid (fun k h => bitsOf_no (p := fun k => toldB c t (2 ^ k)) (k := k) h)
  have HYES := Lib.hid (fun k h => bitsOf_yes (p := fun k => toldB c t (2 ^ k)) (k := k) h)
  obtain ⟨⟨sa, scap, rfl, _⟩, _⟩ := hv
  clear hc ht
  go_enter Try.func92, Try.ntmps92
  go_wp2_with fail
  generalize (w.alloc (cirO c (.slice sa c.sw.length scap) wv)).alloc (triO t) = wA at *
  go_loopw [5, 10] (fun x i wr => ∃ k : Nat, k ≤ c.sw.length ∧ i = .int .i64 k ∧ x = .int .i64 (bitsOf (fun k => toldB c t (2 ^ k)) k : Nat) ∧ Hid (Below wA.heap.size wA wr)) (fun _ i _ => c.sw.length - (intOf i).toNat)
  case atStart => exact ⟨0, Nat.zero_le _, rfl, rfl, Lib.hid (Below.refl _ _)⟩
  case round =>
    obtain ⟨k, hk, rfl, rfl, hb⟩ := hrel
    by_cases hlt : k < c.sw.length
    · have hp := HP.out k hk
      obtain ⟨A, hA⟩ : ∃ A, 2 ^ k = A := ⟨_, rfl⟩
      have a20 : A < 1048576 := by rw [← hA]; exact pow_set (by omega)
      have HA := Lib.hid hA
      have b1 := bw_cells (B := wr.heap.size) (keepZ K0.out hb.out) (lt_of_block (keepZ K0.out hb.out))
      have b2 := bw_cells (B := wr.heap.size) (keepZ K1.out hb.out) (lt_of_block (keepZ K1.out hb.out))
      have HV2 := Lib.hid (HV.out.below hb.out (Nat.le_refl _))
      cases hq : toldB c t (2 ^ k)
      · have HQ := Lib.hid hq
        have HN := Lib.hid (HNO.out k hq)
        rw [hA] at HQ
        generalize bitsOf (fun k => toldB c t (2 ^ k)) k = x at *
        clear hA hq
        go_wp2_with fail
        refine wp_region_below (by kernel_rfl) (by kernel_rfl) (Below.refl wr.heap.size wr) ?_
        repeat ((with_reducible refine wpQuiet_step (fun K hK => ?_)); go_simp; first | (refine hK _ ?_; clear hK K) | (apply Exists.intro; refine ⟨fun _ => ?_, hK _ ?_⟩; (first | (go_at_call 86; with_reducible exact bw_same (calone_is A k _ (by omega) HA.out)) | (go_at_call 148; with_reducible exact bw_call (Nat.le_refl _) (shows_is false c t _ wv A _ (HV2.out.below (BW.b _) (Nat.le_refl _)) HC.out HT.out a20 HQ.out))); clear hK K))
        refine wpQuiet_nil ?_
        intro wq hwq0
        have hwq := bw_out hwq0
        clear hwq0
        clear b1 b2
        have HB2 := Lib.hid (hb.out.trans (hwq.mono hb.out.size))
        clear hwq
        go_wp2_with fail
        go_roundw
        case rel => exact ⟨k + 1, hlt, by go_num, by rw [HN.out], HB2⟩
        case measure => simp [intOf]; omega
      · have HQ := Lib.hid hq
        have HN := Lib.hid (HYES.out k hq)
        have hor := i64_or_nat (bitsOf (fun k => toldB c t (2 ^ k)) k) A (by omega) (by omega)
        rw [hA] at HQ HN
        generalize bitsOf (fun k => toldB c t (2 ^ k)) k = x at *
        clear hA hq
        go_wp2_with fail
        refine wp_region_below (by kernel_rfl) (by kernel_rfl) (Below.refl wr.heap.size wr) ?_
        repeat ((with_reducible refine wpQuiet_step (fun K hK => ?_)); go_simp; first | (refine hK _ ?_; clear hK K) | (apply Exists.intro; refine ⟨fun _ => ?_, hK _ ?_⟩; (first | (go_at_call 86; with_reducible exact bw_same (calone_is A k _ (by omega) HA.out)) | (go_at_call 148; with_reducible exact bw_call (Nat.le_refl _) (shows_is true c t _ wv A _ (HV2.out.below (BW.b _) (Nat.le_refl _)) HC.out HT.out a20 HQ.out))); clear hK K))
        refine wpQuiet_nil ?_
        intro wq hwq0
        have hwq := bw_out hwq0
        clear hwq0
        clear b1 b2
        have HB2 := Lib.hid (hb.out.trans (hwq.mono hb.out.size))
        clear hwq
        go_wp2_with (go_at_call 86; refine (calone_is A k _ (by omega) HA.out).mono ?_; rintro e w3 ⟨rfl, rfl⟩)
        go_roundw
        case rel => exact ⟨k + 1, hlt, by go_num, by rw [HN.out], HB2⟩
        case measure => simp [intOf]; omega
    · obtain rfl : k = c.sw.length := by omega
      go_wp2_with fail
      go_ret
      exact ⟨ret_int (by rw [HFIN.out]), HB.out.trans (hb.out.mono HB.out.size)⟩

set_option maxRecDepth 100000 in
set_option maxHeartbeats 4000000 in
theorem shownEach_any (c : Cir) (l : List Tri) (sv wv v : Value) (w : World) (hv : CirAt w sv wv c) (hl : TrAt w v l) (ht : TVal c l) :
    Calls Try.prog 96 #[cirV c sv wv, v] w (ListRes (natL (setsM c l)) w) := by
  have hb0 := (Below.refl w.heap.size w).alloc (Nat.le_refl _) (cirO c sv wv)
  have HB := Lib.hid hb0
  have K0 := Lib.hid (block_new w (cirO c sv wv) w.heap.size rfl)
  have HV0 := Lib.hid hv
  have HC := Lib.hid ht.cv
  have HT := Lib.hid ht.t
  have l12 := ht.n
  have HL := Lib.hid hl
  obtain ⟨ta, tcap, rfl, m1, m2, hcc⟩ := hl
  have HCC := Lib.hid hcc
  have hsz : (w.alloc (cirO c sv wv)).heap.size = w.heap.size + 1 := size_alloc _ _
  have HSZ := Lib.hid hsz
  clear hv ht hcc hb0 hsz
  obtain ⟨i0, hi, hz0, hz1, hz2⟩ := info_parts infoInt
  go_enter Try.func96, Try.ntmps96
  go_wp2_with (refine wpList_make_full _ rfl (.tmp 8) (.tmp 8) 22 rfl (w.heap.size + 1) 3 i0 (.int .i64 0) 1 Try.underlying22 hi hz0 hz1 .i64 .i64 _ _ l.length rfl rfl (by omega) (by omega) ?m1 ?m2 (by rw [HSZ.out]; exact Nat.le_refl _) ?_)
  case m1 => rw [hz2]; omega
  case m2 => unfold maxLen; omega
  intro w3 hown hgrow
  have hb3 : Below (w.alloc (cirO c sv wv)).heap.size (w.alloc (cirO c sv wv)) w3 := (Below.refl _ _).grown hgrow (Nat.le_refl _) (fun k h => by cases h)
  have hrow := (IntRow.of_own (xs := List.replicate l.length 0) (by rw [← made1]; exact hown)).1
  rw [← setsW_zero c l] at hrow
  have R0 := Lib.hid hrow
  have K3 := Lib.hid (keepZ K0.out hb3)
  have HB3 := Lib.hid (HB.out.trans (hb3.mono HB.out.size))
  have z3 : w.heap.size + 1 < w3.heap.size := hrow.lt
  clear hown hgrow hb3 hrow hi hz0 hz1 hz2
  go_wp2_with fail
  go_loopw [12] (fun i wr => ∃ k : Nat, k ≤ l.length ∧ i = .int .i64 k ∧ Hid (Below w.heap.size w wr) ∧ Hid (wr.heap[w.heap.size]? = some (cirO c sv wv)) ∧ Hid (IntRow wr (w.heap.size + 1) (setsW c l k))) (fun i _ => l.length - (intOf i).toNat)
  case atStart => exact ⟨0, Nat.zero_le _, rfl, HB3, K3, R0⟩
  case round =>
    obtain ⟨k, hk, rfl, hb, hK, hR⟩ := hrel
    by_cases hlt : k < l.length
    · obtain ⟨tb, toff, rfl, hbl, hcc⟩ := HCC.out (by omega)
      obtain ⟨g1, g2⟩ := tr_at hb.out hbl hcc hlt
      have HTK := Lib.hid (HT.out _ (getD_mem hlt Tri.zero))
      have HSET := Lib.hid (setsW_set c l hlt)
      have hlen := setsW_len c l hk
      have hsh := shown_lt c (l.getD k Tri.zero) HC.out
      have hbl2 := Nat.lt_of_lt_of_le hbl hb.out.size
      have b1 := bw_cells (B := wr.heap.size) hK.out (lt_of_block hK.out)
      have b2 := bw_cell (B := wr.heap.size) g1 hbl2
      have b3 := bw_cell (B := wr.heap.size) g2 hbl2
      have zr := hR.out.lt
      have HV2 := Lib.hid (HL.out.below hb.out (Nat.le_refl _))
      have HVC := Lib.hid (HV0.out.below hb.out (Nat.le_refl _))
      have k1 : (0 : Int) ≤ k := by omega
      have k2 : (k : Int) < l.length := by omega
      have HLEN := Lib.hid hlen
      clear g1 g2 hcc hlen
      generalize hq : l.getD k Tri.zero = t at *
      have HQ := Lib.hid hq
      clear hq
      go_wp2_with fail
      refine wp_region_belowtail 9 (by kernel_rfl) (by kernel_rfl) (Below.refl wr.heap.size wr) ?_
      simp only [List.take_succ_cons, List.take_zero, List.drop_succ_cons, List.drop_zero]
      repeat ((with_reducible refine wpQuiet_step (fun K hK => ?_)); go_simp; first | (refine hK _ ?_; clear hK K) | (apply Exists.intro; refine ⟨fun _ => ?_, hK _ ?_⟩; ((go_at_call 92; exact bw_call (Nat.le_refl _) (shown_any c t sv wv _ (HVC.out.below (BW.b _) (Nat.le_refl _)) HC.out HTK.out))); clear hK K))
      refine wpQuiet_nil ?_
      intro wq hwq0
      have hwq := bw_out hwq0
      clear hwq0
      have hr4 := hR.out.later hwq zr
      have q1 := hr4.cell (i := k) (by rw [HLEN.out]; exact hlt)
      have f1 := hr4.free k
      have z4 := hr4.lt
      have HR4 := Lib.hid (hr4.set (i := k) (by rw [HLEN.out]; exact hlt) (shownM c t : Nat))
      have HB4 := Lib.hid ((hb.out.trans (hwq.mono hb.out.size)).setCell (p := ⟨w.heap.size + 1, k, none⟩) (by simp) (.int .i64 (shownM c t : Nat)))
      have HK4 := Lib.hid (block_set_other (p := ⟨w.heap.size + 1, k, none⟩) (keepZ hK.out hwq) (by simp) (.int .i64 (shownM c t : Nat)))
      clear b1 b2 b3 hr4 hwq
      go_wp2_with fail
      go_roundw
      case rel => exact ⟨k + 1, hlt, by go_num, HB4, HK4, by rw [← HSET.out]; exact HR4⟩
      case measure => simp [intOf]; omega
    · obtain rfl : k = l.length := by omega
      have hlen := setsW_len c l (Nat.le_refl l.length)
      have HRI := Lib.hid (hR.out.inAt (cap := l.length) (by rw [hlen]; exact Nat.le_refl _) (by omega))
      rw [hlen, setsW_all] at HRI
      clear hlen
      go_wp2_with fail
      go_ret
      exact ⟨_, rfl, HRI.out, hb.out⟩

end Go.Proofs.Ytbiihhokcmdlhaa

/- Walks of layer 3 (circuit): union, tries of the program. -/
namespace Go.Proofs.Ytbiihhokcmdlhaa
open Go.RowKit

theorem union_snoc (sets : List Nat) (ks : List Int) (k : Int) : unionM sets (ks ++ [k]) = unionM sets ks ||| sets.getD k.toNat 0 := by
  apply Nat.eq_of_testBit_eq
  intro i
  rw [testBit_union, Nat.testBit_or, testBit_union, List.any_append]
  simp

theorem natL_getD (l : List Nat) (k : Nat) : (natL l).getD k 0 = ((l.getD k 0 : Nat) : Int) := by
  unfold natL
  rw [List.getD_eq_getElem?_getD, List.getD_eq_getElem?_getD, List.getElem?_map]
  cases l[k]? <;> rfl

theorem union_lt {sets : List Nat} (h : ∀ s ∈ sets, s < 1048576) (ks : List Int) : unionM sets ks < 1048576 := by
  induction ks with
  | nil => unfold unionM; decide
  | cons k ks ih =>
    unfold unionM
    refine Nat.or_lt_two_pow (n := 20) ?_ ih
    rw [List.getD_eq_getElem?_getD]
    cases hk : sets[k.toNat]? with
    | none => decide
    | some s => exact h s (List.mem_of_getElem? hk)

set_option maxRecDepth 100000 in
set_option maxHeartbeats 2000000 in
theorem union_any (sets : List Nat) (ks : List Int) (sv kv : Value) (w : World) (hs : InAt w sv (natL sets)) (hk : InAt w kv ks) (hb : ∀ s ∈ sets, s < 1048576) (hks : ∀ k ∈ ks, 0 ≤ k ∧ k < sets.length) :
    Calls Try.prog 95 #[sv, kv] w fun e w' => e = .returned (.int .i64 (unionM sets ks : Nat)) ∧ w = w' := by
  obtain ⟨sa, scap, rfl, n1, n2, hsc⟩ := hs
  obtain ⟨ka, kcap, rfl, n3, n4, hkc⟩ := hk
  have HSC := Lib.hid hsc
  have HKC := Lib.hid hkc
  have HB := Lib.hid (fun j => union_lt hb (ks.take j))
  have HS := Lib.hid hb
  have HK := Lib.hid hks
  have HU := Lib.hid (union_snoc sets)
  clear hsc hkc hb hks
  go_enter Try.func95, Try.ntmps95
  go_wp2_with fail
  go_loop [5, 10] (fun x i => ∃ j : Nat, j ≤ ks.length ∧ i = .int .i64 j ∧ x = .int .i64 (unionM sets (ks.take j) : Nat)) (fun _ i => ks.length - (intOf i).toNat)
  case atStart => exact ⟨0, Nat.zero_le _, rfl, rfl⟩
  case round =>
    obtain ⟨j, hj, rfl, rfl⟩ := hrel
    by_cases hlt : j < ks.length
    · obtain ⟨b, off, rfl, hbl, hc⟩ := HKC.out (by omega)
      have g1 := hc j hlt
      obtain ⟨k1, k2⟩ := HK.out _ (getD_mem hlt 0)
      obtain ⟨k, hk⟩ : ∃ k : Nat, ks.getD j 0 = k := ⟨(ks.getD j 0).toNat, by omega⟩
      rw [hk] at g1 k1 k2
      have k3 : k < sets.length := by omega
      obtain ⟨b2, off2, rfl, hbl2, hc2⟩ := HSC.out (by rw [natL_len]; omega)
      have g2 := hc2 k (by rw [natL_len]; exact k3)
      rw [natL_getD] at g2
      have hx := HB.out j
      have hy := HS.out _ (getD_mem k3 0)
      have HT := Lib.hid (show unionM sets (ks.take (j + 1)) = unionM sets (ks.take j) ||| sets.getD k 0 by
        rw [List.take_succ_eq_append_getElem hlt, HU.out]
        rw [List.getD_eq_getElem?_getD, List.getElem?_eq_getElem hlt] at hk
        simp only [Option.getD_some] at hk
        rw [hk, Int.toNat_natCast])
      have k2b : (k : Int) < (natL sets).length := by rw [natL_len]; exact k2
      generalize unionM sets (ks.take j) = x at *
      generalize sets.getD k 0 = y at *
      have hor := i64_or_nat x y (by omega) (by omega)
      clear hc hc2 hk
      go_wp2_with fail
      go_round
      case rel => exact ⟨j + 1, hlt, by go_num, by rw [HT.out]⟩
      case measure => simp [intOf]; omega
    · have HT := Lib.hid (show unionM sets (ks.take j) = unionM sets ks by rw [List.take_of_length_le (by omega)])
      go_wp2_with fail
      go_ret
      exact ⟨ret_int (by rw [HT.out]), rfl⟩

theorem tmod_nat (a b : Nat) : ((a : Int)).tmod (b : Int) = ((a % b : Nat) : Int) := by
  rw [Int.tmod_eq_emod_of_nonneg (by omega)]
  simp

set_option maxRecDepth 100000 in
set_option maxHeartbeats 4000000 in
theorem tries1_any (round : List Nat) (rv : Value) (d gr gn gs night sw : Nat) (w : World) (hr : InAt w rv (natL round)) (h1 : 1 ≤ round.length) (h60 : round.length ≤ 100) (hn : night ≤ 100) (hd : d ≤ 100) (hs : sw ≤ 12) (hb : ∀ s ∈ round, s < 1048576)
    (k1 : w.heap[gr]? = some (.cells #[rv] 22)) (k2 : w.heap[gn]? = some (.cells #[.int .i64 night] 3)) (k3 : w.heap[gs]? = some (.cells #[.int .i64 sw] 3)) :
    Calls Try.prog 153 #[.int .i64 d, .pointer (some ⟨gr, 0, none⟩), .pointer (some ⟨gn, 0, none⟩), .pointer (some ⟨gs, 0, none⟩)] w fun e w' => e = .returned (.bool ((round.getD ((night + d) % round.length) 0).testBit sw)) ∧ Below w.heap.size w w' := by
  obtain ⟨ra, rcap, rfl, n1, n2, hc⟩ := hr
  obtain ⟨b, off, rfl, hbl, hc⟩ := hc (by rw [natL_len]; omega)
  have hm : (night + d) % round.length < round.length := Nat.mod_lt _ (by omega)
  have g1 := hc ((night + d) % round.length) (by rw [natL_len]; exact hm)
  rw [natL_getD] at g1
  have hy := hb _ (getD_mem hm 0)
  have hmod : ((night : Int) + d).tmod (round.length : Int) = (((night + d) % round.length : Nat) : Int) := by have := tmod_nat (night + d) round.length; rwa [Int.natCast_add] at this
  have hlen : (natL round).length = round.length := natL_len round
  rw [hlen] at k1
  have b1 := bw_cells (B := w.heap.size) k1 (lt_of_block k1)
  have b2 := bw_cells (B := w.heap.size) k2 (lt_of_block k2)
  have b3 := bw_cells (B := w.heap.size) k3 (lt_of_block k3)
  have b4 := bw_cell (B := w.heap.size) g1 hbl
  have hwr : IntKind.i64.wrap ((night : Int) + d) = (night : Int) + d := IntWalk.i64_in _ (by omega)
  have hl0 : ¬ round = [] := fun h => by rw [h] at h1; simp at h1
  generalize (night + d) % round.length = m at *
  generalize round.getD m 0 = y at *
  have hy2 : y < 4611686018427387904 := by omega
  have m1 : (0 : Int) ≤ m := by omega
  have m2 : (m : Int) < round.length := by omega
  clear hc g1 k1 k2 k3 hb hlen
  go_enter Try.func153, Try.ntmps153
  go_wp2_with fail
  refine wp_region_below (by kernel_rfl) (by kernel_rfl) (Below.refl w.heap.size w) ?_
  repeat ((with_reducible refine wpQuiet_step (fun K hK => ?_)); go_simp; first | (refine hK _ ?_; clear hK K) | (apply Exists.intro; refine ⟨fun _ => ?_, hK _ ?_⟩; ((go_at_call 99; exact bw_same (chas_any y sw _ hy2 (by omega)))); clear hK K))
  refine wpQuiet_nil ?_
  intro wq hwq0
  have hwq := bw_out hwq0
  clear hwq0
  go_wp2
  go_ret
  exact ⟨rfl, hwq⟩

theorem enters_tries1 : Enters 153 := fun _ _ => by kernel_rfl

end Go.Proofs.Ytbiihhokcmdlhaa

/- Walks of layer 3 (circuit): tries of the program. -/
namespace Go.Proofs.Ytbiihhokcmdlhaa
open Go.RowKit

theorem tries_fail {round : List Nat} {gap n k i : Nat} (hk : k < n) (h1 : ∀ j, j < k → missN round gap j = round.length) (hi : i < round.length) (h2 : ∀ j, j < i → triedB round gap k j = true) (h3 : triedB round gap k i = false) : triesM round gap n = ⟨k, i, false⟩ := by
  have e1 : missN round gap k = i := fstB_eq (by omega) (fun j hj => by rw [h2 j hj]; rfl) (fun _ => by rw [h3]; rfl)
  have e2 : missS round gap n = k := fstB_eq (by omega) (fun j hj => by rw [h1 j hj]; simp) (fun _ => by rw [e1]; simpa using hi)
  unfold triesM
  rw [e2, if_pos hk, e1]

theorem tries_done {round : List Nat} {gap n : Nat} (h1 : ∀ j, j < n → missN round gap j = round.length) : triesM round gap n = ⟨0, 0, true⟩ := by
  have e2 : missS round gap n = n := fstB_eq (Nat.le_refl _) (fun j hj => by rw [h1 j hj]; simp) (fun h => by omega)
  unfold triesM
  rw [e2, if_neg (by omega)]

theorem miss_all {round : List Nat} {gap k : Nat} (h : ∀ j, j < round.length → triedB round gap k j = true) : missN round gap k = round.length :=
  fstB_eq (Nat.le_refl _) (fun j hj => by rw [h j hj]; rfl) (fun hh => by omega)

theorem tried_len (round : List Nat) (gap k i : Nat) : (((natL ((List.range gap).filter fun d => (round.getD ((i + d) % round.length) 0).testBit k)).length : Int) == 0) = !triedB round gap k i := by
  rw [natL_len]
  unfold triedB
  cases hq : (List.range gap).any fun d => (round.getD ((i + d) % round.length) 0).testBit k
  · have : (List.range gap).filter (fun d => (round.getD ((i + d) % round.length) 0).testBit k) = [] := by
      rw [List.filter_eq_nil_iff]; exact List.any_eq_false.1 hq
    rw [this]; rfl
  · obtain ⟨x, hx, hp⟩ := List.any_eq_true.1 hq
    have hm : x ∈ (List.range gap).filter fun d => (round.getD ((i + d) % round.length) 0).testBit k := List.mem_filter.2 ⟨hx, hp⟩
    have hl := List.length_pos_of_mem hm
    simp only [Bool.not_true, beq_eq_false_iff_ne, ne_eq]
    omega

abbrev trV (r : TrA) : Value := .tuple #[.int .i64 r.sw, .int .i64 r.night, .bool r.ok]
theorem ret_tr {a b : TrA} (h : a = b) : Ending.returned (trV a) = .returned (trV b) := by rw [h]

set_option maxRecDepth 100000 in
set_option maxHeartbeats 4000000 in
theorem tries_any (n : Nat) (round : List Nat) (gap : Nat) (rv : Value) (w : World) (hr : InAt w rv (natL round)) (h1 : 1 ≤ round.length) (h60 : round.length ≤ 100) (hg : gap ≤ 100) (hn : n ≤ 12) (hb : ∀ s ∈ round, s < 1048576) :
    Calls Try.prog 105 #[.int .i64 n, rv, .int .i64 gap] w fun e w' => e = .returned (trV (triesM round gap n)) ∧ Below w.heap.size w w' := by
  have hb0 := (Below.refl w.heap.size w).alloc (Nat.le_refl _) (.cells #[rv] 22)
  have HB := Lib.hid hb0
  have K0 := Lib.hid (block_new w (.cells #[rv] 22) w.heap.size rfl)
  have HR := Lib.hid (hr.below hb0 (Nat.le_refl _))
  have HS := Lib.hid hb
  have HF := Lib.hid (fun k i => tries_fail (round := round) (gap := gap) (n := n) (k := k) (i := i))
  have HD := Lib.hid (tries_done (round := round) (gap := gap) (n := n))
  have HM := Lib.hid (fun k => miss_all (round := round) (gap := gap) (k := k))
  have HT := Lib.hid (tried_len round gap)
  obtain ⟨ra, rcap, hrv, _⟩ := hr
  rw [natL_len] at hrv
  subst hrv
  clear hb hb0
  go_enter Try.func105, Try.ntmps105
  go_wp2_with fail
  generalize w.alloc (.cells #[.slice ra round.length rcap] 22) = wA at *
  go_loopw [13] (fun i wr => ∃ k : Nat, k ≤ n ∧ i = .int .i64 k ∧ Hid (Below wA.heap.size wA wr) ∧ Hid (∀ j, j < k → missN round gap j = round.length)) (fun i _ => n - (intOf i).toNat)
  case atStart => exact ⟨0, Nat.zero_le _, rfl, Lib.hid (Below.refl _ _), Lib.hid (fun j hj => by omega)⟩
  case round =>
    obtain ⟨k, hk, rfl, hbr, hP⟩ := hrel
    obtain ⟨wo, rfl⟩ : ∃ wo : World, wo = wr := ⟨_, rfl⟩
    by_cases hlt : k < n
    · have hb1 := hbr.out.alloc hbr.out.size (.cells #[.int .i64 k] 3)
      have HB1 := Lib.hid hb1
      have KR := Lib.hid (block_alloc (keepZ K0.out hbr.out) (.cells #[.int .i64 k] 3))
      have KS := Lib.hid (block_new wo (.cells #[.int .i64 k] 3) wo.heap.size rfl)
      have c0 := block_cell KR.out
      have z0 := lt_of_block KR.out
      clear hb1
      go_wp2_with fail
      generalize wo.alloc (.cells #[.int .i64 k] 3) = wB at *
      generalize wo.heap.size = gs at *
      clear c0
      go_loopw [18] (fun i wr => ∃ j : Nat, j ≤ round.length ∧ i = .int .i64 j ∧ Hid (Below wB.heap.size wB wr) ∧ Hid (∀ i, i < j → triedB round gap k i = true)) (fun i _ => round.length - (intOf i).toNat)
      case atStart => exact ⟨0, Nat.zero_le _, rfl, Lib.hid (Below.refl _ _), Lib.hid (fun j hj => by omega)⟩
      case round =>
        obtain ⟨j, hj, rfl, hbq, hQ⟩ := hrel
        by_cases hlj : j < round.length
        · have hb2 := hbq.out.alloc hbq.out.size (.cells #[.int .i64 j] 3)
          have HB2 := Lib.hid hb2
          have KR2 := Lib.hid (block_alloc (keepZ KR.out hbq.out) (.cells #[.int .i64 j] 3))
          have KS2 := Lib.hid (block_alloc (keepZ KS.out hbq.out) (.cells #[.int .i64 j] 3))
          have KN2 := Lib.hid (block_new wr (.cells #[.int .i64 j] 3) wr.heap.size rfl)
          clear hb2
          go_wp2_with fail
          generalize wr.alloc (.cells #[.int .i64 j] 3) = wC at *
          generalize wr.heap.size = gn at *
          refine (those_any _ #[] #[.pointer (some ⟨w.heap.size, 0, none⟩), .pointer (some ⟨gn, 0, none⟩), .pointer (some ⟨gs, 0, none⟩)] gap (fun d => (round.getD ((j + d) % round.length) 0).testBit k) _ (by omega) enters_tries1 (fun d w1 hd hb3 => ?_)).mono ?_
          · exact tries1_any round _ d _ _ _ j k w1 (HR.out.below (HB1.out.trans ((HB2.out.trans (hb3.mono HB2.out.size)).mono HB1.out.size)) (Nat.le_refl _)) h1 h60 (by omega) (by omega) (by omega) HS.out (keepZ KR2.out hb3) (keepZ KN2.out hb3) (keepZ KS2.out hb3)
          rintro e w1 ⟨v, rfl, ⟨va, vcap, rfl, _, hvc, _⟩, hb3⟩
          have hlen := HT.out k j
          generalize (natL ((List.range gap).filter fun d => (round.getD ((j + d) % round.length) 0).testBit k)).length = L at *
          have HB3 := Lib.hid (HB2.out.trans (hb3.mono HB2.out.size))
          have cN := bw_cells (B := w1.heap.size) (keepZ KN2.out hb3) (lt_of_block (keepZ KN2.out hb3))
          have cS := bw_cells (B := w1.heap.size) (keepZ KS2.out hb3) (lt_of_block (keepZ KS2.out hb3))
          clear hb3
          cases hq : triedB round gap k j
          · have HFA := Lib.hid (HF.out k j hlt hP.out hlj hQ.out hq)
            rw [hq] at hlen
            clear hq
            have hlen2 : ((L : Int) == 0) = true := hlen
            clear hlen
            go_wp2_with fail
            refine wp_region_below (by kernel_rfl) (by kernel_rfl) (Below.refl w1.heap.size w1) ?_
            repeat ((with_reducible refine wpQuiet_step (fun K hK => ?_)); go_simp; first | (refine hK _ ?_; clear hK K) | (apply Exists.intro; refine ⟨fun _ => ?_, hK _ ?_⟩; (fail); clear hK K))
            refine wpQuiet_nil ?_
            intro wq hwq0
            have hwq := bw_out hwq0
            clear hwq0
            go_wp2
            go_ret3
            exact ⟨ret_tr HFA.out.symm, HB.out.trans ((HB1.out.trans ((HB3.out.trans (hwq.mono HB3.out.size)).mono HB1.out.size)).mono HB.out.size)⟩
          · have HQ := Lib.hid hq
            rw [hq] at hlen
            clear hq cN cS
            have hlen2 : ((L : Int) == 0) = false := hlen
            clear hlen
            go_wp2_with fail
            go_roundw
            case rel => exact ⟨j + 1, by omega, by go_num, HB3, Lib.hid (fun i hi => by
              by_cases e : i = j
              · rw [e]; exact HQ.out
              · exact hQ.out i (by omega))⟩
            case measure => simp [intOf]; omega
        · obtain rfl : j = round.length := by omega
          have HMM := Lib.hid (HM.out k hQ.out)
          have HBX := Lib.hid (HB1.out.trans (hbq.out.mono HB1.out.size))
          go_wp2_with fail
          go_roundw
          case rel => exact ⟨k + 1, by omega, by go_num, HBX, Lib.hid (fun i hi => by
            by_cases e : i = k
            · rw [e]; exact HMM.out
            · exact hP.out i (by omega))⟩
          case measure => simp [intOf]; omega
    · obtain rfl : n = k := by omega
      have HDD := Lib.hid (HD.out hP.out)
      go_wp2_with fail
      go_ret3
      exact ⟨ret_tr HDD.out.symm, HB.out.trans (hbr.out.mono HB.out.size)⟩

end Go.Proofs.Ytbiihhokcmdlhaa

/- Walks of layer 3 (circuit): checkRota, CheckRota of the program. -/
namespace Go.Proofs.Ytbiihhokcmdlhaa
open Go.RowKit

/-- Lists of numbers lie in memory. -/
def NsAt (w : World) (v : Value) (ns : List (List Int)) : Prop :=
  ∃ a cap, v = .slice a ns.length cap ∧ ns.length ≤ cap ∧ cap ≤ 9223372036854775807 ∧
    (0 < ns.length → ∃ b off, a = some ⟨b, off, none⟩ ∧ b < w.heap.size ∧ ∀ i, i < ns.length → ∃ u, w.cell? ⟨b, off + i, none⟩ = some u ∧ InAt w u (ns.getD i []))

theorem NsAt.below {w w' : World} {B : Nat} {v : Value} {ns : List (List Int)} (h : NsAt w v ns) (hb : Below B w w') (hB : w.heap.size ≤ B) : NsAt w' v ns := by
  obtain ⟨a, cap, rfl, h1, h2, h3⟩ := h
  refine ⟨a, cap, rfl, h1, h2, fun h => ?_⟩
  obtain ⟨b, off, rfl, hlt, hc⟩ := h3 h
  refine ⟨b, off, rfl, Nat.lt_of_lt_of_le hlt hb.size, fun i hi => ?_⟩
  obtain ⟨u, c2, c3⟩ := hc i hi
  exact ⟨u, (hb.cell (p := ⟨b, off + i, none⟩) (by show b < B; omega)).trans c2, c3.below hb hB⟩

abbrev rotV (r : Rot) (nv : Value) : Value := .agg #[nv, .int .i64 r.gap]
abbrev rotO (r : Rot) (nv : Value) : Obj := .cells #[nv, .int .i64 r.gap] 52

theorem chkR_trial {c : Cir} {l : List Tri} (r : Rot) (h : ¬ chkT c l = 0) : chkT c l = chkR c l r := by unfold chkR; rw [if_neg h]
theorem chkR_bad {c : Cir} {l : List Tri} {r : Rot} (h : chkT c l = 0) (h2 : rotB l.length r = false) : (32 : Int) = chkR c l r := by unfold chkR; rw [if_pos h, h2]; rfl
theorem chkR_ok {c : Cir} {l : List Tri} {r : Rot} (h : chkT c l = 0) (h2 : rotB l.length r = true) : (0 : Int) = chkR c l r := by unfold chkR; rw [if_pos h, h2]; rfl

theorem rot_sizes {m : Int} {r : Rot} {b1 b2 : Bool} (h1 : decide (1 ≤ (r.nights.length : Int) ∧ (r.nights.length : Int) ≤ 60) = b1) (h2 : decide (1 ≤ r.gap ∧ r.gap ≤ 60) = b2) : rotB m r = (b1 && b2 && r.nights.all (ascB (m - 1) 0)) := by
  unfold rotB
  rw [← h1, ← h2]
  congr 2
  exact decide_eq_decide.2 (by omega)

set_option maxRecDepth 100000 in
set_option maxHeartbeats 4000000 in
theorem ccheckR_any (c : Cir) (l : List Tri) (r : Rot) (sv wv v nv : Value) (w : World) (hv : CirAt w sv wv c) (hl : TrAt w v l) (hr : NsAt w nv r.nights) :
    Calls Try.prog 104 #[cirV c sv wv, v, rotV r nv] w fun e w' => e = .returned (.int .i64 (chkR c l r)) ∧ Below w.heap.size w w' := by
  have hb0 := blw2 w (cirO c sv wv) (rotO r nv)
  have HB := Lib.hid hb0
  have K1 := Lib.hid (two_nw w (cirO c sv wv) (rotO r nv))
  have HV := Lib.hid (hv.below hb0 (Nat.le_refl _))
  have HT := Lib.hid (hl.below hb0 (Nat.le_refl _))
  have HN := Lib.hid (hr.below hb0 (Nat.le_refl _))
  obtain ⟨ta, tcap, rfl, _, m2, _⟩ := hl
  obtain ⟨na, ncap, rfl, m3, m4, _⟩ := hr
  clear hb0
  by_cases hq : chkT c l = 0
  · have HQ := Lib.hid hq
    have l12 := (tval hq).n
    obtain ⟨b1, h1⟩ : ∃ b, decide (1 ≤ (r.nights.length : Int) ∧ (r.nights.length : Int) ≤ 60) = b := ⟨_, rfl⟩
    obtain ⟨b2, h2⟩ : ∃ b, decide (1 ≤ r.gap ∧ r.gap ≤ 60) = b := ⟨_, rfl⟩
    have HS := Lib.hid (rot_sizes (m := l.length) h1 h2)
    have H1 := Lib.hid h1
    have H2 := Lib.hid h2
    clear h1 h2 hq
    by_cases hall : (b1 && b2) = true
    · simp only [Bool.and_eq_true] at hall
      obtain ⟨rfl, rfl⟩ := hall
      have g1 := H1.out
      simp only [decide_eq_true_eq] at g1
      obtain ⟨g1, g2⟩ := g1
      go_enter Try.func104, Try.ntmps104
      go_wp2_with fail
      generalize (w.alloc (cirO c sv wv)).alloc (rotO r (.slice na r.nights.length ncap)) = wA at *
      refine (ccheckT_any c l _ _ _ _ HV.out HT.out).mono ?_
      rintro e w1 ⟨rfl, hb1⟩
      rw [HQ.out]
      have K2 := Lib.hid (keepZ K1.out hb1)
      have HB1 := Lib.hid hb1
      have c1 := block_cell K2.out
      clear hb1
      go_wp2_with (go_at_call 75; (first | (with_reducible refine (cwithin_is _ (r.nights.length : Int) 1 60 _ H1.out).mono ?_) | (with_reducible refine (cwithin_is _ r.gap 1 60 _ H2.out).mono ?_)); rintro e w2 ⟨rfl, rfl⟩)
      go_loop [30] (fun i => ∃ k : Nat, k ≤ r.nights.length ∧ i = .int .i64 k ∧ Hid (∀ j, j < k → ascB ((l.length : Int) - 1) 0 (r.nights.getD j []) = true)) (fun i => r.nights.length - (intOf i).toNat)
      case atStart => exact ⟨0, Nat.zero_le _, rfl, Lib.hid (fun j hj => by omega)⟩
      case round =>
        obtain ⟨k, hk, rfl, hf⟩ := hrel
        by_cases hlt : k < r.nights.length
        · obtain ⟨na', ncap', e1, _, _, hcc⟩ := HN.out
          injection e1 with e1 e2 e3
          subst e1
          obtain ⟨b, off, rfl, hbl, hcc⟩ := hcc (by omega)
          obtain ⟨u, q1, q2⟩ := hcc k hlt
          have g3 := (HB1.out.cell (p := ⟨b, off + k, none⟩) hbl).trans q1
          have HI := Lib.hid (q2.below HB1.out (Nat.le_refl _))
          obtain ⟨ua, ucap, rfl, _⟩ := q2
          cases hq2 : ascB ((l.length : Int) - 1) 0 (r.nights.getD k [])
          · have HR := Lib.hid (chkR_bad (r := r) HQ.out (by
              rw [HS.out]
              have e : r.nights.all (ascB ((l.length : Int) - 1) 0) = false := by
                rw [List.all_eq_false]
                exact ⟨_, getD_mem hlt [], by rw [hq2]; simp⟩
              rw [e]; rfl))
            have HA := Lib.hid hq2
            generalize r.nights.getD k [] = ks at *
            clear hcc q1 hq2 e2 e3
            go_wp2_with fail
            refine (ascend_is _ ks 0 _ _ _ HI.out (by omega) (by omega) (by omega) (by omega) HA.out).mono ?_
            rintro e w2 ⟨rfl, rfl⟩
            go_wp2
            go_ret
            exact ⟨ret_int HR.out, HB.out.trans (HB1.out.mono HB.out.size)⟩
          · have HA := Lib.hid hq2
            generalize hks : r.nights.getD k [] = ks at *
            have HKS := Lib.hid hks
            clear hcc q1 hq2 e2 e3 hks
            go_wp2_with fail
            refine (ascend_is _ ks 0 _ _ _ HI.out (by omega) (by omega) (by omega) (by omega) HA.out).mono ?_
            rintro e w2 ⟨rfl, rfl⟩
            go_wp2
            go_round
            case rel => exact ⟨k + 1, hlt, by go_num, Lib.hid (fun j hj => by
              by_cases e : j = k
              · rw [e, HKS.out]; exact HA.out
              · exact hf.out j (by omega))⟩
            case measure => simp [intOf]; omega
        · have HR := Lib.hid (chkR_ok (r := r) HQ.out (by
            rw [HS.out]
            have e : r.nights.all (ascB ((l.length : Int) - 1) 0) = true := by
              rw [List.all_eq_true]
              intro x hx
              obtain ⟨j, hj, rfl⟩ := List.getElem_of_mem hx
              have := hf.out j (by omega)
              rwa [List.getD_eq_getElem?_getD, List.getElem?_eq_getElem hj] at this
            rw [e]; rfl))
          go_wp2_with fail
          go_ret
          exact ⟨ret_int HR.out, HB.out.trans (HB1.out.mono HB.out.size)⟩
    · have HR := Lib.hid (chkR_bad (r := r) HQ.out (by rw [HS.out]; simp only [Bool.not_eq_true] at hall; rw [hall]; rfl))
      cases b1 <;> cases b2
      all_goals try (exact absurd rfl hall)
      all_goals
        clear hall
        go_enter Try.func104, Try.ntmps104
        go_wp2_with fail
        generalize (w.alloc (cirO c sv wv)).alloc (rotO r (.slice na r.nights.length ncap)) = wA at *
        refine (ccheckT_any c l _ _ _ _ HV.out HT.out).mono ?_
        rintro e w1 ⟨rfl, hb1⟩
        rw [HQ.out]
        have c1 := block_cell (keepZ K1.out hb1)
        have HB1 := Lib.hid hb1
        clear hb1
        go_wp2_with (go_at_call 75; (first | (with_reducible refine (cwithin_is _ (r.nights.length : Int) 1 60 _ H1.out).mono ?_) | (with_reducible refine (cwithin_is _ r.gap 1 60 _ H2.out).mono ?_)); rintro e w2 ⟨rfl, rfl⟩)
        go_ret
        exact ⟨ret_int HR.out, HB.out.trans (HB1.out.mono HB.out.size)⟩
  · have HR := Lib.hid (chkR_trial r hq)
    have hqb : (chkT c l == 0) = false := by simpa using hq
    have hqc : (chkT c l != 0) = true := by simpa using hq
    clear hq
    go_enter Try.func104, Try.ntmps104
    go_wp2_with fail
    generalize (w.alloc (cirO c sv wv)).alloc (rotO r (.slice na r.nights.length ncap)) = wA at *
    refine (ccheckT_any c l _ _ _ _ HV.out HT.out).mono ?_
    rintro e w1 ⟨rfl, hb1⟩
    generalize chkT c l = m at *
    go_wp2
    go_ret
    exact ⟨ret_int HR.out, HB.out.trans (hb1.mono HB.out.size)⟩

end Go.Proofs.Ytbiihhokcmdlhaa
