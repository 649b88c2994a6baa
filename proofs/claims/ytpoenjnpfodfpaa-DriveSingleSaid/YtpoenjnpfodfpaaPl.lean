/- Walks of layer 1 (drive): Play of both. -/
import Derived.Test.YtpoenjnpfodfpaaEd
import Derived.Test.YtpoenjnpfodfpaaDd
import Derived.Laws.EntriesVeiled
namespace Go.Proofs.Ytpoenjnpfodfpaa
open Go.RowKit

set_option maxHeartbeats 400000 in
theorem foreign_any (S : Stp) (bs : Nat) (x : Int) (w : World) (hk : w.heap[bs]? = some (.cells #[.int .i64 S.sp, .int .i64 S.lo, .int .i64 S.hi, .int .i64 S.fa] 38 (0, 0))) :
    Calls Try.prog 55 #[.int .i64 x, .pointer (some ⟨bs, 0, none⟩)] w fun e w' => e = .returned (.bool (!inB S x)) ∧ Below w.heap.size w w' := by
  have c := block_cell hk
  clear hk
  cases hq : inB S x
  all_goals
    have HQ := Lib.hid hq
    clear hq
    go_enter Try.func55, Try.ntmps55
    go_wp2_with (go_at_call 45; refine (within_is _ _ _ _ _ HQ.out).mono ?_; rintro e w' ⟨rfl, rfl⟩)
    go_ret
    exact ⟨rfl, Below.refl _ _⟩

set_option maxHeartbeats 400000 in
theorem indexInts_any (v : Value) (xs : List Int) (p : Int → Bool) (bs : Nat) (w : World) (hv : InAt w v xs)
    (hg : ∀ (x : Int) (w1 : World), Below w.heap.size w w1 → Calls Try.prog 55 #[.int .i64 x, .pointer (some ⟨bs, 0, none⟩)] w1 fun e w' => e = .returned (.bool (p x)) ∧ Below w1.heap.size w1 w') :
    Calls Try.prog 71 #[v, .func (.func 55) #[] #[.pointer (some ⟨bs, 0, none⟩)]] w (IdxRes (xs.any p) w) := by
  obtain ⟨a, cap, rfl, hn, hcap, hc⟩ := hv
  have HC := Lib.hid hc
  have HG := Lib.hid hg
  clear hc hg
  go_enter Try.func71, Try.ntmps71
  go_wp2_with fail
  go_loopw [8] (fun i wr => ∃ k : Nat, k ≤ xs.length ∧ i = .int .i64 k ∧ Below w.heap.size w wr ∧ Hid (∀ i, i < k → p (xs.getD i 0) = false)) (fun i _ => xs.length - (intOf i).toNat)
  case atStart => exact ⟨0, Nat.zero_le _, rfl, Below.refl _ _, fun i hi => by omega⟩
  case round =>
    obtain ⟨k, hk, rfl, hb, hf⟩ := hrel
    by_cases hlt : k < xs.length
    · obtain ⟨b, off, rfl, hbl, hc⟩ := HC.out (by omega)
      have g1 := (hb.cell (p := ⟨b, off + k, none⟩) hbl).trans (hc k hlt)
      clear hc
      generalize hq0 : xs.getD k 0 = q at g1
      have Hq := Lib.hid hq0
      clear hq0
      go_wp2_with fail
      refine (HG.out q wr hb).mono ?_
      rintro e w1 ⟨rfl, hb1⟩
      have hb2 := hb.trans (hb1.mono hb.size)
      clear hb hb1 g1
      cases hq : p q
      · have HQ := Lib.hid hq
        clear hq
        go_wp2
        go_roundw
        case rel => exact ⟨k + 1, hlt, by go_num, hb2, fun i hi => by
          by_cases hik : i = k
          · rw [hik, Hq.out]; exact HQ.out
          · exact hf.out i (by omega)⟩
        case measure => simp [intOf]; omega
      · have HQ := Lib.hid hq
        clear hq
        go_wp2
        go_ret
        exact ⟨k, rfl, by rw [any_true_of (d := 0) hlt (by rw [Hq.out]; exact HQ.out)]; simp, hb2⟩
    · go_wp2
      go_ret
      exact ⟨-1, rfl, by rw [any_false_of (d := 0) (fun i hi => hf.out i (by omega))]; simp, hb⟩

set_option maxHeartbeats 400000 in
theorem containsInts_any (v : Value) (xs : List Int) (p : Int → Bool) (q : Bool) (bs : Nat) (w : World) (hv : InAt w v xs) (hq : xs.any p = q)
    (hg : ∀ (x : Int) (w1 : World), Below w.heap.size w w1 → Calls Try.prog 55 #[.int .i64 x, .pointer (some ⟨bs, 0, none⟩)] w1 fun e w' => e = .returned (.bool (p x)) ∧ Below w1.heap.size w1 w') :
    Calls Try.prog 56 #[v, .func (.func 55) #[] #[.pointer (some ⟨bs, 0, none⟩)]] w fun e w' => e = .returned (.bool q) ∧ Below w.heap.size w w' := by
  subst hq
  have HG := Lib.hid hg
  clear hg
  go_enter Try.func56, Try.ntmps56
  go_wp2_with fail
  refine (indexInts_any _ _ p bs _ hv HG.out).mono ?_
  rintro e w1 ⟨r, rfl, hr, hb⟩
  have HR := Lib.hid hr
  clear hr
  go_wp2
  go_ret
  exact ⟨ret_bool HR.out, hb⟩

def speedsL (E : Esc) (S : Stp) (xs : List Int) : List Int := (List.range xs.length).map fun t => playM E S xs (t + 1)
def playR (E : Esc) (S : Stp) (xs : List Int) : List Int × Int := if checkStopM E S = 0 then (if histB S xs = true then (speedsL E S xs, 0) else ([], 1)) else ([], checkStopM E S)
def PlayRes (E : Esc) (S : Stp) (xs : List Int) (w : World) (e : Ending) (w' : World) : Prop := ∃ v, e = .returned (.tuple #[v, .int .i64 (playR E S xs).2]) ∧ InAt w' v (playR E S xs).1 ∧ Below w.heap.size w w'

theorem speedsL_len (E : Esc) (S : Stp) (xs : List Int) : (speedsL E S xs).length = xs.length := by simp [speedsL]
theorem speedsL_at (E : Esc) (S : Stp) (xs : List Int) {t : Nat} (h : t < xs.length) : (speedsL E S xs).getD t 0 = playM E S xs (t + 1) := by
  simp [speedsL, List.getD_eq_getElem?_getD, h]

theorem histB_any {S : Stp} {xs : List Int} (h : xs.length ≤ 100) : histB S xs = !xs.any (fun x => !inB S x) := by
  unfold histB
  rw [decide_eq_true h, Bool.and_true]
  induction xs with
  | nil => rfl
  | cons x xs ih => simp only [List.all_cons, List.any_cons, Bool.not_or, Bool.not_not]; rw [ih (by simp at h; omega)]

theorem histB_long {S : Stp} {xs : List Int} (h : 100 < xs.length) : histB S xs = false := by
  unfold histB
  rw [decide_eq_false (by omega), Bool.and_false]

/-- The speeds up to tick k, and 0 behind it. -/
def doneL (E : Esc) (S : Stp) (xs : List Int) (k : Nat) : List Int := (List.range xs.length).map fun t => if t < k then playM E S xs (t + 1) else 0

theorem doneL_zero (E : Esc) (S : Stp) (xs : List Int) : (doneL E S xs 0).map (Value.int .i64) = List.replicate xs.length (.int .i64 0) := by
  apply List.ext_getElem
  · simp [doneL]
  · intro i h1 h2; simp [doneL]

theorem doneL_succ (E : Esc) (S : Stp) (xs : List Int) (k : Nat) (_hk : k < xs.length) : ((doneL E S xs k).map (Value.int .i64)).set k (.int .i64 (playM E S xs (k + 1))) = (doneL E S xs (k + 1)).map (Value.int .i64) := by
  apply List.ext_getElem
  · simp [doneL]
  · intro i h1 h2
    rw [List.getElem_set]
    by_cases hik : k = i
    · subst hik; simp [doneL]
    · have e : (i < k) = (i < k + 1) := by apply propext; omega
      simp [doneL, hik, e]

theorem doneL_full (E : Esc) (S : Stp) (xs : List Int) : doneL E S xs xs.length = speedsL E S xs := by
  unfold doneL speedsL
  apply List.map_congr_left
  intro t ht
  rw [if_pos (by simpa using ht)]

theorem playR_ok {E : Esc} {S : Stp} {xs : List Int} (h : checkStopM E S = 0) (hh : histB S xs = true) : playR E S xs = (speedsL E S xs, 0) := by unfold playR; rw [if_pos h, if_pos hh]
theorem playR_arg {E : Esc} {S : Stp} {xs : List Int} (h : checkStopM E S = 0) (hh : histB S xs = false) : playR E S xs = ([], 1) := by unfold playR; rw [if_pos h, if_neg (by rw [hh]; decide)]
theorem playR_bad {E : Esc} {S : Stp} {xs : List Int} (h : ¬ checkStopM E S = 0) : playR E S xs = ([], checkStopM E S) := by unfold playR; rw [if_neg h]

set_option maxRecDepth 100000 in
set_option maxHeartbeats 4000000 in
theorem play_any (E : Esc) (S : Stp) (v lv : Value) (xs : List Int) (w : World) (hv : BrAt w v E.bs) (hx : InAt w lv xs) :
    Calls Try.prog 23 #[escV E v, stpV S, lv] w (PlayRes E S xs w) := by
  obtain ⟨i0, hi, hz0, hz1, hz2⟩ := info_parts infoInt
  have hbA := ((Below.refl w.heap.size w).alloc (Nat.le_refl _) (Obj.cells #[.bool E.up, .int .i64 E.em, .int .i64 E.pu, .int .i64 E.dr, .int .i64 E.mo, v] 24)).alloc (by simp) (Obj.cells #[.int .i64 S.sp, .int .i64 S.lo, .int .i64 S.hi, .int .i64 S.fa] 38)
  have k1 := block_alloc (block_new w (Obj.cells #[.bool E.up, .int .i64 E.em, .int .i64 E.pu, .int .i64 E.dr, .int .i64 E.mo, v] 24) w.heap.size rfl) (Obj.cells #[.int .i64 S.sp, .int .i64 S.lo, .int .i64 S.hi, .int .i64 S.fa] 38)
  have k2 := block_new (w.alloc (Obj.cells #[.bool E.up, .int .i64 E.em, .int .i64 E.pu, .int .i64 E.dr, .int .i64 E.mo, v] 24)) (Obj.cells #[.int .i64 S.sp, .int .i64 S.lo, .int .i64 S.hi, .int .i64 S.fa] 38) (w.heap.size + 1) (by simp only [size_alloc])
  have hsz : ((w.alloc (Obj.cells #[.bool E.up, .int .i64 E.em, .int .i64 E.pu, .int .i64 E.dr, .int .i64 E.mo, v] 24)).alloc (Obj.cells #[.int .i64 S.sp, .int .i64 S.lo, .int .i64 S.hi, .int .i64 S.fa] 38)).heap.size = w.heap.size + 2 := by simp only [size_alloc]
  have hv1 := hv.below hbA (Nat.le_refl _)
  obtain ⟨a, cap, rfl, hn, hcap, hc⟩ := hv
  clear hc
  have hx1 := hx.below hbA (Nat.le_refl _)
  obtain ⟨xa, xc, rfl, xn, xm, hxc⟩ := hx
  clear hxc
  by_cases hf : checkStopM E S = 0
  · obtain ⟨hE, hS⟩ := checkStopM_num hf
    have Hf := Lib.hid hf
    clear hf
    by_cases hlen : xs.length ≤ 100
    · cases hh : histB S xs
      · have Hh := Lib.hid hh
        have hany : xs.any (fun x => !inB S x) = true := by rw [histB_any hlen] at hh; simpa using hh
        have Hany := Lib.hid hany
        clear hh hany
        go_enter Try.func23, Try.ntmps23
        go_wp2_with fail
        generalize ((w.alloc (Obj.cells #[.bool E.up, .int .i64 E.em, .int .i64 E.pu, .int .i64 E.dr, .int .i64 E.mo, .slice a E.bs.length cap] 24)).alloc (Obj.cells #[.int .i64 S.sp, .int .i64 S.lo, .int .i64 S.hi, .int .i64 S.fa] 38)) = wA at *
        have HSZ := Lib.hid hsz
        have HV := Lib.hid hv1
        have K1 := Lib.hid k1
        have K2 := Lib.hid k2
        clear hsz hv1 k1 k2
        have HX := Lib.hid hx1
        clear hx1
        refine (checkStop_any _ _ _ _ HV.out).mono ?_
        rintro e w1 ⟨rfl, hb1⟩
        rw [Hf.out]
        have HK2 := Lib.hid ((hb1.block (w.heap.size + 1) (by have := HSZ.out; omega)).trans K2.out)
        have c1 := block_cell ((hb1.block w.heap.size (by have := HSZ.out; omega)).trans K1.out)
        have c2 := block_cell ((hb1.block (w.heap.size + 1) (by have := HSZ.out; omega)).trans K2.out)
        go_wp2_with fail
        refine (containsInts_any _ xs (fun x => !inB S x) true (w.heap.size + 1) _ (HX.out.below hb1 (Nat.le_refl _)) Hany.out (fun x w2 hb2 => foreign_any S _ x w2 ((hb2.block (w.heap.size + 1) (lt_of_block HK2.out)).trans HK2.out))).mono ?_
        rintro e w2 ⟨rfl, hb2⟩
        go_wp2
        go_ret2
        refine ⟨.slice none 0 0, ?_, ?_, hbA.trans ((hb1.trans (hb2.mono hb1.size)).mono hbA.size)⟩
        · rw [playR_arg Hf.out Hh.out]; rfl
        · rw [playR_arg Hf.out Hh.out]; exact InAt.nil _
      · have Hh := Lib.hid hh
        have hany : xs.any (fun x => !inB S x) = false := by rw [histB_any hlen] at hh; simpa using hh
        have Hany := Lib.hid hany
        have HIn := Lib.hid (histB_span hh).1
        clear hh hany
        go_enter Try.func23, Try.ntmps23
        go_wp2_with fail
        generalize ((w.alloc (Obj.cells #[.bool E.up, .int .i64 E.em, .int .i64 E.pu, .int .i64 E.dr, .int .i64 E.mo, .slice a E.bs.length cap] 24)).alloc (Obj.cells #[.int .i64 S.sp, .int .i64 S.lo, .int .i64 S.hi, .int .i64 S.fa] 38)) = wA at *
        have HSZ := Lib.hid hsz
        have HV := Lib.hid hv1
        have K1 := Lib.hid k1
        have K2 := Lib.hid k2
        clear hsz hv1 k1 k2
        have HX := Lib.hid hx1
        clear hx1
        refine (checkStop_any _ _ _ _ HV.out).mono ?_
        rintro e w1 ⟨rfl, hb1⟩
        rw [Hf.out]
        have HK2 := Lib.hid ((hb1.block (w.heap.size + 1) (by have := HSZ.out; omega)).trans K2.out)
        have c1 := block_cell ((hb1.block w.heap.size (by have := HSZ.out; omega)).trans K1.out)
        have c2 := block_cell ((hb1.block (w.heap.size + 1) (by have := HSZ.out; omega)).trans K2.out)
        go_wp2_with fail
        refine (containsInts_any _ xs (fun x => !inB S x) false (w.heap.size + 1) _ (HX.out.below hb1 (Nat.le_refl _)) Hany.out (fun x w2 hb2 => foreign_any S _ x w2 ((hb2.block (w.heap.size + 1) (lt_of_block HK2.out)).trans HK2.out))).mono ?_
        rintro e w2 ⟨rfl, hb2⟩
        have hb12 := hb1.trans (hb2.mono hb1.size)
        clear c1 c2
        go_wp2_with (refine wpList_make_full _ rfl (.tmp 29) (.tmp 29) 39 rfl w2.heap.size 3 i0 (.int .i64 0) 1 Try.underlying39 hi hz0 hz1 .i64 .i64 _ _ xs.length rfl rfl rfl rfl ?m1 ?m2 (Nat.le_refl _) ?_)
        case m1 => rw [hz2]; omega
        case m2 => unfold maxLen; omega
        intro w3 hown hgrow
        have hown0 : w3.ownsRow w2.heap.size 3 1 (.slice (some ⟨w2.heap.size, 0, none⟩) xs.length xs.length) xs.length ((doneL E S xs 0).map (Value.int .i64)) := by
          rw [doneL_zero]
          simpa [Value.cells, toList_madeCells_one] using hown
        have hb3 : Below w2.heap.size w2 w3 := (Below.refl _ _).grown hgrow (Nat.le_refl _) (fun k h => by cases h)
        have hb13 := hb12.trans (hb3.mono hb12.size)
        have HO := Lib.hid hown0
        clear hown hown0 hgrow
        have c1 := block_cell ((hb13.block w.heap.size (by have := HSZ.out; omega)).trans K1.out)
        have c2 := block_cell ((hb13.block (w.heap.size + 1) (by have := HSZ.out; omega)).trans K2.out)
        go_wp2_with fail
        clear c1 c2
        have HB12 := Lib.hid hb12
        have hz12 : wA.heap.size ≤ w2.heap.size := hb12.size
        clear hb12 hb13 hb1 hb2
        go_loopw [11, 35] (fun s i wr => ∃ k : Nat, k ≤ xs.length ∧ i = .int .i64 k ∧ s = .int .i64 (playM E S xs k) ∧ Below w2.heap.size w2 wr ∧
          wr.ownsRow w2.heap.size 3 1 (.slice (some ⟨w2.heap.size, 0, none⟩) xs.length xs.length) xs.length ((doneL E S xs k).map (Value.int .i64))) (fun _ i _ => xs.length - (intOf i).toNat)
        case atStart => exact ⟨0, Nat.zero_le _, rfl, rfl, hb3, HO.out⟩
        case round =>
          obtain ⟨k, hk, rfl, rfl, hbr, hown⟩ := hrel
          have hbA' := HB12.out.trans (hbr.mono hz12)
          have hzr : w2.heap.size ≤ wr.heap.size := hbr.size
          by_cases hlt : k < xs.length
          · obtain ⟨s1, s2⟩ := HIn.out k hlt
            obtain ⟨p1, p2⟩ := play_bd hE hS HIn.out k hk
            have l0 := hS.lo0
            have l2 := hS.hi1
            obtain ⟨_, _, hx0, _, _, hxc⟩ := HX.out
            cases hx0
            obtain ⟨b, off, rfl, hbl, hxc⟩ := hxc (by omega)
            have hld := (hbA'.cell (p := ⟨b, off + k, none⟩) hbl).trans (hxc k hlt)
            have b0 := bw_cell (B := wr.heap.size) hld (by omega)
            have b1 := bw_cells (B := wr.heap.size) ((hbA'.block w.heap.size (by have := HSZ.out; omega)).trans K1.out) (by have := HSZ.out; have := hbA'.size; omega)
            have b2 := bw_cells (B := wr.heap.size) ((hbA'.block (w.heap.size + 1) (by have := HSZ.out; omega)).trans K2.out) (by have := HSZ.out; have := hbA'.size; omega)
            obtain ⟨g1, g2⟩ := forceTo_bd3 hE (gripB E S k)
            have g1 : 0 ≤ gripM E S k := g1
            have g2 : gripM E S k ≤ 30000000 := g2
            have HP := Lib.hid (show nextM E (playM E S xs k) (xs.getD k 0) (gripM E S k) = playM E S xs (k + 1) from rfl)
            generalize xs.getD k 0 = ld at *
            have i1 : (0 : Int) ≤ (k : Int) := by omega
            have i2 : (k : Int) < xs.length := by omega
            clear hxc hld
            go_wp2_with fail
            refine wp_region_below (by kernel_rfl) (by kernel_rfl) (Below.refl wr.heap.size wr) ?_
            repeat (refine wpQuiet_step (fun K hK => ?_); go_simp; first | (refine hK _ ?_; clear hK K) | (apply Exists.intro; refine ⟨fun _ => ?_, hK _ ?_⟩; (first | (go_at_call 57; exact bw_call (Nat.le_refl _) (grip_any E S _ k _ (HV.out.below (hbA'.trans ((BW.b _).mono hbA'.size)) (Nat.le_refl _)) hE hS.fa0 hS.fa7)) | (go_at_call 46; exact bw_call (Nat.le_refl _) (next_any E _ _ _ _ _ (Esc.ok_num hE) (by omega) (by omega) (by omega) (by omega) (by omega) (by omega)))); clear hK K))
            refine wpQuiet_nil ?_
            intro wq hwq0
            have hwq := bw_out hwq0
            clear hwq0
            rw [HP.out]
            have hown1 := ownsRow_below hown hwq
            have gc : wq.cell? ⟨w2.heap.size, k, none⟩ = some (.int .i64 0) := by
              rw [hown1.cellAt k (by omega)]
              simp [doneL, hlt]
            have gf : wq.frozen? ⟨w2.heap.size, k, none⟩ = false := hown1.frozenAt k
            have hst := (hown1.stored k (.int .i64 (playM E S xs (k + 1)))).1
            rw [doneL_succ E S xs k hlt] at hst
            have HST := Lib.hid hst
            have HBZ := Lib.hid ((hbr.trans (hwq.mono hzr)).setCell (p := ⟨w2.heap.size, k, none⟩) (Nat.le_refl _) (.int .i64 (playM E S xs (k + 1))))
            clear b0 b1 b2 hst hown1 hown
            go_wp2
            go_roundw
            case rel => exact ⟨k + 1, hlt, by go_num, rfl, HBZ.out, HST.out⟩
            case measure => simp [intOf]; omega
          · have hkn' : k = xs.length := by omega
            subst hkn'
            rw [doneL_full] at hown
            go_wp2
            go_ret2
            refine ⟨.slice (some ⟨w2.heap.size, 0, none⟩) xs.length xs.length, ?_, ?_, hbA.trans (hbA'.mono hbA.size)⟩
            · rw [playR_ok Hf.out Hh.out]; rfl
            · rw [playR_ok Hf.out Hh.out]; exact InAt.of_own hown
    · have Hl := Lib.hid (histB_long (S := S) (xs := xs) (by omega))
      go_enter Try.func23, Try.ntmps23
      go_wp2_with fail
      generalize ((w.alloc (Obj.cells #[.bool E.up, .int .i64 E.em, .int .i64 E.pu, .int .i64 E.dr, .int .i64 E.mo, .slice a E.bs.length cap] 24)).alloc (Obj.cells #[.int .i64 S.sp, .int .i64 S.lo, .int .i64 S.hi, .int .i64 S.fa] 38)) = wA at *
      have HSZ := Lib.hid hsz
      have HV := Lib.hid hv1
      have K1 := Lib.hid k1
      have K2 := Lib.hid k2
      clear hsz hv1 k1 k2
      refine (checkStop_any _ _ _ _ HV.out).mono ?_
      rintro e w1 ⟨rfl, hb1⟩
      rw [Hf.out]
      have c1 := block_cell ((hb1.block w.heap.size (by have := HSZ.out; omega)).trans K1.out)
      have c2 := block_cell ((hb1.block (w.heap.size + 1) (by have := HSZ.out; omega)).trans K2.out)
      go_wp2
      go_ret2
      refine ⟨.slice none 0 0, ?_, ?_, hbA.trans (hb1.mono hbA.size)⟩
      · rw [playR_arg Hf.out Hl.out]; rfl
      · rw [playR_arg Hf.out Hl.out]; exact InAt.nil _
  · have Hf := Lib.hid hf
    have h0 : (checkStopM E S == 0) = false := by simpa using hf
    clear hf
    go_enter Try.func23, Try.ntmps23
    go_wp2_with fail
    generalize ((w.alloc (Obj.cells #[.bool E.up, .int .i64 E.em, .int .i64 E.pu, .int .i64 E.dr, .int .i64 E.mo, .slice a E.bs.length cap] 24)).alloc (Obj.cells #[.int .i64 S.sp, .int .i64 S.lo, .int .i64 S.hi, .int .i64 S.fa] 38)) = wA at *
    have HSZ := Lib.hid hsz
    have HV := Lib.hid hv1
    have K1 := Lib.hid k1
    have K2 := Lib.hid k2
    clear hsz hv1 k1 k2
    refine (checkStop_any _ _ _ _ HV.out).mono ?_
    rintro e w1 ⟨rfl, hb1⟩
    go_wp2
    go_ret2
    refine ⟨.slice none 0 0, ?_, ?_, hbA.trans (hb1.mono hbA.size)⟩
    · rw [playR_bad Hf.out]; rfl
    · rw [playR_bad Hf.out]; exact InAt.nil _

end Go.Proofs.Ytpoenjnpfodfpaa
