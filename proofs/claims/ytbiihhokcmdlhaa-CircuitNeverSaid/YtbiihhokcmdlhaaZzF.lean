import Derived.Test.YtbiihhokcmdlhaaZzE
import Derived.RegionTactic
import Derived.Laws.StructEq
import Derived.ChangeAlike
/- Texts of one seat, merged: Cr Cs Ct Cu -/
/- Walks of layer 3 (circuit): CheckRota of the program. -/
namespace Go.Proofs.Ytbiihhokcmdlhaa
open Go.RowKit

def rotaM (c : Cir) (l : List Tri) (r : Rot) : TrA := if chkR c l r = 0 then triesM (roundM c l r) r.gap.toNat c.sw.length else ⟨0, 0, false⟩
abbrev rotaV (a : TrA) (e : Int) : Value := .tuple #[.int .i64 a.sw, .int .i64 a.night, .bool a.ok, .int .i64 e]

theorem rota_bad {c : Cir} {l : List Tri} {r : Rot} (h : ¬ chkR c l r = 0) : rotaM c l r = ⟨0, 0, false⟩ := by unfold rotaM; rw [if_neg h]
theorem rota_ok {c : Cir} {l : List Tri} {r : Rot} (h : chkR c l r = 0) : rotaM c l r = triesM (roundM c l r) r.gap.toNat c.sw.length := by unfold rotaM; rw [if_pos h]

/-- What a valid rota is. -/
structure RVal (c : Cir) (l : List Tri) (r : Rot) : Prop where
  t : TVal c l
  n1 : 1 ≤ r.nights.length
  n2 : r.nights.length ≤ 60
  g1 : 1 ≤ r.gap
  g2 : r.gap ≤ 60
  a : ∀ ks ∈ r.nights, ∀ k ∈ ks, 0 ≤ k ∧ k < l.length

theorem rval {c : Cir} {l : List Tri} {r : Rot} (h : chkR c l r = 0) : RVal c l r := by
  unfold chkR at h
  split at h
  · rename_i hq
    split at h
    · rename_i hr
      unfold rotB at hr
      simp only [Bool.and_eq_true, decide_eq_true_eq, List.all_eq_true] at hr
      obtain ⟨⟨⟨h1, h2⟩, h3, h4⟩, h5⟩ := hr
      exact ⟨tval hq, by omega, by omega, h3, h4, fun ks hks k hk => by have := ascB_mem (h5 ks hks) k hk; omega⟩
    · omega
  · omega

/-- A list of sets while it is made: the first k, zeros behind. -/
def fillW (xs : List Nat) (k : Nat) : List Int := natL (xs.take k) ++ List.replicate (xs.length - k) 0
theorem fillW_len (xs : List Nat) {k : Nat} (h : k ≤ xs.length) : (fillW xs k).length = xs.length := by unfold fillW natL; simp; omega
theorem fillW_zero (xs : List Nat) : fillW xs 0 = List.replicate xs.length 0 := by simp [fillW, natL]
theorem fillW_all (xs : List Nat) : fillW xs xs.length = natL xs := by simp [fillW]
theorem fillW_set (xs : List Nat) {k : Nat} (h : k < xs.length) : (fillW xs k).set k (xs.getD k 0 : Nat) = fillW xs (k + 1) := by
  unfold fillW
  obtain ⟨d, hd⟩ : ∃ d, xs.length - k = d + 1 := ⟨xs.length - k - 1, by omega⟩
  have hd2 : xs.length - (k + 1) = d := by omega
  have hn : (natL (xs.take k)).length = k := by unfold natL; simp; omega
  rw [hd, hd2, List.set_append_right _ _ (by omega), hn, Nat.sub_self, List.replicate_succ, List.set_cons_zero, List.take_succ_eq_append_getElem h, List.getD_eq_getElem?_getD, List.getElem?_eq_getElem h]
  unfold natL
  rw [List.map_append, List.append_assoc]
  rfl

theorem sets_lt {c : Cir} {l : List Tri} (hc : CVal c) : ∀ s ∈ setsM c l, s < 1048576 := by
  intro s hs
  unfold setsM at hs
  obtain ⟨t, _, rfl⟩ := List.mem_map.1 hs
  have := shown_lt c t hc
  omega

theorem round_len (c : Cir) (l : List Tri) (r : Rot) : (roundM c l r).length = r.nights.length := by simp [roundM]
theorem round_at {c : Cir} {l : List Tri} {r : Rot} {k : Nat} (h : k < r.nights.length) : (roundM c l r).getD k 0 = unionM (setsM c l) (r.nights.getD k []) := by
  unfold roundM
  rw [List.getD_eq_getElem?_getD, List.getElem?_map, List.getD_eq_getElem?_getD, List.getElem?_eq_getElem h]; rfl
theorem round_lt {c : Cir} {l : List Tri} {r : Rot} (hc : CVal c) : ∀ s ∈ roundM c l r, s < 1048576 := by
  intro s hs
  unfold roundM at hs
  obtain ⟨t, _, rfl⟩ := List.mem_map.1 hs
  exact union_lt (sets_lt hc) t

set_option maxRecDepth 100000 in
set_option maxHeartbeats 4000000 in
theorem crota_any (c : Cir) (l : List Tri) (r : Rot) (sv wv v nv : Value) (w : World) (hv : CirAt w sv wv c) (hl : TrAt w v l) (hr : NsAt w nv r.nights) :
    Calls Try.prog 41 #[cirV c sv wv, v, rotV r nv] w fun e w' => e = .returned (rotaV (rotaM c l r) (chkR c l r)) ∧ Below w.heap.size w w' := by
  have hb0 := blw2 w (cirO c sv wv) (rotO r nv)
  have HB := Lib.hid hb0
  have K0 := Lib.hid (two_od w (cirO c sv wv) (rotO r nv))
  have K1 := Lib.hid (two_nw w (cirO c sv wv) (rotO r nv))
  have HV := Lib.hid (hv.below hb0 (Nat.le_refl _))
  have HT := Lib.hid (hl.below hb0 (Nat.le_refl _))
  have HN := Lib.hid (hr.below hb0 (Nat.le_refl _))
  obtain ⟨⟨sa, scap, rfl, _⟩, _⟩ := hv
  obtain ⟨ta, tcap, rfl, _, m2, _⟩ := hl
  obtain ⟨na, ncap, rfl, m3, m4, _⟩ := hr
  clear hb0
  by_cases hq : chkR c l r = 0
  · have HQ := Lib.hid hq
    have HR := Lib.hid (rota_ok hq)
    have HRV := Lib.hid (rval hq)
    have n1 := (rval hq).n1
    have n2 := (rval hq).n2
    have g1 := (rval hq).g1
    have g2 := (rval hq).g2
    have s12 := (rval hq).t.cv.s2
    obtain ⟨gp, hgp⟩ : ∃ g : Nat, r.gap = g := ⟨r.gap.toNat, by omega⟩
    have HG := Lib.hid hgp
    obtain ⟨i0, hi, hz0, hz1, hz2⟩ := info_parts infoInt
    clear hq hgp
    go_enter Try.func41, Try.ntmps41
    go_wp2_with fail
    generalize (w.alloc (cirO c (.slice sa c.sw.length scap) wv)).alloc (rotO r (.slice na r.nights.length ncap)) = wA at *
    refine (ccheckR_any c l r _ _ _ _ _ HV.out HT.out HN.out).mono ?_
    rintro e w1 ⟨rfl, hb1⟩
    rw [HQ.out]
    have HB1 := Lib.hid hb1
    have c0 := block_cell (keepZ K0.out hb1)
    clear hb1
    go_wp2_with fail
    refine (shownEach_any c l _ _ _ _ (HV.out.below HB1.out (Nat.le_refl _)) (HT.out.below HB1.out (Nat.le_refl _)) HRV.out.t).mono ?_
    rintro e w2 ⟨v, rfl, hin, hb2⟩
    have HB2 := Lib.hid (HB1.out.trans (hb2.mono HB1.out.size))
    have HI := Lib.hid hin
    obtain ⟨va, vcap, rfl, _⟩ := hin
    have c1 := block_cell (keepZ K1.out HB2.out)
    clear hb2 c0
    go_wp2_with (refine wpList_make_full _ rfl (.tmp 26) (.tmp 26) 22 rfl w2.heap.size 3 i0 (.int .i64 0) 1 Try.underlying22 hi hz0 hz1 .i64 .i64 _ _ r.nights.length rfl rfl (by omega) (by omega) ?m1 ?m2 (Nat.le_refl _) ?_)
    case m1 => rw [hz2]; omega
    case m2 => unfold maxLen; omega
    intro w3 hown hgrow
    have hb3 : Below w2.heap.size w2 w3 := (Below.refl _ _).grown hgrow (Nat.le_refl _) (fun k h => by cases h)
    have hrow := (IntRow.of_own (xs := List.replicate r.nights.length 0) (by rw [← made1]; exact hown)).1
    rw [← round_len c l r, ← fillW_zero] at hrow
    have R0 := Lib.hid hrow
    have HB3 := Lib.hid hb3
    have c1 := block_cell (keepZ (keepZ K1.out HB2.out) HB3.out)
    clear hown hgrow hb3 hrow hi hz0 hz1 hz2
    go_wp2_with fail
    clear c1
    have z1 := lt_of_block (keepZ K1.out HB2.out)
    have z0 := lt_of_block (keepZ K0.out HB2.out)
    have K12 := Lib.hid (keepZ K1.out HB2.out)
    have K02 := Lib.hid (keepZ K0.out HB2.out)
    generalize hG : w2.heap.size = G at *
    have HG0 := Lib.hid hG
    clear hG
    go_loopw [31] (fun i wr => ∃ k : Nat, k ≤ r.nights.length ∧ i = .int .i64 k ∧ Hid (Below G w2 wr) ∧ Hid (IntRow wr G (fillW (roundM c l r) k))) (fun i _ => r.nights.length - (intOf i).toNat)
    case atStart => exact ⟨0, Nat.zero_le _, rfl, HB3, R0⟩
    case round =>
      obtain ⟨k, hk, rfl, hb, hR⟩ := hrel
      by_cases hlt : k < r.nights.length
      · obtain ⟨na', ncap', e1, _, _, hcc⟩ := HN.out
        injection e1 with e1 e2 e3
        subst e1
        obtain ⟨b, off, rfl, hbl, hcc⟩ := hcc (by omega)
        obtain ⟨u, q1, q2⟩ := hcc k hlt
        have HX := Lib.hid (HB2.out.trans (hb.out.mono (by rw [← HG0.out]; exact HB2.out.size)))
        have g3 := (HX.out.cell (p := ⟨b, off + k, none⟩) hbl).trans q1
        have HIK := Lib.hid (q2.below HX.out (Nat.le_refl _))
        have HIS := Lib.hid (HI.out.below hb.out (by rw [HG0.out]; exact Nat.le_refl _))
        have hbl2 := Nat.lt_of_lt_of_le hbl HX.out.size
        obtain ⟨ua, ucap, rfl, _⟩ := q2
        have HKS := Lib.hid (HRV.out.a _ (getD_mem hlt []))
        have HSET := Lib.hid (fillW_set (roundM c l r) (k := k) (by rw [round_len]; exact hlt))
        rw [round_at hlt] at HSET
        have HLEN := Lib.hid (show (fillW (roundM c l r) k).length = r.nights.length by rw [fillW_len _ (by rw [round_len]; exact hk), round_len])
        have c1 := block_cell ((hb.out.block _ z1).trans K12.out)
        have HST := Lib.hid (sets_lt (l := l) HRV.out.t.cv)
        have hsl : (setsM c l).length = l.length := by simp [setsM]
        have HSL := Lib.hid hsl
        have q4 := hR.out.cell (i := k) (by rw [HLEN.out]; exact hlt)
        have f4 := hR.out.free k
        have z4 := hR.out.lt
        generalize r.nights.getD k [] = ks at *
        clear hcc q1 e2 e3 hsl
        have k1 : (0 : Int) ≤ k := by omega
        have k2 : (k : Int) < r.nights.length := by omega
        go_wp2_with fail
        refine (union_any (setsM c l) ks _ _ _ HIS.out HIK.out HST.out (fun x hx => by have := HKS.out x hx; rw [HSL.out]; exact this)).mono ?_
        rintro e w4 ⟨rfl, rfl⟩
        generalize unionM (setsM c l) ks = U at *
        have HR4 := Lib.hid (hR.out.set (i := k) (by rw [HLEN.out]; exact hlt) (U : Nat))
        have HB4 := Lib.hid (hb.out.setCell (p := ⟨G, k, none⟩) (Nat.le_refl _) (.int .i64 (U : Nat)))
        go_wp2_with fail
        go_roundw
        case rel => exact ⟨k + 1, hlt, by go_num, HB4, by rw [← HSET.out]; exact HR4⟩
        case measure => simp [intOf]; omega
      · obtain rfl : k = r.nights.length := by omega
        have HX := Lib.hid (HB2.out.trans (hb.out.mono (by rw [← HG0.out]; exact HB2.out.size)))
        have c1 := block_cell ((hb.out.block _ z1).trans K12.out)
        have c0 := block_cell ((hb.out.block _ z0).trans K02.out)
        have hrow := hR.out
        rw [← round_len c l r, fillW_all] at hrow
        have hln : (natL (roundM c l r)).length = r.nights.length := by rw [natL_len, round_len]
        have hin := hrow.inAt (cap := r.nights.length) (by rw [hln]; exact Nat.le_refl _) (by omega)
        rw [hln] at hin
        have HIN := Lib.hid hin
        have HRL := Lib.hid (round_len c l r)
        have HRT := Lib.hid (round_lt (l := l) (r := r) HRV.out.t.cv)
        clear hrow hin hln
        rw [HG.out] at c1
        go_wp2_with fail
        refine (tries_any c.sw.length (roundM c l r) gp _ _ HIN.out (by rw [HRL.out]; exact n1) (by rw [HRL.out]; omega) (by have := HG.out; omega) s12 HRT.out).mono ?_
        rintro e w4 ⟨rfl, hb4⟩
        have HRR := Lib.hid (show rotaM c l r = triesM (roundM c l r) gp c.sw.length by rw [HR.out, HG.out, Int.toNat_natCast])
        generalize triesM (roundM c l r) gp c.sw.length = T at *
        obtain ⟨t1, t2, t3⟩ := T
        clear c0 c1
        go_wp2
        exact bodyPost_ret (v := .tuple #[.int .i64 t1, .int .i64 t2, .bool t3, .int .i64 0]) (by simp [results, Try.results41, go_sem]) rfl ⟨by rw [HRR.out, HQ.out], HB.out.trans ((HX.out.trans (hb4.mono HX.out.size)).mono HB.out.size)⟩
  · have HR := Lib.hid (rota_bad hq)
    have hqb : (chkR c l r == 0) = false := by simpa using hq
    have hqc : (chkR c l r != 0) = true := by simpa using hq
    clear hq
    go_enter Try.func41, Try.ntmps41
    go_wp2_with fail
    generalize (w.alloc (cirO c (.slice sa c.sw.length scap) wv)).alloc (rotO r (.slice na r.nights.length ncap)) = wA at *
    refine (ccheckR_any c l r _ _ _ _ _ HV.out HT.out HN.out).mono ?_
    rintro e w1 ⟨rfl, hb1⟩
    go_wp2
    exact bodyPost_ret (v := .tuple #[.int .i64 0, .int .i64 0, .bool false, .int .i64 (chkR c l r)]) (by simp [results, Try.results41, go_sem]) rfl ⟨by rw [HR.out], HB.out.trans (hb1.mono HB.out.size)⟩

end Go.Proofs.Ytbiihhokcmdlhaa

/- Walks of the statements' own helpers (layer 3): Example, works. -/
namespace Go.Proofs.Ytbiihhokcmdlhaa
open Go.RowKit

def allocs : World → List Obj → World
  | w, [] => w
  | w, o :: os => allocs (w.alloc o) os

theorem allocs_below : ∀ (os : List Obj) (w : World), Below w.heap.size w (allocs w os)
  | [], _w => Below.refl _ _
  | o :: os, w => ((Below.refl _ _).alloc (Nat.le_refl _) o).trans ((allocs_below os (w.alloc o)).mono (al_le _ _))

theorem allocs_at : ∀ (os : List Obj) (w : World) (i : Nat) (o : Obj), os[i]? = some o → (allocs w os).heap[w.heap.size + i]? = some o
  | [], _, _, _, h => by simp at h
  | x :: os, w, 0, o, h => by
    simp only [List.getElem?_cons_zero, Option.some.injEq] at h
    subst h
    exact ((allocs_below os (w.alloc x)).block _ (by rw [size_alloc]; omega)).trans (block_new _ _ _ rfl)
  | x :: os, w, i + 1, o, h => by
    simp only [List.getElem?_cons_succ] at h
    have := allocs_at os (w.alloc x) i o h
    rw [size_alloc] at this
    rw [show w.heap.size + (i + 1) = w.heap.size + 1 + i by omega]
    exact this

/-- Ints in a block known whole. -/
theorem in_block {w : World} {g : Nat} {xs : List Int} (h : w.heap[g]? = some (.cells (xs.map (Value.int .i64)).toArray 3)) (hl : xs.length ≤ 1000) : InAt w (.slice (some ⟨g, 0, none⟩) xs.length xs.length) xs := by
  refine ⟨_, xs.length, rfl, Nat.le_refl _, by omega, fun _ => ⟨g, 0, rfl, lt_of_block h, fun i hi => ?_⟩⟩
  rw [block_cell h, Nat.zero_add, List.getD_eq_getElem?_getD, List.getElem?_eq_getElem hi]
  simp [hi]

def exC : Cir := ⟨2, [1, 1, 2, 2], [⟨2, [1, 2, 3, 4]⟩, ⟨1, [0]⟩, ⟨1, [1]⟩, ⟨1, [2]⟩, ⟨1, [3]⟩]⟩
def exT : List Tri := [⟨1, 1⟩, ⟨1, 2⟩, ⟨2, 3⟩, ⟨2, 4⟩]
def exR : Rot := ⟨[[0], [1], [2], [3]], 4⟩

def ExRes (w : World) (e : Ending) (w' : World) : Prop := ∃ sv wv tv, e = .returned (.tuple #[cirV exC sv wv, tv]) ∧ CirAt w' sv wv exC ∧ TrAt w' tv exT ∧ Below w.heap.size w w'

/-- The blocks that Example makes, the first one's number being n. -/
def exOs (n : Nat) : List Obj := [
  .cells #[.int .i64 2, .slice (some ⟨n + 1, 0, none⟩) 4 4, .slice (some ⟨n + 7, 0, none⟩) 5 5] 25,
  .cells #[.int .i64 1, .int .i64 1, .int .i64 2, .int .i64 2] 3,
  .cells #[.int .i64 1, .int .i64 2, .int .i64 3, .int .i64 4] 3,
  .cells #[.int .i64 0] 3, .cells #[.int .i64 1] 3, .cells #[.int .i64 2] 3, .cells #[.int .i64 3] 3,
  .cells #[.int .i64 2, .slice (some ⟨n + 2, 0, none⟩) 4 4, .int .i64 1, .slice (some ⟨n + 3, 0, none⟩) 1 1, .int .i64 1, .slice (some ⟨n + 4, 0, none⟩) 1 1, .int .i64 1, .slice (some ⟨n + 5, 0, none⟩) 1 1, .int .i64 1, .slice (some ⟨n + 6, 0, none⟩) 1 1] 122,
  .cells #[.int .i64 2, .slice (some ⟨n + 1, 0, none⟩) 4 4, .slice (some ⟨n + 7, 0, none⟩) 5 5] 25,
  .cells #[.int .i64 1, .int .i64 1, .int .i64 1, .int .i64 2, .int .i64 2, .int .i64 3, .int .i64 2, .int .i64 4] 138]

theorem ex_done (w : World) : ExRes w (.returned (.tuple #[.agg #[.int .i64 2, .slice (some ⟨w.heap.size + 1, 0, none⟩) 4 4, .slice (some ⟨w.heap.size + 7, 0, none⟩) 5 5], .slice (some ⟨w.heap.size + 9, 0, none⟩) 4 4])) (allocs w (exOs w.heap.size)) := by
  have h := allocs_at (exOs w.heap.size) w
  have hb := allocs_below (exOs w.heap.size) w
  refine ⟨_, _, _, rfl, ⟨?_, ?_⟩, ?_, hb⟩
  · exact in_block (xs := [1, 1, 2, 2]) (h 1 _ rfl) (by decide)
  · have h7 := h 7 _ rfl
    refine ⟨_, 5, rfl, Nat.le_refl _, by decide, fun _ => ⟨w.heap.size + 7, 0, rfl, lt_of_block h7, fun i hi => ?_⟩⟩
    have hi' : i < 5 := hi
    rw [block_cell h7, block_cell h7]
    match i, hi' with
    | 0, _ => exact ⟨rfl, _, rfl, in_block (xs := [1, 2, 3, 4]) (h 2 _ rfl) (by decide)⟩
    | 1, _ => exact ⟨rfl, _, rfl, in_block (xs := [0]) (h 3 _ rfl) (by decide)⟩
    | 2, _ => exact ⟨rfl, _, rfl, in_block (xs := [1]) (h 4 _ rfl) (by decide)⟩
    | 3, _ => exact ⟨rfl, _, rfl, in_block (xs := [2]) (h 5 _ rfl) (by decide)⟩
    | 4, _ => exact ⟨rfl, _, rfl, in_block (xs := [3]) (h 6 _ rfl) (by decide)⟩
  · have h9 := h 9 _ rfl
    refine ⟨_, 4, rfl, Nat.le_refl _, by decide, fun _ => ⟨w.heap.size + 9, 0, rfl, lt_of_block h9, fun i x hx j u hu => ?_⟩⟩
    have hi' : i < 4 := (List.getElem?_eq_some_iff.1 hx).1
    have hj' : j < 2 := (List.getElem?_eq_some_iff.1 hu).1
    rw [block_cell h9, ← hu]
    match i, hi', j, hj', x, hx with
    | 0, _, 0, _, _, rfl => rfl
    | 0, _, 1, _, _, rfl => rfl
    | 1, _, 0, _, _, rfl => rfl
    | 1, _, 1, _, _, rfl => rfl
    | 2, _, 0, _, _, rfl => rfl
    | 2, _, 1, _, _, rfl => rfl
    | 3, _, 0, _, _, rfl => rfl
    | 3, _, 1, _, _, rfl => rfl

set_option maxRecDepth 100000 in
set_option maxHeartbeats 4000000 in
theorem example_any (w : World) : Calls Try.prog 71 #[] w (ExRes w) := by
  go_enter Try.func71, Try.ntmps71
  go_wp2_with fail
  exact bodyPost_ret (v := .tuple #[.agg #[.int .i64 2, .slice (some ⟨w.heap.size + 1, 0, none⟩) 4 4, .slice (some ⟨w.heap.size + 7, 0, none⟩) 5 5], .slice (some ⟨w.heap.size + 9, 0, none⟩) 4 4]) (by simp [results, Try.results71, go_sem]) rfl (ex_done w)

theorem exPairs : pairsR exC = [(0, 1), (2, 3)] := by kernel_rfl
theorem exChk : chkC exC = 0 := by kernel_rfl
theorem exRota : rotaM exC exT exR = ⟨0, 0, true⟩ := by kernel_rfl
theorem exChkR : chkR exC exT exR = 0 := by kernel_rfl

end Go.Proofs.Ytbiihhokcmdlhaa

/- Walks of the statements' own helpers (layer 3): works. -/
namespace Go.Proofs.Ytbiihhokcmdlhaa
open Go.RowKit

def woOs (n : Nat) : List Obj := [
  .cells #[.int .i64 0] 3, .cells #[.int .i64 1] 3, .cells #[.int .i64 2] 3, .cells #[.int .i64 3] 3,
  .cells #[.slice (some ⟨n, 0, none⟩) 1 1, .slice (some ⟨n + 1, 0, none⟩) 1 1, .slice (some ⟨n + 2, 0, none⟩) 1 1, .slice (some ⟨n + 3, 0, none⟩) 1 1] 22]

theorem wo_rota (w : World) : NsAt (allocs w (woOs w.heap.size)) (.slice (some ⟨w.heap.size + 4, 0, none⟩) 4 4) exR.nights := by
  have h := allocs_at (woOs w.heap.size) w
  have h4 := h 4 _ rfl
  refine ⟨_, 4, rfl, Nat.le_refl _, by decide, fun _ => ⟨w.heap.size + 4, 0, rfl, lt_of_block h4, fun i hi => ?_⟩⟩
  have hi' : i < 4 := hi
  rw [block_cell h4]
  match i, hi' with
  | 0, _ => exact ⟨_, rfl, in_block (xs := [0]) (h 0 _ rfl) (by decide)⟩
  | 1, _ => exact ⟨_, rfl, in_block (xs := [1]) (h 1 _ rfl) (by decide)⟩
  | 2, _ => exact ⟨_, rfl, in_block (xs := [2]) (h 2 _ rfl) (by decide)⟩
  | 3, _ => exact ⟨_, rfl, in_block (xs := [3]) (h 3 _ rfl) (by decide)⟩

set_option maxRecDepth 100000 in
set_option maxHeartbeats 4000000 in
theorem works_any (w : World) : Calls Try.prog 19 #[] w fun e w' => e = .returned (.bool true) ∧ Below w.heap.size w w' := by
  go_enter Try.func19, Try.ntmps19
  go_wp2_with fail
  refine (example_any _).mono ?_
  rintro e w1 ⟨sv, wv, tv, rfl, hc, ht, hb1⟩
  have HC := Lib.hid hc
  have HT := Lib.hid ht
  have HB1 := Lib.hid hb1
  obtain ⟨⟨sa, scap, rfl, _, _, _⟩, ⟨wa, wcap, rfl, _, _, _⟩⟩ := hc
  obtain ⟨ta, tcap, rfl, _, _, _⟩ := ht
  clear hb1
  have k0 := block_new w1 (cirO exC (.slice sa exC.sw.length scap) (.slice wa exC.ws.length wcap)) w1.heap.size rfl
  have hb0 := (Below.refl w1.heap.size w1).alloc (Nat.le_refl _) (cirO exC (.slice sa exC.sw.length scap) (.slice wa exC.ws.length wcap))
  have K0 := Lib.hid k0
  have HB0 := Lib.hid hb0
  clear k0 hb0
  go_wp2_with fail
  generalize w1.alloc (cirO exC (.slice sa exC.sw.length scap) (.slice wa exC.ws.length wcap)) = wA at *
  refine (cpairs_any exC _ _ _ (HC.out.below HB0.out (Nat.le_refl _))).mono ?_
  rintro e w2 ⟨pv, rfl, hp, hb2⟩
  rw [exChk]
  rw [exPairs] at hp
  have HP := Lib.hid hp
  obtain ⟨pa, pcap, rfl, _, _, hpc⟩ := hp
  obtain ⟨pb, poff, rfl, hpb, hpc⟩ := hpc (by decide)
  have HPC := Lib.hid hpc
  have HB2 := Lib.hid (HB0.out.trans (hb2.mono HB0.out.size))
  have K2 := Lib.hid (keepZ K0.out hb2)
  have c0 := block_cell (keepZ K0.out hb2)
  have z0 := lt_of_block (keepZ K0.out hb2)
  clear hb2 hpc
  go_wp2_with fail
  clear c0 z0
  have hwo := wo_rota w2
  have hbo := allocs_below (woOs w2.heap.size) w2
  have HWO := Lib.hid hwo
  have HBO := Lib.hid hbo
  clear hwo hbo
  have HB3 := Lib.hid (HB2.out.trans (HBO.out.mono HB2.out.size))
  refine (crota_any exC exT exR _ _ _ (.slice (some ⟨w2.heap.size + 4, 0, none⟩) 4 4) (allocs w2 (woOs w2.heap.size)) (HC.out.below HB3.out (Nat.le_refl _)) (HT.out.below HB3.out (Nat.le_refl _)) HWO.out).mono ?_
  rintro e w4 ⟨rfl, hb4⟩
  rw [exRota, exChkR]
  have hx := HBO.out.trans (hb4.mono HBO.out.size)
  have q0 := (hx.cell (p := ⟨pb, poff + 0 * 2 + 0, none⟩) hpb).trans (HPC.out 0 (0, 1) rfl 0 _ rfl)
  have q1 := (hx.cell (p := ⟨pb, poff + 0 * 2 + 1, none⟩) hpb).trans (HPC.out 0 (0, 1) rfl 1 _ rfl)
  have q2 := (hx.cell (p := ⟨pb, poff + 1 * 2 + 0, none⟩) hpb).trans (HPC.out 1 (2, 3) rfl 0 _ rfl)
  have q3 := (hx.cell (p := ⟨pb, poff + 1 * 2 + 1, none⟩) hpb).trans (HPC.out 1 (2, 3) rfl 1 _ rfl)
  have HX := Lib.hid (HB1.out.trans ((HB3.out.trans (hb4.mono HB3.out.size)).mono HB1.out.size))
  clear hx hb4
  simp only [Nat.zero_mul, Nat.add_zero, Nat.one_mul] at q0 q1 q2 q3
  have e1 : ∀ W : World, (Op.equalIn 10000 71 (.agg #[.int .i64 0, .int .i64 1]) (.agg #[.int .i64 0, .int .i64 1])).run Try.prog W = .ok true W := fun W => by kernel_rfl
  have e2 : ∀ W : World, (Op.equalIn 10000 71 (.agg #[.int .i64 2, .int .i64 3]) (.agg #[.int .i64 2, .int .i64 3])).run Try.prog W = .ok true W := fun W => by kernel_rfl
  go_wp2_with fail
  go_ret
  exact ⟨rfl, HX.out⟩

end Go.Proofs.Ytbiihhokcmdlhaa

/- Walks of layer 3 (circuit): conducts of the specification. -/
namespace Go.Proofs.Ytbiihhokcmdlhaa
open Go.RowKit

theorem and_one_zero {s k : Nat} (hs : s < 4611686018427387904) : (bits .and .i64 ((s : Int) / 2 ^ k) 1 == 0) = !s.testBit k := by
  have h1 : s / 2 ^ k ≤ s := Nat.div_le_self _ _
  rw [shr_nat]
  have h2 := i64_and_nat (s / 2 ^ k) 1 (by omega) (by omega)
  rw [show ((1 : Nat) : Int) = 1 from rfl] at h2
  rw [h2]
  have h3 := bit_of_shift s k
  have h4 : (s / 2 ^ k) &&& 1 ≤ 1 := Nat.and_le_right
  cases ht : s.testBit k
  · rw [ht] at h3
    simp only [Bool.false_eq_true, iff_false] at h3
    have : (s / 2 ^ k) &&& 1 = 0 := by omega
    rw [this]; rfl
  · rw [ht] at h3
    rw [h3.2 rfl]
    rfl

theorem rcond_is {f : FuncId} {args : Array Value} {w : World} {a q : Bool} (ha : a = q) (h : Calls Try.prog f args w fun e w' => e = .returned (.bool a) ∧ Below w.heap.size w w') : Calls Try.prog f args w fun e w' => e = .returned (.bool q) ∧ Below w.heap.size w w' := by
  subst ha
  exact h

set_option maxRecDepth 100000 in
set_option maxHeartbeats 4000000 in
theorem rconducts_any (c : Cir) (s : Sta) (sv wv : Value) (hc : CVal c) (hs : s.Ok) : ∀ (f i : Nat) (w : World), i < c.ws.length → c.ws.length ≤ i + f → CirAt w sv wv c →
    Calls Try.prog 74 #[cirV c sv wv, .int .i64 i, .int .i64 s.hz, .int .i64 s.cl, .int .i64 s.op] w fun e w' => e = .returned (.bool (cond c s f i)) ∧ Below w.heap.size w w' := by
  intro f
  induction f with
  | zero => intro i w h1 h2; omega
  | succ f ih =>
    intro i w hi hf hv
    have hb0 := (Below.refl w.heap.size w).alloc (Nat.le_refl _) (.cells #[.int .i64 c.hz, sv, wv] 25)
    have k0 := block_new w (.cells #[.int .i64 c.hz, sv, wv] 25) w.heap.size rfl
    have HW := Lib.hid (hc.ws i hi)
    have w24 := hc.w2
    have HV := Lib.hid hv
    obtain ⟨hsv, hwv⟩ := hv
    obtain ⟨sa, scap, rfl, _, _, hsc⟩ := hsv
    obtain ⟨a, cap, rfl, n1, n2, hcc⟩ := hwv
    obtain ⟨b, off, rfl, hbl, hcc⟩ := hcc (by omega)
    obtain ⟨q1, u, q2, q3⟩ := hcc i hi
    have g1 := (hb0.cell (p := ⟨b, off + i * 2, none⟩) hbl).trans q1
    have g2 := (hb0.cell (p := ⟨b, off + i * 2 + 1, none⟩) hbl).trans q2
    have hbl2 : b < (w.alloc (.cells #[.int .i64 c.hz, .slice sa c.sw.length scap, .slice (some ⟨b, off, none⟩) c.ws.length cap] 25)).heap.size := by rw [size_alloc]; omega
    have HU := Lib.hid q3
    have HB := Lib.hid (hb0.alloc (by rw [size_alloc]; omega) (wirO (c.ws.getD i Wir.zero).kind u))
    have K0 := Lib.hid (block_alloc k0 (wirO (c.ws.getD i Wir.zero).kind u))
    have K1 := Lib.hid (two_nw w (.cells #[.int .i64 c.hz, .slice sa c.sw.length scap, .slice (some ⟨b, off, none⟩) c.ws.length cap] 25) (wirO (c.ws.getD i Wir.zero).kind u))
    have i1 : (0 : Int) ≤ i := by omega
    have i2 : (i : Int) < c.ws.length := by omega
    have IH := Lib.hid ih
    have HS := Lib.hid hs
    have HC := Lib.hid hc
    have HSC := Lib.hid hsc
    clear hcc hsc q1 q2 hb0 k0 ih n1 n2
    obtain ⟨ua, ucap, rfl, _⟩ := q3
    have HK1 := Lib.hid (fun h => cond_single (c := c) (s := s) (f := f) (i := i) h)
    have HK2 := Lib.hid (fun h => cond_series (c := c) (s := s) (f := f) (i := i) h)
    have HK3 := Lib.hid (fun h => cond_parallel (c := c) (s := s) (f := f) (i := i) h)
    generalize c.ws.getD i Wir.zero = wi at *
    by_cases hk1 : wi.kind = 1
    · obtain ⟨l1, l2, l3⟩ := wire_one HW.out hk1
      have hHR := HK1.out hk1
      obtain ⟨k, hxe⟩ : ∃ k : Nat, wi.of.getD 0 0 = k := ⟨(wi.of.getD 0 0).toNat, by omega⟩
      have hkl : k < c.sw.length := by omega
      have k12 : k ≤ 12 := by have := hc.s2; omega
      obtain ⟨ua', ucap', e1, _, _, hu⟩ := HU.out
      injection e1 with e1 e2 e3
      subst e1
      obtain ⟨ub, uoff, rfl, hubl, hu⟩ := hu (by omega)
      have hu0 := hu 0 (by omega)
      rw [hxe, Nat.add_zero] at hu0
      rw [hxe, Int.toNat_natCast] at hHR
      have hu1 := (HB.out.cell (p := ⟨ub, uoff, none⟩) hubl).trans hu0
      have hubs := Nat.lt_of_lt_of_le hubl HB.out.size
      obtain ⟨sb, soff, rfl, hsbl, hsc⟩ := HSC.out (by omega)
      have g3 := (HB.out.cell (p := ⟨sb, soff + k, none⟩) hsbl).trans (hsc k hkl)
      have g0 := hc.sw k hkl
      have gp := Nat.pow_le_pow_right (show 0 < 2 by omega) (show c.hz.toNat ≤ 8 by have := hc.h2; omega)
      obtain ⟨n, hn⟩ : ∃ n : Nat, c.sw.getD k 0 = n := ⟨(c.sw.getD k 0).toNat, by omega⟩
      have hnb : n < 4611686018427387904 := by
        rw [hn] at g0
        have : ((2 : Int) ^ c.hz.toNat) = ((2 ^ c.hz.toNat : Nat) : Int) := by simp
        omega
      rw [hn] at g3
      have z1 : (bits .and .i64 ((s.op : Int) / 2 ^ k) 1 == 0) = !s.op.testBit k := and_one_zero (by have := hs.op; omega)
      have z2 : (bits .and .i64 ((s.cl : Int) / 2 ^ k) 1 == 1) = s.cl.testBit k := and_one_bit (by have := hs.cl; omega)
      have hl0 : 0 < wi.of.length := by omega
      have hkb : (wi.kind == 1) = true := by rw [hk1]; rfl
      have k1 : (0 : Int) ≤ k := by omega
      have k2 : (k : Int) < c.sw.length := by omega
      have HN := Lib.hid hn
      have HRR := Lib.hid hHR
      have HNB := Lib.hid hnb
      clear hu l1 l2 l3 hxe hHR e2 e3 hu0 hk1 hsc g0 gp hn hnb hc hs
      cases ho : s.op.testBit k
      · cases hl : s.cl.testBit k
        · have HR := Lib.hid (lets_free (c := c) ho hl HN.out HNB.out (by have := HS.out.hz; omega))
          rw [ho] at z1
          rw [hl] at z2
          clear ho hl
          go_enter Try.func74, Try.ntmps74
          go_wp2_with fail
          go_ret
          exact ⟨ret_bool (HR.out.trans HRR.out), HB.out⟩
        · have HR := Lib.hid (lets_closed (c := c) ho hl)
          rw [ho] at z1
          rw [hl] at z2
          clear ho hl
          go_enter Try.func74, Try.ntmps74
          go_wp2_with fail
          go_ret
          exact ⟨ret_bool (HR.out.trans HRR.out), HB.out⟩
      · have HR := Lib.hid (lets_open (c := c) ho)
        rw [ho] at z1
        clear ho
        go_enter Try.func74, Try.ntmps74
        go_wp2_with fail
        go_ret
        exact ⟨ret_bool (HR.out.trans HRR.out), HB.out⟩
    · obtain ⟨l1, _, _, l2⟩ := wire_more HW.out hk1
      have HM := Lib.hid l2
      have hkb : (wi.kind == 1) = false := by simpa using hk1
      obtain ⟨P, hP⟩ : ∃ P : Bool, (wi.kind == 3) = P := ⟨_, rfl⟩
      have hP2 : (wi.kind == 2) = !P := by
        rw [← hP]
        rcases l1 with h | h <;> rw [h] <;> rfl
      have HE1 := Lib.hid (show ∀ m, m < wi.of.length → (∀ j, j < m → cond c s f (wi.of.getD j 0) = !P) → cond c s f (wi.of.getD m 0) = P → P = cond c s (f + 1) i by
        intro m hm h1 h2
        rcases l1 with h | h
        · have e : P = false := by rw [← hP, h]; rfl
          rw [← HK2.out h, e]
          symm
          rw [List.all_eq_false]
          exact ⟨_, getD_mem hm 0, by rw [h2, e]; simp⟩
        · have e : P = true := by rw [← hP, h]; rfl
          rw [← HK3.out h, e]
          symm
          rw [List.any_eq_true]
          exact ⟨_, getD_mem hm 0, by rw [h2, e]⟩)
      have HE2 := Lib.hid (show (∀ j, j < wi.of.length → cond c s f (wi.of.getD j 0) = !P) → (!P) = cond c s (f + 1) i by
        intro h1
        rcases l1 with h | h
        · have e : P = false := by rw [← hP, h]; rfl
          rw [← HK2.out h, e]
          symm
          rw [Bool.not_false, List.all_eq_true]
          intro x hx
          obtain ⟨j, hj, rfl⟩ := List.getElem_of_mem hx
          have := h1 j hj
          rw [List.getD_eq_getElem?_getD, List.getElem?_eq_getElem hj, e] at this
          exact this
        · have e : P = true := by rw [← hP, h]; rfl
          rw [← HK3.out h, e]
          symm
          rw [Bool.not_true, List.any_eq_false]
          intro x hx
          obtain ⟨j, hj, rfl⟩ := List.getElem_of_mem hx
          have := h1 j hj
          rw [List.getD_eq_getElem?_getD, List.getElem?_eq_getElem hj, e] at this
          simp only [Option.getD_some, Bool.not_true] at this
          rw [this]; simp)
      clear l2 hk1 l1 hc hs
      obtain ⟨ua', ucap', e1, n3, n4, hu⟩ := HU.out
      injection e1 with e1 e2 e3
      subst e1
      have HUC := Lib.hid hu
      have n5 : wi.of.length ≤ 9223372036854775807 := by omega
      clear hu e2 e3
      go_enter Try.func74, Try.ntmps74
      go_wp2_with fail
      clear g1 g2
      generalize ((w.alloc (.cells #[.int .i64 c.hz, .slice sa c.sw.length scap, .slice (some ⟨b, off, none⟩) c.ws.length cap] 25)).alloc (wirO wi.kind (.slice ua wi.of.length ucap))) = wB at *
      go_loopw [13] (fun i wr => ∃ m : Nat, m ≤ wi.of.length ∧ i = .int .i64 m ∧ Hid (Below wB.heap.size wB wr) ∧ Hid (∀ j, j < m → cond c s f (wi.of.getD j 0) = !P)) (fun i _ => wi.of.length - (intOf i).toNat)
      case atStart => exact ⟨0, Nat.zero_le _, rfl, Lib.hid (Below.refl _ _), Lib.hid (fun j hj => by omega)⟩
      case round =>
        obtain ⟨m, hm, rfl, hb, hf⟩ := hrel
        have kk0 := keepZ K0.out hb.out
        have kk1 := keepZ K1.out hb.out
        have c1 := block_cell kk1
        by_cases hlt : m < wi.of.length
        · obtain ⟨ub, uoff, rfl, hubl, hu⟩ := HUC.out (by omega)
          have HX := Lib.hid (HB.out.trans (hb.out.mono HB.out.size))
          have g4 := (HX.out.cell (p := ⟨ub, uoff + m, none⟩) hubl).trans (hu m hlt)
          have hubs := Nat.lt_of_lt_of_le hubl HX.out.size
          obtain ⟨m1, m2⟩ := HM.out _ (getD_mem hlt 0)
          obtain ⟨k, hk⟩ : ∃ k : Nat, wi.of.getD m 0 = k := ⟨(wi.of.getD m 0).toNat, by omega⟩
          rw [hk] at g4 m1 m2
          have HKK := Lib.hid hk
          have j1 : (0 : Int) ≤ m := by omega
          have j2 : (m : Int) < wi.of.length := by omega
          have HKL := Lib.hid (show k < c.ws.length ∧ c.ws.length ≤ k + f by omega)
          have b1 := bw_cells (B := wr.heap.size) kk0 (lt_of_block kk0)
          have b2 := bw_cells (B := wr.heap.size) kk1 (lt_of_block kk1)
          have b3 := bw_cell (B := wr.heap.size) g4 hubs
          clear hu g4 hk m1 m2
          cases hq : cond c s f k
          all_goals
            have HQ := Lib.hid hq
            cases hPP : P
            all_goals
              subst hPP
              go_wp2_with fail
              clear c1
              refine wp_region_below (by kernel_rfl) (by kernel_rfl) (Below.refl wr.heap.size wr) ?_
              repeat ((with_reducible refine wpQuiet_step (fun K hK => ?_)); go_simp; first | (refine hK _ ?_; clear hK K) | (apply Exists.intro; refine ⟨fun _ => ?_, hK _ ?_⟩; ((go_at_call 74; with_reducible exact bw_call (Nat.le_refl _) (rcond_is HQ.out (IH.out k _ HKL.out.1 HKL.out.2 (HV.out.below (HX.out.trans ((BW.b _).mono HX.out.size)) (Nat.le_refl _)))))); clear hK K))
              refine wpQuiet_nil ?_
              intro wq hwq0
              have hwq := bw_out hwq0
              clear hwq0
              have c1 := block_cell (keepZ kk1 hwq)
              have HB2 := Lib.hid (hb.out.trans (hwq.mono hb.out.size))
              have HX2 := Lib.hid (HX.out.trans (hwq.mono HX.out.size))
              clear hwq b1 b2 b3
              go_wp2_with fail
              first
                | (go_ret; exact ⟨ret_bool (HE1.out m hlt hf.out (by rw [HKK.out]; exact HQ.out)), HX2.out⟩)
                | (clear c1
                   go_roundw
                   case rel => exact ⟨m + 1, hlt, by go_num, HB2, Lib.hid (fun j hj => by
                     by_cases e : j = m
                     · rw [e, HKK.out]; exact HQ.out
                     · exact hf.out j (by omega))⟩
                   case measure => simp [intOf]; omega)
        · obtain rfl : m = wi.of.length := by omega
          have HR := Lib.hid (HE2.out hf.out)
          have HX := Lib.hid (HB.out.trans (hb.out.mono HB.out.size))
          go_wp2_with fail
          go_ret
          exact ⟨ret_bool HR.out, HX.out⟩

end Go.Proofs.Ytbiihhokcmdlhaa
