/- Walks of layer 3 (circuit): CheckRota of the program. -/
import Derived.Test.YtbkhfmigaehgaaaCq
namespace Go.Proofs.Ytbkhfmigaehgaaa
open Go.RowKit

def rotaM (c : Cir) (l : List Tri) (r : Rot) : TrA := if chkR c l r = 0 then triesM (roundM c l r) r.gap.toNat c.sw.length else ⟨0, 0, false⟩
abbrev rotaV (a : TrA) (e : Int) : Value := .tuple #[.int .i64 a.sw, .int .i64 a.night, .bool a.ok, .int .i64 e]

theorem rota_bad {c : Cir} {l : List Tri} {r : Rot} (h : ¬ chkR c l r = 0) : rotaM c l r = ⟨0, 0, false⟩ := by unfold rotaM; rw [if_neg h]
theorem rota_ok {c : Cir} {l : List Tri} {r : Rot} (h : chkR c l r = 0) : rotaM c l r = triesM (roundM c l r) r.gap.toNat c.sw.length := by unfold rotaM; rw [if_pos h]

/-- What a valid rota is. -/
structure RVal (c : Cir) (l : List Tri) (r : Rot) : Prop where
  t : TVal c l
  n1 : 1 ≤ r.nights.length
  n2 : r.nights.length ≤ 60
  g1 : 1 ≤ r.gap
  g2 : r.gap ≤ 60
  a : ∀ ks ∈ r.nights, ∀ k ∈ ks, 0 ≤ k ∧ k < l.length

theorem rval {c : Cir} {l : List Tri} {r : Rot} (h : chkR c l r = 0) : RVal c l r := by
  unfold chkR at h
  split at h
  · rename_i hq
    split at h
    · rename_i hr
      unfold rotB at hr
      simp only [Bool.and_eq_true, decide_eq_true_eq, List.all_eq_true] at hr
      obtain ⟨⟨⟨h1, h2⟩, h3, h4⟩, h5⟩ := hr
      exact ⟨tval hq, by omega, by omega, h3, h4, fun ks hks k hk => by have := ascB_mem (h5 ks hks) k hk; omega⟩
    · omega
  · omega

/-- A list of sets while it is made: the first k, zeros behind. -/
def fillW (xs : List Nat) (k : Nat) : List Int := natL (xs.take k) ++ List.replicate (xs.length - k) 0
theorem fillW_len (xs : List Nat) {k : Nat} (h : k ≤ xs.length) : (fillW xs k).length = xs.length := by unfold fillW natL; simp; omega
theorem fillW_zero (xs : List Nat) : fillW xs 0 = List.replicate xs.length 0 := by simp [fillW, natL]
theorem fillW_all (xs : List Nat) : fillW xs xs.length = natL xs := by simp [fillW]
theorem fillW_set (xs : List Nat) {k : Nat} (h : k < xs.length) : (fillW xs k).set k (xs.getD k 0 : Nat) = fillW xs (k + 1) := by
  unfold fillW
  obtain ⟨d, hd⟩ : ∃ d, xs.length - k = d + 1 := ⟨xs.length - k - 1, by omega⟩
  have hd2 : xs.length - (k + 1) = d := by omega
  have hn : (natL (xs.take k)).length = k := by unfold natL; simp; omega
  rw [hd, hd2, List.set_append_right _ _ (by omega), hn, Nat.sub_self, List.replicate_succ, List.set_cons_zero, List.take_succ_eq_append_getElem h, List.getD_eq_getElem?_getD, List.getElem?_eq_getElem h]
  unfold natL
  rw [List.map_append, List.append_assoc]
  rfl

theorem sets_lt {c : Cir} {l : List Tri} (hc : CVal c) : ∀ s ∈ setsM c l, s < 1048576 := by
  intro s hs
  unfold setsM at hs
  obtain ⟨t, _, rfl⟩ := List.mem_map.1 hs
  have := shown_lt c t hc
  omega

theorem round_len (c : Cir) (l : List Tri) (r : Rot) : (roundM c l r).length = r.nights.length := by simp [roundM]
theorem round_at {c : Cir} {l : List Tri} {r : Rot} {k : Nat} (h : k < r.nights.length) : (roundM c l r).getD k 0 = unionM (setsM c l) (r.nights.getD k []) := by
  unfold roundM
  rw [List.getD_eq_getElem?_getD, List.getElem?_map, List.getD_eq_getElem?_getD, List.getElem?_eq_getElem h]; rfl
theorem round_lt {c : Cir} {l : List Tri} {r : Rot} (hc : CVal c) : ∀ s ∈ roundM c l r, s < 1048576 := by
  intro s hs
  unfold roundM at hs
  obtain ⟨t, _, rfl⟩ := List.mem_map.1 hs
  exact union_lt (sets_lt hc) t

set_option maxRecDepth 100000 in
set_option maxHeartbeats 4000000 in
theorem crota_any (c : Cir) (l : List Tri) (r : Rot) (sv wv v nv : Value) (w : World) (hv : CirAt w sv wv c) (hl : TrAt w v l) (hr : NsAt w nv r.nights) :
    Calls Try.prog 41 #[cirV c sv wv, v, rotV r nv] w fun e w' => e = .returned (rotaV (rotaM c l r) (chkR c l r)) ∧ Below w.heap.size w w' := by
  have hb0 := blw2 w (cirO c sv wv) (rotO r nv)
  have HB := Lib.hid hb0
  have K0 := Lib.hid (two_od w (cirO c sv wv) (rotO r nv))
  have K1 := Lib.hid (two_nw w (cirO c sv wv) (rotO r nv))
  have HV := Lib.hid (hv.below hb0 (Nat.le_refl _))
  have HT := Lib.hid (hl.below hb0 (Nat.le_refl _))
  have HN := Lib.hid (hr.below hb0 (Nat.le_refl _))
  obtain ⟨⟨sa, scap, rfl, _⟩, _⟩ := hv
  obtain ⟨ta, tcap, rfl, _, m2, _⟩ := hl
  obtain ⟨na, ncap, rfl, m3, m4, _⟩ := hr
  clear hb0
  by_cases hq : chkR c l r = 0
  · have HQ := Lib.hid hq
    have HR := Lib.hid (rota_ok hq)
    have HRV := Lib.hid (rval hq)
    have n1 := (rval hq).n1
    have n2 := (rval hq).n2
    have g1 := (rval hq).g1
    have g2 := (rval hq).g2
    have s12 := (rval hq).t.cv.s2
    obtain ⟨gp, hgp⟩ : ∃ g : Nat, r.gap = g := ⟨r.gap.toNat, by omega⟩
    have HG := Lib.hid hgp
    obtain ⟨i0, hi, hz0, hz1, hz2⟩ := info_parts infoInt
    clear hq hgp
    go_enter Try.func41, Try.ntmps41
    go_wp2_with fail
    generalize (w.alloc (cirO c (.slice sa c.sw.length scap) wv)).alloc (rotO r (.slice na r.nights.length ncap)) = wA at *
    refine (ccheckR_any c l r _ _ _ _ _ HV.out HT.out HN.out).mono ?_
    rintro e w1 ⟨rfl, hb1⟩
    rw [HQ.out]
    have HB1 := Lib.hid hb1
    have c0 := block_cell (keepZ K0.out hb1)
    clear hb1
    go_wp2_with fail
    refine (shownEach_any c l _ _ _ _ (HV.out.below HB1.out (Nat.le_refl _)) (HT.out.below HB1.out (Nat.le_refl _)) HRV.out.t).mono ?_
    rintro e w2 ⟨v, rfl, hin, hb2⟩
    have HB2 := Lib.hid (HB1.out.trans (hb2.mono HB1.out.size))
    have HI := Lib.hid hin
    obtain ⟨va, vcap, rfl, _⟩ := hin
    have c1 := block_cell (keepZ K1.out HB2.out)
    clear hb2 c0
    go_wp2_with (refine wpList_make_full _ rfl (.tmp 26) (.tmp 26) 22 rfl w2.heap.size 3 i0 (.int .i64 0) 1 Try.underlying22 hi hz0 hz1 .i64 .i64 _ _ r.nights.length rfl rfl (by omega) (by omega) ?m1 ?m2 (Nat.le_refl _) ?_)
    case m1 => rw [hz2]; omega
    case m2 => unfold maxLen; omega
    intro w3 hown hgrow
    have hb3 : Below w2.heap.size w2 w3 := (Below.refl _ _).grown hgrow (Nat.le_refl _) (fun k h => by cases h)
    have hrow := (IntRow.of_own (xs := List.replicate r.nights.length 0) (by rw [← made1]; exact hown)).1
    rw [← round_len c l r, ← fillW_zero] at hrow
    have R0 := Lib.hid hrow
    have HB3 := Lib.hid hb3
    have c1 := block_cell (keepZ (keepZ K1.out HB2.out) HB3.out)
    clear hown hgrow hb3 hrow hi hz0 hz1 hz2
    go_wp2_with fail
    clear c1
    have z1 := lt_of_block (keepZ K1.out HB2.out)
    have z0 := lt_of_block (keepZ K0.out HB2.out)
    have K12 := Lib.hid (keepZ K1.out HB2.out)
    have K02 := Lib.hid (keepZ K0.out HB2.out)
    generalize hG : w2.heap.size = G at *
    have HG0 := Lib.hid hG
    clear hG
    go_loopw [31] (fun i wr => ∃ k : Nat, k ≤ r.nights.length ∧ i = .int .i64 k ∧ Hid (Below G w2 wr) ∧ Hid (IntRow wr G (fillW (roundM c l r) k))) (fun i _ => r.nights.length - (intOf i).toNat)
    case atStart => exact ⟨0, Nat.zero_le _, rfl, HB3, R0⟩
    case round =>
      obtain ⟨k, hk, rfl, hb, hR⟩ := hrel
      by_cases hlt : k < r.nights.length
      · obtain ⟨na', ncap', e1, _, _, hcc⟩ := HN.out
        injection e1 with e1 e2 e3
        subst e1
        obtain ⟨b, off, rfl, hbl, hcc⟩ := hcc (by omega)
        obtain ⟨u, q1, q2⟩ := hcc k hlt
        have HX := Lib.hid (HB2.out.trans (hb.out.mono (by rw [← HG0.out]; exact HB2.out.size)))
        have g3 := (HX.out.cell (p := ⟨b, off + k, none⟩) hbl).trans q1
        have HIK := Lib.hid (q2.below HX.out (Nat.le_refl _))
        have HIS := Lib.hid (HI.out.below hb.out (by rw [HG0.out]; exact Nat.le_refl _))
        have hbl2 := Nat.lt_of_lt_of_le hbl HX.out.size
        obtain ⟨ua, ucap, rfl, _⟩ := q2
        have HKS := Lib.hid (HRV.out.a _ (getD_mem hlt []))
        have HSET := Lib.hid (fillW_set (roundM c l r) (k := k) (by rw [round_len]; exact hlt))
        rw [round_at hlt] at HSET
        have HLEN := Lib.hid (show (fillW (roundM c l r) k).length = r.nights.length by rw [fillW_len _ (by rw [round_len]; exact hk), round_len])
        have c1 := block_cell ((hb.out.block _ z1).trans K12.out)
        have HST := Lib.hid (sets_lt (l := l) HRV.out.t.cv)
        have hsl : (setsM c l).length = l.length := by simp [setsM]
        have HSL := Lib.hid hsl
        have q4 := hR.out.cell (i := k) (by rw [HLEN.out]; exact hlt)
        have f4 := hR.out.free k
        have z4 := hR.out.lt
        generalize r.nights.getD k [] = ks at *
        clear hcc q1 e2 e3 hsl
        have k1 : (0 : Int) ≤ k := by omega
        have k2 : (k : Int) < r.nights.length := by omega
        go_wp2_with fail
        refine (union_any (setsM c l) ks _ _ _ HIS.out HIK.out HST.out (fun x hx => by have := HKS.out x hx; rw [HSL.out]; exact this)).mono ?_
        rintro e w4 ⟨rfl, rfl⟩
        generalize unionM (setsM c l) ks = U at *
        have HR4 := Lib.hid (hR.out.set (i := k) (by rw [HLEN.out]; exact hlt) (U : Nat))
        have HB4 := Lib.hid (hb.out.setCell (p := ⟨G, k, none⟩) (Nat.le_refl _) (.int .i64 (U : Nat)))
        go_wp2_with fail
        go_roundw
        case rel => exact ⟨k + 1, hlt, by go_num, HB4, by rw [← HSET.out]; exact HR4⟩
        case measure => simp [intOf]; omega
      · obtain rfl : k = r.nights.length := by omega
        have HX := Lib.hid (HB2.out.trans (hb.out.mono (by rw [← HG0.out]; exact HB2.out.size)))
        have c1 := block_cell ((hb.out.block _ z1).trans K12.out)
        have c0 := block_cell ((hb.out.block _ z0).trans K02.out)
        have hrow := hR.out
        rw [← round_len c l r, fillW_all] at hrow
        have hln : (natL (roundM c l r)).length = r.nights.length := by rw [natL_len, round_len]
        have hin := hrow.inAt (cap := r.nights.length) (by rw [hln]; exact Nat.le_refl _) (by omega)
        rw [hln] at hin
        have HIN := Lib.hid hin
        have HRL := Lib.hid (round_len c l r)
        have HRT := Lib.hid (round_lt (l := l) (r := r) HRV.out.t.cv)
        clear hrow hin hln
        rw [HG.out] at c1
        go_wp2_with fail
        refine (tries_any c.sw.length (roundM c l r) gp _ _ HIN.out (by rw [HRL.out]; exact n1) (by rw [HRL.out]; omega) (by have := HG.out; omega) s12 HRT.out).mono ?_
        rintro e w4 ⟨rfl, hb4⟩
        have HRR := Lib.hid (show rotaM c l r = triesM (roundM c l r) gp c.sw.length by rw [HR.out, HG.out, Int.toNat_natCast])
        generalize triesM (roundM c l r) gp c.sw.length = T at *
        obtain ⟨t1, t2, t3⟩ := T
        clear c0 c1
        go_wp2
        exact bodyPost_ret (v := .tuple #[.int .i64 t1, .int .i64 t2, .bool t3, .int .i64 0]) (by simp [results, Try.results41, go_sem]) rfl ⟨by rw [HRR.out, HQ.out], HB.out.trans ((HX.out.trans (hb4.mono HX.out.size)).mono HB.out.size)⟩
  · have HR := Lib.hid (rota_bad hq)
    have hqb : (chkR c l r == 0) = false := by simpa using hq
    have hqc : (chkR c l r != 0) = true := by simpa using hq
    clear hq
    go_enter Try.func41, Try.ntmps41
    go_wp2_with fail
    generalize (w.alloc (cirO c (.slice sa c.sw.length scap) wv)).alloc (rotO r (.slice na r.nights.length ncap)) = wA at *
    refine (ccheckR_any c l r _ _ _ _ _ HV.out HT.out HN.out).mono ?_
    rintro e w1 ⟨rfl, hb1⟩
    go_wp2
    exact bodyPost_ret (v := .tuple #[.int .i64 0, .int .i64 0, .bool false, .int .i64 (chkR c l r)]) (by simp [results, Try.results41, go_sem]) rfl ⟨by rw [HR.out], HB.out.trans (hb1.mono HB.out.size)⟩

end Go.Proofs.Ytbkhfmigaehgaaa
