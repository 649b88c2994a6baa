/- Walks of layer 5 (lift): Levels of the program. -/
import Derived.Test.YtnefbiaopconkaaJz
namespace Go.Proofs.Ytnefbiaopconkaa
open Go.RowKit

abbrev slO (v : Value) : Obj := .cells #[v] 22

theorem enters_levels1 : Enters 75 := fun _ _ => by kernel_rfl
theorem enters_levels11 : Enters 77 := fun _ _ => by kernel_rfl

set_option maxHeartbeats 1000000 in
theorem levels11_any (L : Lif) (fv : Value) (x : Int) (p1 : Nat) (w : World) (k1 : w.heap[p1]? = some (lifO L fv)) :
    Calls Try.prog 77 #[.int .i64 x, ptr p1] w fun e w' => e = .returned (.bool (inB x 0 L.rat)) ∧ Below w.heap.size w w' := by
  have c1 := block_cell k1
  clear k1
  go_enter Try.func77, Try.ntmps77
  go_wp2_with (go_at_call 53; refine (lisLoad_any L fv x _).mono ?_; rintro e w2 ⟨rfl, hb2⟩)
  go_ret
  exact ⟨rfl, hb2⟩

set_option maxRecDepth 100000 in
set_option maxHeartbeats 2000000 in
theorem levels1_any (L : Lif) (fv v : Value) (f : Int) (l : List Int) (p0 p1 p2 : Nat) (w : World) (k0 : w.heap[p0]? = some (slO v)) (k1 : w.heap[p1]? = some (lifO L fv)) (k2 : w.heap[p2]? = some (intO f)) (hv : InAt w fv L.fl) (hl : InAt w v l) :
    Calls Try.prog 75 #[ptr p0, ptr p1, ptr p2] w fun e w' => e = .returned (.int .i64 (fitE (inB f 0 ((L.fl.length : Int) - 1) && inB (l.length : Int) 1 60 && loadsB L l))) ∧ Below w.heap.size w w' := by
  have K0 := Lib.hid k0
  have K1 := Lib.hid k1
  have K2 := Lib.hid k2
  have HV := Lib.hid hv
  have HE := Lib.hid (every_any 77 #[] #[ptr p1] v l (fun x => inB x 0 L.rat) w hl enters_levels11 (fun x w1 _ hb => levels11_any L fv x p1 w1 (keepZ k1 hb)))
  have HF := Lib.hid (fun w1 (h : InAt w1 fv L.fl) => lisFloor_any L fv f w1 h)
  have c0 := block_cell k0
  have c1 := block_cell k1
  have HLB := Lib.hid (show (l.all fun x => inB x 0 L.rat) = loadsB L l from rfl)
  obtain ⟨la, lcap, rfl, ln, lcp, lc⟩ := hl
  clear lc k0 k1 k2 hv
  rw [HLB.out] at HE
  generalize loadsB L l = q3 at *
  generalize inB f 0 ((L.fl.length : Int) - 1) = q1 at *
  go_enter Try.func75, Try.ntmps75
  go_wp2_with fail
  refine HE.out.mono ?_
  rintro e w1 ⟨rfl, hb1⟩
  have HB1 := Lib.hid hb1
  clear c0 c1 hb1
  have c0 := block_cell (keepZ K0.out HB1.out)
  have c1 := block_cell (keepZ K1.out HB1.out)
  have c2 := block_cell (keepZ K2.out HB1.out)
  have HV1 := Lib.hid (HV.out.below HB1.out (Nat.le_refl _))
  go_wp2_with (first | (go_at_call 72; refine (HF.out _ HV1.out).mono ?_; rintro e w2 ⟨rfl, hb2⟩; have HB2 := Lib.hid (HB1.out.trans (hb2.mono HB1.out.size)); clear c0; have c0 := block_cell (keepZ K0.out HB2.out)) | (go_at_call 59; refine (lwithin_any _ _ _ _).mono ?_; rintro e w5 ⟨rfl, rfl⟩) | (go_at_call 51; refine (fitting_any _ _).mono ?_; rintro e w4 ⟨rfl, rfl⟩))
  all_goals
    go_ret
    exact ⟨ret_int (by simp_all), HB2.out⟩

set_option maxRecDepth 100000 in
set_option maxHeartbeats 2000000 in
theorem lLevels_any (L : Lif) (fv v : Value) (f : Int) (l : List Int) (w : World) (hv : InAt w fv L.fl) (hl : InAt w v l) :
    Calls Try.prog 29 #[lifV L fv, .int .i64 f, v] w (ListsErr (levO L f l) (levA L f l) (levE L f l) w) := by
  have HB := Lib.hid (blw3 w (lifO L fv) (intO f) (slO v))
  have K0 := Lib.hid (three_0 w (lifO L fv) (intO f) (slO v))
  have K1 := Lib.hid (three_1 w (lifO L fv) (intO f) (slO v))
  have K2 := Lib.hid (three_2 w (lifO L fv) (intO f) (slO v))
  have HV := Lib.hid (hv.below HB.out (Nat.le_refl _))
  have HLv := Lib.hid (hl.below HB.out (Nat.le_refl _))
  have HI := Lib.hid (@lev_in L f l)
  have HRO := Lib.hid (show levO L f l = if levE L f l = 0 then offL L f l l.length else [] from rfl)
  have HRA := Lib.hid (show levA L f l = if levE L f l = 0 then agaL L f l l.length else [] from rfl)
  clear hv
  obtain ⟨la, lcap, rfl, ln, lcp, lc⟩ := hl
  clear lc
  go_enter Try.func29, Try.ntmps29
  go_wp2_with fail
  generalize ((w.alloc (lifO L fv)).alloc (intO f)).alloc (slO (.slice la l.length lcap)) = wA at *
  refine (int_is (show chkE L (fitE (inB f 0 ((L.fl.length : Int) - 1) && inB (l.length : Int) 1 60 && loadsB L l)) = levE L f l from rfl) (checked_any L fv _ _ (fitE (inB f 0 ((L.fl.length : Int) - 1) && inB (l.length : Int) 1 60 && loadsB L l)) _ HV.out enters_levels1 (fun w1 hok hb => levels1_any L fv _ f l _ _ _ w1 (keepZ K2.out hb) (keepZ K0.out hb) (keepZ K1.out hb) (HV.out.below hb (Nat.le_refl _)) (HLv.out.below hb (Nat.le_refl _))))).mono ?_
  rintro e w1 ⟨rfl, hb1⟩
  have HB1 := Lib.hid (HB.out.trans (hb1.mono HB.out.size))
  have c0 := block_cell (keepZ K0.out hb1)
  have c1 := block_cell (keepZ K1.out hb1)
  have c2 := block_cell (keepZ K2.out hb1)
  have HV1 := Lib.hid (HV.out.below hb1 (Nat.le_refl _))
  have HL1 := Lib.hid (HLv.out.below hb1 (Nat.le_refl _))
  generalize levE L f l = E at *
  clear hb1
  by_cases hE : E = 0
  · obtain ⟨hL, i1, i2, i3⟩ := HI.out hE
    have HS := Lib.hid (fun w2 h h2 => llevels_any L fv (.slice la l.length lcap) f l w2 h h2 hL i1.1 i1.2 i2.1 i2.2 i3)
    have HR1 := Lib.hid (HRO.out.trans (if_pos hE))
    have HR2 := Lib.hid (HRA.out.trans (if_pos hE))
    clear hL i1 i2 i3
    subst hE
    go_wp2_with fail
    refine (HS.out _ HV1.out HL1.out).mono ?_
    rintro e w2 ⟨v1, v2, rfl, hi1, hi2, hb2⟩
    have HI1 := Lib.hid hi1
    have HI2 := Lib.hid hi2
    obtain ⟨a1, c1, rfl, _⟩ := hi1
    obtain ⟨a2, c2, rfl, _⟩ := hi2
    go_wp2
    go_ret3
    exact ⟨_, _, rfl, by rw [HR1.out]; exact HI1.out, by rw [HR2.out]; exact HI2.out, HB1.out.trans (hb2.mono HB1.out.size)⟩
  · have HR1 := Lib.hid (HRO.out.trans (if_neg hE))
    have HR2 := Lib.hid (HRA.out.trans (if_neg hE))
    have h1 : (E != 0) = true := by simpa using hE
    clear hE
    go_wp2
    go_ret3
    exact ⟨_, _, rfl, by rw [HR1.out]; exact InAt.nil _, by rw [HR2.out]; exact InAt.nil _, HB1.out⟩

end Go.Proofs.Ytnefbiaopconkaa
