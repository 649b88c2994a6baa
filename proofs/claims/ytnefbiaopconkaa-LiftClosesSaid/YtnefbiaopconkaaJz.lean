/- Walks of layer 5 (lift): lists that are asked, two rows of one's own, Levels of the program. -/
import Derived.Test.YtnefbiaopconkaaJy
import Derived.Maps.AppendAt
namespace Go.Proofs.Ytnefbiaopconkaa
open Go.RowKit

set_option maxRecDepth 100000 in
set_option maxHeartbeats 1000000 in
theorem indexInt_any (K : Nat) (bs cs : Array Value) (v : Value) (l : List Int) (p : Int → Bool) (w : World) (hv : InAt w v l) (hK : Enters K)
    (hg : ∀ (x : Int) (w1 : World), x ∈ l → Below w.heap.size w w1 → Calls Try.prog K (bs.push (.int .i64 x) ++ cs) w1 fun e w' => e = .returned (.bool (p x)) ∧ Below w1.heap.size w1 w') :
    Calls Try.prog 105 #[v, .func (.func K) bs cs] w (IdxRes (l.any p) w) := by
  obtain ⟨a, cap, rfl, hn, hcap, hc⟩ := hv
  have HC := Lib.hid hc
  have HG := Lib.hid hg
  have hk1 := hK
  unfold Enters at hk1
  clear hc hg hK
  go_enter Try.func105, Try.ntmps105
  go_wp2_with fail
  go_loopw [8] (fun i wr => ∃ k : Nat, k ≤ l.length ∧ i = .int .i64 k ∧ Below w.heap.size w wr ∧ Hid (∀ i, i < k → p (l.getD i 0) = false)) (fun i _ => l.length - (intOf i).toNat)
  case atStart => exact ⟨0, Nat.zero_le _, rfl, Below.refl _ _, fun i hi => by omega⟩
  case round =>
    obtain ⟨k, hk, rfl, hb, hf⟩ := hrel
    by_cases hlt : k < l.length
    · obtain ⟨b, off, rfl, hbl, hc⟩ := HC.out (by omega)
      have g1 := in_at hb hbl hc hlt
      clear hc
      have hm := getD_mem hlt 0
      generalize hq0 : l.getD k 0 = q at g1 hm
      have Hq := Lib.hid hq0
      have HM := Lib.hid hm
      clear hq0 hm
      go_wp2_with fail
      refine (HG.out q wr HM.out hb).mono ?_
      rintro e w1 ⟨rfl, hb1⟩
      have hb2 := hb.trans (hb1.mono hb.size)
      clear hb hb1 g1
      cases hq : p q
      · have HQ := Lib.hid hq
        clear hq
        go_wp2
        go_roundw
        case rel => exact ⟨k + 1, hlt, by go_num, hb2, fun i hi => by
          by_cases hik : i = k
          · rw [hik, Hq.out]; exact HQ.out
          · exact hf.out i (by omega)⟩
        case measure => simp [intOf]; omega
      · have HQ := Lib.hid hq
        clear hq
        go_wp2
        go_ret
        exact ⟨k, rfl, by rw [any_true_of (d := 0) hlt (by rw [Hq.out]; exact HQ.out)]; simp, hb2⟩
    · go_wp2
      go_ret
      exact ⟨-1, rfl, by rw [any_false_of (d := 0) (fun i hi => hf.out i (by omega))]; simp, hb⟩

set_option maxHeartbeats 400000 in
theorem containsInt_any (K : Nat) (bs cs : Array Value) (v : Value) (l : List Int) (p : Int → Bool) (q : Bool) (w : World) (hv : InAt w v l) (hK : Enters K) (hq : l.any p = q)
    (hg : ∀ (x : Int) (w1 : World), x ∈ l → Below w.heap.size w w1 → Calls Try.prog K (bs.push (.int .i64 x) ++ cs) w1 fun e w' => e = .returned (.bool (p x)) ∧ Below w1.heap.size w1 w') :
    Calls Try.prog 96 #[v, .func (.func K) bs cs] w fun e w' => e = .returned (.bool q) ∧ Below w.heap.size w w' := by
  subst hq
  have HG := Lib.hid hg
  have HK := Lib.hid hK
  clear hg hK
  go_enter Try.func96, Try.ntmps96
  go_wp2_with fail
  refine (indexInt_any K bs cs _ _ p _ hv HK.out HG.out).mono ?_
  rintro e w1 ⟨r, rfl, hr, hb⟩
  have HR := Lib.hid hr
  clear hr
  go_wp2
  go_ret
  exact ⟨ret_bool HR.out, hb⟩

theorem enters_every1 : Enters 97 := fun _ _ => by kernel_rfl

set_option maxHeartbeats 400000 in
theorem every1_any (K : Nat) (bs cs : Array Value) (x : Int) (q : Bool) (g : Nat) (w : World) (hK : Enters K) (hf : w.cell? ⟨g, 0, none⟩ = some (.func (.func K) bs cs))
    (hg : Calls Try.prog K (bs.push (.int .i64 x) ++ cs) w fun e w' => e = .returned (.bool q) ∧ Below w.heap.size w w') :
    Calls Try.prog 97 #[.int .i64 x, .pointer (some ⟨g, 0, none⟩)] w fun e w' => e = .returned (.bool (!q)) ∧ Below w.heap.size w w' := by
  have HG := Lib.hid hg
  have hk1 := hK
  unfold Enters at hk1
  clear hg hK
  go_enter Try.func97, Try.ntmps97
  go_wp2_with fail
  refine HG.out.mono ?_
  rintro e w1 ⟨rfl, hb1⟩
  clear hf
  go_wp2
  go_ret
  exact ⟨rfl, hb1⟩

theorem all_any_not (l : List Int) (p : Int → Bool) : (l.any fun x => !p x) = !(l.all p) := by
  induction l with
  | nil => rfl
  | cons x l ih => rw [List.any_cons, List.all_cons, ih]; cases p x <;> rfl

set_option maxHeartbeats 400000 in
theorem every_any (K : Nat) (bs cs : Array Value) (v : Value) (l : List Int) (p : Int → Bool) (w : World) (hv : InAt w v l) (hK : Enters K)
    (hg : ∀ (x : Int) (w1 : World), x ∈ l → Below w.heap.size w w1 → Calls Try.prog K (bs.push (.int .i64 x) ++ cs) w1 fun e w' => e = .returned (.bool (p x)) ∧ Below w1.heap.size w1 w') :
    Calls Try.prog 76 #[v, .func (.func K) bs cs] w fun e w' => e = .returned (.bool (l.all p)) ∧ Below w.heap.size w w' := by
  have HG := Lib.hid hg
  have HK := Lib.hid hK
  have hb0 := (Below.refl w.heap.size w).alloc (Nat.le_refl _) (.cells #[.func (.func K) bs cs] 87)
  have k0 := block_new w (.cells #[.func (.func K) bs cs] 87) w.heap.size rfl
  have HB := Lib.hid hb0
  have K0 := Lib.hid k0
  have HV := Lib.hid (hv.below hb0 (Nat.le_refl _))
  obtain ⟨a, cap, rfl, _⟩ := hv
  clear hg hK hb0 k0
  go_enter Try.func76, Try.ntmps76
  go_wp2_with fail
  refine (containsInt_any _ #[] #[.pointer (some ⟨w.heap.size, 0, none⟩)] _ l (fun x => !p x) _ _ HV.out enters_every1 (all_any_not l p) (fun x w1 hx hb1 => ?_)).mono ?_
  · have h1 := HG.out x w1 hx (HB.out.trans (hb1.mono HB.out.size))
    exact every1_any K bs cs x (p x) w.heap.size w1 HK.out (block_cell ((hb1.block _ (lt_of_block K0.out)).trans K0.out) 0) h1
  rintro e w1 ⟨rfl, hb1⟩
  go_wp2
  go_ret
  exact ⟨ret_bool (by simp), HB.out.trans (hb1.mono HB.out.size)⟩

theorem infoInt : (Try.prog.info? 3).map (fun i => (i.zero, i.size, i.bytes)) = some (some (.int .i64 0), 1, 8) := by kernel_rfl

theorem one_cell (w : World) (x : Value) (t : TypeId) {g : Nat} (hg : g = w.heap.size) : ∀ j u, [x][j]? = some u → (w.alloc (.cells #[x] t)).cell? ((⟨g, 0, none⟩ : Addr).add j) = some u := by
  subst hg
  intro j u hj
  have h := cell_alloc_new w #[x] t (0, 0) w.heap.size j rfl
  have e9 : (⟨w.heap.size, 0, none⟩ : Addr).add j = ⟨w.heap.size, j, none⟩ := by unfold Addr.add; split <;> simp_all
  rw [e9, h]
  simpa using hj

theorem filter_no {p : Nat → Bool} {k : Nat} (h : p k = false) : (List.range (k + 1)).filter p = (List.range k).filter p := by
  rw [List.range_succ, List.filter_append]; simp [h]
theorem filter_yes {p : Nat → Bool} {k : Nat} (h : p k = true) : (List.range (k + 1)).filter p = (List.range k).filter p ++ [k] := by
  rw [List.range_succ, List.filter_append]; simp [h]
theorem filter_len (p : Nat → Bool) (k : Nat) : ((List.range k).filter p).length ≤ k := by
  have := List.length_filter_le p (List.range k)
  simpa using this

/-- The numbers of a list of natural ones. -/
def natL (l : List Nat) : List Int := l.map Int.ofNat

/-- Two rows of numbers of one's own, apart from each other. -/
structure TwoRows (w : World) (base : Nat) (v v2 : Value) (A B : List Int) : Prop where
  a : w.ownsRow base 3 1 v A.length (A.map (Value.int .i64))
  b : w.ownsRow base 3 1 v2 B.length (B.map (Value.int .i64))
  ne : ∀ k, v.ownBlock = some k → v2.ownBlock ≠ some k

theorem TwoRows.swap {w : World} {base : Nat} {v v2 : Value} {A B : List Int} (h : TwoRows w base v v2 A B) : TwoRows w base v2 v B A :=
  ⟨h.b, h.a, fun k h1 h2 => h.ne k h2 h1⟩

theorem TwoRows.below {w w' : World} {base : Nat} {v v2 : Value} {A B : List Int} (h : TwoRows w base v v2 A B) (hb : Below w.heap.size w w') : TwoRows w' base v v2 A B :=
  ⟨ownsRow_below h.a hb, ownsRow_below h.b hb, h.ne⟩

theorem own_lt {w : World} {base : Nat} {e : TypeId} {size n : Nat} {v : Value} {xs : List Value} (h : w.ownsRow base e size v n xs) {k : Nat} (hk : v.ownBlock = some k) : k < w.heap.size := by
  obtain ⟨_, h1 | ⟨g, cap, cur, rfl, _, h3, _⟩⟩ := h
  · obtain ⟨rfl, _⟩ := h1; cases hk
  · have : g = k := by simpa [Value.ownBlock] using hk
    subst this
    exact lt_of_block h3

theorem own_snoc {w : World} {base : Nat} {v : Value} {A : List Int} {x : Int} (h : w.ownsRow base 3 1 v (A.length + 1) (A.map (Value.int .i64) ++ [.int .i64 x])) : w.ownsRow base 3 1 v (A ++ [x]).length ((A ++ [x]).map (Value.int .i64)) := by
  rw [List.length_append, List.map_append]
  exact h

/-- One number more in the first row. -/
theorem TwoRows.more {w w' : World} {base : Nat} {v v' v2 : Value} {A B : List Int} {x : Int} (h : TwoRows w base v v2 A B) (h2 : w'.ownsRow base 3 1 v' (A.length + 1) (A.map (Value.int .i64) ++ [.int .i64 x]))
    (hg : w.grownBy w' v.ownBlock) (hv : v'.ownBlock = v.ownBlock ∨ v'.ownBlock = some w.heap.size) : TwoRows w' base v' v2 (A ++ [x]) B := by
  refine ⟨own_snoc h2, World.ownsRow.kept h.b hg ?_, fun b h1 h3 => ?_⟩
  · cases hb : v2.ownBlock with
    | none => exact Or.inl rfl
    | some b => exact Or.inr (fun e => h.ne b e.symm hb)
  · rcases hv with hv | hv
    · exact h.ne b (by rw [← hv]; exact h1) h3
    · rw [hv] at h1
      injection h1 with h1
      subst h1
      exact absurd (own_lt h.b h3) (Nat.lt_irrefl _)

theorem TwoRows.base_le {w : World} {base : Nat} {v v2 : Value} {A B : List Int} (h : TwoRows w base v v2 A B) : ∀ k, v.ownBlock = some k → base ≤ k := by
  obtain ⟨_, _, _, h⟩ := ownsRow_shape h.a
  exact h

theorem TwoRows.alloc {w : World} {base : Nat} {v v2 : Value} {A B : List Int} (h : TwoRows w base v v2 A B) (o : Obj) : TwoRows (w.alloc o) base v v2 A B :=
  ⟨World.ownsRow.alloc h.a o, World.ownsRow.alloc h.b o, h.ne⟩

theorem TwoRows.nil (w : World) (base : Nat) : TwoRows w base (.slice none 0 0) (.slice none 0 0) [] [] :=
  ⟨⟨by simp, Or.inl ⟨rfl, by simp⟩⟩, ⟨by simp, Or.inl ⟨rfl, by simp⟩⟩, fun k h => by cases h⟩

/-! ### how the car levels -/
/-- The car stays within what is allowed. -/
def nearB (L : Lif) (f lv x : Int) : Bool := inB (sinkM L f lv x) (-L.lev) L.lev
def lvK (L : Lif) (f : Int) (l : List Int) : Nat → Int
  | 0 => l.getD 0 0
  | k + 1 => if nearB L f (lvK L f l k) (l.getD k 0) = true then lvK L f l k else l.getD k 0
def neaK (L : Lif) (f : Int) (l : List Int) (k : Nat) : Bool := nearB L f (lvK L f l k) (l.getD k 0)
def offK (L : Lif) (f : Int) (l : List Int) (k : Nat) : Int := if neaK L f l k = true then sinkM L f (lvK L f l k) (l.getD k 0) else 0
def offL (L : Lif) (f : Int) (l : List Int) (n : Nat) : List Int := (List.range n).map (offK L f l)
def agaL (L : Lif) (f : Int) (l : List Int) (n : Nat) : List Int := natL ((List.range n).filter fun k => !neaK L f l k)

theorem offL_succ (L : Lif) (f : Int) (l : List Int) (n : Nat) : offL L f l (n + 1) = offL L f l n ++ [offK L f l n] := by
  simp [offL, List.range_succ]
theorem agaL_near {L : Lif} {f : Int} {l : List Int} {n : Nat} (h : neaK L f l n = true) : agaL L f l (n + 1) = agaL L f l n := by
  unfold agaL; rw [filter_no (by rw [h]; rfl)]
theorem agaL_far {L : Lif} {f : Int} {l : List Int} {n : Nat} (h : neaK L f l n = false) : agaL L f l (n + 1) = agaL L f l n ++ [(n : Int)] := by
  unfold agaL; rw [filter_yes (by rw [h]; rfl)]; simp [natL]
theorem offL_len (L : Lif) (f : Int) (l : List Int) (n : Nat) : (offL L f l n).length = n := by simp [offL]
theorem agaL_len (L : Lif) (f : Int) (l : List Int) (n : Nat) : (agaL L f l n).length ≤ n := by
  unfold agaL natL; rw [List.length_map]; exact filter_len _ _

def loadsB (L : Lif) (l : List Int) : Bool := l.all fun x => inB x 0 L.rat
def levE (L : Lif) (f : Int) (l : List Int) : Int := chkE L (fitE (inB f 0 ((L.fl.length : Int) - 1) && inB (l.length : Int) 1 60 && loadsB L l))
def levO (L : Lif) (f : Int) (l : List Int) : List Int := if levE L f l = 0 then offL L f l l.length else []
def levA (L : Lif) (f : Int) (l : List Int) : List Int := if levE L f l = 0 then agaL L f l l.length else []
theorem lev_in {L : Lif} {f : Int} {l : List Int} (he : levE L f l = 0) : LOk L ∧ (0 ≤ f ∧ f < L.fl.length) ∧ (1 ≤ l.length ∧ l.length ≤ 60) ∧ ∀ k, k < l.length → 0 ≤ l.getD k 0 ∧ l.getD k 0 ≤ L.rat := by
  obtain ⟨h1, h2⟩ := chk_zero.1 he
  simp only [Bool.and_eq_true, inB_iff, loadsB, List.all_eq_true] at h2
  refine ⟨ok_of h1, ⟨h2.1.1.1, by omega⟩, ⟨by omega, by omega⟩, fun k hk => h2.2 _ (getD_mem hk 0)⟩

theorem lvK_in {L : Lif} {f : Int} {l : List Int} (h1 : 1 ≤ l.length) (h : ∀ k, k < l.length → 0 ≤ l.getD k 0 ∧ l.getD k 0 ≤ L.rat) : ∀ k, k ≤ l.length → 0 ≤ lvK L f l k ∧ lvK L f l k ≤ L.rat
  | 0, _ => h 0 (by omega)
  | k + 1, hk => by
    simp only [lvK]
    split
    · exact lvK_in h1 h k (by omega)
    · exact h k (by omega)

/-- Two lists and an error. -/
def ListsErr (a b : List Int) (er : Int) (w : World) (e : Ending) (w' : World) : Prop := ∃ v v2, e = .returned (.tuple #[v, v2, .int .i64 er]) ∧ InAt w' v a ∧ InAt w' v2 b ∧ Below w.heap.size w w'
def ListsRes (a b : List Int) (w : World) (e : Ending) (w' : World) : Prop := ∃ v v2, e = .returned (.tuple #[v, v2]) ∧ InAt w' v a ∧ InAt w' v2 b ∧ Below w.heap.size w w'

set_option maxRecDepth 100000 in
set_option maxHeartbeats 4000000 in
theorem llevels_any (L : Lif) (fv v : Value) (f : Int) (l : List Int) (w : World) (hv : InAt w fv L.fl) (hl : InAt w v l) (hL : LOk L) (f0 : 0 ≤ f) (f1 : f < L.fl.length) (n1 : 1 ≤ l.length) (n2 : l.length ≤ 60) (hld : ∀ k, k < l.length → 0 ≤ l.getD k 0 ∧ l.getD k 0 ≤ L.rat) :
    Calls Try.prog 78 #[lifV L fv, .int .i64 f, v] w (ListsRes (offL L f l l.length) (agaL L f l l.length) w) := by
  have HB := Lib.hid ((Below.refl w.heap.size w).alloc (Nat.le_refl _) (lifO L fv))
  have K0 := Lib.hid (block_new w (lifO L fv) w.heap.size rfl)
  have HSZ := Lib.hid (size_alloc w (lifO L fv))
  have HV := Lib.hid (hv.below HB.out (Nat.le_refl _))
  have HD := Lib.hid hld
  have HVK := Lib.hid (fun k hk => lvK_in (L := L) (f := f) n1 hld k hk)
  have HS := Lib.hid (fun (a b : Int) a0 a1 b0 b1 w1 (h : InAt w1 fv L.fl) => lsink_any L fv f a b w1 h hL f0 f1 a0 a1 b0 b1)
  have HSB := Lib.hid (fun (a b : Int) a0 a1 b0 b1 => (sink_bd (a := a) (b := b) hL f0 f1 a0 a1 b0 b1).2)
  have hlv1 := hL.l1
  have hlv2 := hL.l2
  obtain ⟨a, cap, rfl, hn, hcap, hc⟩ := hl
  obtain ⟨b, off, rfl, hbl, hc⟩ := hc (by omega)
  have HC := Lib.hid hc
  have g0 := in_at HB.out hbl hc (k := 0) (by omega)
  rw [Nat.add_zero] at g0
  have hbl2 := Nat.lt_of_lt_of_le hbl HB.out.size
  clear hc hL hld hv
  go_enter Try.func78, Try.ntmps78
  go_wp2_with fail
  generalize w.alloc (lifO L fv) = wA at *
  clear g0
  obtain ⟨i0, hi0, hz0, hz1, hz2⟩ := info_parts infoInt
  go_loopw [6, 7, 8, 17] (fun va vb x i wr => ∃ k : Nat, k ≤ l.length ∧ i = .int .i64 k ∧ x = .int .i64 (lvK L f l k) ∧ Hid (TwoRows wr wA.heap.size va vb (offL L f l k) (agaL L f l k)) ∧ Hid (Below wA.heap.size wA wr)) (fun _ _ _ i _ => l.length - (intOf i).toNat)
  case atStart => exact ⟨0, Nat.zero_le _, rfl, rfl, Lib.hid (TwoRows.nil _ _), Lib.hid (Below.refl _ _)⟩
  case round =>
    obtain ⟨k, hk, rfl, rfl, hT, hb⟩ := hrel
    by_cases hlt : k < l.length
    · have g1 := (hb.out.cell (p := ⟨b, off + k, none⟩) hbl2).trans (in_at HB.out hbl HC.out hlt)
      obtain ⟨x0, x1⟩ := HD.out k hlt
      obtain ⟨y0, y1⟩ := HVK.out k hk
      have HO := Lib.hid (offL_succ L f l k)
      have HA1 := Lib.hid (@agaL_near L f l k)
      have HA2 := Lib.hid (@agaL_far L f l k)
      have HL1 := Lib.hid (show lvK L f l (k + 1) = if neaK L f l k = true then lvK L f l k else l.getD k 0 from rfl)
      have HOK := Lib.hid (show offK L f l k = if neaK L f l k = true then sinkM L f (lvK L f l k) (l.getD k 0) else 0 from rfl)
      have HNK := Lib.hid (show neaK L f l k = inB (sinkM L f (lvK L f l k) (l.getD k 0)) (-L.lev) L.lev from rfl)
      have hla : (offL L f l k).length ≤ 60 := by rw [offL_len]; omega
      have hlb : (agaL L f l k).length ≤ 60 := Nat.le_trans (agaL_len L f l k) (by omega)
      have HR := Lib.hid (HS.out (lvK L f l k) (l.getD k 0) y0 y1 x0 x1)
      obtain ⟨z0, z1⟩ := HSB.out (lvK L f l k) (l.getD k 0) y0 y1 x0 x1
      generalize offL L f l k = A at *
      generalize agaL L f l k = B at *
      generalize lvK L f l k = lv at *
      generalize l.getD k 0 = x at *
      generalize sinkM L f lv x = S at *
      have c0 := block_cell (keepZ K0.out hb.out)
      obtain ⟨ra, ca, rfl, _⟩ := ownsRow_shape hT.out.a
      obtain ⟨rb, cb, rfl, _⟩ := ownsRow_shape hT.out.b
      have j0 : (0 : Int) ≤ k := by omega
      have j1 : (k : Int) < l.length := by omega
      go_wp2_with fail
      refine (HR.out _ (HV.out.below hb.out (Nat.le_refl _))).mono ?_
      rintro e w1 ⟨rfl, hb1⟩
      have HB1 := Lib.hid (hb.out.trans (hb1.mono hb.out.size))
      have HT1 := Lib.hid (hT.out.below hb1)
      clear c0 g1 hb1
      have c0 := block_cell (keepZ K0.out HB1.out)
      have hsz := HB1.out.size
      cases hq : neaK L f l k
      · have HQ := Lib.hid hq
        have HN := Lib.hid (HNK.out.symm.trans hq)
        have HL2 := Lib.hid (HL1.out.trans (if_neg (by rw [hq]; decide)))
        have HO2 := Lib.hid (HO.out.trans (by rw [HOK.out, if_neg (by rw [hq]; decide)]))
        have HA3 := Lib.hid (HA2.out hq)
        clear hq
        go_wp2_with (first | (go_at_call 59; refine (lwithin_is false _ _ _ _ HN.out).mono ?_; rintro e w5 ⟨rfl, rfl⟩) | (at_builtin; refine wpList_append_own_at _ rfl (.tmp 36) (.tmp 38) 22 rfl wA.heap.size 3 i0 (.int .i64 0) 1 8 Try.underlying22 hi0 hz0 hz1 hz2 rfl (by decide) _ (B).length ((B).map (Value.int .i64)) rfl ?c0 _ _ _ [.int .i64 k] rfl rfl ?c1 ?c2 ?c3 ?c4 ?c5 ?_))
        case c0 => exact World.ownsRow.alloc ((Lib.hid HT1.out.swap)).out.a _
        try (case c1 => exact one_cell _ _ _ rfl)
        case c2 => first | rfl | (intro u hu; simp only [List.mem_cons, List.not_mem_nil, or_false] at hu; subst hu; rfl)
        case c3 => unfold maxLen; omega
        case c4 => omega
        case c5 => first | exact Nat.le_trans hsz (al_le _ _) | (simp; omega) | omega
        intro v2 w2 hown2 hgrow2 _ hat2
        have HTR2 := Lib.hid (TwoRows.more (((Lib.hid HT1.out.swap)).out.alloc _) hown2 hgrow2 (hat2.imp id (fun h => by rw [size_alloc]; exact h)))
        have hbX2 := below_grown hgrow2 ((Lib.hid HT1.out.swap)).out.base_le (Nat.le_trans hsz (al_le _ _))
        have HBA2 := Lib.hid (((Below.refl _ _).alloc hsz _).trans hbX2)
        obtain ⟨r2, c2, rfl, _⟩ := ownsRow_shape hown2
        clear hown2 hgrow2 hat2 hbX2
        have hsz2 := (HB1.out.trans HBA2.out).size
        have HB2 := Lib.hid (HB1.out.trans HBA2.out)
        have HT2 := Lib.hid HTR2.out.swap
        clear c0 HBA2 HTR2
        go_wp2_with ((at_builtin; refine wpList_append_own_at _ rfl (.tmp 40) (.tmp 42) 22 rfl wA.heap.size 3 i0 (.int .i64 0) 1 8 Try.underlying22 hi0 hz0 hz1 hz2 rfl (by decide) _ (A).length ((A).map (Value.int .i64)) rfl ?c0 _ _ _ [.int .i64 0] rfl rfl ?c1 ?c2 ?c3 ?c4 ?c5 ?_))
        case c0 => exact World.ownsRow.alloc (HT2).out.a _
        try (case c1 => exact one_cell _ _ _ rfl)
        case c2 => first | rfl | (intro u hu; simp only [List.mem_cons, List.not_mem_nil, or_false] at hu; subst hu; rfl)
        case c3 => unfold maxLen; omega
        case c4 => omega
        case c5 => first | exact Nat.le_trans hsz2 (al_le _ _) | (simp; omega) | omega
        intro v3 w3 hown3 hgrow3 _ hat3
        have HTR3 := Lib.hid (TwoRows.more ((HT2).out.alloc _) hown3 hgrow3 (hat3.imp id (fun h => by rw [size_alloc]; exact h)))
        have hbX3 := below_grown hgrow3 (HT2).out.base_le (Nat.le_trans hsz2 (al_le _ _))
        have HBA3 := Lib.hid (((Below.refl _ _).alloc hsz2 _).trans hbX3)
        obtain ⟨r3, c3, rfl, _⟩ := ownsRow_shape hown3
        clear hown3 hgrow3 hat3 hbX3
        have HB3 := Lib.hid (HB2.out.trans HBA3.out)
        go_wp2
        go_roundw
        case rel => exact ⟨k + 1, hlt, by go_num, by rw [HL2.out], by rw [HO2.out, HA3.out]; exact HTR3, HB3⟩
        case measure => simp [intOf]; omega
      · have HQ := Lib.hid hq
        have HN := Lib.hid (HNK.out.symm.trans hq)
        have HL2 := Lib.hid (HL1.out.trans (if_pos hq))
        have HO2 := Lib.hid (HO.out.trans (by rw [HOK.out, if_pos hq]))
        have HA3 := Lib.hid (HA1.out hq)
        clear hq
        go_wp2_with (first | (go_at_call 59; refine (lwithin_is true _ _ _ _ HN.out).mono ?_; rintro e w5 ⟨rfl, rfl⟩) | (at_builtin; refine wpList_append_own_at _ rfl (.tmp 40) (.tmp 42) 22 rfl wA.heap.size 3 i0 (.int .i64 0) 1 8 Try.underlying22 hi0 hz0 hz1 hz2 rfl (by decide) _ (A).length ((A).map (Value.int .i64)) rfl ?c0 _ _ _ [.int .i64 S] rfl rfl ?c1 ?c2 ?c3 ?c4 ?c5 ?_))
        case c0 => exact World.ownsRow.alloc (HT1).out.a _
        try (case c1 => exact one_cell _ _ _ rfl)
        case c2 => first | rfl | (intro u hu; simp only [List.mem_cons, List.not_mem_nil, or_false] at hu; subst hu; rfl)
        case c3 => unfold maxLen; omega
        case c4 => omega
        case c5 => first | exact Nat.le_trans hsz (al_le _ _) | (simp; omega) | omega
        intro v3 w3 hown3 hgrow3 _ hat3
        have HTR3 := Lib.hid (TwoRows.more ((HT1).out.alloc _) hown3 hgrow3 (hat3.imp id (fun h => by rw [size_alloc]; exact h)))
        have hbX3 := below_grown hgrow3 (HT1).out.base_le (Nat.le_trans hsz (al_le _ _))
        have HBA3 := Lib.hid (((Below.refl _ _).alloc hsz _).trans hbX3)
        obtain ⟨r3, c3, rfl, _⟩ := ownsRow_shape hown3
        clear hown3 hgrow3 hat3 hbX3
        have HB3 := Lib.hid (HB1.out.trans HBA3.out)
        go_wp2
        go_roundw
        case rel => exact ⟨k + 1, hlt, by go_num, by rw [HL2.out], by rw [HO2.out, HA3.out]; exact HTR3, HB3⟩
        case measure => simp [intOf]; omega
    · obtain rfl : k = l.length := by omega
      have HT := hT
      obtain ⟨ra, ca, rfl, _⟩ := ownsRow_shape hT.out.a
      obtain ⟨rb, cb, rfl, _⟩ := ownsRow_shape hT.out.b
      have HBZ := Lib.hid (HB.out.trans (hb.out.mono HB.out.size))
      go_wp2_with fail
      go_ret2
      exact ⟨_, _, rfl, InAt.of_own HT.out.a, InAt.of_own HT.out.b, HBZ.out⟩

end Go.Proofs.Ytnefbiaopconkaa
