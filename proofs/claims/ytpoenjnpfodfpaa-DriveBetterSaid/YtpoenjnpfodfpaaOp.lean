/- How the arguments of the statements read: an escalator and a push that came in are ones of the plain mathematics. -/
import Derived.Test.YtpoenjnpfodfpaaRows
import Derived.ProofKit
import Derived.Deep.Slices
import Derived.ChangeOld
import Derived.Below
import Derived.Test.YtpoenjnpfodfpaaDm
import Derived.Test.YtpoenjnpfodfpaaGe
namespace Go.Proofs.Ytpoenjnpfodfpaa
open Go.ChangeShapes Go.WideShapes Go.ChangeAt Go.RowKit Go.Deep

section
variable {H : Type} {enc : TypeId × Value → H} {P : Program} {w : World} {base : Nat} {spare : Nat → Bool} {held : Bool}

theorem field_of {t : TypeId} {fs : Array Field} {fuel : Nat} {cs : List Value} {x : DataW H × List MemPlace} (ht : P.underlying t = some (.struct fs)) (h : DataW.trod enc P w base spare held fuel t cs = some x) :
    ∃ n, cs.length = P.cellsOf t ∧ ∀ (i : Nat) (f : Field), fs[i]? = some f → ∃ y, DataW.trod enc P w base spare held n f.type ((cs.drop f.offset).take (P.cellsOf f.type)) = some y := by
  obtain ⟨xs, n, _, _, hl, hx, hf⟩ := DataW.trod_struct ht h
  refine ⟨n, hl, fun i f hi => ?_⟩
  have hlt : i < fs.size := (Array.getElem?_eq_some_iff.1 hi).1
  exact ⟨xs[i]'(by omega), by rw [hf i f hi]; exact List.getElem?_eq_getElem (by omega)⟩

theorem int_at {t : TypeId} {k : IntKind} {fuel : Nat} {cs : List Value} {x : DataW H × List MemPlace} (ht : P.underlying t = some (.int k)) (h : DataW.trod enc P w base spare held fuel t cs = some x) : ∃ n, cs = [.int k n] := by
  obtain ⟨n, h1, _, _⟩ := DataW.trod_int ht h
  exact ⟨n, h1⟩
end

theorem list2 {α : Type} {l : List α} (h : l.length = 2) : ∃ a b, l = [a, b] := by
  match l, h with
  | [a, b], _ => exact ⟨a, b, rfl⟩

theorem cells24 : Try.prog.cellsOf 24 = 6 := by kernel_rfl
theorem cells65 : Try.prog.cellsOf 65 = 2 := by kernel_rfl
theorem cells26 : Try.prog.cellsOf 26 = 3 := by kernel_rfl
theorem cells3 : Try.prog.cellsOf 3 = 1 := by kernel_rfl
theorem cells4 : Try.prog.cellsOf 4 = 1 := by kernel_rfl
theorem cells22 : Try.prog.cellsOf 22 = 1 := by kernel_rfl

section
variable {H : Type} {enc : TypeId × Value → H} {W : World} {d : DataW H} {ps : List MemPlace}

theorem brakes_of {fuel : Nat} {v : Value} {x : DataW H × List MemPlace} (h : DataW.trod enc Try.prog W 0 (fun _ => true) true fuel 22 [v] = some x) : ∃ bs, BrAt W v bs := by
  rcases open_slice Try.underlying22 h with ⟨h0, _⟩ | ⟨a, len, cap, m, n, D, Pl, hcs, _, hl, hcap, hm, _, hel⟩
  · simp only [List.cons.injEq, and_true] at h0
    subst h0
    exact ⟨[], none, 0, rfl, Nat.le_refl _, by decide, fun h => by simp at h⟩
  · simp only [List.cons.injEq, and_true] at hcs
    subst hcs
    simp only [if_true] at hm
    subst hm
    have key : ∀ i, i < len → ∃ q : Int × Int, W.cell? (a.add (i * 2)) = some (.int .i64 q.1) ∧ W.cell? ((a.add (i * 2)).add 1) = some (.int .i64 q.2) := by
      intro i hi
      obtain ⟨cs, hc, ht⟩ := hel i (by omega)
      rw [cells65] at hc
      obtain ⟨_, hlen, hat⟩ := World.cells?_some hc
      obtain ⟨n', _, hf⟩ := field_of Try.underlying65 ht
      obtain ⟨y0, hy0⟩ : ∃ y, DataW.trod enc Try.prog W 0 (fun _ => true) true n' 3 ((cs.drop 0).take (Try.prog.cellsOf 3)) = some y := hf 0 _ rfl
      obtain ⟨y1, hy1⟩ : ∃ y, DataW.trod enc Try.prog W 0 (fun _ => true) true n' 3 ((cs.drop 1).take (Try.prog.cellsOf 3)) = some y := hf 1 _ rfl
      rw [cells3] at hy0 hy1
      obtain ⟨f, e0⟩ := int_at Try.underlying3 hy0
      obtain ⟨g, e1⟩ := int_at Try.underlying3 hy1
      obtain ⟨c0, c1, rfl⟩ := list2 hlen
      simp at e0 e1
      subst e0 e1
      refine ⟨(f, g), ?_, ?_⟩
      · have := hat 0 (by omega); simpa [Addr.add] using this
      · have := hat 1 (by omega); simpa using this
    obtain ⟨g, hg⟩ := choose_lt key
    refine ⟨(List.range len).map g, some a, m, by simp, by simpa using hl, by unfold maxLen at hcap; omega, fun hpos => ?_⟩
    have hpos' : 0 < len := by simpa using hpos
    obtain ⟨b, off, spot⟩ := a
    have h00 := (hg 0 hpos').1
    have hspot : spot = none := by simpa [Addr.add] using World.cell?_spot h00
    subst hspot
    have hb : b < W.heap.size := by
      have := cell_lt h00
      rw [add_plain] at this
      exact this
    refine ⟨b, off, rfl, hb, fun i hi => ?_⟩
    have hi' : i < len := by simpa using hi
    have e : ((List.range len).map g).getD i (0, 0) = g i := by simp [List.getD_eq_getElem?_getD, hi']
    rw [e]
    obtain ⟨c1, c2⟩ := hg i hi'
    rw [add_plain] at c1 c2
    rw [add_plain] at c2
    exact ⟨c1, c2⟩

theorem esc_of {v : Value} (hv : Value.okWide Try.prog W .any 0 24 v) (h : DataW.Trod enc Try.prog W 0 (fun _ => true) true 24 v d ps) : ∃ (E : Esc) (bv : Value), v = escV E bv ∧ BrAt W bv E.bs := by
  obtain ⟨cs, rfl, _⟩ := okWide_struct Try.underlying24 hv
  obtain ⟨fuel, hf⟩ := h
  obtain ⟨n, hl, hx⟩ := field_of Try.underlying24 hf
  obtain ⟨l⟩ := cs
  simp only [Value.cells] at hl hx
  rw [cells24] at hl
  obtain ⟨y0, h0⟩ : ∃ y, DataW.trod enc Try.prog W 0 (fun _ => true) true n 4 ((l.drop 0).take (Try.prog.cellsOf 4)) = some y := hx 0 _ rfl
  obtain ⟨y1, h1⟩ : ∃ y, DataW.trod enc Try.prog W 0 (fun _ => true) true n 3 ((l.drop 1).take (Try.prog.cellsOf 3)) = some y := hx 1 _ rfl
  obtain ⟨y2, h2⟩ : ∃ y, DataW.trod enc Try.prog W 0 (fun _ => true) true n 3 ((l.drop 2).take (Try.prog.cellsOf 3)) = some y := hx 2 _ rfl
  obtain ⟨y3, h3⟩ : ∃ y, DataW.trod enc Try.prog W 0 (fun _ => true) true n 3 ((l.drop 3).take (Try.prog.cellsOf 3)) = some y := hx 3 _ rfl
  obtain ⟨y4, h4⟩ : ∃ y, DataW.trod enc Try.prog W 0 (fun _ => true) true n 3 ((l.drop 4).take (Try.prog.cellsOf 3)) = some y := hx 4 _ rfl
  obtain ⟨y5, h5⟩ : ∃ y, DataW.trod enc Try.prog W 0 (fun _ => true) true n 22 ((l.drop 5).take (Try.prog.cellsOf 22)) = some y := hx 5 _ rfl
  rw [cells4] at h0
  rw [cells3] at h1 h2 h3 h4
  rw [cells22] at h5
  obtain ⟨up, e0, _⟩ := DataW.trod_bool Try.underlying4 h0
  obtain ⟨em, e1⟩ := int_at Try.underlying3 h1
  obtain ⟨pu, e2⟩ := int_at Try.underlying3 h2
  obtain ⟨dr, e3⟩ := int_at Try.underlying3 h3
  obtain ⟨mo, e4⟩ := int_at Try.underlying3 h4
  match l, hl with
  | [c0, c1, c2, c3, c4, c5], _ =>
    simp at e0 e1 e2 e3 e4
    subst e0 e1 e2 e3 e4
    obtain ⟨bs, hb⟩ := brakes_of (by simpa using h5)
    exact ⟨⟨up, em, pu, dr, mo, bs⟩, c5, rfl, hb⟩

theorem push_of {v : Value} (hv : Value.okWide Try.prog W .any 0 26 v) (h : DataW.Trod enc Try.prog W 0 (fun _ => true) true 26 v d ps) : ∃ s l f : Int, v = .agg #[.int .i64 s, .int .i64 l, .int .i64 f] := by
  obtain ⟨cs, rfl, _⟩ := okWide_struct Try.underlying26 hv
  obtain ⟨fuel, hf⟩ := h
  obtain ⟨n, hl, hx⟩ := field_of Try.underlying26 hf
  obtain ⟨l⟩ := cs
  simp only [Value.cells] at hl hx
  rw [cells26] at hl
  obtain ⟨y0, h0⟩ : ∃ y, DataW.trod enc Try.prog W 0 (fun _ => true) true n 3 ((l.drop 0).take (Try.prog.cellsOf 3)) = some y := hx 0 _ rfl
  obtain ⟨y1, h1⟩ : ∃ y, DataW.trod enc Try.prog W 0 (fun _ => true) true n 3 ((l.drop 1).take (Try.prog.cellsOf 3)) = some y := hx 1 _ rfl
  obtain ⟨y2, h2⟩ : ∃ y, DataW.trod enc Try.prog W 0 (fun _ => true) true n 3 ((l.drop 2).take (Try.prog.cellsOf 3)) = some y := hx 2 _ rfl
  rw [cells3] at h0 h1 h2
  obtain ⟨s, e0⟩ := int_at Try.underlying3 h0
  obtain ⟨ld, e1⟩ := int_at Try.underlying3 h1
  obtain ⟨f, e2⟩ := int_at Try.underlying3 h2
  match l, hl with
  | [c0, c1, c2], _ =>
    simp at e0 e1 e2
    subst e0 e1 e2
    exact ⟨s, ld, f, rfl⟩
end

end Go.Proofs.Ytpoenjnpfodfpaa
