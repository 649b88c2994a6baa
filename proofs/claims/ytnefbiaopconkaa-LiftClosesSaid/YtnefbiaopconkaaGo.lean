/- How arguments read: slices of elements of m cells, of ints, structs; and what their readings weigh. What the rows of every layer use. -/
import Derived.Test.YtnefbiaopconkaaRows
import Derived.ProofKit
import Derived.Deep.Slices
import Derived.ChangeOld
import Derived.Below
import Derived.SizedLaws
import Derived.Test.YtnefbiaopconkaaGs
namespace Go.Proofs.Ytnefbiaopconkaa
open Go.ChangeShapes Go.WideShapes Go.ChangeAt Go.RowKit Go.Deep

section
variable {H : Type} {enc : TypeId × Value → H} {P : Program} {w : World} {base : Nat} {spare : Nat → Bool} {held : Bool}

theorem fieldOf {t : TypeId} {fs : Array Field} {fuel : Nat} {cs : List Value} {x : DataW H × List MemPlace} (ht : P.underlying t = some (.struct fs)) (h : DataW.trod enc P w base spare held fuel t cs = some x) :
    ∃ n, cs.length = P.cellsOf t ∧ ∃ parts : List (DataW H), x.1 = .agg parts ∧ ∀ (i : Nat) (f : Field), fs[i]? = some f → ∃ y, DataW.trod enc P w base spare held n f.type ((cs.drop f.offset).take (P.cellsOf f.type)) = some y ∧ parts[i]? = some y.1 := by
  obtain ⟨xs, n, _, hxe, hl, hx, hf⟩ := DataW.trod_struct ht h
  refine ⟨n, hl, xs.map (·.1), by rw [hxe], fun i f hi => ?_⟩
  have hlt : i < fs.size := (Array.getElem?_eq_some_iff.1 hi).1
  exact ⟨xs[i]'(by omega), by rw [hf i f hi]; exact List.getElem?_eq_getElem (by omega), by rw [List.getElem?_map, List.getElem?_eq_getElem (by omega)]; rfl⟩

theorem intAt {t : TypeId} {k : IntKind} {fuel : Nat} {cs : List Value} {x : DataW H × List MemPlace} (ht : P.underlying t = some (.int k)) (h : DataW.trod enc P w base spare held fuel t cs = some x) : ∃ n, cs = [.int k n] := by
  obtain ⟨n, h1, _, _⟩ := DataW.trod_int ht h
  exact ⟨n, h1⟩

theorem boolAt {t : TypeId} {fuel : Nat} {cs : List Value} {x : DataW H × List MemPlace} (ht : P.underlying t = some .bool) (h : DataW.trod enc P w base spare held fuel t cs = some x) : ∃ n, cs = [.bool n] := by
  obtain ⟨n, h1, _⟩ := DataW.trod_bool ht h
  exact ⟨n, h1⟩

/-- The datum of a slice of n elements. -/
def SlShape (d : DataW H) (n : Nat) : Prop := (d = .nil ∧ n = 0) ∨ ∃ elems sp, d = .slice elems sp ∧ elems.length = n

theorem SlShape.weight {d : DataW H} {n : Nat} (h : SlShape d n) {t e : TypeId} (hu : P.underlying t = some (.slice e)) (hw : ∀ k ∈ d.weights P t, k ≤ reachBytes) : n * P.bytesOf e ≤ reachBytes := by
  rcases h with ⟨rfl, rfl⟩ | ⟨elems, sp, rfl, rfl⟩
  · simp
  · have := hw ((elems.length + sp.length) * P.bytesOf e) (by simp [DataW.weights, hu])
    exact Nat.le_trans (Nat.mul_le_mul_right _ (Nat.le_add_right _ _)) this

theorem weights_part {t : TypeId} {fs : Array Field} {parts : List (DataW H)} {i : Nat} {f : Field} {d : DataW H} (hu : P.underlying t = some (.struct fs)) (hf : fs[i]? = some f) (hd : parts[i]? = some d) (hw : ∀ k ∈ (DataW.agg parts).weights P t, k ≤ reachBytes) :
    ∀ k ∈ d.weights P f.type, k ≤ reachBytes := fun k hk => by
  refine hw k ?_
  simp only [DataW.weights, hu]
  exact DataW.weights_mem_each (j := i) (by rw [List.getElem?_map, Array.getElem?_toList, hf]; rfl) hd k hk

theorem weights_arg {ts : List TypeId} {ds : List (DataW H)} (h : (DataW.weightsEach P ts ds).all (· ≤ reachBytes) = true) {j : Nat} {t : TypeId} {d : DataW H} (ht : ts[j]? = some t) (hd : ds[j]? = some d) : ∀ k ∈ d.weights P t, k ≤ reachBytes := fun k hk => by
  have := List.all_eq_true.1 h k (DataW.weights_mem_each ht hd k hk)
  simpa using this

theorem addPlain (b off i : Nat) : (⟨b, off, none⟩ : Addr).add i = ⟨b, off + i, none⟩ := by unfold Addr.add; split <;> simp_all

end

section
variable {H : Type} {enc : TypeId × Value → H} {P : Program} {W : World}

theorem elemsOf {α : Type} [Inhabited α] {f : α → List Value} {m : Nat} {ts te : TypeId} (ht : P.underlying ts = some (.slice te)) (hm : P.cellsOf te = m) (hm0 : 0 < m) (hf : ∀ x, (f x).length = m)
    (dec : ∀ (n : Nat) (cs : List Value) (x : DataW H × List MemPlace), DataW.trod enc P W 0 (fun _ => true) true n te cs = some x → ∃ a, cs = f a)
    {fuel : Nat} {v : Value} {x : DataW H × List MemPlace} (h : DataW.trod enc P W 0 (fun _ => true) true fuel ts [v] = some x) : ∃ xs : List α, ElAt m f W v xs ∧ SlShape x.1 xs.length := by
  subst hm
  rcases open_slice ht h with ⟨h0, hx⟩ | ⟨a, len, cap, m, n, D, Pl, hcs, _, hl, hcap, hm, hx, hel⟩
  · simp only [List.cons.injEq, and_true] at h0
    subst h0
    exact ⟨[], ElAt.nil W, .inl ⟨by rw [hx], rfl⟩⟩
  · simp only [List.cons.injEq, and_true] at hcs
    subst hcs
    simp only [if_true] at hm
    subst hm
    have key : ∀ i, i < len → ∃ q : α, ∀ j u, (f q)[j]? = some u → W.cell? ((a.add (i * P.cellsOf te)).add j) = some u := by
      intro i hi
      obtain ⟨cs, hc, htr⟩ := hel i (by omega)
      obtain ⟨_, hlen, hat⟩ := World.cells?_some hc
      obtain ⟨q, rfl⟩ := dec _ _ _ htr
      refine ⟨q, fun j u hu => ?_⟩
      have hj : j < P.cellsOf te := by rw [← hf q]; exact (List.getElem?_eq_some_iff.1 hu).1
      rw [hat j hj, hu]
    obtain ⟨g, hg⟩ := choose_lt key
    refine ⟨(List.range len).map g, ⟨some a, m, by simp, by simpa using hl, by unfold maxLen at hcap; omega, fun hpos => ?_⟩, .inr ⟨_, _, by rw [hx], by simp⟩⟩
    have hpos' : 0 < len := by simpa using hpos
    have hl0 : 0 < (f (g 0)).length := by rw [hf]; exact hm0
    have hu0 : (f (g 0))[0]? = some (f (g 0))[0] := List.getElem?_eq_getElem hl0
    have h00 := hg 0 hpos' 0 _ hu0
    have hspot : a.spot = none := by simpa [Addr.add] using World.cell?_spot h00
    obtain ⟨b, off, spot⟩ := a
    subst hspot
    have hb : b < W.heap.size := by
      have := cell_lt h00
      rw [addPlain, addPlain] at this
      exact this
    refine ⟨b, off, rfl, hb, fun i x hxi j u hu => ?_⟩
    have hi' : i < len := by simpa using (List.getElem?_eq_some_iff.1 hxi).1
    rw [List.getElem?_map, List.getElem?_range hi'] at hxi
    obtain rfl : g i = x := by simpa using hxi
    have := hg i hi' j u hu
    rw [addPlain, addPlain] at this
    exact this

theorem intsOf {ts te : TypeId} (ht : P.underlying ts = some (.slice te)) (hte : P.underlying te = some (.int .i64)) (hm : P.cellsOf te = 1)
    {fuel : Nat} {v : Value} {x : DataW H × List MemPlace} (h : DataW.trod enc P W 0 (fun _ => true) true fuel ts [v] = some x) : ∃ xs : List Int, InAt W v xs ∧ SlShape x.1 xs.length := by
  obtain ⟨xs, h1, h2⟩ := elemsOf (f := fun n : Int => [Value.int .i64 n]) ht hm (by decide) (fun _ => rfl) (fun n cs x h => intAt hte h) h
  refine ⟨xs, ?_, h2⟩
  obtain ⟨a, cap, rfl, h3, h4, h5⟩ := h1
  refine ⟨a, cap, rfl, h3, h4, fun hp => ?_⟩
  obtain ⟨b, off, rfl, hb, hc⟩ := h5 hp
  refine ⟨b, off, rfl, hb, fun i hi => ?_⟩
  have := hc i _ (getD_get? hi 0) 0 _ rfl
  simpa using this
end

end Go.Proofs.Ytnefbiaopconkaa
