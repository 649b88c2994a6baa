/- Regions that draw their order and hold calls that make memory: one walk in the order of the text, in the class of the worlds that are as W below block B. -/
import Derived.Deep.QuietTactic
import Derived.BigQuiet
import Derived.Below
import Derived.Test.YtnefbiaopconkaaGe
namespace Go.Proofs.Ytnefbiaopconkaa
open Go.RowKit

/-- A world that is as W below block B. -/
structure BW (B : Nat) (W : World) where
  w : World
  b : Below B W w

instance bwNonempty (B : Nat) (W : World) : Nonempty (BW B W) := ⟨⟨W, Below.refl _ _⟩⟩

section
variable {P : Program} {B : Nat} {W : World}

theorem wp_region_below {id : Nat} {Q : Exit → Act → World → Prop} {a : Act} {w : World} {l : List Oper} (hm : P.follows .mixedOrders = true) (hB : Region.lexB .any l.toArray = true) (hw : Below B W w)
    (h : wpQuiet P l.toArray (fun w' => ∃ x : BW B W, w' = x.w) (fun a' => ∀ w', (∃ x : BW B W, w' = x.w) → Q .normal a' w') l a) : (Code.region id l.toArray true).wp P Q a w :=
  wp_region_quiet (C := fun w' => ∃ x : BW B W, w' = x.w) hm hB ⟨⟨_, hw.drew⟩, rfl⟩ (by simpa using h)

theorem bw_call {f : FuncId} {args : Array Value} {x : BW B W} {v : Value} (hB : B ≤ W.heap.size) (h : Calls P f args x.w fun e w' => e = .returned v ∧ Below x.w.heap.size x.w w') :
    Calls P f args x.w fun e w'' => e = .returned v ∧ ∃ y : BW B W, w'' = y.w :=
  h.mono fun _ w' ⟨he, hb⟩ => ⟨he, ⟨w', x.b.trans (hb.mono (Nat.le_trans hB x.b.size))⟩, rfl⟩

theorem bw_same {f : FuncId} {args : Array Value} {x : BW B W} {v : Value} (h : Calls P f args x.w fun e w' => e = .returned v ∧ x.w = w') :
    Calls P f args x.w fun e w'' => e = .returned v ∧ ∃ y : BW B W, w'' = y.w :=
  h.mono fun _ _ ⟨he, hb⟩ => ⟨he, x, hb.symm⟩

theorem bw_same' {f : FuncId} {args : Array Value} {x : BW B W} {v : Value} (h : Calls P f args x.w fun e w' => e = .returned v ∧ w' = x.w) :
    Calls P f args x.w fun e w'' => e = .returned v ∧ ∃ y : BW B W, w'' = y.w :=
  h.mono fun _ _ ⟨he, hb⟩ => ⟨he, x, hb⟩

/-- A call from a world that is as A below B: so is the world behind it. -/
theorem calls_big {f : FuncId} {args : Array Value} {A W' : World} {v : Ending} (hB : Below B A W') (hA : B ≤ A.heap.size) (h : Calls P f args W' fun e w' => e = v ∧ Below W'.heap.size W' w') : Calls P f args W' fun e w' => e = v ∧ Below B A w' :=
  h.mono fun _ _ ⟨he, hb⟩ => ⟨he, hB.trans (hb.mono (Nat.le_trans hA hB.size))⟩

theorem bw_out {w' : World} (h : ∃ x : BW B W, w' = x.w) : Below B W w' := by
  obtain ⟨x, rfl⟩ := h
  exact x.b

/-- The cells of a block that is known, in every world of the class. -/
theorem bw_cells {b : Nat} {cs : Array Value} {t : TypeId} (hk : W.heap[b]? = some (.cells cs t (0, 0))) (hb : b < B) : ∀ (x : BW B W) (o : Nat), x.w.cell? ⟨b, o, none⟩ = cs[o]? :=
  fun x o => block_cell ((x.b.block b hb).trans hk) o

theorem bw_cell {b o : Nat} {v : Value} (hk : W.cell? ⟨b, o, none⟩ = some v) (hb : b < B) : ∀ x : BW B W, x.w.cell? ⟨b, o, none⟩ = some v :=
  fun x => (x.b.cell (p := ⟨b, o, none⟩) hb).trans hk
end

end Go.Proofs.Ytnefbiaopconkaa
