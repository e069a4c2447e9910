/- A region that draws its order, and whose calls make memory: walked once, in the class of the worlds in which all that was there lies as it did. -/
import Derived.WalkKit
import Derived.BigQuiet
import Derived.Deep.Quiet
import Derived.Below
namespace Go.Proofs.YtddjfeofmihgdaaDoor
open Go.RowKit

/-- A world behind w in which all that was there lies as it did. -/
structure Past (w : World) where
  to : World
  below : Below w.heap.size w to
instance (w : World) : Nonempty (Past w) := ⟨⟨w, Below.refl _ w⟩⟩
theorem Past.cell {w : World} {p : Addr} {v : Value} (h : w.cell? p = some v) (k : Past w) : k.to.cell? p = some v := by
  have hlt : p.block < w.heap.size := World.block_lt_of_cell? w _ h
  rw [k.below.cell hlt]; exact h
theorem Past.heap {w : World} {b : Nat} {o : Obj} (h : w.heap[b]? = some o) (k : Past w) : k.to.heap[b]? = some o := by
  rw [k.below.block b (Array.getElem?_eq_some_iff.1 h).1]; exact h
theorem Past.calls {P : Program} {f : FuncId} {args : Array Value} {w : World} {k : Past w} {v : Value}
    (h : Calls P f args k.to fun e w' => e = .returned v ∧ Below k.to.heap.size k.to w') : Calls P f args k.to fun e w'' => e = .returned v ∧ ∃ j : Past w, w'' = j.to :=
  h.mono fun _ _ ⟨he, hb⟩ => ⟨he, ⟨_, k.below.trans (hb.mono k.below.size)⟩, rfl⟩
theorem Past.calls_same {P : Program} {f : FuncId} {args : Array Value} {w : World} {k : Past w} {v : Value}
    (h : Calls P f args k.to fun e w' => e = .returned v ∧ w' = k.to) : Calls P f args k.to fun e w'' => e = .returned v ∧ ∃ j : Past w, w'' = j.to :=
  h.mono fun _ _ ⟨he, hb⟩ => ⟨he, k, hb⟩
theorem Past.calls_left {P : Program} {f : FuncId} {args : Array Value} {w : World} {k : Past w} {v : Value}
    (h : Calls P f args k.to fun e w' => e = .returned v ∧ k.to = w') : Calls P f args k.to fun e w'' => e = .returned v ∧ ∃ j : Past w, w'' = j.to :=
  h.mono fun _ _ ⟨he, hb⟩ => ⟨he, k, hb.symm⟩
theorem region_past {P : Program} {id : Nat} {Q : Exit → Act → World → Prop} {a : Act} {w : World} {l : List Oper} (hm : P.follows .mixedOrders = true) (hB : Region.lexB .any l.toArray = true)
    (h : wpQuiet P l.toArray (fun w' => ∃ k : Past w, w' = k.to) (fun a' => ∀ k : Past w, Q .normal a' k.to) l a) : (Code.region id l.toArray true).wp P Q a w :=
  wp_region_quiet (C := fun w' => ∃ k : Past w, w' = k.to) hm hB ⟨⟨w.drew, (Below.refl _ w).drew⟩, rfl⟩ (by
    have e : (fun a' => ∀ w', (∃ k : Past w, w' = k.to) → Q .normal a' w') = fun a' => ∀ k : Past w, Q .normal a' k.to := by
      funext a'
      exact propext ⟨fun h k => h _ ⟨k, rfl⟩, fun h w' ⟨k, e⟩ => e ▸ h k⟩
    rw [e]
    exact h)
end Go.Proofs.YtddjfeofmihgdaaDoor
