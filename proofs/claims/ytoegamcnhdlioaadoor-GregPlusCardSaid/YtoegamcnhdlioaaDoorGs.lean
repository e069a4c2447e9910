/- Days that came in, in a row. -/
import Derived.Test.YtoegamcnhdlioaaDoorGb
import Derived.Test.YtoegamcnhdlioaaDoorGd
import Derived.Deep.Slices
import Derived.ChangeArms
import Derived.KernelRfl
import Derived.Deep.MidRow
namespace Go.Proofs.YtoegamcnhdlioaaDoor
open Go.RowKit Go.Maps Go.Deep Go.ChangeShapes Go.WideShapes
set_option linter.unusedVariables false

/-- A slice that reads as days. -/
def DaysIn (w : World) (a : Option Addr) (l : List Tri) : Prop := l = [] ∨ ∃ b off, a = some ⟨b, off, none⟩ ∧ DaysAt w b off l
theorem DaysIn.below {w w' : World} {a : Option Addr} {l : List Tri} (h : DaysIn w a l) (hb : Below w.heap.size w w') : DaysIn w' a l := by
  rcases h with h | ⟨b, off, e, h⟩
  · exact .inl h
  · exact .inr ⟨b, off, e, h.below hb⟩

theorem cells_int : Tryd.prog.cellsOf 3 = 1 := by kernel_rfl
theorem cells_day : Tryd.prog.cellsOf 23 = 3 := by kernel_rfl
theorem list3 {α : Type} {l : List α} (h : l.length = 3) : ∃ a b c, l = [a, b, c] := by
  match l, h with
  | [a, b, c], _ => exact ⟨a, b, c, rfl⟩

section
variable {H : Type} {enc : TypeId × Value → H} {W : World} {base : Nat} {spare : Nat → Bool} {held : Bool}

theorem day_opened {n : Nat} {cs : List Value} {x : DataW H × List MemPlace} (h : DataW.trod enc Tryd.prog W base spare held n 23 cs = some x) :
    ∃ t : Tri, cs = [iv t.1, iv t.2.1, iv t.2.2] := by
  obtain ⟨xs, n', _, _, hcl, hxl, hf⟩ := DataW.trod_struct Tryd.underlying23 h
  rw [cells_day] at hcl
  obtain ⟨c0, c1, c2, rfl⟩ := list3 hcl
  obtain ⟨y0, y1, y2, rfl⟩ := list3 (show xs.length = 3 from hxl)
  have k0 := hf 0 _ rfl
  have k1 := hf 1 _ rfl
  have k2 := hf 2 _ rfl
  simp [cells_int] at k0 k1 k2
  obtain ⟨z0, e0, _, w0⟩ := DataW.trod_int Tryd.underlying3 k0
  obtain ⟨z1, e1, _, w1⟩ := DataW.trod_int Tryd.underlying3 k1
  obtain ⟨z2, e2, _, w2⟩ := DataW.trod_int Tryd.underlying3 k2
  simp at e0 e1 e2
  subst e0 e1 e2
  exact ⟨(z0, z1, z2), rfl⟩

theorem open_days {r : Reach} {b0 : Nat} {v : Value} {d : DataW H} {p : List MemPlace} (hv : Value.okWide Tryd.prog W r b0 31 v)
    (h : DataW.Trod enc Tryd.prog W base spare held 31 v d p) : ∃ (a : Option Addr) (cap : Nat) (l : List Tri), v = .slice a l.length cap ∧ DaysIn W a l := by
  obtain ⟨a', len', cap', rfl⟩ := okWide_slice Tryd.underlying31 hv
  obtain ⟨fuel, hf⟩ := h
  rcases open_slice Tryd.underlying31 hf with ⟨hcs, _⟩ | ⟨a, len, cap, m, n', D, Pl, hcs, _, hl, hm, hmm, _, hi⟩
  · simp [Value.cells] at hcs
    obtain ⟨rfl, rfl, rfl⟩ := hcs
    exact ⟨none, 0, [], rfl, .inl rfl⟩
  · simp [Value.cells] at hcs
    obtain ⟨rfl, rfl, rfl⟩ := hcs
    have hlm : len' ≤ m := by rw [hmm]; split <;> omega
    have key : ∀ i, i < len' → ∃ t : Tri, ∀ (j : Nat) v, [iv t.1, iv t.2.1, iv t.2.2][j]? = some v → W.cell? (a.add (i * 3 + j)) = some v := fun i hil => by
      obtain ⟨cs', hc, ht⟩ := hi i (by omega)
      rw [cells_day] at hc
      obtain ⟨t, rfl⟩ := day_opened ht
      obtain ⟨_, hcl, hat⟩ := World.cells?_some hc
      refine ⟨t, fun j v hv => ?_⟩
      have hj : j < 3 := (List.getElem?_eq_some_iff.1 hv).1
      rw [← add_add, hat j hj, hv]
    obtain ⟨f, hf⟩ := choose_lt key
    by_cases h0 : len' = 0
    · subst h0; exact ⟨some a, cap', [], rfl, .inl rfl⟩
    · obtain ⟨g, o, sp⟩ := a
      have hc0 := hf 0 (by omega) 0 _ rfl
      have hsp : sp = none := by simpa [Addr.add] using World.cell?_spot hc0
      subst hsp
      refine ⟨some ⟨g, o, none⟩, cap', (List.range len').map f, by simp, .inr ⟨g, o, rfl, fun i hil => ?_⟩⟩
      have hil2 : i < len' := by simpa using hil
      have e : ((List.range len').map f)[i] = f i := by simp
      rw [e]
      have q := fun j v hv => hf i hil2 j v hv
      simp only [Addr.add_mid] at q
      exact ⟨by simpa using q 0 _ rfl, by simpa [Nat.add_assoc] using q 1 _ rfl, by simpa [Nat.add_assoc] using q 2 _ rfl⟩
end
end Go.Proofs.YtoegamcnhdlioaaDoor
