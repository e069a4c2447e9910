/- Slices of texts. -/
import Derived.Test.YtddjfeofmihgdaaDoorCb
namespace Go.Proofs.YtddjfeofmihgdaaDoor
open Go.RowKit
set_option linter.unusedVariables false

/-- Texts behind one another from a place of a block on. -/
def StrsAt (w : World) (b off : Nat) (l : List ByteArray) : Prop := ∀ (i : Nat) (h : i < l.length), w.cell? ⟨b, off + i, none⟩ = some (.string l[i])
def StrsIn (w : World) (a : Option Addr) (l : List ByteArray) : Prop := l = [] ∨ ∃ b off, a = some ⟨b, off, none⟩ ∧ StrsAt w b off l
theorem StrsAt.below {w w' : World} {b off : Nat} {l : List ByteArray} (h : StrsAt w b off l) (hb : Below w.heap.size w w') : StrsAt w' b off l := fun i hi => by
  have c := h i hi
  rw [hb.cell (World.block_lt_of_cell? w _ c)]; exact c
theorem StrsIn.below {w w' : World} {a : Option Addr} {l : List ByteArray} (h : StrsIn w a l) (hb : Below w.heap.size w w') : StrsIn w' a l := by
  rcases h with h | ⟨b, off, e, h⟩
  · exact .inl h
  · exact .inr ⟨b, off, e, h.below hb⟩
theorem StrsIn.form {w : World} {a : Option Addr} {l : List ByteArray} (h : StrsIn w a l) {k : Nat} (hk : k < l.length) : ∃ b off, a = some ⟨b, off, none⟩ ∧ StrsAt w b off l := by
  rcases h with rfl | h
  · simp at hk
  · exact h
theorem StrsIn.at_ {w : World} {b off : Nat} {l : List ByteArray} (h : StrsIn w (some ⟨b, off, none⟩) l) : StrsAt w b off l := by
  rcases h with rfl | ⟨b', off', e, h⟩
  · intro i hi; simp at hi
  · injection e with e; injection e with e1 e2; subst e1 e2; exact h
theorem StrsAt.drop {w : World} {b off : Nat} {l : List ByteArray} (h : StrsAt w b off l) (k : Nat) : StrsAt w b (off + k) (l.drop k) := fun i hi => by
  rw [List.length_drop] at hi
  rw [List.getElem_drop, Nat.add_assoc]; exact h (k + i) (by omega)
theorem StrsAt.take {w : World} {b off : Nat} {l : List ByteArray} (h : StrsAt w b off l) (k : Nat) : StrsAt w b off (l.take k) := fun i hi => by
  rw [List.length_take] at hi
  rw [List.getElem_take]; exact h i (by omega)
theorem StrsIn.take {w : World} {a : Option Addr} {l : List ByteArray} (h : StrsIn w a l) (k : Nat) : StrsIn w a (l.take k) := by
  rcases h with rfl | ⟨b, off, e, h⟩
  · exact .inl (by simp)
  · exact .inr ⟨b, off, e, h.take k⟩
def Small (l : List ByteArray) : Prop := l.length ≤ 9223372036854775807 ∧ ∀ s ∈ l, s.size ≤ 9223372036854775807
theorem Small.take {l : List ByteArray} (h : Small l) (k : Nat) : Small (l.take k) := ⟨by have := h.1; rw [List.length_take]; omega, fun s hs => h.2 s (List.mem_of_mem_take hs)⟩
theorem Small.drop {l : List ByteArray} (h : Small l) (k : Nat) : Small (l.drop k) := ⟨by have := h.1; rw [List.length_drop]; omega, fun s hs => h.2 s (List.mem_of_mem_drop hs)⟩
/-- All bytes of texts. -/
def flat (l : List ByteArray) : List UInt8 := l.flatMap bts
theorem flat_snoc (l : List ByteArray) (s : ByteArray) : flat (l ++ [s]) = flat l ++ bts s := by unfold flat; simp
theorem flat_append (l m : List ByteArray) : flat (l ++ m) = flat l ++ flat m := by unfold flat; simp
theorem take_snoc {α : Type} (l : List α) (k : Nat) (h : k < l.length) : l.take (k + 1) = l.take k ++ [l[k]] := by
  rw [List.take_add_one, List.getElem?_eq_getElem h]; rfl
theorem flat_take (l : List ByteArray) (k : Nat) (h : k < l.length) : flat (l.take (k + 1)) = flat (l.take k) ++ bts l[k] := by
  rw [take_snoc l k h]; exact flat_snoc _ _

theorem infoStr : (Tryd.prog.info? 9).map (fun i => (i.zero, i.size, i.bytes)) = some (some (.string ⟨#[]⟩), 1, 16) := by kernel_rfl
theorem wpList_bs_str1 {ops : Array Oper} {rest : List Oper} {o : Oper} {a : Act} {w : World} {Q : Exit → Act → World → Prop} (hg : o.guard = none) (x : Operand) (ho : o.op = .buildSlice 22 1 #[(0, x)]) {s : ByteArray} (hx : a.eval x = .string s)
    (h : wpList Tryd.prog ops Q rest (a.put o.dst (.slice (some ⟨w.heap.size, 0, none⟩) 1 1)) (w.alloc (.cells #[.string s] 9))) : wpList Tryd.prog ops Q (o :: rest) a w := by
  obtain ⟨i, hi, hz, hs, _⟩ := infoParts _ _ _ _ infoStr
  exact wpList_buildSlice hg 22 9 1 _ ho #[.string s] i (.string ⟨#[]⟩) Tryd.underlying22 hi hz (by rw [hs]; decide) (by rw [hs]; decide) (by rw [hs]; simp only [List.map_toArray, List.map_cons, List.map_nil, hx]; kernel_rfl) h
theorem wpList_bs_str2 {ops : Array Oper} {rest : List Oper} {o : Oper} {a : Act} {w : World} {Q : Exit → Act → World → Prop} (hg : o.guard = none) (x y : Operand) (ho : o.op = .buildSlice 22 2 #[(0, x), (1, y)]) {s t : ByteArray} (hx : a.eval x = .string s) (hy : a.eval y = .string t)
    (h : wpList Tryd.prog ops Q rest (a.put o.dst (.slice (some ⟨w.heap.size, 0, none⟩) 2 2)) (w.alloc (.cells #[.string s, .string t] 9))) : wpList Tryd.prog ops Q (o :: rest) a w := by
  obtain ⟨i, hi, hz, hs, _⟩ := infoParts _ _ _ _ infoStr
  exact wpList_buildSlice hg 22 9 2 _ ho #[.string s, .string t] i (.string ⟨#[]⟩) Tryd.underlying22 hi hz (by rw [hs]; decide) (by rw [hs]; decide) (by rw [hs]; simp only [List.map_toArray, List.map_cons, List.map_nil, hx, hy]; kernel_rfl) h
theorem strs1 (w : World) (s : ByteArray) (t : TypeId) : StrsIn (w.alloc (.cells #[.string s] t)) (some ⟨w.heap.size, 0, none⟩) [s] := .inr ⟨_, _, rfl, fun i hi => by
  match i, hi with
  | 0, _ => go_simp⟩
theorem strs2 (w : World) (s s' : ByteArray) (t : TypeId) : StrsIn (w.alloc (.cells #[.string s, .string s'] t)) (some ⟨w.heap.size, 0, none⟩) [s, s'] := .inr ⟨_, _, rfl, fun i hi => by
  match i, hi with
  | 0, _ => go_simp
  | 1, _ => go_simp⟩
end Go.Proofs.YtddjfeofmihgdaaDoor
