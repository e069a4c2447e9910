/- Rows of texts that a call made: an element, and a store. -/
import Derived.Test.YtddjfeofmihgdaaDoorCo
namespace Go.Proofs.YtddjfeofmihgdaaDoor
open Go.RowKit
set_option linter.unusedVariables false

theorem StrOwn.put {w : World} {B g n cap : Nat} {l : List ByteArray} (h : StrOwn B (.slice (some ⟨g, 0, none⟩) n cap) l w) (hn : l.length = n) (j : Nat) (s : ByteArray) :
    StrOwn B (.slice (some ⟨g, 0, none⟩) n cap) (l.set j s) (w.setCell ⟨g, j, none⟩ (.string s)) ∧ w.grownBy (w.setCell ⟨g, j, none⟩ (.string s)) (some g) := by
  unfold StrOwn at *
  rw [List.length_map, hn] at h
  rw [List.length_map, List.length_set, hn, List.map_set]
  exact h.stored j (.string s)
theorem StrOwn.at_ {w : World} {B g n cap : Nat} {l : List ByteArray} (h : StrOwn B (.slice (some ⟨g, 0, none⟩) n cap) l w) (hn : l.length = n) (j : Nat) (hj : j < l.length) :
    w.cell? ⟨g, j, none⟩ = some (.string l[j]) ∧ w.frozen? ⟨g, j, none⟩ = false := by
  unfold StrOwn at h
  rw [List.length_map, hn] at h
  refine ⟨?_, h.frozenAt j⟩
  rw [h.cellAt j (by omega), List.getElem?_map, List.getElem?_eq_getElem hj]; rfl
theorem StrOwn.shape {w : World} {B : Nat} {v : Value} {l : List ByteArray} (h : StrOwn B v l w) (hl : l ≠ []) : ∃ g cap, v = .slice (some ⟨g, 0, none⟩) l.length cap ∧ B ≤ g := by
  have hlt := fun k hk => (World.ownsRow.lt h k hk).1
  rcases h.2 with ⟨rfl, h0⟩ | ⟨g, cap, cur, rfl, _⟩
  · exact absurd (List.eq_nil_of_length_eq_zero (by simpa using h0)) hl
  · exact ⟨g, cap, by simp, hlt g rfl⟩
theorem strOwn_one (w : World) (s : ByteArray) : StrOwn w.heap.size (.slice (some ⟨w.heap.size, 0, none⟩) 1 1) [s] (w.alloc (.cells #[.string s] 9)) :=
  World.ownsRow_lit (base := w.heap.size) (e := 9) (size := 1) w #[.string s] 1 (Nat.le_refl _) (by unfold maxLen; omega) rfl
theorem put_last (ps : List (List UInt8)) (cur cur' : List UInt8) : ((ps ++ [cur]).map strOf).set ps.length (strOf cur') = (ps ++ [cur']).map strOf := by
  rw [List.map_append, List.set_append_right _ _ (by simp)]; simp
theorem at_last (ps : List (List UInt8)) (cur : List UInt8) (h) : ((ps ++ [cur]).map strOf)[ps.length]'h = strOf cur := by simp
end Go.Proofs.YtddjfeofmihgdaaDoor
