/- Rows of a text: a row that the call made of api.Row; what an open row ends with. -/
import Derived.Test.YtddjfeofmihgdaaDoorUr
import Derived.Test.YtddjfeofmihgdaaDoorIs
namespace Go.Proofs.YtddjfeofmihgdaaDoor
open Go.RowKit
set_option linter.unusedVariables false
set_option linter.unusedSimpArgs false

def rowCells (l : List (Nat × BL)) : List Value := l.flatMap (fun p => [iv p.1, .string (strOf p.2)])
theorem rowCells_length (l : List (Nat × BL)) : (rowCells l).length = l.length * 2 := by
  induction l with
  | nil => rfl
  | cons p l ih => rw [show rowCells (p :: l) = [iv p.1, .string (strOf p.2)] ++ rowCells l from rfl, List.length_append, ih, List.length_cons]; simp; omega
theorem rowCells_append (a b : List (Nat × BL)) : rowCells (a ++ b) = rowCells a ++ rowCells b := by unfold rowCells; simp
theorem rowCells_at : ∀ (l : List (Nat × BL)) (i : Nat) (h : i < l.length), (rowCells l)[2 * i]? = some (iv l[i].1) ∧ (rowCells l)[2 * i + 1]? = some (.string (strOf l[i].2))
  | p :: l, 0, _ => ⟨rfl, rfl⟩
  | p :: l, i + 1, h => by
    have := rowCells_at l i (by simpa using h)
    rw [show 2 * (i + 1) = 2 * i + 1 + 1 by omega]
    exact this
/-- A row of api.Row that the call made. -/
def RowOwn (B : Nat) (v : Value) (l : List (Nat × BL)) (w : World) : Prop := w.ownsRow B 40 2 v l.length (rowCells l)
def RowsIn (w : World) (a : Option Addr) (l : List (Nat × BL)) : Prop := l = [] ∨ ∃ b off, a = some ⟨b, off, none⟩ ∧ ∀ (i : Nat) (h : i < l.length), w.cell? ⟨b, off + 2 * i, none⟩ = some (iv l[i].1) ∧ w.cell? ⟨b, off + (2 * i + 1), none⟩ = some (.string (strOf l[i].2))
theorem RowsIn.below {w w' : World} {a : Option Addr} {l : List (Nat × BL)} (h : RowsIn w a l) (hb : Below w.heap.size w w') : RowsIn w' a l := by
  rcases h with h | ⟨b, off, e, h⟩
  · exact .inl h
  · refine .inr ⟨b, off, e, fun i hi => ?_⟩
    obtain ⟨h1, h2⟩ := h i hi
    exact ⟨by rw [hb.cell (World.block_lt_of_cell? w _ h1)]; exact h1, by rw [hb.cell (World.block_lt_of_cell? w _ h2)]; exact h2⟩
theorem RowsIn.form {w : World} {a : Option Addr} {l : List (Nat × BL)} (h : RowsIn w a l) {k : Nat} (hk : k < l.length) : ∃ b off, a = some ⟨b, off, none⟩ ∧ ∀ (i : Nat) (h : i < l.length), w.cell? ⟨b, off + 2 * i, none⟩ = some (iv l[i].1) ∧ w.cell? ⟨b, off + (2 * i + 1), none⟩ = some (.string (strOf l[i].2)) := by
  rcases h with rfl | h
  · simp at hk
  · exact h
theorem RowOwn.nil (B : Nat) (w : World) : RowOwn B (.slice none 0 0) [] w := World.ownsRow_nil w B _ 2
theorem RowOwn.same {w w' : World} {B : Nat} {v : Value} {l : List (Nat × BL)} (h : RowOwn B v l w) (hh : ∀ g, B ≤ g → v.ownBlock = some g → w'.heap[g]? = w.heap[g]?) : RowOwn B v l w' := by
  refine ⟨h.1, ?_⟩
  rcases h.2 with h' | ⟨g, cap, cur, rfl, hb, hg, h3⟩
  · exact .inl h'
  · exact .inr ⟨g, cap, cur, rfl, hb, (hh g hb rfl).trans hg, h3⟩
theorem RowOwn.kind {w : World} {B : Nat} {v : Value} {l : List (Nat × BL)} (h : RowOwn B v l w) : ∀ g, v.ownBlock = some g → B ≤ g ∧ ∃ c, w.heap[g]? = some (.cells c 40 (0, 0)) := by
  intro g hg
  rcases h.2 with ⟨rfl, _⟩ | ⟨g', cap, cur, rfl, hb, hc, _⟩
  · cases hg
  · cases hg; exact ⟨hb, cur, hc⟩
theorem RowOwn.others {w w' : World} {B b : Nat} {v : Value} {l : List (Nat × BL)} (h : RowOwn B v l w) (ho : Lib.OthersKept 5 (some b) w w') (hb : b < B) : RowOwn B v l w' := by
  refine ⟨h.1, ?_⟩
  rcases h.2 with h' | ⟨g, cap, cur, rfl, hbg, hg, h3⟩
  · exact .inl h'
  · exact .inr ⟨g, cap, cur, rfl, hbg, ho g _ hg (by intro e; cases e; omega) (by intro c fz e; cases e), h3⟩
theorem RowOwn.slice {w : World} {B : Nat} {v : Value} {l : List (Nat × BL)} (h : RowOwn B v l w) : ∃ (a : Option Addr) (cap : Nat), v = .slice a l.length cap ∧ RowsIn w a l ∧ l.length ≤ cap ∧ (l ≠ [] → ∃ g, a = some ⟨g, 0, none⟩ ∧ B ≤ g) := by
  rcases h.2 with ⟨rfl, h0⟩ | ⟨g, cap, cur, rfl, hb, hg, hnc, _, _, htake⟩
  · have hl : l = [] := List.eq_nil_of_length_eq_zero h0
    subst hl
    exact ⟨none, 0, rfl, .inl rfl, Nat.le_refl _, fun h => absurd rfl h⟩
  · have K : ∀ j, j < l.length * 2 → w.cell? ⟨g, 0 + j, none⟩ = (rowCells l)[j]? := fun j hj => by
      rw [cell_of_row w g (0 + j) _ _ _ hg, Nat.zero_add, ← htake, List.getElem?_take, if_pos hj, Array.getElem?_toList]
    refine ⟨some ⟨g, 0, none⟩, cap, rfl, .inr ⟨g, 0, rfl, fun i hi => ?_⟩, hnc, fun _ => ⟨g, rfl, hb⟩⟩
    obtain ⟨h1, h2⟩ := rowCells_at l i hi
    exact ⟨(K (2 * i) (by omega)).trans h1, (K (2 * i + 1) (by omega)).trans h2⟩
theorem infoRow : (Tryd.prog.info? 40).map (fun i => (i.zero, i.size, i.bytes)) = some (some (.agg #[iv 0, .string ⟨#[]⟩]), 2, 24) := by kernel_rfl
/-- A slice literal of one row, and 'append' of it. -/
theorem wp_bs_row {o : Oper} {a : Act} {w : World} {K : Act → World → Prop} {Q : Exit → Act → World → Prop} (x : Operand) (ho : o.op = .buildSlice 32 1 #[(0, x)]) {u u' : Value} (hx : a.eval x = .agg #[u, u']) (h1 : u.oneCell' = true) (h2 : u'.oneCell' = true)
    (h : K (a.put o.dst (.slice (some ⟨w.heap.size, 0, none⟩) 1 1)) (w.alloc (.cells #[u, u'] 40))) : o.wp Tryd.prog a w K Q := by
  obtain ⟨i, hi, hz, hs, _⟩ := infoParts _ _ _ _ infoRow
  refine wp_buildSlice 32 40 1 _ ho #[u, u'] i (.agg #[iv 0, .string ⟨#[]⟩]) Tryd.underlying32 hi hz (by rw [hs]; decide) (by rw [hs]; decide) ?_ h
  rw [hs]
  simp only [List.map_toArray, List.map_cons, List.map_nil, hx]
  kernel_rfl
theorem wp_app_row {o : Oper} {a : Act} {w : World} {K : Act → World → Prop} {Q : Exit → Act → World → Prop} (s x : Operand)
    (ho : o.op = .call { callee := .builtin .append, args := #[s, x], argTypes := #[32, 32] })
    (B : Nat) (v : Value) (l : List (Nat × BL)) (hs : a.eval s = v) (hown : RowOwn B v l w) (k : Nat) (t : BL) (hx : a.eval x = .slice (some ⟨w.heap.size, 0, none⟩) 1 1) (hl : l.length ≤ 1000000) (hB : B ≤ w.heap.size)
    (h : ∀ v' w', RowOwn B v' (l ++ [(k, t)]) w' → (w.alloc (.cells #[iv k, .string (strOf t)] 40)).grownBy w' v.ownBlock → K (a.put o.dst v') w') :
    o.wp Tryd.prog a (w.alloc (.cells #[iv k, .string (strOf t)] 40)) K Q := by
  obtain ⟨i, hi, hz, hsz, hb⟩ := infoParts _ _ _ _ infoRow
  have hn := hown.alloc (.cells #[iv k, .string (strOf t)] 40)
  refine wp_append_own _ s x 32 ho B 40 i _ 2 24 Tryd.underlying32 hi hz hsz hb rfl (by decide) v l.length (rowCells l) hs hn ⟨w.heap.size, 0, none⟩ 1 1 [iv k, .string (strOf t)] hx rfl ?_ ?_ ?_ ?_ ?_ ?_
  · intro j u' hj
    match j, hj with
    | 0, hj => simp at hj; subst hj; rw [Addr.add_mid, cell_of_row _ _ _ _ _ _ (heap_alloc_last w _)]; rfl
    | 1, hj => simp at hj; subst hj; rw [Addr.add_mid, cell_of_row _ _ _ _ _ _ (heap_alloc_last w _)]; rfl
  · intro u' hu'
    rcases List.mem_cons.1 hu' with rfl | hu'
    · rfl
    · rw [List.mem_singleton.1 hu']; rfl
  · unfold maxLen; omega
  · omega
  · simp; omega
  · intro v' w' h1 hg _
    refine h v' w' ?_ hg
    unfold RowOwn
    rw [rowCells_append, List.length_append]
    exact h1
end Go.Proofs.YtddjfeofmihgdaaDoor
