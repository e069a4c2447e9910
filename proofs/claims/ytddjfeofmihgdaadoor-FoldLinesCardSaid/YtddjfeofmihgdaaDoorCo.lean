/- Rows that a call made and appends to, an element of one cell at a time. -/
import Derived.Test.YtddjfeofmihgdaaDoorCs
import Derived.Laws.AppendOwn
import Derived.Laws.OwnMore
namespace Go.Proofs.YtddjfeofmihgdaaDoor
open Go.RowKit
set_option linter.unusedVariables false

theorem below_grown {B : Nat} {a w w' : World} {row : Option Nat} (h : Below B a w) (hB : B ≤ w.heap.size) (hg : w.grownBy w' row) (hr : ∀ k, row = some k → B ≤ k) : Below B a w' := h.grown hg hB hr
/-- 'append' of one element of one cell, which the walk has just laid in a block of its own. -/
theorem wpList_app_one {ops : Array Oper} {rest : List Oper} {o : Oper} {a : Act} {w : World} {Q : Exit → Act → World → Prop} (t e : TypeId) (z : Value) (k : Nat)
    (hut : Tryd.prog.underlying t = some (.slice e)) (hinfo : (Tryd.prog.info? e).map (fun i => (i.zero, i.size, i.bytes)) = some (some z, 1, k)) (hzc : z.cells.size = 1) (hk : k ≤ 64)
    (hgd : o.guard = none) (s x : Operand) (ho : o.op = .call { callee := .builtin .append, args := #[s, x], argTypes := #[t, t] })
    (B : Nat) (v : Value) (xs : List Value) (hs : a.eval s = v) (hown : w.ownsRow B e 1 v xs.length xs) (u : Value) (hu : u.oneCell' = true) (hx : a.eval x = .slice (some ⟨w.heap.size, 0, none⟩) 1 1)
    (hl : xs.length ≤ 1000000) (hB : B ≤ w.heap.size)
    (h : ∀ v' w', w'.ownsRow B e 1 v' (xs ++ [u]).length (xs ++ [u]) → (w.alloc (.cells #[u] e)).grownBy w' v.ownBlock → Below B w w' → wpList Tryd.prog ops Q rest (a.put o.dst v') w') :
    wpList Tryd.prog ops Q (o :: rest) a (w.alloc (.cells #[u] e)) := by
  obtain ⟨i, hi, hz, hsz, hb⟩ := infoParts _ _ _ _ hinfo
  refine wpList_append_own _ hgd s x t ho B e i z 1 k hut hi hz hsz hb hzc (by decide) v xs.length xs hs (hown.alloc _) ⟨w.heap.size, 0, none⟩ 1 1 [u] hx rfl ?_ ?_ ?_ ?_ ?_ ?_
  · intro j u' hj
    match j, hj with
    | 0, hj => simp at hj; subst hj; rw [Addr.add_mid, cell_of_row _ _ _ _ _ _ (heap_alloc_last w _)]; rfl
  · intro u' hu'; rw [List.mem_singleton.1 hu']; exact hu
  · unfold maxLen; omega
  · have : (xs.length + 1) * k ≤ 1000001 * 64 := Nat.mul_le_mul (by omega) hk
    omega
  · simp; omega
  · intro v' w' h1 hg _
    exact h v' w' (by simpa using h1) hg (((Below.refl B w).alloc hB _).grown hg (by simp; omega) (fun k hk => (hown.lt k hk).1))
theorem own_keep {w w' : World} {B : Nat} {e : TypeId} {v : Value} {n : Nat} {xs : List Value} (h : w.ownsRow B e 1 v n xs) (hb : Below w.heap.size w w') : w'.ownsRow B e 1 v n xs := by
  refine h.kept (row := none) ⟨hb.os, hb.tape, hb.output, hb.size, fun i hi _ => hb.block i hi⟩ ?_
  rcases h : v.ownBlock with _ | g
  · exact .inl rfl
  · exact .inr (by simp)
theorem own_nil (w : World) (B : Nat) (e : TypeId) : w.ownsRow B e 1 (.slice none 0 0) ([] : List Value).length [] := ⟨rfl, .inl ⟨rfl, rfl⟩⟩

/-- A row of texts that the call made. -/
def StrOwn (B : Nat) (v : Value) (l : List ByteArray) (w : World) : Prop := w.ownsRow B 9 1 v (l.map Value.string).length (l.map Value.string)
theorem StrOwn.nil (B : Nat) (w : World) : StrOwn B (.slice none 0 0) [] w := own_nil w B _
theorem StrOwn.keep {w w' : World} {B : Nat} {v : Value} {l : List ByteArray} (h : StrOwn B v l w) (hb : Below w.heap.size w w') : StrOwn B v l w' := own_keep h hb
theorem StrOwn.slice {w : World} {B : Nat} {v : Value} {l : List ByteArray} (h : StrOwn B v l w) : ∃ (a : Option Addr) (cap : Nat), v = .slice a l.length cap ∧ StrsIn w a l ∧ l.length ≤ cap := by
  rcases h.2 with ⟨rfl, h0⟩ | ⟨g, cap, cur, rfl, _, hg, hnc, _, _, htake⟩
  · have hl : l = [] := List.eq_nil_of_length_eq_zero (by simpa using h0)
    subst hl
    exact ⟨none, 0, rfl, .inl rfl, Nat.le_refl _⟩
  · refine ⟨some ⟨g, 0, none⟩, cap, by simp, .inr ⟨g, 0, rfl, fun i hi => ?_⟩, by simpa using hnc⟩
    rw [cell_of_row w g (0 + i) _ _ _ hg, Nat.zero_add]
    have e : (cur.toList.take ((l.map Value.string).length * 1))[i]? = (l.map Value.string)[i]? := by rw [htake]
    rw [List.getElem?_take, if_pos (by simpa using hi)] at e
    rw [← Array.getElem?_toList, e, List.getElem?_map, List.getElem?_eq_getElem hi]
    rfl
theorem wpList_app_str {ops : Array Oper} {rest : List Oper} {o : Oper} {a : Act} {w : World} {Q : Exit → Act → World → Prop} (hgd : o.guard = none) (s x : Operand)
    (ho : o.op = .call { callee := .builtin .append, args := #[s, x], argTypes := #[22, 22] })
    (B : Nat) (v : Value) (l : List ByteArray) (hs : a.eval s = v) (hown : StrOwn B v l w) (t : ByteArray) (hx : a.eval x = .slice (some ⟨w.heap.size, 0, none⟩) 1 1) (hl : l.length ≤ 1000000) (hB : B ≤ w.heap.size)
    (h : ∀ v' w', StrOwn B v' (l ++ [t]) w' → (w.alloc (.cells #[.string t] 9)).grownBy w' v.ownBlock → Below B w w' → wpList Tryd.prog ops Q rest (a.put o.dst v') w') :
    wpList Tryd.prog ops Q (o :: rest) a (w.alloc (.cells #[.string t] 9)) :=
  wpList_app_one 22 9 (.string ⟨#[]⟩) 16 Tryd.underlying22 infoStr rfl (by decide) hgd s x ho B v (l.map Value.string) hs hown (.string t) rfl hx (by simpa using hl) hB
    fun v' w' h1 h2 h3 => h v' w' (by unfold StrOwn; rw [List.map_append]; exact h1) h2 h3
end Go.Proofs.YtddjfeofmihgdaaDoor
