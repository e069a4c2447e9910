/- Rows of texts: slices of slices of texts. -/
import Derived.Test.YtgmmnbojelekbaaDoorTw
import Derived.Deep.Slices
namespace Go.Proofs.YtgmmnbojelekbaaDoor
open Go.RowKit
set_option linter.unusedVariables false
set_option linter.unusedSimpArgs false

/-- A slice of texts. -/
def IsStrs (w : World) (v : Value) (l : List ByteArray) : Prop := ∃ a cap, v = .slice a l.length cap ∧ StrsIn w a l ∧ l.length ≤ cap
theorem IsStrs.below {w w' : World} {v : Value} {l : List ByteArray} (h : IsStrs w v l) (hb : Below w.heap.size w w') : IsStrs w' v l := by
  obtain ⟨a, cap, e, h1, h2⟩ := h; exact ⟨a, cap, e, h1.below hb, h2⟩
theorem StrOwn.is {w : World} {B : Nat} {v : Value} {l : List ByteArray} (h : StrOwn B v l w) : IsStrs w v l := h.slice
def RowsAt (w : World) (b off : Nat) (ls : List (List ByteArray)) : Prop := ∀ (i : Nat) (h : i < ls.length), ∃ v, w.cell? ⟨b, off + i, none⟩ = some v ∧ IsStrs w v ls[i]
def RowsIn (w : World) (a : Option Addr) (ls : List (List ByteArray)) : Prop := ls = [] ∨ ∃ b off, a = some ⟨b, off, none⟩ ∧ RowsAt w b off ls
theorem RowsAt.below {w w' : World} {b off : Nat} {l : List (List ByteArray)} (h : RowsAt w b off l) (hb : Below w.heap.size w w') : RowsAt w' b off l := fun i hi => by
  obtain ⟨v, c, s⟩ := h i hi
  exact ⟨v, by rw [hb.cell (World.block_lt_of_cell? w _ c)]; exact c, s.below hb⟩
theorem RowsIn.below {w w' : World} {a : Option Addr} {l : List (List ByteArray)} (h : RowsIn w a l) (hb : Below w.heap.size w w') : RowsIn w' a l := by
  rcases h with h | ⟨b, off, e, h⟩
  · exact .inl h
  · exact .inr ⟨b, off, e, h.below hb⟩
theorem RowsIn.form {w : World} {a : Option Addr} {l : List (List ByteArray)} (h : RowsIn w a l) {k : Nat} (hk : k < l.length) : ∃ b off, a = some ⟨b, off, none⟩ ∧ RowsAt w b off l := by
  rcases h with rfl | h
  · simp at hk
  · exact h

theorem infoRow : (Tryd.prog.info? 31).map (fun i => (i.zero, i.size, i.bytes)) = some (some (.slice none 0 0), 1, 24) := by kernel_rfl
theorem wpList_bs_row1 {ops : Array Oper} {rest : List Oper} {o : Oper} {a : Act} {w : World} {Q : Exit → Act → World → Prop} (hg : o.guard = none) (x : Operand) (ho : o.op = .buildSlice 41 1 #[(0, x)]) {p : Option Addr} {n c : Nat} (hx : a.eval x = .slice p n c)
    (h : wpList Tryd.prog ops Q rest (a.put o.dst (.slice (some ⟨w.heap.size, 0, none⟩) 1 1)) (w.alloc (.cells #[.slice p n c] 31))) : wpList Tryd.prog ops Q (o :: rest) a w := by
  obtain ⟨i, hi, hz, hs, _⟩ := infoParts _ _ _ _ infoRow
  exact wpList_buildSlice hg 41 31 1 _ ho #[.slice p n c] i (.slice none 0 0) Tryd.underlying41 hi hz (by rw [hs]; decide) (by rw [hs]; decide) (by rw [hs]; simp only [List.map_toArray, List.map_cons, List.map_nil, hx]; kernel_rfl) h
theorem wpList_bs_row3 {ops : Array Oper} {rest : List Oper} {o : Oper} {a : Act} {w : World} {Q : Exit → Act → World → Prop} (hg : o.guard = none) (x y z : Operand) (ho : o.op = .buildSlice 41 3 #[(0, x), (1, y), (2, z)]) {p q r : Option Addr} {n c n' c' n'' c'' : Nat} (hx : a.eval x = .slice p n c) (hy : a.eval y = .slice q n' c') (hzz : a.eval z = .slice r n'' c'')
    (h : wpList Tryd.prog ops Q rest (a.put o.dst (.slice (some ⟨w.heap.size, 0, none⟩) 3 3)) (w.alloc (.cells #[.slice p n c, .slice q n' c', .slice r n'' c''] 31))) : wpList Tryd.prog ops Q (o :: rest) a w := by
  obtain ⟨i, hi, hz, hs, _⟩ := infoParts _ _ _ _ infoRow
  exact wpList_buildSlice hg 41 31 3 _ ho #[.slice p n c, .slice q n' c', .slice r n'' c''] i (.slice none 0 0) Tryd.underlying41 hi hz (by rw [hs]; decide) (by rw [hs]; decide) (by rw [hs]; simp only [List.map_toArray, List.map_cons, List.map_nil, hx, hy, hzz]; kernel_rfl) h

/-- Rows of elements of two types lie apart. -/
theorem own_apart {w : World} {B B' : Nat} {e e' : TypeId} {s s' : Nat} {v v' : Value} {n n' : Nat} {xs xs' : List Value} (h : w.ownsRow B e s v n xs) (h' : w.ownsRow B' e' s' v' n' xs') (hne : e ≠ e') : v.ownBlock = none ∨ v.ownBlock ≠ v'.ownBlock := by
  rcases h.2 with ⟨rfl, _⟩ | ⟨g, cap, cur, rfl, _, hg, _⟩
  · exact .inl rfl
  · right
    rcases h'.2 with ⟨rfl, _⟩ | ⟨g', cap', cur', rfl, _, hg', _⟩
    · simp [Value.ownBlock]
    · simp only [Value.ownBlock]
      intro e1
      injection e1 with e1
      subst e1
      rw [hg] at hg'
      injection hg' with hg'
      injection hg' with _ h2 _
      exact hne h2

/-- A row of rows of texts, all of which the call made. -/
def RowsOwn (B : Nat) (v : Value) (ls : List (List ByteArray)) (w : World) : Prop :=
  ∃ xs : List Value, xs.length = ls.length ∧ w.ownsRow B 31 1 v xs.length xs ∧ ∀ (i : Nat) (h : i < ls.length) (h' : i < xs.length), StrOwn B xs[i] ls[i] w
theorem RowsOwn.nil (B : Nat) (w : World) : RowsOwn B (.slice none 0 0) [] w := ⟨[], rfl, own_nil w B _, fun i h => by simp at h⟩
theorem RowsOwn.keep {w w' : World} {B : Nat} {v : Value} {ls : List (List ByteArray)} (h : RowsOwn B v ls w) (hb : Below w.heap.size w w') : RowsOwn B v ls w' := by
  obtain ⟨xs, h1, h2, h3⟩ := h
  exact ⟨xs, h1, own_keep h2 hb, fun i a b => (h3 i a b).keep hb⟩
theorem RowsOwn.low {w : World} {B B' : Nat} {v : Value} {ls : List (List ByteArray)} (h : RowsOwn B' v ls w) (hB : B ≤ B') : RowsOwn B v ls w := by
  obtain ⟨xs, h1, h2, h3⟩ := h
  exact ⟨xs, h1, ⟨h2.1, h2.2.imp id fun ⟨g, cap, cur, e, hb, r⟩ => ⟨g, cap, cur, e, Nat.le_trans hB hb, r⟩⟩, fun i a b => (h3 i a b).low hB⟩
theorem RowsOwn.slice {w : World} {B : Nat} {v : Value} {ls : List (List ByteArray)} (h : RowsOwn B v ls w) : ∃ (a : Option Addr) (cap : Nat), v = .slice a ls.length cap ∧ RowsIn w a ls ∧ ls.length ≤ cap := by
  obtain ⟨xs, h1, h2, h3⟩ := h
  rcases h2.2 with ⟨rfl, h0⟩ | ⟨g, cap, cur, rfl, _, hg, hnc, _, _, htake⟩
  · have hl : ls = [] := List.eq_nil_of_length_eq_zero (by omega)
    subst hl
    exact ⟨none, 0, rfl, .inl rfl, Nat.le_refl _⟩
  · refine ⟨some ⟨g, 0, none⟩, cap, by rw [h1], .inr ⟨g, 0, rfl, fun i hi => ⟨xs[i]'(by omega), ?_, (h3 i hi (by omega)).is⟩⟩, by omega⟩
    rw [cell_of_row w g (0 + i) _ _ _ hg, Nat.zero_add]
    have e : (cur.toList.take (xs.length * 1))[i]? = xs[i]? := by rw [htake]
    rw [List.getElem?_take, if_pos (by omega)] at e
    rw [← Array.getElem?_toList, e, List.getElem?_eq_getElem (by omega)]
theorem RowsOwn.form {w : World} {B : Nat} {v : Value} {ls : List (List ByteArray)} (h : RowsOwn B v ls w) (hl : ls ≠ []) : ∃ g cap, v = .slice (some ⟨g, 0, none⟩) ls.length cap ∧ B ≤ g := by
  obtain ⟨xs, h1, h2, h3⟩ := h
  have hlt := fun k hk => (h2.lt k hk).1
  rcases h2.2 with ⟨rfl, h0⟩ | ⟨g, cap, cur, rfl, _⟩
  · exact absurd (List.eq_nil_of_length_eq_zero (by omega)) hl
  · exact ⟨g, cap, by rw [h1], hlt g rfl⟩
theorem RowsOwn.lt {w : World} {B : Nat} {v : Value} {ls : List (List ByteArray)} (h : RowsOwn B v ls w) : ∀ k, v.ownBlock = some k → B ≤ k := by
  obtain ⟨xs, h1, h2, h3⟩ := h
  exact fun k hk => (h2.lt k hk).1
theorem StrOwn.one {w : World} {B : Nat} {v : Value} {l : List ByteArray} (h : StrOwn B v l w) : v.oneCell' = true := by
  obtain ⟨a, cap, rfl, _⟩ := h.slice; rfl
/-- One row more. -/
theorem wpList_app_row {ops : Array Oper} {rest : List Oper} {o : Oper} {a : Act} {w : World} {Q : Exit → Act → World → Prop} (hgd : o.guard = none) (s x : Operand)
    (ho : o.op = .call { callee := .builtin .append, args := #[s, x], argTypes := #[41, 41] })
    (B : Nat) (v : Value) (ls : List (List ByteArray)) (hs : a.eval s = v) (hown : RowsOwn B v ls w) (u : Value) (l : List ByteArray) (hu : StrOwn B u l w) (hx : a.eval x = .slice (some ⟨w.heap.size, 0, none⟩) 1 1) (hl : ls.length ≤ 1000000) (hB : B ≤ w.heap.size)
    (h : ∀ v' w', RowsOwn B v' (ls ++ [l]) w' → Below B w w' → wpList Tryd.prog ops Q rest (a.put o.dst v') w') :
    wpList Tryd.prog ops Q (o :: rest) a (w.alloc (.cells #[u] 31)) := by
  obtain ⟨xs, h1, h2, h3⟩ := hown
  refine wpList_app_one 41 31 (.slice none 0 0) 24 Tryd.underlying41 infoRow rfl (by decide) hgd s x ho B v xs hs h2 u hu.one hx (by omega) hB fun v' w' g1 g2 g3 => h v' w' ?_ g3
  have up : ∀ {y : Value} {m : List ByteArray}, StrOwn B y m w → StrOwn B y m w' := fun {y m} hy =>
    (World.ownsRow.alloc hy (.cells #[u] 31)).kept g2 (own_apart hy h2 (by decide))
  refine ⟨xs ++ [u], by simp [h1], g1, fun i a b => ?_⟩
  by_cases hi : i < ls.length
  · rw [List.getElem_append_left (by omega), List.getElem_append_left (by omega)]; exact up (h3 i hi (by omega))
  · have : i = ls.length := by simp at a; omega
    subst this
    rw [List.getElem_append_right (by omega), List.getElem_append_right (by omega)]
    simpa [h1] using up hu
theorem RowsOwn.set {w : World} {B g n cap : Nat} {ls : List (List ByteArray)} (h : RowsOwn B (.slice (some ⟨g, 0, none⟩) n cap) ls w) (hn : ls.length = n) (j : Nat) (u : Value) (l : List ByteArray) (hu : StrOwn B u l w) :
    RowsOwn B (.slice (some ⟨g, 0, none⟩) n cap) (ls.set j l) (w.setCell ⟨g, j, none⟩ u) ∧ w.grownBy (w.setCell ⟨g, j, none⟩ u) (some g) := by
  obtain ⟨xs, h1, h2, h3⟩ := h
  have e : xs.length = n := by omega
  rw [e] at h2
  obtain ⟨s1, s2⟩ := h2.stored j u
  refine ⟨⟨xs.set j u, by simp [h1], by rw [List.length_set, e]; exact s1, fun i a b => ?_⟩, s2⟩
  rw [List.getElem_set, List.getElem_set]
  split
  · exact World.ownsRow.kept hu s2 (own_apart hu h2 (by decide))
  · rw [List.length_set] at a b
    exact World.ownsRow.kept (h3 i a b) s2 (own_apart (h3 i a b) h2 (by decide))
theorem RowsOwn.free {w : World} {B g n cap : Nat} {ls : List (List ByteArray)} (h : RowsOwn B (.slice (some ⟨g, 0, none⟩) n cap) ls w) (hn : ls.length = n) (j : Nat) (hj : j < n) :
    w.frozen? ⟨g, j, none⟩ = false ∧ ∃ v, w.cell? ⟨g, j, none⟩ = some v := by
  obtain ⟨xs, h1, h2, h3⟩ := h
  have e : xs.length = n := by omega
  rw [e] at h2
  exact ⟨h2.frozenAt j, xs[j]'(by omega), by rw [h2.cellAt j (by omega), List.getElem?_eq_getElem (by omega)]⟩
def madeRow (n : Nat) : Array Value := (List.replicate n (Value.slice none 0 0)).toArray
theorem made_rows (n : Nat) : madeCells (Value.slice none 0 0).cells n = madeRow n := by
  have e : (Value.slice none 0 0).cells = (List.replicate 1 (Value.slice none 0 0)).toArray := rfl
  rw [e]
  unfold madeCells madeRow
  apply Array.ext'
  apply List.ext_getElem?
  intro i
  by_cases hi : i < n
  · rw [List.getElem?_replicate, if_pos hi]
    simp [hi, Nat.mod_one]
  · rw [List.getElem?_replicate, if_neg hi]
    simp; omega
/-- 'make([][]string, n)'. -/
theorem mk_rows_n (n : Nat) (h : n ≤ 1000000) (w : World) : (Instr.makeSlice 41 (.int .i64 n) (.int .i64 n)).run Tryd.prog w = .ok (.slice (some ⟨w.heap.size, 0, none⟩) n n) (w.alloc (.cells (madeRow n) 31)) := by
  obtain ⟨i, hi, hz⟩ := Option.map_eq_some_iff.1 infoRow
  simp only [Prod.mk.injEq] at hz
  have := run_make (P := Tryd.prog) w 41 31 i (.slice none 0 0) Tryd.underlying41 hi hz.1 .i64 .i64 n n (by omega) (by omega) (by rw [hz.2.2]; omega) (by omega)
  rw [this, hz.2.1]
  simp only [Int.toNat_natCast, Nat.mul_one, made_rows]
theorem own_made_rows (w : World) (B n : Nat) (hB : B ≤ w.heap.size) (hn : n ≤ 1000000) : RowsOwn B (.slice (some ⟨w.heap.size, 0, none⟩) n n) (List.replicate n []) (w.alloc (.cells (madeRow n) 31)) := by
  have := World.ownsRow_lit (base := B) (e := 31) (size := 1) w (madeRow n) n hB (by unfold maxLen; omega) (by unfold madeRow; simp)
  refine ⟨List.replicate n (Value.slice none 0 0), by simp, by rw [List.length_replicate]; exact this, fun i a b => ?_⟩
  rw [List.getElem_replicate, List.getElem_replicate]
  exact StrOwn.nil _ _
end Go.Proofs.YtgmmnbojelekbaaDoor
