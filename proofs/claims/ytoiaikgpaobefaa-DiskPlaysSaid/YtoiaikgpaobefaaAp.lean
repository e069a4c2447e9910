/- append onto a row that is no one else's. -/
import Derived.Test.YtoiaikgpaobefaaRf
import Derived.Deep.AppendLies
namespace Go.Proofs.Ytoiaikgpaobefaa
open Go.RowKit Go.Maps

theorem Row.ownBlock {w : World} {e : TypeId} {a : Option Addr} {n cap : Nat} {xs : List Value} (_h : Row w e a n cap xs) : ∀ g, (Value.slice a n cap).ownBlock = some g ↔ g ∈ blk a := by
  intro g
  cases a with
  | none => simp [Value.ownBlock, blk]
  | some x => simp [Value.ownBlock, blk, eq_comm]

theorem Only.grownRow {w w' : World} {a : Option Addr} {n cap : Nat} (hg : w.grownBy w' (Value.slice a n cap).ownBlock) : Only (blk a) w w' :=
  ⟨hg.os, hg.tape, hg.output, hg.size, fun i hi hn => hg.block i hi (fun e => hn (by
    cases a with
    | none => simp [Value.ownBlock] at e
    | some x => simp [Value.ownBlock] at e; simp [blk, e]))⟩

/-- The facts on an element's type that append asks for. -/
structure ElemIs (t e : TypeId) (z : Value) (bytes : Nat) : Prop where
  ht : Try.prog.underlying t = some (.slice e)
  hi : (Try.prog.info? e).map (fun i => (i.zero, i.size, i.bytes)) = some (some z, 1, bytes)
  hz : z.cells.size = 1
  hb : bytes ≤ 16
theorem elemInt : ElemIs 37 3 (.int .i64 0) 8 := ⟨Try.underlying37, by kernel_rfl, rfl, by decide⟩
theorem elemStr : ElemIs 41 9 (.string ⟨#[]⟩) 16 := ⟨Try.underlying41, by kernel_rfl, rfl, by decide⟩

/-- What append comes to. -/
theorem run_append_row {w : World} {t e : TypeId} {z : Value} {bytes : Nat} (E : ElemIs t e z bytes) {a : Option Addr} {n cap : Nat} {xs : List Value} (h : Row w e a n cap xs)
    (ad : Addr) (c : Nat) (news : List Value) (hnews : ∀ j u, news[j]? = some u → w.cell? (ad.add j) = some u) (h1 : ∀ u ∈ news, u.oneCell' = true) (hm : 0 < news.length) (hn : n ≤ 1099511627776) (hn2 : news.length ≤ 1099511627776) (ty : TypeId) :
    ∃ g cap' w', (Builtin.append_ #[t, t] ty #[.slice a n cap, .slice (some ad) news.length c]).run Try.prog w = .ok (.slice (some ⟨g, 0, none⟩) (n + news.length) cap') w' ∧
      Row w' e (some ⟨g, 0, none⟩) (n + news.length) cap' (xs ++ news) ∧ Only (blk a) w w' ∧ (g ∈ blk a ∨ w.heap.size ≤ g) := by
  obtain ⟨i, hi, hz⟩ := Option.map_eq_some_iff.1 E.hi
  simp only [Prod.mk.injEq] at hz
  have hb : (n + news.length) * bytes ≤ (n + news.length) * 16 := Nat.mul_le_mul_left _ E.hb
  obtain ⟨g, cap', w', h2, h3, h4, h5, _⟩ := run_append_lies w t ty 0 e i z 1 bytes E.ht hi hz.1 hz.2.1 hz.2.2 E.hz Nat.one_pos (.slice a n cap) n xs h ad news.length c news (by omega) hnews h1 hm (by
      have : (2199023255552 : Nat) ≤ maxLen := by decide
      omega) (by omega) (Nat.zero_le _) _ rfl
  refine ⟨g, cap', w', h2, h3, Only.grownRow h4, ?_⟩
  rcases h5 with h5 | h5
  · exact .inl ((h.ownBlock g).1 h5)
  · exact .inr (by omega)

/-- .. at the operation. -/
theorem wpList_append_row {ops : Array Oper} {rest : List Oper} {o : Oper} {ac : Act} {w : World} {Q : Exit → Act → World → Prop} {t e : TypeId} {z : Value} {bytes : Nat} (E : ElemIs t e z bytes) (hgd : o.guard = none) (s x : Operand)
    (ho : o.op = .call { callee := .builtin .append, args := #[s, x], argTypes := #[t, t] }) {a : Option Addr} {n cap : Nat} {xs : List Value} (h : Row w e a n cap xs) (hs : ac.eval s = .slice a n cap)
    (ad : Addr) (m c : Nat) (news : List Value) (hl : news.length = m) (hx : ac.eval x = .slice (some ad) m c) (hnews : ∀ j u, news[j]? = some u → w.cell? (ad.add j) = some u) (h1 : ∀ u ∈ news, u.oneCell' = true) (hm : 0 < m) (hn : n ≤ 1099511627776) (hn2 : m ≤ 1099511627776)
    (hK : ∀ g cap' w', Row w' e (some ⟨g, 0, none⟩) (n + m) cap' (xs ++ news) → Only (blk a) w w' → (g ∈ blk a ∨ w.heap.size ≤ g) → wpList Try.prog ops Q rest (ac.put o.dst (.slice (some ⟨g, 0, none⟩) (n + m) cap')) w') :
    wpList Try.prog ops Q (o :: rest) ac w := by
  subst hl
  refine wpList_plain hgd fun K hKK => ?_
  obtain ⟨g, cap', w', hr, h2, h3, h4⟩ := run_append_row E h ad c news hnews h1 hm hn hn2 o.type
  unfold Oper.wp execOp
  simp only [ho, resolve, invoke, builtin, Sem.run_bind, Sem.run_pure, Result.andThen_ok, List.map_toArray, List.map_cons, List.map_nil, hs, hx, hr]
  exact hKK _ _ (hK g cap' w' h2 h3 h4)

theorem strV_one (s : Sec) : (strV s).oneCell' = true := rfl
theorem one_news {w : World} {g : Nat} {v : Value} {t : TypeId} {fr : Nat × Nat} (h : w.heap[g]? = some (.cells #[v] t fr)) : ∀ j u, [v][j]? = some u → w.cell? ((⟨g, 0, none⟩ : Addr).add j) = some u := by
  intro j u hj
  rw [Addr.add_mid, Nat.zero_add, cell_of_row w g j _ _ _ h]
  simpa using hj

/-- append of one, at the operation. -/
theorem wpList_append_one {ops : Array Oper} {rest : List Oper} {o : Oper} {ac : Act} {w : World} {Q : Exit → Act → World → Prop} {t e : TypeId} {z : Value} {bytes : Nat} (E : ElemIs t e z bytes) (hgd : o.guard = none) (s x : Operand)
    (ho : o.op = .call { callee := .builtin .append, args := #[s, x], argTypes := #[t, t] }) {a : Option Addr} {n cap : Nat} {xs : List Value} (h : Row w e a n cap xs) (hs : ac.eval s = .slice a n cap)
    (v : Value) (hv : v.oneCell' = true) (g0 : Nat) (hx : ac.eval x = .slice (some ⟨g0, 0, none⟩) 1 1) {t' : TypeId} {fr : Nat × Nat} (hg : w.heap[g0]? = some (.cells #[v] t' fr)) (hn : n ≤ 1099511627776)
    (hK : ∀ g cap' w', Row w' e (some ⟨g, 0, none⟩) (n + 1) cap' (xs ++ [v]) → Only (blk a) w w' → (g ∈ blk a ∨ w.heap.size ≤ g) → wpList Try.prog ops Q rest (ac.put o.dst (.slice (some ⟨g, 0, none⟩) (n + 1) cap')) w') :
    wpList Try.prog ops Q (o :: rest) ac w :=
  wpList_append_row E hgd s x ho h hs ⟨g0, 0, none⟩ 1 1 [v] rfl hx (one_news hg) (fun u hu => by simp at hu; subst hu; exact hv) (by decide) hn (by decide) hK

end Go.Proofs.Ytoiaikgpaobefaa
