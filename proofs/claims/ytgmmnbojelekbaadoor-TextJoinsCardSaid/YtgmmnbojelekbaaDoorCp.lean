/- append of a slice of texts, nil or not, to a row that the call made. -/
import Derived.Test.YtgmmnbojelekbaaDoorCo
namespace Go.Proofs.YtgmmnbojelekbaaDoor
open Go.RowKit
set_option linter.unusedVariables false

theorem run_app_none (t e ty : TypeId) (i : TypeInfo) (hut : Tryd.prog.underlying t = some (.slice e)) (hi : Tryd.prog.info? e = some i) (w : World) (B size : Nat) (v : Value) (n : Nat) (xs : List Value) (h : w.ownsRow B e size v n xs) (c : Nat) :
    (Builtin.append_ #[t, t] ty #[v, .slice none 0 c]).run Tryd.prog w = .ok v w := by
  rcases h.2 with ⟨rfl, rfl⟩ | ⟨g, cap, cur, rfl, _, _, hnc, _⟩
  · simp [Builtin.append_, run_underlying hut, sizeOf, typeInfo, hi, Builtin.lenOf, Builtin.firstCells]
  · simp [Builtin.append_, run_underlying hut, sizeOf, typeInfo, hi, Builtin.lenOf, Builtin.firstCells, hnc, storeCells]
set_option maxRecDepth 100000 in
theorem run_app_strs (ty : TypeId) (w : World) (B : Nat) (v : Value) (l : List ByteArray) (hown : StrOwn B v l w) (a : Option Addr) (c : Nat) (m : List ByteArray) (hin : StrsIn w a m) (hlen : l.length + m.length ≤ 1000000) (hB : B ≤ w.heap.size) :
    ∃ v' w', (Builtin.append_ #[31, 31] ty #[v, .slice a m.length c]).run Tryd.prog w = .ok v' w' ∧ StrOwn B v' (l ++ m) w' ∧ Below B w w' := by
  obtain ⟨i, hi, hz, hsz, hb⟩ := infoParts _ _ _ _ infoStr
  rcases a with _ | ad
  · have hm : m = [] := by
      rcases hin with h | ⟨b, off, h, _⟩
      · exact h
      · cases h
    subst hm
    exact ⟨v, w, run_app_none 31 9 ty i Tryd.underlying31 hi w B 1 v _ _ hown c, by rw [List.append_nil]; exact hown, Below.refl _ _⟩
  · have hc : ∀ (j : Nat) (u : Value), (m.map Value.string)[j]? = some u → w.cell? (ad.add j) = some u := fun j u hu => by
      rcases hin with rfl | ⟨b, off, h, hat⟩
      · simp at hu
      · injection h with h
        subst h
        have hj : j < m.length := by
          rw [List.getElem?_map] at hu
          rcases h : m[j]? with _ | s
          · rw [h] at hu; simp at hu
          · exact (List.getElem?_eq_some_iff.1 h).1
        rw [Addr.add_mid, hat j hj]
        rw [List.getElem?_map, List.getElem?_eq_getElem hj] at hu
        exact hu
    obtain ⟨v', w', hr, h1, hg, _⟩ := run_append_own (P := Tryd.prog) w B 31 ty 9 i (.string ⟨#[]⟩) 1 16 Tryd.underlying31 hi hz hsz hb rfl (by decide) v _ (l.map Value.string) hown ad m.length c (m.map Value.string) (by simp) hc
      (fun u hu => by obtain ⟨s, _, rfl⟩ := List.mem_map.1 hu; rfl) (by unfold maxLen; simp; omega) (by simp; omega) hB
    refine ⟨v', w', hr, ?_, (Below.refl B w).grown hg hB (fun k hk => (hown.lt k hk).1)⟩
    unfold StrOwn
    rw [List.map_append]
    simpa using h1
set_option maxRecDepth 100000 in
theorem wpList_app_strs {ops : Array Oper} {rest : List Oper} {o : Oper} {a : Act} {w : World} {Q : Exit → Act → World → Prop} (hgd : o.guard = none) (s x : Operand)
    (ho : o.op = .call { callee := .builtin .append, args := #[s, x], argTypes := #[31, 31] })
    (B : Nat) (v : Value) (l : List ByteArray) (hs : a.eval s = v) (hown : StrOwn B v l w) (ad : Option Addr) (c : Nat) (m : List ByteArray) (hx : a.eval x = .slice ad m.length c) (hin : StrsIn w ad m) (hlen : l.length + m.length ≤ 1000000) (hB : B ≤ w.heap.size)
    (h : ∀ v' w', StrOwn B v' (l ++ m) w' → Below B w w' → wpList Tryd.prog ops Q rest (a.put o.dst v') w') : wpList Tryd.prog ops Q (o :: rest) a w :=
  wpList_plain hgd fun _ hK => by
    obtain ⟨v', w', hr, h1, h2⟩ := run_app_strs o.type w B v l hown ad c m hin hlen hB
    unfold Oper.wp execOp
    simp only [ho, resolve, invoke, builtin, Sem.run_bind, Sem.run_pure, Result.andThen_ok, List.map_toArray, List.map_cons, List.map_nil, hs, hx, hr]
    exact hK _ _ (h v' w' h1 h2)
end Go.Proofs.YtgmmnbojelekbaaDoor
