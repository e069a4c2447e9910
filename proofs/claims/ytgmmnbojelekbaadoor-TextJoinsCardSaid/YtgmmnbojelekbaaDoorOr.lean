/- Rows of texts that came in. -/
import Derived.Test.YtgmmnbojelekbaaDoorTx
import Derived.Test.YtgmmnbojelekbaaDoorCv
import Derived.Deep.Slices
namespace Go.Proofs.YtgmmnbojelekbaaDoor
open Go.ChangeShapes Go.WideShapes Go.ChangeAt Go.RowKit
set_option linter.unusedVariables false

/-- Rows that came in. -/
def SmallR (ls : List (List ByteArray)) : Prop := ls.length ≤ 9223372036854775807 ∧ ∀ r ∈ ls, Small r
set_option maxRecDepth 100000 in
theorem strs_of_trod {H : Type} {enc : TypeId × Value → H} {W : World} {base fuel : Nat} {spare : Nat → Bool} {held : Bool} {v : Value} {d : DataW H × List MemPlace}
    (hf : DataW.trod enc Tryd.prog W base spare held fuel 31 [v] = some d) : ∃ (l : List ByteArray), IsStrs W v l ∧ Small l := by
  rcases open_strings Tryd.underlying31 Tryd.underlying9 cellsStr hf with ⟨hcs, _⟩ | ⟨a, len', cap', ss, hcs, _, hl, hm, hlen, _, hcell, hsm⟩
  · obtain rfl : v = .slice none 0 0 := by simpa using hcs
    exact ⟨[], ⟨none, 0, rfl, .inl rfl, Nat.le_refl _⟩, by simp [Small]⟩
  · obtain rfl : v = .slice (some a) len' cap' := by simpa using hcs
    have hle : len' ≤ ss.length := by rw [hlen]; split <;> omega
    unfold maxLen at hm hsm
    have hsml : Small (ss.take len') := ⟨by rw [List.length_take]; omega, fun s hs => hsm s (List.mem_of_mem_take hs)⟩
    have hll : (ss.take len').length = len' := by rw [List.length_take]; omega
    by_cases h0 : len' = 0
    · subst h0; exact ⟨[], ⟨some a, cap', rfl, .inl rfl, Nat.zero_le _⟩, by simp [Small]⟩
    · obtain ⟨g, o, sp⟩ := a
      have hc0 := hcell 0 (by omega)
      have hsp : sp = none := by simpa [Addr.add] using World.cell?_spot hc0
      subst hsp
      refine ⟨ss.take len', ⟨some ⟨g, o, none⟩, cap', by rw [hll], .inr ⟨g, o, rfl, fun i hi => ?_⟩, by rw [hll]; exact hl⟩, hsml⟩
      have hi2 : i < ss.length := by rw [hll] at hi; omega
      have := hcell i hi2
      rw [Addr.add_mid] at this
      rw [this, List.getElem_take]
      simp [hi2]
theorem cellsRow : Tryd.prog.cellsOf 31 = 1 := by kernel_rfl
set_option maxRecDepth 100000 in
theorem open_rows {H : Type} {enc : TypeId × Value → H} {W : World} {b0 base : Nat} {spare : Nat → Bool} {held : Bool} {r : Reach} {v : Value} {d : DataW H} {p : List MemPlace}
    (hv : Value.okWide Tryd.prog W r b0 41 v) (h : DataW.Trod enc Tryd.prog W base spare held 41 v d p) :
    ∃ (a : Option Addr) (cap : Nat) (l : List (List ByteArray)), v = .slice a l.length cap ∧ RowsIn W a l ∧ SmallR l ∧ l.length ≤ cap := by
  obtain ⟨a', len', cap', rfl⟩ := okWide_slice Tryd.underlying41 hv
  obtain ⟨fuel, hf⟩ := h
  rcases Deep.open_slice1 Tryd.underlying41 cellsRow hf with ⟨hcs, _⟩ | ⟨a, len, cap, m, n, V, D, Pl, hcs, _, hl, hm, hmm, _, hx⟩
  · simp [Value.cells] at hcs
    obtain ⟨rfl, rfl, rfl⟩ := hcs
    exact ⟨none, 0, [], rfl, .inl rfl, ⟨by simp, by simp⟩, Nat.zero_le _⟩
  · simp [Value.cells] at hcs
    obtain ⟨rfl, rfl, rfl⟩ := hcs
    have hle : len' ≤ m := by rw [hmm]; split <;> omega
    unfold maxLen at hm
    obtain ⟨L, hL⟩ := Deep.choose_lt (n := len') (p := fun i (l : List ByteArray) => IsStrs W (V i) l ∧ Small l) (fun i hi => strs_of_trod (hx i (by omega)).2)
    have hll : ((List.range len').map L).length = len' := by simp
    have hsml : SmallR ((List.range len').map L) := ⟨by rw [hll]; omega, fun s hs => by
      obtain ⟨i, hi, rfl⟩ := List.mem_map.1 hs
      exact (hL i (List.mem_range.1 hi)).2⟩
    by_cases h0 : len' = 0
    · subst h0; exact ⟨some a, cap', [], rfl, .inl rfl, ⟨by simp, by simp⟩, Nat.zero_le _⟩
    · obtain ⟨g, o, sp⟩ := a
      have hc0 := (hx 0 (by omega)).1
      have hsp : sp = none := by simpa [Addr.add] using World.cell?_spot hc0
      subst hsp
      refine ⟨some ⟨g, o, none⟩, cap', (List.range len').map L, by rw [hll], .inr ⟨g, o, rfl, fun i hi => ?_⟩, hsml, by rw [hll]; exact hl⟩
      rw [hll] at hi
      have := (hx i (by omega)).1
      rw [Addr.add_mid] at this
      exact ⟨V i, this, by simpa using (hL i hi).1⟩
end Go.Proofs.YtgmmnbojelekbaaDoor
