/- Texts, and slices of texts, that came in. -/
import Derived.Test.YtddjfeofmihgdaaDoorCs
import Derived.SliceStrings
import Derived.WalkKit
import Derived.ProofKit
import Derived.OpenShut
import Derived.ShutString
import Derived.ChangeMaps5
namespace Go.Proofs.YtddjfeofmihgdaaDoor
open Go.ChangeShapes Go.WideShapes Go.ChangeAt Go.RowKit
set_option linter.unusedVariables false

theorem cellsStr : Tryd.prog.cellsOf 9 = 1 := by kernel_rfl
set_option maxRecDepth 100000 in
theorem open_strs {H : Type} {enc : TypeId × Value → H} {W : World} {b0 base : Nat} {spare : Nat → Bool} {held : Bool} {r : Reach} {v : Value} {d : DataW H} {p : List MemPlace}
    (hv : Value.okWide Tryd.prog W r b0 22 v) (h : DataW.Trod enc Tryd.prog W base spare held 22 v d p) :
    ∃ (a : Option Addr) (cap : Nat) (l : List ByteArray), v = .slice a l.length cap ∧ StrsIn W a l ∧ Small l ∧ l.length ≤ cap := by
  obtain ⟨a', len', cap', rfl⟩ := okWide_slice Tryd.underlying22 hv
  obtain ⟨fuel, hf⟩ := h
  rcases open_strings Tryd.underlying22 Tryd.underlying9 cellsStr hf with ⟨hcs, _⟩ | ⟨a, len, cap, ss, hcs, _, hl, hm, hlen, _, hcell, hsm⟩
  · simp [Value.cells] at hcs
    obtain ⟨rfl, rfl, rfl⟩ := hcs
    exact ⟨none, 0, [], rfl, .inl rfl, ⟨by simp, by simp⟩, Nat.zero_le _⟩
  · simp [Value.cells] at hcs
    obtain ⟨rfl, rfl, rfl⟩ := hcs
    have hle : len' ≤ ss.length := by rw [hlen]; split <;> omega
    unfold maxLen at hm hsm
    have hsml : Small (ss.take len') := ⟨by rw [List.length_take]; omega, fun s hs => hsm s (List.mem_of_mem_take hs)⟩
    have hll : (ss.take len').length = len' := by rw [List.length_take]; omega
    by_cases h0 : len' = 0
    · subst h0; exact ⟨some a, cap', [], rfl, .inl rfl, ⟨by simp, by simp⟩, Nat.zero_le _⟩
    · obtain ⟨g, o, sp⟩ := a
      have hc0 := hcell 0 (by omega)
      have hsp : sp = none := by simpa [Addr.add] using World.cell?_spot hc0
      subst hsp
      refine ⟨some ⟨g, o, none⟩, cap', ss.take len', by rw [hll], .inr ⟨g, o, rfl, fun i hi => ?_⟩, hsml, by rw [hll]; exact hl⟩
      have hi2 : i < ss.length := by rw [hll] at hi; omega
      have := hcell i hi2
      rw [Addr.add_mid] at this
      rw [this, List.getElem_take]
      simp [hi2]
end Go.Proofs.YtddjfeofmihgdaaDoor
