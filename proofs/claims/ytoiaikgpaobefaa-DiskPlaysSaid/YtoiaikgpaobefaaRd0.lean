/- What a walk is told of a slice of integers that came in. -/
import Derived.Test.YtoiaikgpaobefaaInts
namespace Go.Proofs.Ytoiaikgpaobefaa
open Go.RowKit Go.Maps

/-- It is nil; or it leads to a row of 'cap' cells, the numbers 'zs' (the first 'len' are its elements), each fitting its kind. -/
def IsRow (k : IntKind) (w : World) (a : Option Addr) (len cap : Nat) (zs : List Int) : Prop :=
  (a = none ∧ len = 0 ∧ cap = 0 ∧ zs = []) ∨
  ∃ x, a = some x ∧ len ≤ cap ∧ cap ≤ maxLen ∧ zs.length = cap ∧ (∀ i, i < zs.length → w.cell? (x.add i) = some (.int k (zs.getD i 0))) ∧ ∀ n ∈ zs, (Lit.int k n).wf = true

/-- The elements of such a slice of ints. -/
theorem IsRow.ints {w : World} {a : Option Addr} {len cap : Nat} {zs : List Int} (h : IsRow .i64 w a len cap zs) :
    (zs.take len).length = len ∧ IntsIn w a (zs.take len) ∧ (∀ k ∈ zs.take len, Fits k) ∧ len ≤ maxLen := by
  rcases h with ⟨rfl, rfl, rfl, rfl⟩ | ⟨x, rfl, hl, hm, hz, hc, hw⟩
  · exact ⟨rfl, .inl rfl, by simp, Nat.zero_le _⟩
  · refine ⟨by rw [List.length_take]; omega, ?_, fun k hk => Fits.of_wf (hw k (List.mem_of_mem_take hk)), by omega⟩
    by_cases h0 : len = 0
    · subst h0; exact .inl (by simp)
    · obtain ⟨g, o, sp⟩ := x
      have hc0 := hc 0 (by omega)
      have hsp : sp = none := by simpa [Addr.add] using World.cell?_spot hc0
      subst hsp
      refine .inr ⟨g, o, rfl, fun j v hv => ?_, World.block_lt_of_cell? w ⟨g, o, none⟩ (by simpa [Addr.add] using hc0)⟩
      rw [List.getElem?_map, List.getElem?_take] at hv
      split at hv
      · have hj : j < zs.length := by omega
        rw [← Addr.add_mid, hc j hj]
        simp [hj] at hv
        rw [← hv]; simp [hj]
      · simp at hv

/-- A byte that fits. -/
theorem byte_of_wf {a : Int} (h : (Lit.int .u8 a).wf = true) : ∃ u : UInt8, a = (u.toNat : Int) := by
  simp [Lit.wf, IntKind.min, IntKind.max, IntKind.bits, IntKind.signed] at h
  refine ⟨UInt8.ofNat a.toNat, ?_⟩
  rw [UInt8.toNat_ofNat']
  omega

end Go.Proofs.Ytoiaikgpaobefaa
