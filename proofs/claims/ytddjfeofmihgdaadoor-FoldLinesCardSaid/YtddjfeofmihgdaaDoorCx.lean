/- Slices of texts, cut. -/
import Derived.Test.YtddjfeofmihgdaaDoorCs
namespace Go.Proofs.YtddjfeofmihgdaaDoor
open Go.RowKit
set_option linter.unusedVariables false

/-- 'l[:k]', 'l[k:]'. -/
theorem sizeStr (w : World) : (sizeOf (Tryd.prog.elem 22)).run Tryd.prog w = .ok 1 w := by kernel_rfl
theorem add_none (a : Option Addr) : a.map (·.add 0) = a := by
  rcases a with _ | a
  · rfl
  · simp [Addr.add]
set_option maxRecDepth 100000 in
theorem sl_to (a : Option Addr) (n cap k : Nat) (y : Int) (hy : y = k) (hk : k ≤ cap) (w : World) :
    (Instr.slice 22 (.slice a n cap) none (some (.int .i64 y)) none).run Tryd.prog w = .ok (.slice a k cap) w := by
  rw [run_slice_h w 22 a n cap Tryd.underlying22 .i64 y (by omega) (by omega), sizeStr]
  simp only [Result.andThen, sliced, Nat.zero_mul, Nat.sub_zero, add_none, ite_self, hy, Int.toNat_natCast]
def dropA (a : Option Addr) (cap k : Nat) : Option Addr := if cap = k then a else a.map (·.add k)
set_option maxRecDepth 100000 in
theorem sl_from (a : Option Addr) (n cap k : Nat) (x : Int) (hx : x = k) (hk : k ≤ n) (w : World) :
    (Instr.slice 22 (.slice a n cap) (some (.int .i64 x)) none none).run Tryd.prog w = .ok (.slice (dropA a cap k) (n - k) (cap - k)) w := by
  rw [run_slice_l w 22 a n cap Tryd.underlying22 .i64 x (by omega) (by omega), sizeStr]
  simp only [Result.andThen, sliced, Nat.mul_one, hx, Int.toNat_natCast]
  rfl
theorem StrsIn.dropA {w : World} {a : Option Addr} {l : List ByteArray} {cap : Nat} (h : StrsIn w a l) (hc : l.length ≤ cap) (k : Nat) : StrsIn w (dropA a cap k) (l.drop k) := by
  by_cases hk : l.length ≤ k
  · exact .inl (List.drop_eq_nil_of_le hk)
  · obtain ⟨b, off, rfl, h2⟩ := h.form (show 0 < l.length by omega)
    have e : Go.Proofs.YtddjfeofmihgdaaDoor.dropA (some ⟨b, off, none⟩) cap k = some ⟨b, off + k, none⟩ := by
      unfold Go.Proofs.YtddjfeofmihgdaaDoor.dropA
      rw [if_neg (by omega), Option.map_some, Addr.add_mid]
    rw [e]
    exact .inr ⟨b, off + k, rfl, h2.drop k⟩
end Go.Proofs.YtddjfeofmihgdaaDoor
