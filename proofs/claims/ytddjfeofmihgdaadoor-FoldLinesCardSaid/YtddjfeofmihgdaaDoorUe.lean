/- The end of a text: errors.Is of nil and of it. -/
import Derived.Test.YtddjfeofmihgdaaDoorCe
import Derived.Test.YtddjfeofmihgdaaDoorCb
namespace Go.Proofs.YtddjfeofmihgdaaDoor
open Go.RowKit Go.Extern.Stop Go.Stop Go.Extern
set_option linter.unusedVariables false
set_option linter.unusedSimpArgs false

abbrev errP (x : Addr) : Value := .iface 127 (.pointer (some x))
def Laid (x : Addr) (w : World) : Prop := w.cell? ⟨0, 0, none⟩ = some (errP x)
theorem Laid.lt {x : Addr} {w : World} (h : Laid x w) : 0 < w.heap.size := World.block_lt_of_cell? w _ h
theorem Laid.below {x : Addr} {w w' : World} (h : Laid x w) (b : Below w.heap.size w w') : Laid x w' := by
  have := h.lt
  unfold Laid at *
  rw [b.cell this]; exact h
theorem Laid.alloc {x : Addr} {w : World} (h : Laid x w) (o : Obj) : Laid x (w.alloc o) := h.below ((Below.refl _ w).alloc (Nat.le_refl _) o)

theorem pTypeOf (v : Value) (w : World) : (Extern.ReflectliteType.typeOf #[.iface 127 v]).run Tryd.prog w = .ok (.iface 97 (.agg #[.pointer (some ⟨5, 127, none⟩)])) w := by kernel_rfl
theorem pComparable (w : World) : (cmpExt #[.agg #[.pointer (some ⟨5, 127, none⟩)]]).run Tryd.prog w = .ok (.bool true) w := by kernel_rfl
theorem pComp : (Tryd.prog.info? 127).map (·.comparable) = some true := by kernel_rfl
theorem pSize : (Tryd.prog.info? 145).map (·.size) = some 1 := by kernel_rfl

set_option maxRecDepth 100000 in
theorem is_nil (x : Addr) (w : World) :
    Calls Tryd.prog 25 #[.nilIface, errP x] w fun e w' => e = .returned (.bool false) ∧ w = w' := by
  have heq := run_eql_iface_nil_left (P := Tryd.prog) (w := w) 127 (.pointer (some x)) Tryd.underlying26
  go_enter Tryd.func25, Tryd.ntmps25
  go_wp2
  go_ret
  exact ⟨rfl, rfl⟩
set_option maxRecDepth 100000 in
theorem is_same (x : Addr) (w : World) :
    Calls Tryd.prog 25 #[errP x, errP x] w fun e w' => e = .returned (.bool true) ∧ w = w' := by
  obtain ⟨i, hi, hcmp⟩ := Option.map_eq_some_iff.1 pComp
  obtain ⟨j, hj, hsz⟩ := Option.map_eq_some_iff.1 pSize
  have heq := run_eql_iface_ptr_same (P := Tryd.prog) (w := w) x Tryd.underlying26 Tryd.underlying127 hi hcmp hj
  have h8 := @run_callFunc_extern Tryd.prog 38 _ Extern.ReflectliteType.typeOf Tryd.func38 (by kernel_rfl) (by kernel_rfl) (by kernel_rfl) (by kernel_rfl)
  have h32 := @run_callFunc_extern Tryd.prog 94 _ cmpExt Tryd.func94 (by kernel_rfl) (by kernel_rfl) (by kernel_rfl) (by kernel_rfl)
  have tT := pTypeOf
  have cT := pComparable
  have mR := isMethodComparable
  go_enter Tryd.func25, Tryd.ntmps25
  go_wp2
  refine wp_loop_rounds 1 ?_
  rw [rounds_succ]
  go_wp2
  go_ret
  exact ⟨rfl, rfl⟩
end Go.Proofs.YtddjfeofmihgdaaDoor
