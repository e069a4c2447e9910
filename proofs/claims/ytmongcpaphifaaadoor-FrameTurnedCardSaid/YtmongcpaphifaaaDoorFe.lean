/- Errors of frames: errors.Is of nil and of a flaw, that wraps the one error. -/
import Derived.Test.YtmongcpaphifaaaDoorCe
import Derived.Test.YtmongcpaphifaaaDoorCb
namespace Go.Proofs.YtmongcpaphifaaaDoor
open Go.RowKit Go.Extern.Stop Go.Stop Go.Extern
set_option linter.unusedVariables false
set_option linter.unusedSimpArgs false

/-- The error that a text begins with no whole frame, as the variable holds it. -/
abbrev errP (x : Addr) : Value := .iface 82 (.pointer (some x))
abbrev flawV (s : ByteArray) : Value := .iface 63 (.string s)
def Laid (x : Addr) (w : World) : Prop := w.cell? ⟨0, 0, none⟩ = some (errP x)
theorem Laid.lt {x : Addr} {w : World} (h : Laid x w) : 0 < w.heap.size := World.block_lt_of_cell? w _ h
theorem Laid.below {x : Addr} {w w' : World} (h : Laid x w) (b : Below w.heap.size w w') : Laid x w' := by
  have := h.lt
  unfold Laid at *
  rw [b.cell this]; exact h
theorem Laid.alloc {x : Addr} {w : World} (h : Laid x w) (o : Obj) : Laid x (w.alloc o) := h.below ((Below.refl _ w).alloc (Nat.le_refl _) o)

theorem pTypeOf (v : Value) (w : World) : (Extern.ReflectliteType.typeOf #[.iface 82 v]).run Tryd.prog w = .ok (.iface 72 (.agg #[.pointer (some ⟨2, 82, none⟩)])) w := by kernel_rfl
theorem pComparable (w : World) : (cmpExt #[.agg #[.pointer (some ⟨2, 82, none⟩)]]).run Tryd.prog w = .ok (.bool true) w := by kernel_rfl
theorem pComp : (Tryd.prog.info? 82).map (·.comparable) = some true := by kernel_rfl
theorem pSize : (Tryd.prog.info? 105).map (·.size) = some 1 := by kernel_rfl
theorem flawNoIs (v : Value) (xT : TypeId) (w : World) : (Instr.typeAssert (.iface 63 v) xT 74 true).run Tryd.prog w = .ok (.tuple #[.nilIface, .bool false]) w := run_typeAssert_lacksB Tryd.underlying74 (by kernel_rfl) (by kernel_rfl) v xT w
theorem flawUnwraps (v : Value) (xT : TypeId) (w : World) : (Instr.typeAssert (.iface 63 v) xT 77 true).run Tryd.prog w = .ok (.tuple #[.iface 63 v, .bool true]) w := run_typeAssert_hasB Tryd.underlying77 (by kernel_rfl) v xT w
theorem flawMethod (v : Value) (w : World) : (Go.method 216 63 v "Unwrap").run Tryd.prog w = .ok (60, v) w := by kernel_rfl

set_option maxRecDepth 100000 in
theorem is_nil (x : Addr) (w : World) :
    Calls Tryd.prog 29 #[.nilIface, errP x] w fun e w' => e = .returned (.bool false) ∧ w = w' := by
  have heq := run_eql_iface_nil_left (P := Tryd.prog) (w := w) 82 (.pointer (some x)) Tryd.underlying31
  go_enter Tryd.func29, Tryd.ntmps29
  go_wp2
  go_ret
  exact ⟨rfl, rfl⟩
set_option maxRecDepth 100000 in
theorem unwrap_calls (x : Addr) (s : ByteArray) (w : World) (hx : Laid x w) :
    Calls Tryd.prog 60 #[.string s] w fun e w' => e = .returned (errP x) ∧ w = w' := by
  unfold Laid at hx
  go_enter Tryd.func60, Tryd.ntmps60
  go_wp2
  go_ret
  exact ⟨rfl, rfl⟩
set_option maxRecDepth 100000 in
set_option maxHeartbeats 1000000 in
theorem is_flaw (x : Addr) (s : ByteArray) (w : World) (hx : Laid x w) :
    Calls Tryd.prog 29 #[flawV s, errP x] w fun e w' => e = .returned (.bool true) ∧ w = w' := by
  obtain ⟨i, hi, hcmp⟩ := Option.map_eq_some_iff.1 pComp
  obtain ⟨j, hj, hsz⟩ := Option.map_eq_some_iff.1 pSize
  have hne := run_eql_iface_types (P := Tryd.prog) 63 82 (.string s) (.pointer (some x)) Tryd.underlying31 (by decide)
  have heq := fun w => run_eql_iface_ptr_same (P := Tryd.prog) (w := w) x Tryd.underlying31 Tryd.underlying82 hi hcmp hj
  have h8 := @run_callFunc_extern Tryd.prog 37 _ Extern.ReflectliteType.typeOf Tryd.func37 (by kernel_rfl) (by kernel_rfl) (by kernel_rfl) (by kernel_rfl)
  have h32 := @run_callFunc_extern Tryd.prog 64 _ cmpExt Tryd.func64 (by kernel_rfl) (by kernel_rfl) (by kernel_rfl) (by kernel_rfl)
  have tT := pTypeOf
  have cT := pComparable
  have mR := isMethodComparable
  have n1 := flawNoIs
  have n2 := flawUnwraps
  have n3 := flawMethod
  go_enter Tryd.func29, Tryd.ntmps29
  go_wp2
  refine wp_loop_rounds 2 ?_
  rw [rounds_succ]
  go_wp2_with (go_at_call 60; refine (unwrap_calls x s _ hx).mono ?_; rintro e w' ⟨rfl, rfl⟩)
  rw [rounds_succ]
  go_wp2
  go_ret
  exact ⟨rfl, rfl⟩
end Go.Proofs.YtmongcpaphifaaaDoor
