/- A fault at a place: errors.Is, No and Place of it. -/
import Derived.Test.YtddjfeofmihgdaaDoorCa
import Derived.Test.YtddjfeofmihgdaaDoorCb
namespace Go.Proofs.YtddjfeofmihgdaaDoor
open Go.RowKit Go.Extern.Stop Go.Stop Go.Extern
set_option linter.unusedVariables false
set_option linter.unusedSimpArgs false

/-- A fault in block b: at which place, which number. -/
def FaultIn (b : Nat) (k n : Int) (w : World) : Prop := w.cell? ⟨b, 0, none⟩ = some (.int .i64 k) ∧ w.cell? ⟨b, 1, none⟩ = some (.int .i64 n)
abbrev errF (b : Nat) : Value := .iface 54 (.pointer (some ⟨b, 0, none⟩))
theorem FaultIn.below {b : Nat} {k n : Int} {w w' : World} (h : FaultIn b k n w) (hb : Below w.heap.size w w') : FaultIn b k n w' :=
  ⟨by rw [hb.cell (World.block_lt_of_cell? w _ h.1)]; exact h.1, by rw [hb.cell (World.block_lt_of_cell? w _ h.2)]; exact h.2⟩
theorem fNoIs (v : Value) (xT : TypeId) (w : World) : (Instr.typeAssert (.iface 54 v) xT 99 true).run Tryd.prog w = .ok (.tuple #[.nilIface, .bool false]) w := run_typeAssert_lacksB Tryd.underlying99 (by kernel_rfl) (by kernel_rfl) v xT w
theorem fUnwrap (v : Value) (xT : TypeId) (w : World) : (Instr.typeAssert (.iface 54 v) xT 102 true).run Tryd.prog w = .ok (.tuple #[.iface 54 v, .bool true]) w := run_typeAssert_hasB Tryd.underlying102 (by kernel_rfl) v xT w
theorem fMethod (v : Value) (w : World) : (Go.method 256 54 v "Unwrap").run Tryd.prog w = .ok (88, v) w := by kernel_rfl

theorem fUnwrap_calls (b : Nat) (k n : Int) (w : World) (h : FaultIn b k n w) : Calls Tryd.prog 88 #[.pointer (some ⟨b, 0, none⟩)] w fun e w' => e = .returned (errNo n) ∧ w = w' := by
  obtain ⟨c0, c1⟩ := h
  go_enter Tryd.func88, Tryd.ntmps88
  go_wp2
  go_ret
  exact ⟨rfl, rfl⟩

set_option maxRecDepth 100000 in
set_option maxHeartbeats 1000000 in
/-- errors.Is of a fault and a number: whether its number is that. -/
theorem is_fault (b : Nat) (k n m : Int) (w : World) (h : FaultIn b k n w) :
    Calls Tryd.prog 25 #[errF b, errNo m] w fun e w' => e = .returned (.bool (n == m)) ∧ w = w' := by
  obtain ⟨i, hi, hcmp⟩ := Option.map_eq_some_iff.1 isComp
  have h8 := @run_callFunc_extern Tryd.prog 38 _ Extern.ReflectliteType.typeOf Tryd.func38 (by kernel_rfl) (by kernel_rfl) (by kernel_rfl) (by kernel_rfl)
  have h32 := @run_callFunc_extern Tryd.prog 94 _ cmpExt Tryd.func94 (by kernel_rfl) (by kernel_rfl) (by kernel_rfl) (by kernel_rfl)
  have tT := isTypeOf
  have cT := isComparable
  have mR := isMethodComparable
  have nE := noIsE
  have uE := noUnwrapE
  have vE := noUnwrapsE
  have nF := fNoIs
  have uF := fUnwrap
  have mF := fMethod
  have eF := run_eql_iface_types (P := Tryd.prog) 54 53 (.pointer (some ⟨b, 0, none⟩)) (.int .i64 m) Tryd.underlying26 (by decide) w
  have heq := run_eql_iface_int (P := Tryd.prog) w n m Tryd.underlying26 Tryd.underlying53 hi hcmp
  have HU := Lib.hid (fUnwrap_calls b k n w h)
  clear h
  by_cases hab : (n == m) = true
  · rw [hab] at heq ⊢
    clear hab
    go_enter Tryd.func25, Tryd.ntmps25
    go_wp2
    refine wp_loop_rounds 2 ?_
    rw [rounds_succ]
    go_wp2_with (go_at_call 88; refine HU.out.mono ?_; rintro e w' ⟨rfl, rfl⟩)
    rw [rounds_succ]
    go_wp2
    go_ret
    exact ⟨rfl, rfl⟩
  · rw [Bool.not_eq_true] at hab
    rw [hab] at heq ⊢
    clear hab
    go_enter Tryd.func25, Tryd.ntmps25
    go_wp2
    refine wp_loop_rounds 2 ?_
    rw [rounds_succ]
    go_wp2_with (go_at_call 88; refine HU.out.mono ?_; rintro e w' ⟨rfl, rfl⟩)
    rw [rounds_succ]
    go_wp2
    go_ret
    exact ⟨rfl, rfl⟩

/-- No of a fault. -/
theorem no_fault (b : Nat) (p k : Int) (w : World) (h : FaultIn b p k w) (h1 : 1 ≤ k) (h16 : k ≤ 16) : Calls Tryd.prog 13 #[errF b] w fun e w' => e = .returned (.int .i64 k) ∧ w = w' := by
  have HF := Lib.hid (fun j => is_fault b p k j w h)
  clear h
  go_enter Tryd.func13, Tryd.ntmps13
  go_wp2
  go_loop [3] (fun i => ∃ j : Int, 1 ≤ j ∧ j ≤ k ∧ i = .int .i64 j) (fun i => (17 - intOf i).toNat)
  case atStart => exact ⟨1, by omega, by omega, rfl⟩
  case round =>
    obtain ⟨j, hj1, hjk, rfl⟩ := hrel
    by_cases hjk' : (k == j) = true
    · have : k = j := by simpa using hjk'
      subst this
      go_wp2_with (go_at_call 25; refine (HF.out _).mono ?_; rw [hjk']; rintro e w' ⟨rfl, rfl⟩)
      go_ret
      exact ⟨rfl, rfl⟩
    · have hlt : j < k := by simp at hjk'; omega
      rw [Bool.not_eq_true] at hjk'
      go_wp2_with (go_at_call 25; refine (HF.out _).mono ?_; rw [hjk']; rintro e w' ⟨rfl, rfl⟩)
      go_round
      case rel => exact ⟨j + 1, by omega, by omega, rfl⟩
      case measure => simp [intOf]; omega

set_option maxRecDepth 100000 in
/-- Place of no error. -/
theorem place_nil (w : World) : Calls Tryd.prog 14 #[.nilIface] w fun e w' => e = .returned (.int .i64 0) ∧ Below w.heap.size w w' := by
  have bb := Lib.hid (below_alloc w (.cells #[.pointer none] 54))
  go_enter Tryd.func14, Tryd.ntmps14
  go_wp2_with (go_at_call 26; refine (as_nil _ _).mono ?_; rintro e w' ⟨rfl, rfl⟩)
  go_ret
  exact ⟨rfl, bb.out⟩

/-- What a variable that a call just made holds behind errors.As. -/
theorem as_new {T : TypeId} {z x : Value} {w w' : World} {ev : Ending} (hx : x.oneCell' = true) (h : ∃ w1, Below (w.alloc (.cells #[z] T)).heap.size (w.alloc (.cells #[z] T)) w1 ∧ w' = w1.setCell ⟨w.heap.size, 0, none⟩ x) :
    Below w.heap.size w w' ∧ w'.cell? ⟨w.heap.size, 0, none⟩ = some x := by
  obtain ⟨w1, b1, rfl⟩ := h
  have hs : w1.cell? ⟨w.heap.size, 0, none⟩ = some z := by rw [b1.cell (by simp)]; simp
  exact ⟨((below_alloc w (.cells #[z] T)).trans (b1.mono (by simp))).setCell (p := ⟨w.heap.size, 0, none⟩) (Nat.le_refl _) _, World.cell?_setCell_same _ _ _ hs⟩
theorem errTy_alloc {w : World} (hg : ErrTy w) (o : Obj) : ErrTy (w.alloc o) := by
  unfold ErrTy at *; rw [(below_alloc w o).cell (World.block_lt_of_cell? w _ hg)]; exact hg
theorem ErrTy.below {w w' : World} (h : ErrTy w) (b : Below w.heap.size w w') : ErrTy w' := by
  unfold ErrTy at *; rw [b.cell (World.block_lt_of_cell? w _ h)]; exact h
theorem as_fault (b : Nat) (w : World) (hg : ErrTy w) :
    Calls Tryd.prog 26 #[errF b, .iface 56 (.pointer (some ⟨w.heap.size, 0, none⟩))] (w.alloc (.cells #[.pointer none] 54)) fun ev w' => ev = .returned (.bool true) ∧ Below w.heap.size w w' ∧ w'.cell? ⟨w.heap.size, 0, none⟩ = some (.pointer (some ⟨b, 0, none⟩)) :=
  (flt_as ⟨b, 0, none⟩ ⟨w.heap.size, 0, none⟩ (.pointer none) _ (errTy_alloc hg _) (by simp) (by simp)).mono fun ev w' h => ⟨h.1, as_new (ev := ev) rfl h.2⟩
theorem as_errno (n : Int) (w : World) (hg : ErrTy w) :
    Calls Tryd.prog 26 #[errNo n, .iface 72 (.pointer (some ⟨w.heap.size, 0, none⟩))] (w.alloc (.cells #[.int .i64 0] 53)) fun ev w' => ev = .returned (.bool true) ∧ Below w.heap.size w w' ∧ w'.cell? ⟨w.heap.size, 0, none⟩ = some (.int .i64 n) :=
  (eno_as n ⟨w.heap.size, 0, none⟩ (.int .i64 0) _ (errTy_alloc hg _) (by simp) (by simp)).mono fun ev w' h => ⟨h.1, as_new (ev := ev) rfl h.2⟩

set_option maxRecDepth 100000 in
/-- Place of a fault. -/
theorem place_fault (b : Nat) (k n : Int) (w : World) (h : FaultIn b k n w) (hg : ErrTy w) : Calls Tryd.prog 14 #[errF b] w fun e w' => e = .returned (.int .i64 k) ∧ Below w.heap.size w w' := by
  have HA := Lib.hid (as_fault b w hg)
  have HF := Lib.hid h
  clear hg h
  go_enter Tryd.func14, Tryd.ntmps14
  go_wp2_with (go_at_call 26; refine HA.out.mono ?_)
  rintro e w2 ⟨rfl, b2, c2⟩
  obtain ⟨d0, d1⟩ := HF.out.below b2
  have B2 := Lib.hid b2
  clear b2
  go_wp2
  go_ret
  exact ⟨rfl, B2.out⟩
end Go.Proofs.YtddjfeofmihgdaaDoor
