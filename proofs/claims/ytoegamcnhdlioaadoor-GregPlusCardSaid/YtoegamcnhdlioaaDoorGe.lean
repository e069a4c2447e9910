/- Days compared; the examples. -/
import Derived.Test.YtoegamcnhdlioaaDoorGk
import Derived.Laws.StructEq
namespace Go.Proofs.YtoegamcnhdlioaaDoor
open Go.RowKit Go.Extern.Stop Go.Stop Go.Extern
set_option linter.unusedVariables false
set_option linter.unusedSimpArgs false

theorem eqDay (a b c x y z : Int) (w : World) : (binOp .eql 23 (dayV a b c) (dayV x y z)).run Tryd.prog w = .ok (.bool (a == x && (b == y && c == z))) w := by
  have u3 := Tryd.underlying3
  have hS : Tryd.prog.underlying 23 = some (.struct (Tryd.prog.fieldsOf 23)) := by kernel_rfl
  have hp : Tryd.prog.stoodInHeld 23 = false := by kernel_rfl
  rw [run_eql_struct, show (10000 : Nat) = 9999 + 1 from rfl, run_equalIn_struct w 9999 23 _ _ hS hp]
  simp only [Program.fieldsOf, Tryd.underlying23]
  go_simp
  by_cases h1 : a = x <;> by_cases h2 : b = y <;> by_cases h3 : c = z <;> simp [h1, h2, h3]
theorem eqDay_same (a b c : Int) (w : World) : (binOp .eql 23 (dayV a b c) (dayV a b c)).run Tryd.prog w = .ok (.bool true) w := by
  rw [eqDay]; simp

theorem ex_num : numV 2021 1 3 = 737793 := by decide
theorem ex_num2 : numV 1970 1 1 = 719163 := by decide
theorem ex_plus : plusV 2000 1 31 1 = dayV 0 0 0 := if_neg (by decide)
theorem ex_of : dayO 719163 = dayV 1970 1 1 := dayO_of (by decide) (by decide)
theorem ex_yr : yrI (midI 737793 0) = 2020 := yrI_eq (by decide) (by decide) (by decide) (by decide) (by decide)
theorem ex_wkY : wkY 737793 0 = 2020 := by unfold wkY; rw [if_pos (by decide), ex_yr]
theorem ex_wkN : wkN 737793 0 = 53 := by unfold wkN; rw [if_pos (by decide), ex_yr]; decide

set_option maxRecDepth 100000 in
set_option maxHeartbeats 1000000 in
theorem alive_calls (x : Addr) (w : World) (hx : Laid x w) :
    Calls Tryd.prog 21 #[] w fun e w' => e = .returned (.bool true) ∧ Below w.heap.size w w' := by
  have d0 := eqDay_same 0 0 0
  have d1 := eqDay_same 1970 1 1
  have hwd : wdI 719163 = 3 := by decide
  go_enter Tryd.func21, Tryd.ntmps21
  go_wp2_with (first
    | (go_at_call_of 13 (Value.int IntKind.i64 2021); refine (num_calls x _ _ _ _ hx).mono ?_; rw [ex_num]; rintro e w1 ⟨rfl, b1⟩; have x1 := hx.below b1)
    | (go_at_call 13; refine (num_calls x _ _ _ _ x2).mono ?_; rw [ex_num2]; rintro e w3 ⟨rfl, b3⟩; have x3 := x2.below b3)
    | (go_at_call 26; refine (week_calls _ _ _).mono ?_; rw [ex_wkY, ex_wkN]; rintro e w2 ⟨rfl, b2⟩; have x2 := x1.below b2)
    | (go_at_call 17; refine (weekday_calls _ _).mono ?_; rw [hwd]; rintro e w' ⟨rfl, rfl⟩)
    | (go_at_call 22; refine (plus_calls x _ _ _ _ _ x3 (by decide)).mono ?_; rw [ex_plus]; rintro e w4 ⟨rfl, b4⟩)
    | (go_at_call 15; refine (of_calls _ _).mono ?_; rw [ex_of]; rintro e w5 ⟨rfl, b5⟩))
  go_ret
  exact ⟨rfl, below_then (below_then (below_then (below_then b1 b2) b3) b4) b5⟩
end Go.Proofs.YtoegamcnhdlioaaDoor
