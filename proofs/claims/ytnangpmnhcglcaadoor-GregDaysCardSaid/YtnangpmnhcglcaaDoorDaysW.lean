/- GregDays: the walk. -/
import Derived.Test.YtnangpmnhcglcaaDoorGe
namespace Go.Proofs.YtnangpmnhcglcaaDoor
open Go.RowKit Go.Extern.Stop Go.Stop Go.Extern
set_option linter.unusedVariables false
set_option linter.unusedSimpArgs false

set_option maxRecDepth 100000 in
set_option maxHeartbeats 4000000 in
theorem gregDays_walk (x : Addr) (y m d n : Int) (w : World) (hx : Laid x w) :
    Calls Tryd.prog 3 #[dayV y m d, iv n] w fun e w' => e = .returned (.bool true) ∧ Below w.heap.size w w' := by
  have xa := hx.alloc (.cells #[iv y, iv m, iv d] 23)
  have lx := fun k : Past (w.alloc (.cells #[iv y, iv m, iv d] 23)) => xa.below k.below
  have A := DayAt.new w 23 y m d
  have c0 := fun k => (A.past k).c0
  have c1 := fun k => (A.past k).c1
  have c2 := fun k => (A.past k).c2
  have d0 := eqDay_same (ofI n).1 (ofI n).2.1 (ofI n).2.2
  go_enter Tryd.func3, Tryd.ntmps3
  go_wp2_with fail
  (refine region_past (by kernel_rfl) (by kernel_rfl) ?_; (repeat (first | go_big_quiet_skip | (go_big_quiet_want; go_big_quiet_op; first | go_big_quiet_on | (apply Exists.intro; refine ⟨fun k => ?_, ?_⟩; (focus (first | (go_at_call 9; refine Past.calls (right_calls x _ _ _ _ (lx _))) | (go_at_call 10; refine Past.calls (rightR_calls _ _ _ _)) | (go_at_call 11; refine Past.calls_same (long_calls _ _ _)) | (go_at_call 12; refine Past.calls (longR_calls _ _ _)) | (go_at_call 13; refine Past.calls (num_calls x _ _ _ _ (lx _))) | (go_at_call 14; refine Past.calls (numR_calls _ _ _ _)) | (go_at_call 15; refine Past.calls (of_calls _ _)) | (go_at_call 16; refine Past.calls (ofR_calls _ _)) | (go_at_call 17; refine Past.calls_same (weekday_calls _ _)) | (go_at_call 18; refine Past.calls_same (weekdayR_calls _ _)) | (go_at_call 19; refine Past.calls (yearDay_calls x _ _ _ _ (lx _))) | (go_at_call 20; refine Past.calls (yearDayR_calls _ _ _ _)) | (go_at_call 21; refine Past.calls (alive_calls x _ (lx _))))); go_big_quiet_on)))); refine wpQuiet_nil ?_; intro k)
  obtain ⟨w1, b1⟩ := k
  go_wp2_with fail
  go_ret
  exact ⟨rfl, below_front b1⟩
end Go.Proofs.YtnangpmnhcglcaaDoor
