/- GregWeeks: the walk. -/
import Derived.Test.YtnangpmnhcglcaaDoorGe
namespace Go.Proofs.YtnangpmnhcglcaaDoor
open Go.RowKit Go.Extern.Stop Go.Stop Go.Extern
set_option linter.unusedVariables false
set_option linter.unusedSimpArgs false

set_option maxRecDepth 100000 in
set_option maxHeartbeats 1000000 in
theorem gregWeeks_walk (x : Addr) (a0 a1 a2 : Int) (w : World) (hx : Laid x w) :
    Calls Tryd.prog 6 #[iv a0, iv a1, iv a2] w fun e w' => e = .returned (.bool true) ∧ Below w.heap.size w w' := by
  go_enter Tryd.func6, Tryd.ntmps6
  go_wp2_with (first
    | (go_at_call 26; refine (week_calls _ _ _).mono ?_; rintro e w1 ⟨rfl, b1⟩)
    | (go_at_call 27; refine (weekR_calls _ _ _).mono ?_; rintro e w2 ⟨rfl, b2⟩; have x2 := hx.below (below_then b1 b2))
    | (go_at_call 28; refine (weeks_calls x _ _ _ x2).mono ?_; rintro e w3 ⟨rfl, b3⟩; have x3 := x2.below b3)
    | (go_at_call 29; refine (weeksR_calls _ _ _).mono ?_; rintro e w' ⟨rfl, rfl⟩)
    | (go_at_call 21; refine (alive_calls x _ x3).mono ?_; rintro e w4 ⟨rfl, b4⟩))
  go_ret
  exact ⟨rfl, below_then (below_then (below_then b1 b2) b3) b4⟩
end Go.Proofs.YtnangpmnhcglcaaDoor
