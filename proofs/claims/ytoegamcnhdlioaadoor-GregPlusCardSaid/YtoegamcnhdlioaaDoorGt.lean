/- Between, the document's; both at whatever days. -/
import Derived.Test.YtoegamcnhdlioaaDoorGs
import Derived.Test.YtoegamcnhdlioaaDoorGc
namespace Go.Proofs.YtoegamcnhdlioaaDoor
open Go.RowKit Go.Extern.Stop Go.Stop Go.Extern
set_option linter.unusedVariables false
set_option linter.unusedSimpArgs false

theorem between_short (a : Option Addr) (n cap : Nat) (l : List Tri) (hn : l.length = n) (h : n < 2) (w : World) :
    Calls Tryd.prog 23 #[.slice a n cap] w fun e w' => e = .returned (btwV l) ∧ Below w.heap.size w w' := by
  rw [btwV_short (by omega)]
  clear hn
  have h2' : (n : Int) < 2 := by omega
  go_enter Tryd.func23, Tryd.ntmps23
  go_wp2_with fail
  go_ret2
  exact ⟨rfl, Below.refl _ _⟩
theorem between_any (x : Addr) (a : Option Addr) (cap : Nat) (l : List Tri) (w : World) (hx : Laid x w) (hl : DaysIn w a l) (hn : l.length ≤ 1000) :
    Calls Tryd.prog 23 #[.slice a l.length cap] w fun e w' => e = .returned (btwV l) ∧ Below w.heap.size w w' := by
  rcases hl with rfl | ⟨b, off, rfl, hl⟩
  · exact between_short a 0 cap [] rfl (by omega) w
  · exact between_calls x b off cap l w hx hl hn

theorem betweenR_short (a : Option Addr) (n cap : Nat) (l : List Tri) (hn : l.length = n) (h : n < 2) (w : World) :
    Calls Tryd.prog 24 #[.slice a n cap] w fun e w' => e = .returned (btwV l) ∧ Below w.heap.size w w' := by
  rw [btwV_short (by omega)]
  clear hn
  have h2' : (n : Int) < 2 := by omega
  go_enter Tryd.func24, Tryd.ntmps24
  go_wp2_with fail
  go_ret2
  exact ⟨rfl, Below.refl _ _⟩

theorem betweenR_any (a : Option Addr) (cap : Nat) (l : List Tri) (w : World) (hl : DaysIn w a l) (hn : l.length ≤ 1000) :
    Calls Tryd.prog 24 #[.slice a l.length cap] w fun e w' => e = .returned (btwV l) ∧ Below w.heap.size w w' := by
  rcases hl with rfl | ⟨b, off, rfl, hl⟩
  · exact betweenR_short a 0 cap [] rfl (by omega) w
  · exact betweenR_calls b off cap l w hl hn
end Go.Proofs.YtoegamcnhdlioaaDoor
