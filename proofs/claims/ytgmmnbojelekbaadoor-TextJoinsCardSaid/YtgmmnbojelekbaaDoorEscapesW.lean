/- TextEscapes: the walk. -/
import Derived.Test.YtgmmnbojelekbaaDoorLf
namespace Go.Proofs.YtgmmnbojelekbaaDoor
open Go.RowKit
set_option linter.unusedVariables false
set_option linter.unusedSimpArgs false

def strS : Option (List UInt8) → ByteArray
  | some a => strOf a
  | none => ⟨#[]⟩
def noI {α : Type} : Option α → Int
  | some _ => 0
  | none => 11
theorem saidV_eq (o : Option (List UInt8)) : saidV o = .tuple #[.string (strS o), errS o] := by cases o <;> rfl
theorem toldRV_eq (o : Option (List UInt8)) : toldRV o = .tuple #[.string (strS o), iv (noI o)] := by cases o <;> rfl
theorem errN_eq {α : Type} (o : Option α) : errN o = iv (noI o) := by cases o <;> rfl
theorem no_errS {α : Type} (o : Option α) (w : World) : Calls Tryd.prog 14 #[errS o] w fun e w' => e = .returned (iv (noI o)) ∧ w = w' := by
  cases o
  · exact no_errno 11 w (by omega) (by omega)
  · exact no_nil w

set_option maxRecDepth 100000 in
set_option maxHeartbeats 2000000 in
theorem textEscapes_walk (x : Addr) (s t : ByteArray) (w : World) (hx : Laid x w) (hs : s.size ≤ maxLen) (ht : t.size ≤ maxLen) :
    Calls Tryd.prog 3 #[.string s, .string t] w fun e w' => e = .returned (.bool true) ∧ Below w.heap.size w w' := by
  unfold maxLen at hs ht
  by_cases h1 : 3000 < s.size
  · have h1' : (3000 : Int) < (s.size : Int) := by omega
    go_enter Tryd.func3, Tryd.ntmps3
    go_wp2_with fail
    refine (alive_calls x w hx).mono ?_; rintro e w1 ⟨rfl, b1⟩
    go_wp2_with fail
    go_ret
    exact ⟨rfl, b1⟩
  · have h1' : (s.size : Int) ≤ 3000 := by omega
    by_cases h2 : 3000 < t.size
    · have h2' : (3000 : Int) < (t.size : Int) := by omega
      go_enter Tryd.func3, Tryd.ntmps3
      go_wp2_with fail
      refine (alive_calls x w hx).mono ?_; rintro e w1 ⟨rfl, b1⟩
      go_wp2_with fail
      go_ret
      exact ⟨rfl, b1⟩
    · have h2' : (t.size : Int) ≤ 3000 := by omega
      have p1 := escape_calls x s (by omega) w hx
      have p2 := escapeR_calls s (by omega)
      have p3 := fun (w : World) (hx : Laid x w) => unescape_calls x t (by omega) w hx
      have p4 := unescapeR_calls t (by omega)
      rw [saidV_eq] at p1
      simp only [saidV_eq, toldRV_eq] at p2 p3 p4
      go_enter Tryd.func3, Tryd.ntmps3
      go_wp2_with fail
      refine (p1).mono ?_; rintro e w1 ⟨rfl, b1⟩
      have x1 := hx.below b1
      go_wp2_with fail
      refine (p2 _).mono ?_; rintro e w' ⟨rfl, rfl⟩
      go_wp2_with fail
      refine (p3 _ x1).mono ?_; rintro e w2 ⟨rfl, b2⟩
      have x2 := x1.below b2
      go_wp2_with fail
      refine (p4 _).mono ?_; rintro e w' ⟨rfl, rfl⟩
      go_wp2_with fail
      refine (no_errS _ _).mono ?_; rintro e w' ⟨rfl, rfl⟩
      go_wp2_with fail
      refine (no_errS _ _).mono ?_; rintro e w' ⟨rfl, rfl⟩
      go_wp2_with fail
      refine (alive_calls x _ x2).mono ?_; rintro e w3 ⟨rfl, b3⟩
      go_wp2_with fail
      go_ret
      exact ⟨rfl, below_then b1 (below_then b2 b3)⟩
end Go.Proofs.YtgmmnbojelekbaaDoor
