/- FoldFolds: the walk. -/
import Derived.Test.YtddjfeofmihgdaaDoorUz
namespace Go.Proofs.YtddjfeofmihgdaaDoor
open Go.RowKit
set_option linter.unusedVariables false
set_option linter.unusedSimpArgs false

set_option maxRecDepth 100000 in
set_option maxHeartbeats 2000000 in
theorem foldFolds_walk (x : Addr) (m : Int) (a : Option Addr) (cap : Nat) (l : List ByteArray) (w : World) (hx : Glob x m w) (hl : StrsIn w a l) (hsm : Small l) :
    Calls Tryd.prog 3 #[.slice a l.length cap] w fun e w' => e = .returned (.bool true) ∧ Below w.heap.size w w' := by
  have hf := few_calls a cap l w hl hsm
  by_cases hb : fewB l = true
  · rw [hb] at hf
    obtain ⟨g1, g2, g3⟩ := few_spec hb
    have p1 := Lib.hid (fold_calls x m a cap l w hx hl (by omega) (fun s hs => by have := g3 s hs; omega))
    have p2 := Lib.hid (fun w' (b : Below w.heap.size w w') => foldR_calls x m a cap l w' (hx.below b) (hl.below b) (by omega) (fun s hs => by have := g3 s hs; omega))
    have HX := Lib.hid hx
    clear hb g3 g2 hl hsm hx
    generalize foldV (l.map bts) = V at *
    generalize foldN (l.map bts) 1 = K at *
    obtain ⟨k, n⟩ := K
    go_enter Tryd.func3, Tryd.ntmps3
    go_wp2_with fail
    refine (hf).mono ?_; rintro e w' ⟨rfl, rfl⟩
    go_wp2_with fail
    refine (p1.out).mono ?_; rintro e w1 ⟨⟨v, rfl, ev⟩, b1⟩
    have EV := Lib.hid ev
    have B1 := Lib.hid b1
    clear ev b1
    go_wp2_with fail
    refine ((p2.out w1 B1.out)).mono ?_; rintro e w2 ⟨rfl, b2⟩
    have EV2 := Lib.hid (EV.out.below b2)
    have B2 := Lib.hid (below_then B1.out b2)
    clear b2
    go_wp2_with fail
    refine ((no_calls EV2.out)).mono ?_; rintro e w' ⟨rfl, rfl⟩
    go_wp2_with fail
    refine ((placeOf_calls EV2.out (HX.out.below B2.out).ty)).mono ?_; rintro e w3 ⟨rfl, b3⟩
    have B3 := Lib.hid (below_then B2.out b3)
    clear b3
    go_wp2_with fail
    refine ((alive_calls x m w3 (HX.out.below B3.out))).mono ?_; rintro e w4 ⟨rfl, b4⟩
    have B4 := Lib.hid (below_then B3.out b4)
    clear b4
    go_wp2_with fail
    go_ret
    exact ⟨rfl, B4.out⟩
  · rw [Bool.not_eq_true] at hb
    rw [hb] at hf
    clear hb
    go_enter Tryd.func3, Tryd.ntmps3
    go_wp2_with fail
    refine (hf).mono ?_; rintro e w' ⟨rfl, rfl⟩
    go_wp2_with fail
    refine (alive_calls x m w hx).mono ?_; rintro e w1 ⟨rfl, b1⟩
    go_wp2_with fail
    go_ret
    exact ⟨rfl, b1⟩
end Go.Proofs.YtddjfeofmihgdaaDoor
