/- FoldUnfolds: the walk. -/
import Derived.Test.YtddjfeofmihgdaaDoorUd
import Derived.Test.YtddjfeofmihgdaaDoorUv
import Derived.Test.YtddjfeofmihgdaaDoorUh
import Derived.Test.YtddjfeofmihgdaaDoorUy
namespace Go.Proofs.YtddjfeofmihgdaaDoor
open Go.RowKit
set_option linter.unusedVariables false
set_option linter.unusedSimpArgs false

theorem unf_len : ∀ (ls : List BL) (k : Nat) (d : List (Nat × BL)) (o : Option (Nat × BL)), (unf ls k d o).2.2.length ≤ (d ++ o.toList).length + ls.length
  | [], k, d, o => by rw [unf]; simp
  | l :: ls, k, d, o => by
    rw [List.length_cons]
    by_cases hg : goesOn l = true
    · rcases o with _ | ⟨b, t⟩
      · rw [unf_lost l ls k d hg]; simp
      · by_cases hn : 5000 < (t ++ l.drop 1).length
        · rw [unf_long l ls k d b t hg hn]; simp
        · rw [unf_go l ls k d b t hg hn]
          have := unf_len ls (k + 1) d (some (b, t ++ l.drop 1))
          simp only [List.length_append, Option.toList_some, List.length_cons, List.length_nil] at this ⊢
          omega
    · rw [unf_new l ls k d o (by simpa using hg)]
      split
      · simp
      · split
        · simp
        · have := unf_len ls (k + 1) (d ++ o.toList) (if l = [] then none else some (k, l))
          refine Nat.le_trans this ?_
          rw [List.length_append]
          split <;> simp <;> omega
theorem unfoldN_len (s : BL) : (unfoldN s).2.2.length ≤ s.length + 1 := by
  have h1 := unf_len (splitC s []) 1 [] none
  have h2 := splitC_len s []
  unfold unfoldN
  simp at h1
  omega
theorem sameRows_self (l : List (Nat × BL)) : sameRows l l = true := decide_eq_true rfl

set_option maxRecDepth 100000 in
set_option maxHeartbeats 1000000 in
theorem foldUnfolds_walk (x : Addr) (m : Int) (s : ByteArray) (w : World) (hx : Glob x m w) (hs : s.size ≤ maxLen) :
    Calls Tryd.prog 4 #[.string s] w fun e w' => e = .returned (.bool true) ∧ Below w.heap.size w w' := by
  by_cases hb : s.size ≤ 12000
  · have hU := unfoldN_len (bts s)
    rw [bts_length] at hU
    have HL := Lib.hid hU
    have p1 := Lib.hid (unfold_calls x m s w hx (by omega))
    have p2 := Lib.hid (unfoldR_calls s (by omega))
    have HX := Lib.hid hx
    have hb' : ¬ (12000 : Int) < (s.size : Int) := by omega
    clear hU hs hx hb
    generalize unfoldN (bts s) = U at *
    obtain ⟨n, k, l⟩ := U
    simp only at *
    go_enter Tryd.func4, Tryd.ntmps4
    go_wp2_with fail
    refine (p1.out).mono ?_; rintro e w1 ⟨⟨v1, ev, rfl, ro, ee⟩, b1⟩
    obtain ⟨ra, rc, rfl, rin, _, _⟩ := ro.slice
    have R1 := Lib.hid rin
    have E1 := Lib.hid ee
    have B1 := Lib.hid b1
    clear b1 ee ro rin
    go_wp2_with fail
    refine (p2.out w1).mono ?_; rintro e w2 ⟨⟨v2, rfl, ro⟩, b2⟩
    obtain ⟨sa, sc, rfl, rin, _, _⟩ := ro.slice
    have R2 := Lib.hid rin
    have RA := Lib.hid (R1.out.below b2)
    have E2 := Lib.hid (E1.out.below b2)
    have B2 := Lib.hid (below_then B1.out b2)
    clear b2 ro rin
    go_wp2_with fail
    refine (same_calls ra sa rc sc l l w2 RA.out R2.out (by have := HL.out; omega) (by have := HL.out; omega)).mono ?_; rintro e w3 ⟨rfl, b3⟩
    rw [sameRows_self]
    have E3 := Lib.hid (E2.out.below b3)
    have B3 := Lib.hid (below_then B2.out b3)
    clear b3
    go_wp2_with fail
    refine (no_calls E3.out).mono ?_; rintro e w' ⟨rfl, rfl⟩
    go_wp2_with fail
    refine (placeOf_calls E3.out (HX.out.below B3.out).ty).mono ?_; rintro e w4 ⟨rfl, b4⟩
    have B4 := Lib.hid (below_then B3.out b4)
    clear b4
    go_wp2_with fail
    refine (alive_calls x m w4 (HX.out.below B4.out)).mono ?_; rintro e w5 ⟨rfl, b5⟩
    have B5 := Lib.hid (below_then B4.out b5)
    clear b5
    go_wp2_with fail
    go_ret
    exact ⟨rfl, B5.out⟩
  · have hb' : (12000 : Int) < (s.size : Int) := by omega
    clear hb
    go_enter Tryd.func4, Tryd.ntmps4
    go_wp2_with fail
    refine (alive_calls x m w hx).mono ?_; rintro e w1 ⟨rfl, b1⟩
    go_wp2_with fail
    go_ret
    exact ⟨rfl, b1⟩
end Go.Proofs.YtddjfeofmihgdaaDoor
