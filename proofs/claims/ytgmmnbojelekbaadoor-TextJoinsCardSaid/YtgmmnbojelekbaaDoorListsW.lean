/- TextLists: the walk. -/
import Derived.Test.YtgmmnbojelekbaaDoorEscapesW
namespace Go.Proofs.YtgmmnbojelekbaaDoor
open Go.RowKit
set_option linter.unusedVariables false
set_option linter.unusedSimpArgs false

theorem same_self (l : List ByteArray) : sameB l l = true := decide_eq_true rfl
theorem strsO_length (s : ByteArray) (hs : s.size ≤ 100000) : (strsO (unrowO (bts s))).length ≤ 9223372036854775807 := by
  rcases h : unrowO (bts s) with _ | l
  · exact Nat.zero_le _
  · have h1 := unescAll_length (show unescAll (cut 44 (bts s)) = some l from h)
    have h2 := cut_length_le (g := 44) (by decide) (bts s)
    rw [bts_length] at h2
    show (l.map strOf).length ≤ _
    rw [List.length_map]; omega

set_option maxRecDepth 100000 in
set_option maxHeartbeats 2000000 in
theorem textLists_walk (x : Addr) (a : Option Addr) (cap : Nat) (l : List ByteArray) (s : ByteArray) (w : World) (hx : Laid x w) (hl : StrsIn w a l) (hsm : Small l) (hs : s.size ≤ maxLen) :
    Calls Tryd.prog 4 #[.slice a l.length cap, .string s] w fun e w' => e = .returned (.bool true) ∧ Below w.heap.size w w' := by
  unfold maxLen at hs
  have hf := few_calls a cap l w hl hsm
  by_cases hb : fewB l = true
  · rw [hb] at hf
    obtain ⟨g1, g2, g3⟩ := few_spec hb
    by_cases h1 : 3000 < s.size
    · have h1' : (3000 : Int) < (s.size : Int) := by omega
      clear hb
      go_enter Tryd.func4, Tryd.ntmps4
      go_wp2_with fail
      refine (hf).mono ?_; rintro e w' ⟨rfl, rfl⟩
      go_wp2_with fail
      refine (alive_calls x w hx).mono ?_; rintro e w1 ⟨rfl, b1⟩
      go_wp2_with fail
      go_ret
      exact ⟨rfl, b1⟩
    · have h1' : (s.size : Int) ≤ 3000 := by omega
      have p1 := list_calls x a cap l w hx hl (by omega) (by omega)
      have p2 := fun (w : World) (hl : StrsIn w a l) => listR_calls a cap l w hl (by omega) (by omega)
      have p3 := fun (w : World) (hx : Laid x w) => unlist_calls x s (by omega) w hx
      have p4 := unlistR_calls s (by omega)
      rw [saidV_eq] at p1
      simp only [toldRV_eq, errN_eq] at p2 p4
      have zl := strsO_length s (by omega)
      generalize (if l = [] then none else rowO (l.map bts)) = O at p1 p2
      clear hb g3
      go_enter Tryd.func4, Tryd.ntmps4
      go_wp2_with fail
      refine (hf).mono ?_; rintro e w' ⟨rfl, rfl⟩
      go_wp2_with fail
      refine (p1).mono ?_; rintro e w1 ⟨rfl, b1⟩
      have x1 := hx.below b1
      have l1 := hl.below b1
      go_wp2_with fail
      refine (p2 _ l1).mono ?_; rintro e w' ⟨rfl, rfl⟩
      go_wp2_with fail
      refine (p3 _ x1).mono ?_; rintro e w2 ⟨v2, rfl, o2, b2⟩
      have x2 := x1.below b2
      go_wp2_with fail
      refine (p4 _).mono ?_; rintro e w3 ⟨v3, rfl, o3, b3⟩
      have x3 := x2.below b3
      obtain ⟨a2, c2, rfl, i2, y2⟩ := o2.slice
      obtain ⟨a3, c3, rfl, i3, y3⟩ := o3.slice
      have sm := same_calls a2 a3 c2 c3 _ _ w3 (i2.below b3) i3 zl zl
      rw [same_self] at sm
      clear o2 o3 p1 p2 p3 p4
      go_wp2_with fail
      refine (no_errS _ _).mono ?_; rintro e w' ⟨rfl, rfl⟩
      go_wp2_with fail
      refine sm.mono ?_; rintro e w4 ⟨rfl, b4⟩
      have x4 := x3.below b4
      go_wp2_with fail
      refine (no_errS _ _).mono ?_; rintro e w' ⟨rfl, rfl⟩
      go_wp2_with fail
      refine (alive_calls x _ x4).mono ?_; rintro e w5 ⟨rfl, b5⟩
      go_wp2_with fail
      go_ret
      exact ⟨rfl, below_then b1 (below_then b2 (below_then b3 (below_then b4 b5)))⟩
  · rw [Bool.not_eq_true] at hb
    rw [hb] at hf
    clear hb
    go_enter Tryd.func4, Tryd.ntmps4
    go_wp2_with fail
    refine (hf).mono ?_; rintro e w' ⟨rfl, rfl⟩
    go_wp2_with fail
    refine (alive_calls x w hx).mono ?_; rintro e w1 ⟨rfl, b1⟩
    go_wp2_with fail
    go_ret
    exact ⟨rfl, b1⟩
end Go.Proofs.YtgmmnbojelekbaaDoor
