/- FramePacks: the walk. -/
import Derived.Test.YtmongcpaphifaaaDoorFj
namespace Go.Proofs.YtmongcpaphifaaaDoor
open Go.RowKit
set_option linter.unusedVariables false
set_option linter.unusedSimpArgs false

/-- What a law that guards itself does with the examples alone. -/
theorem same_self (l : List ByteArray) : sameB l l = true := decide_eq_true rfl

set_option maxRecDepth 100000 in
set_option maxHeartbeats 2000000 in
theorem framePacks_walk (x : Addr) (a : Option Addr) (cap : Nat) (l : List ByteArray) (s : ByteArray) (w : World) (hx : Laid x w) (hl : StrsIn w a l) (hs : Small l) (hz : s.size ≤ maxLen) :
    Calls Tryd.prog 4 #[.slice a l.length cap, .string s] w fun e w' => e = .returned (.bool true) ∧ Below w.heap.size w w' := by
  unfold maxLen at hz
  have hf := few_calls a cap l 35000 w hl hs
  by_cases hb : fewB l 35000 = true
  · rw [hb] at hf
    obtain ⟨h1, h2⟩ := few_spec hb
    by_cases hs3 : 3000 < s.size
    · have hs3' : 3000 < (s.size : Int) := by omega
      go_enter Tryd.func4, Tryd.ntmps4
      go_wp2_with fail
      refine hf.mono ?_; rintro e w' ⟨rfl, rfl⟩
      go_wp2_with fail
      refine (alive_calls x _ hx).mono ?_; rintro e w1 ⟨rfl, b1⟩
      go_wp2_with fail
      go_ret
      exact ⟨rfl, b1⟩
    · have hs3' : (s.size : Int) ≤ 3000 := by omega
      have p1 := pack_calls a cap l w hl (by omega)
      have p2 := fun w (hl : StrsIn w a l) => packR_calls a cap l w hl (by omega)
      have z1 := fun w (hl : StrsIn w a l) => size_calls a cap l w hl (by omega)
      have s1 := fun (w : World) (hx : Laid x w) => scan_calls x s (by omega) w hx
      have s2 := scanR_calls s (by omega)
      by_cases hfit : fits l
      · have e1 : packV l = .tuple #[.string (strOf (frames l)), .nilIface] := if_pos hfit
        have e2 : packRV l = .tuple #[.string (strOf (frames l)), iv 0] := if_pos hfit
        have e3 : sizeI l = (frames l).length := if_pos hfit
        have e4 : (strOf (frames l)).size = (frames l).length := strOf_size _
        rw [e1] at p1
        rw [e2] at p2
        rw [e3, ← e4] at z1
        clear e1 e2 e3 e4 hb h2 hfit
        go_enter Tryd.func4, Tryd.ntmps4
        go_wp2_with fail
        refine hf.mono ?_; rintro e w' ⟨rfl, rfl⟩
        go_wp2_with fail
        refine p1.mono ?_; rintro e w1 ⟨rfl, b1⟩
        have l1 := hl.below b1
        have x1 := hx.below b1
        go_wp2_with fail
        refine (p2 _ l1).mono ?_; rintro e w2 ⟨rfl, b2⟩
        have l2 := l1.below b2
        have x2 := x1.below b2
        go_wp2_with fail
        refine (s1 _ x2).mono ?_; rintro e w3 ⟨a1, c1, m1, t1, rfl, hsc1, in1, b3, _⟩
        have l3 := l2.below b3
        have x3 := x2.below b3
        go_wp2_with fail
        refine (s2 _).mono ?_; rintro e w4 ⟨a2, c2, m2, t2, rfl, hsc2, in2, b4, _⟩
        have l4 := l3.below b4
        have x4 := x3.below b4
        have in3 := in1.below b4
        obtain ⟨rfl, rfl⟩ := scan_unique hsc1 hsc2
        have hm1 : m1.length ≤ 9223372036854775807 := by
          have h := frames_count m1
          have h2 := congrArg List.length hsc1.all
          rw [List.length_append, bts_length] at h2; omega
        have sm := same_calls a1 a2 c1 c2 m1 m1 w4 in3 in2 hm1 hm1
        rw [same_self] at sm
        clear hsc1 hsc2 hm1
        go_wp2_with fail
        refine (no_nil _).mono ?_; rintro e w' ⟨rfl, rfl⟩
        go_wp2_with fail
        refine (z1 _ l4).mono ?_; rintro e w' ⟨rfl, rfl⟩
        go_wp2_with fail
        refine sm.mono ?_; rintro e w5 ⟨rfl, b5⟩
        have x5 := x4.below b5
        go_wp2_with fail
        refine (alive_calls x _ x5).mono ?_; rintro e w6 ⟨rfl, b6⟩
        go_wp2_with fail
        go_ret
        exact ⟨rfl, below_then b1 (below_then b2 (below_then b3 (below_then b4 (below_then b5 b6))))⟩
      · have e1 : packV l = .tuple #[.string ⟨#[]⟩, errNo 4] := if_neg hfit
        have e2 : packRV l = .tuple #[.string ⟨#[]⟩, iv 4] := if_neg hfit
        have e3 : sizeI l = 0 := if_neg hfit
        rw [e1] at p1
        rw [e2] at p2
        rw [e3] at z1
        clear e1 e2 e3 hb h2 hfit
        go_enter Tryd.func4, Tryd.ntmps4
        go_wp2_with fail
        refine hf.mono ?_; rintro e w' ⟨rfl, rfl⟩
        go_wp2_with fail
        refine p1.mono ?_; rintro e w1 ⟨rfl, b1⟩
        have l1 := hl.below b1
        have x1 := hx.below b1
        go_wp2_with fail
        refine (p2 _ l1).mono ?_; rintro e w2 ⟨rfl, b2⟩
        have l2 := l1.below b2
        have x2 := x1.below b2
        go_wp2_with fail
        refine (s1 _ x2).mono ?_; rintro e w3 ⟨a1, c1, m1, t1, rfl, hsc1, in1, b3, _⟩
        have l3 := l2.below b3
        have x3 := x2.below b3
        go_wp2_with fail
        refine (s2 _).mono ?_; rintro e w4 ⟨a2, c2, m2, t2, rfl, hsc2, in2, b4, _⟩
        have l4 := l3.below b4
        have x4 := x3.below b4
        have in3 := in1.below b4
        obtain ⟨rfl, rfl⟩ := scan_unique hsc1 hsc2
        have hm1 : m1.length ≤ 9223372036854775807 := by
          have h := frames_count m1
          have h2 := congrArg List.length hsc1.all
          rw [List.length_append, bts_length] at h2; omega
        have sm := same_calls a1 a2 c1 c2 m1 m1 w4 in3 in2 hm1 hm1
        rw [same_self] at sm
        clear hsc1 hsc2 hm1
        go_wp2_with fail
        refine (no_errno 4 _ (by decide) (by decide)).mono ?_; rintro e w' ⟨rfl, rfl⟩
        go_wp2_with fail
        refine (z1 _ l4).mono ?_; rintro e w' ⟨rfl, rfl⟩
        go_wp2_with fail
        refine sm.mono ?_; rintro e w5 ⟨rfl, b5⟩
        have x5 := x4.below b5
        go_wp2_with fail
        refine (alive_calls x _ x5).mono ?_; rintro e w6 ⟨rfl, b6⟩
        go_wp2_with fail
        go_ret
        exact ⟨rfl, below_then b1 (below_then b2 (below_then b3 (below_then b4 (below_then b5 b6))))⟩
  · rw [Bool.not_eq_true] at hb
    rw [hb] at hf
    go_enter Tryd.func4, Tryd.ntmps4
    go_wp2_with fail
    refine hf.mono ?_; rintro e w' ⟨rfl, rfl⟩
    go_wp2_with fail
    refine (alive_calls x _ hx).mono ?_; rintro e w1 ⟨rfl, b1⟩
    go_wp2_with fail
    go_ret
    exact ⟨rfl, b1⟩
end Go.Proofs.YtmongcpaphifaaaDoor
