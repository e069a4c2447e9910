/- FrameSums: the walk. -/
import Derived.Test.YtmongcpaphifaaaDoorFj
namespace Go.Proofs.YtmongcpaphifaaaDoor
open Go.RowKit
set_option linter.unusedVariables false
set_option linter.unusedSimpArgs false

set_option maxRecDepth 100000 in
set_option maxHeartbeats 1000000 in
theorem frameSums_walk (x : Addr) (a : Option Addr) (cap : Nat) (l : List ByteArray) (w : World) (hx : Laid x w) (hl : StrsIn w a l) (hs : Small l) :
    Calls Tryd.prog 3 #[.slice a l.length cap] w fun e w' => e = .returned (.bool true) ∧ Below w.heap.size w w' := by
  have hf := few_calls a cap l 5000 w hl hs
  by_cases hb : fewB l 5000 = true
  · rw [hb] at hf
    obtain ⟨h1, h2⟩ := few_spec hb
    obtain ⟨h3, h4, h5⟩ := lens_flat l 5000 (by omega) (by omega)
    have j1 := join_calls a cap l w hl (by omega) (by omega)
    have s1 := sum_any a cap l w hl hs
    have r1 := sumR_calls (strOf (flat l)) (by rw [strOf_size]; omega)
    rw [bts_strOf] at r1
    have s2 := fun w : World => sum_any (some ⟨w.heap.size, 0, none⟩) 1 [strOf (flat l)] (w.alloc (.cells #[.string (strOf (flat l))] 9)) (strs1 _ _ _) ⟨by simp, fun t ht => by rw [List.mem_singleton.1 ht, strOf_size]; omega⟩
    rw [show flat [strOf (flat l)] = flat l by simp [flat, bts_strOf]] at s2
    clear h1 h2 h3 h4 h5 hb hl hs
    go_enter Tryd.func3, Tryd.ntmps3
    go_wp2_with fail
    refine hf.mono ?_; rintro e w' ⟨rfl, rfl⟩
    go_wp2_with fail
    refine j1.mono ?_; rintro e w' ⟨rfl, rfl⟩
    go_wp2_with fail
    refine s1.mono ?_; rintro e w' ⟨rfl, rfl⟩
    go_wp2_with fail
    refine (r1 _).mono ?_; rintro e w' ⟨rfl, rfl⟩
    go_wp2_with (refine wpList_bs_str1 rfl _ rfl rfl ?_)
    refine (s2 _).mono ?_; rintro e w' ⟨rfl, rfl⟩
    go_wp2_with fail
    refine (r1 _).mono ?_; rintro e w' ⟨rfl, rfl⟩
    go_wp2_with fail
    refine (alive_calls x _ (hx.alloc _)).mono ?_; rintro e w1 ⟨rfl, b1⟩
    go_wp2_with fail
    go_ret
    exact ⟨rfl, below_front b1⟩
  · rw [Bool.not_eq_true] at hb
    rw [hb] at hf
    go_enter Tryd.func3, Tryd.ntmps3
    go_wp2_with fail
    refine hf.mono ?_; rintro e w' ⟨rfl, rfl⟩
    go_wp2_with fail
    refine (alive_calls x _ hx).mono ?_; rintro e w1 ⟨rfl, b1⟩
    go_wp2_with fail
    go_ret
    exact ⟨rfl, b1⟩
end Go.Proofs.YtmongcpaphifaaaDoor
