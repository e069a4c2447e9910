/- FrameJoins: the walk. -/
import Derived.Test.YtmongcpaphifaaaDoorNoughtsW
import Derived.Test.YtmongcpaphifaaaDoorCx
namespace Go.Proofs.YtmongcpaphifaaaDoor
open Go.RowKit
set_option linter.unusedVariables false
set_option linter.unusedSimpArgs false

theorem fits_drop {l : List ByteArray} (h : fits l) (k : Nat) : fits (l.drop k) := fun s hs => h s (List.mem_of_mem_drop hs)

set_option maxRecDepth 100000 in
set_option maxHeartbeats 2000000 in
theorem frameJoins_walk (x : Addr) (a : Option Addr) (cap : Nat) (l : List ByteArray) (n : Int) (w : World) (hx : Laid x w) (hl : StrsIn w a l) (hs : Small l) (hc : l.length ≤ cap) :
    Calls Tryd.prog 8 #[.slice a l.length cap, iv n] w fun e w' => e = .returned (.bool true) ∧ Below w.heap.size w w' := by
  have hf := few_calls a cap l 5000 w hl hs
  by_cases hb : fewB l 5000 = true
  · rw [hb] at hf
    obtain ⟨h1, h2, h3⟩ := fits_few hb (by omega)
    have hfl := frames_flat l
    have t0 := tmod_in n (l.length + 1) (by omega)
    obtain ⟨t1, t2⟩ := t0
    obtain ⟨k, hk⟩ : ∃ k : Nat, (n.tmod ((l.length : Int) + 1) + (l.length : Int) + 1) % ((l.length : Int) + 1) = (k : Int) := ⟨((n.tmod ((l.length : Int) + 1) + (l.length : Int) + 1) % ((l.length : Int) + 1)).toNat, by
      have := Int.emod_nonneg (n.tmod ((l.length : Int) + 1) + (l.length : Int) + 1) (show (l.length : Int) + 1 ≠ 0 by omega); omega⟩
    have hk2 : k ≤ l.length := by
      have := Int.emod_lt_of_pos (n.tmod ((l.length : Int) + 1) + (l.length : Int) + 1) (show (0 : Int) < (l.length : Int) + 1 by omega); omega
    have p1 := pack_calls a cap l w hl (by omega)
    rw [show packV l = .tuple #[.string (strOf (frames l)), .nilIface] from if_pos h2] at p1
    have n1 : (l.take k).length = k := by rw [List.length_take]; omega
    have n2 : (l.drop k).length = l.length - k := List.length_drop
    have p2 := fun w (h : StrsIn w a l) => pack_calls a cap (l.take k) w (h.take k) (by omega)
    rw [show packV (l.take k) = .tuple #[.string (strOf (frames (l.take k))), .nilIface] from if_pos (fits_take h2 k), n1] at p2
    have p3 := fun w (h : StrsIn w a l) => pack_calls (dropA a cap k) (cap - k) (l.drop k) w (h.dropA hc k) (by omega)
    rw [show packV (l.drop k) = .tuple #[.string (strOf (frames (l.drop k))), .nilIface] from if_pos (fits_drop h2 k), n2] at p3
    have z1 := fun w (h : StrsIn w a l) => size_calls a cap l w h (by omega)
    have z2 := fun w (h : StrsIn w a l) => size_calls a cap (l.take k) w (h.take k) (by omega)
    have z3 := fun w (h : StrsIn w a l) => size_calls (dropA a cap k) (cap - k) (l.drop k) w (h.dropA hc k) (by omega)
    rw [show sizeI l = (frames l).length from if_pos h2] at z1
    rw [show sizeI (l.take k) = (frames (l.take k)).length from if_pos (fits_take h2 k), n1] at z2
    rw [show sizeI (l.drop k) = (frames (l.drop k)).length from if_pos (fits_drop h2 k), n2] at z3
    have e1 : frames l = frames (l.take k) ++ frames (l.drop k) := by rw [← frames_append, List.take_append_drop]
    have e2 : (frames l).length = (frames (l.take k)).length + (frames (l.drop k)).length := by rw [e1, List.length_append]
    have q1 : ((strOf (frames l)).toList == (strOf (frames (l.take k)) ++ strOf (frames (l.drop k))).toList) = true := by rw [strOf_append, ← e1]; exact beq_self_eq_true _
    have q2 : (((frames l).length : Int) == ((frames (l.take k)).length : Int) + ((frames (l.drop k)).length : Int)) = true := by rw [e2]; simp
    have y1 : (strOf (frames (l.take k))).size + (strOf (frames (l.drop k))).size ≤ 5700 := by rw [strOf_size, strOf_size]; omega
    have y2 : (frames (l.take k)).length + (frames (l.drop k)).length ≤ 5700 := by omega
    have c1 := sl_to a l.length cap k k rfl (by omega)
    have c2 := sl_from a l.length cap k k rfl (by omega)
    have h1' : (l.length : Int) ≤ 100 := by omega
    clear hb h2 h3 n1 n2 e1 e2 hfl
    go_enter Tryd.func8, Tryd.ntmps8
    go_wp2_with fail
    refine (hf).mono ?_; rintro e w' ⟨rfl, rfl⟩
    go_wp2_with fail
    refine (p1).mono ?_; rintro e w1 ⟨rfl, b1⟩
    have l1 := hl.below b1
    have x1 := hx.below b1
    go_wp2_with fail
    refine (p2 _ l1).mono ?_; rintro e w2 ⟨rfl, b2⟩
    have l2 := l1.below b2
    have x2 := x1.below b2
    go_wp2_with fail
    refine (p3 _ l2).mono ?_; rintro e w3 ⟨rfl, b3⟩
    have l3 := fun k : Past w3 => (l2.below b3).below k.below
    have x3 := fun k : Past w3 => (x2.below b3).below k.below
    go_wp2_with fail
    (refine region_past (by kernel_rfl) (by kernel_rfl) ?_; (repeat (first | go_big_quiet_skip | (go_big_quiet_want; go_big_quiet_op; first | go_big_quiet_on | (apply Exists.intro; refine ⟨fun k => ?_, ?_⟩; (focus (first | (go_at_call 18; refine Past.calls_left (no_nil _)) | (go_at_call 19; first | (with_reducible refine Past.calls_left (z1 _ (l3 _))) | (with_reducible refine Past.calls_left (z2 _ (l3 _))) | (with_reducible refine Past.calls_left (z3 _ (l3 _)))) | (go_at_call 10; refine Past.calls (alive_calls x _ (x3 _))))); go_big_quiet_on)))); refine wpQuiet_nil ?_; intro k)
    obtain ⟨w4, b4⟩ := k
    go_wp2_with fail
    go_ret
    exact ⟨rfl, below_then b1 (below_then b2 (below_then b3 b4))⟩
  · rw [Bool.not_eq_true] at hb
    rw [hb] at hf
    go_enter Tryd.func8, Tryd.ntmps8
    go_wp2_with fail
    refine (hf).mono ?_; rintro e w' ⟨rfl, rfl⟩
    go_wp2_with fail
    refine (alive_calls x _ hx).mono ?_; rintro e w1 ⟨rfl, b1⟩
    go_wp2_with fail
    go_ret
    exact ⟨rfl, b1⟩
end Go.Proofs.YtmongcpaphifaaaDoor
