/- FrameNoughts: the walk. -/
import Derived.Test.YtmongcpaphifaaaDoorPacksW
namespace Go.Proofs.YtmongcpaphifaaaDoor
open Go.RowKit
set_option linter.unusedVariables false
set_option linter.unusedSimpArgs false

theorem tmod_in (x : Int) (k : Int) (hk : 0 < k) : -k < x.tmod k ∧ x.tmod k < k := by
  have h1 : (-x).tmod k = -(x.tmod k) := Int.neg_tmod ..
  have h3 := Int.tmod_lt_of_pos (-x) hk
  have h4 := Int.tmod_lt_of_pos x hk
  omega
theorem rdB_zeros (k : Nat) : rdB (List.replicate k 0) = 0 := by
  induction k with
  | zero => rfl
  | succ k ih => rw [List.replicate_succ, rdB, ih]; rfl
theorem not_whole_zeros (k : Nat) : ¬ Whole (List.replicate k 0) := fun h => by
  obtain ⟨n, hd⟩ := whole_head h
  have := hd.size
  rw [List.take_replicate, rdB_zeros] at this
  omega
theorem fits_few {l : List ByteArray} {most : Int} (h : fewB l most = true) (hm : most ≤ 30000) : l.length ≤ 100 ∧ fits l ∧ ((flat l).length : Int) ≤ most := by
  obtain ⟨h1, h2⟩ := few_spec h
  obtain ⟨h3, h4, h5⟩ := lens_flat l most.toNat (by omega) (by omega)
  exact ⟨h1, fun s hs => by have := h3 s hs; omega, by omega⟩
theorem frames_flat (l : List ByteArray) : (frames l).length = (flat l).length + 7 * l.length := by
  induction l with
  | nil => rfl
  | cons s l ih =>
    have e : frames (s :: l) = frm (bts s) ++ frames l := by simp [frames]
    have e2 : flat (s :: l) = bts s ++ flat l := by simp [flat]
    rw [e, e2, List.length_append, List.length_append, frm_length, List.length_cons]; omega

set_option maxRecDepth 100000 in
set_option maxHeartbeats 2000000 in
theorem frameNoughts_walk (x : Addr) (a : Option Addr) (cap : Nat) (l : List ByteArray) (n : Int) (w : World) (hx : Laid x w) (hl : StrsIn w a l) (hs : Small l) :
    Calls Tryd.prog 7 #[.slice a l.length cap, iv n] w fun e w' => e = .returned (.bool true) ∧ Below w.heap.size w w' := by
  have hf := few_calls a cap l 5000 w hl hs
  by_cases hb : fewB l 5000 = true
  · rw [hb] at hf
    obtain ⟨h1, h2, h3⟩ := fits_few hb (by omega)
    have hfl := frames_flat l
    have p1 := pack_calls a cap l w hl (by omega)
    rw [show packV l = .tuple #[.string (strOf (frames l)), .nilIface] from if_pos h2] at p1
    obtain ⟨k, hk⟩ : ∃ k : Nat, (n.tmod 1001 + 1001) % 1001 = (k : Int) := ⟨((n.tmod 1001 + 1001) % 1001).toNat, by omega⟩
    have hk2 : k ≤ 1000 := by omega
    obtain ⟨t1, t2⟩ := tmod_in n 1001 (by decide)
    have hmk := mk_bytes_n k (by omega)
    have hcv : ∀ w : World, (convert 43 9 (.slice (some ⟨w.heap.size, 0, none⟩) k k)).run Tryd.prog (w.alloc (.cells (cellsOf (List.replicate k 0)) 5)) = .ok (.string (strOf (List.replicate k 0))) (w.alloc (.cells (cellsOf (List.replicate k 0)) 5)) := fun w => conv_bytes k k (by simp) (heap_alloc_last w _)
    have z1 : (strOf (frames l)).size ≤ 5700 := by rw [strOf_size]; omega
    have z2 : (strOf (List.replicate k 0)).size ≤ 1000 := by rw [strOf_size]; simp; omega
    have z3 : (strOf (frames l) ++ strOf (List.replicate k 0)).size ≤ 1000000 := by rw [strOf_append, strOf_size, List.length_append, List.length_replicate]; omega
    have s1 := fun (w : World) (hx : Laid x w) => scan_calls x (strOf (frames l) ++ strOf (List.replicate k 0)) z3 w hx
    have hsc0 : IsScan (bts (strOf (frames l) ++ strOf (List.replicate k 0))) l (List.replicate k 0) := ⟨by rw [strOf_append, bts_strOf], h2, not_whole_zeros k⟩
    have hlen : ((strOf (frames l)).size : Int) = ((frames l).length : Int) := by rw [strOf_size]
    have LN := Lib.hid hlen
    clear hlen hb h2 h3 hk2 z3
    go_enter Tryd.func7, Tryd.ntmps7
    go_wp2_with fail
    refine (hf).mono ?_; rintro e w' ⟨rfl, rfl⟩
    go_wp2_with fail
    refine (p1).mono ?_; rintro e w1 ⟨rfl, b1⟩
    have l1 := hl.below b1
    have x1 := (hx.below b1).alloc (.cells (cellsOf (List.replicate k 0)) 5)
    have l2 := l1.below (below_alloc w1 (.cells (cellsOf (List.replicate k 0)) 5))
    go_wp2_with fail
    refine (s1 _ x1).mono ?_; rintro e w2 ⟨a1, c1, m1, t1, rfl, hsc, in1, b2, _⟩
    obtain ⟨rfl, rfl⟩ := scan_unique hsc hsc0
    have l3 := l2.below b2
    have x2 := x1.below b2
    have sm := same_calls a1 a c1 cap m1 m1 w2 in1 l3 hs.1 hs.1
    rw [same_self] at sm
    clear hsc hsc0
    go_wp2_with fail
    refine (sm).mono ?_; rintro e w3 ⟨rfl, b3⟩
    have x3 := x2.below b3
    have ln := LN.out
    go_wp2_with fail
    refine (alive_calls x _ x3).mono ?_; rintro e w4 ⟨rfl, b4⟩
    go_wp2_with fail
    go_ret
    exact ⟨rfl, below_then b1 (below_then (below_front b2) (below_then b3 b4))⟩
  · rw [Bool.not_eq_true] at hb
    rw [hb] at hf
    go_enter Tryd.func7, Tryd.ntmps7
    go_wp2_with fail
    refine (hf).mono ?_; rintro e w' ⟨rfl, rfl⟩
    go_wp2_with fail
    refine (alive_calls x _ hx).mono ?_; rintro e w1 ⟨rfl, b1⟩
    go_wp2_with fail
    go_ret
    exact ⟨rfl, b1⟩
end Go.Proofs.YtmongcpaphifaaaDoor
