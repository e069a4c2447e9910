/- FoldBack: the walk. -/
import Derived.Test.YtddjfeofmihgdaaDoorUn
import Derived.Test.YtddjfeofmihgdaaDoorJoinsW
namespace Go.Proofs.YtddjfeofmihgdaaDoor
open Go.RowKit
set_option linter.unusedVariables false
set_option linter.unusedSimpArgs false

set_option maxRecDepth 100000 in
set_option maxHeartbeats 1000000 in
theorem foldBack_walk (x : Addr) (m : Int) (a : Option Addr) (cap : Nat) (l : List ByteArray) (w : World) (hx : Glob x m w) (hl : StrsIn w a l) (hs : Small l) :
    Calls Tryd.prog 5 #[.slice a l.length cap] w fun e w' => e = .returned (.bool true) ∧ Below w.heap.size w w' := by
  have hf := few_calls a cap l w hl hs
  by_cases hb : fewB l = true
  · rw [hb] at hf
    obtain ⟨h1, h2, h3⟩ := few_spec hb
    have p1 := Lib.hid (fold_calls x m a cap l w hx hl (by omega) (fun s hs => by have := h3 s hs; omega))
    have HX := Lib.hid hx
    have HL := Lib.hid hl
    have lm : (l.map bts).length = l.length := List.length_map ..
    by_cases q1 : (foldN (l.map bts) 1).2 = 0
    · have r1 := foldN_zero _ _ q1
      have hall := foldN_all _ _ q1
      have hT := foldT_le l
      have hU := unfold_fold (l.map bts) hall (by rw [lm]; omega)
      have hN := numbered_length (l.map bts) 1
      have HA := Lib.hid (numbered_at (l.map bts) 1)
      have HR := Lib.hid (numbered_rises (l.map bts) 1)
      have HM := Lib.hid (fun r hr => (mayN_ok (hall r hr)).1)
      rw [show foldV (l.map bts) = foldT (l.map bts) from if_pos q1, q1, r1] at p1
      have p2 := Lib.hid (fun w' (b : Below w.heap.size w w') => unfold_calls x m (strOf (foldT (l.map bts))) w' (hx.below b) (by rw [strOf_size]; omega))
      rw [bts_strOf, hU] at p2
      rw [lm] at hN
      clear hb h3 h2 hl hs hx q1 r1 hall hT hU
      generalize foldT (l.map bts) = T at *
      go_enter Tryd.func5, Tryd.ntmps5
      go_wp2_with fail
      refine (hf).mono ?_; rintro e w' ⟨rfl, rfl⟩
      go_wp2_with fail
      refine (p1.out).mono ?_; rintro e w1 ⟨⟨ve, rfl, ee⟩, b1⟩
      obtain rfl := ee.none
      have B1 := Lib.hid b1
      clear b1 ee
      go_wp2_with fail
      refine (no_nil _).mono ?_; rintro e w' ⟨rfl, rfl⟩
      go_wp2_with fail
      refine (p2.out w1 B1.out).mono ?_; rintro e w2 ⟨⟨v2, ev2, rfl, ro, e2⟩, b2⟩
      obtain rfl := ErrIs.none (by simpa using e2)
      obtain ⟨ra, rc, rfl, rin, _, _⟩ := ro.slice
      have B2 := Lib.hid (below_then B1.out b2)
      have RI := Lib.hid rin
      clear b2 e2 ro rin
      go_wp2_with fail
      refine (no_nil _).mono ?_; rintro e w' ⟨rfl, rfl⟩
      simp only [hN]
      go_wp2_with fail
      go_loopw [54] (fun i wr => ∃ j : Nat, j ≤ l.length ∧ i = iv j ∧ Hid (Below w2.heap.size w2 wr)) (fun i _ => l.length - (intOf i).toNat)
      case atStart => exact ⟨0, Nat.zero_le _, rfl, Lib.hid (Below.refl _ _)⟩
      case round =>
        obtain ⟨j, hj, rfl, BW⟩ := hrel
        by_cases hlt : j < l.length
        · obtain ⟨b1, o1, rfl, hr⟩ := (RI.out.below BW.out).form (k := j) (by rw [hN]; exact hlt)
          obtain ⟨b2, o2, rfl, hw⟩ := (HL.out.below (below_then B2.out BW.out)).form hlt
          have c0 := hw j hlt
          obtain ⟨c1, c2⟩ := hr j (by rw [hN]; exact hlt)
          obtain ⟨na, nb⟩ := HA.out j (by rw [lm]; exact hlt) (by rw [hN]; exact hlt)
          rw [List.getElem_map] at na
          rw [na, strOf_bts] at c2
          rw [show o1 + (2 * j + 1) = o1 + 2 * j + 1 by omega, Nat.mul_comm 2 j] at c2
          rw [Nat.mul_comm 2 j] at c1
          have hlt' : (j : Int) < (l.length : Int) := by omega
          generalize hk : (numbered 1 (l.map bts))[j].1 = k0 at *
          have k1 : decide ((k0 : Int) < 1) = false := decide_eq_false (by omega)
          have C0 := fun k : Past wr => Past.cell c0 k
          have C1 := fun k : Past wr => Past.cell c1 k
          have C2 := fun k : Past wr => Past.cell c2 k
          by_cases hj0 : j = 0
          · have hz : decide (0 < j) = false := decide_eq_false (by omega)
            clear hk na nb hr hw c0 c1 c2 hj0
            generalize l[j] = s0 at *
            go_wp2_with fail
            refine region_past (by kernel_rfl) (by kernel_rfl) ?_
            (repeat (first | go_big_quiet_skip | (go_big_quiet_want; go_big_quiet_op; go_big_quiet_on)))
            try simp only [k1]
            (repeat (first | go_big_quiet_skip | (go_big_quiet_want; go_big_quiet_op; go_big_quiet_on)))
            try simp only [hz]
            (repeat (first | go_big_quiet_skip | (go_big_quiet_want; go_big_quiet_op; go_big_quiet_on)))
            refine wpQuiet_nil ?_; intro k
            have K := Lib.hid (BW.out.trans (k.below.mono BW.out.size))
            go_wp2_with fail
            go_roundw
            case rel => exact ⟨j + 1, by omega, by go_num, K⟩
            case measure => simp [intOf]; omega
          · obtain ⟨p, hp⟩ : ∃ p, j = p + 1 := ⟨j - 1, by omega⟩
            obtain ⟨d1, -⟩ := hr p (by rw [hN]; omega)
            rw [Nat.mul_comm 2 p] at d1
            have rs := HR.out p HM.out (by rw [hN]; omega)
            have e0 : (numbered 1 (l.map bts))[p + 1].1 = k0 := by rw [← hk]; congr 2; omega
            rw [e0] at rs
            generalize hk2 : (numbered 1 (l.map bts))[p].1 = k00 at *
            have k2 : decide (k0 ≤ k00) = false := decide_eq_false (by omega)
            have hz : decide (0 < j) = true := decide_eq_true (by omega)
            have hp0 : (0 : Int) ≤ (j : Int) - 1 := by omega
            have hp1 : (j : Int) - 1 < (l.length : Int) := by omega
            have hp2 : ((j : Int) - 1).toNat = p := by omega
            have C3 := fun k : Past wr => Past.cell d1 k
            clear hk hk2 na nb hr hw rs hp hj0 e0 c0 c1 c2 d1
            generalize l[j] = s0 at *
            go_wp2_with fail
            refine region_past (by kernel_rfl) (by kernel_rfl) ?_
            (repeat (first | go_big_quiet_skip | (go_big_quiet_want; go_big_quiet_op; go_big_quiet_on)))
            try simp only [k1]
            (repeat (first | go_big_quiet_skip | (go_big_quiet_want; go_big_quiet_op; go_big_quiet_on)))
            try simp only [hz]
            (repeat (first | go_big_quiet_skip | (go_big_quiet_want; go_big_quiet_op; go_big_quiet_on)))
            try simp only [k2]
            refine wpQuiet_nil ?_; intro k
            have K := Lib.hid (BW.out.trans (k.below.mono BW.out.size))
            go_wp2_with fail
            go_roundw
            case rel => exact ⟨j + 1, by omega, by go_num, K⟩
            case measure => simp [intOf]; omega
        · obtain rfl : j = l.length := by omega
          have B3 := Lib.hid (below_then B2.out BW.out)
          go_wp2_with fail
          refine (alive_calls x m wr (HX.out.below B3.out)).mono ?_; rintro e w4 ⟨rfl, b4⟩
          have B4 := Lib.hid (below_then B3.out b4)
          clear b4
          go_wp2_with fail
          go_ret
          exact ⟨rfl, B4.out⟩
    · have at1 := foldN_at _ _ q1
      rw [lm] at at1
      have hnb : ((foldN (l.map bts) 1).2 != 0) = true := by simpa using q1
      rw [show foldV (l.map bts) = [] from if_neg q1] at p1
      clear hb h3 h2 hl hs hx q1 lm
      generalize foldN (l.map bts) 1 = K at *
      obtain ⟨k, n⟩ := K
      simp only at *
      obtain ⟨at1, at2⟩ := at1
      have at3 : k ≤ (l.length : Int) := by omega
      rw [show strOf [] = ⟨#[]⟩ from rfl] at p1
      go_enter Tryd.func5, Tryd.ntmps5
      go_wp2_with fail
      refine (hf).mono ?_; rintro e w' ⟨rfl, rfl⟩
      go_wp2_with fail
      refine (p1.out).mono ?_; rintro e w1 ⟨⟨ve, rfl, ee⟩, b1⟩
      have E1 := Lib.hid ee
      have B1 := Lib.hid b1
      clear b1 ee
      go_wp2_with fail
      refine (no_calls E1.out).mono ?_; rintro e w' ⟨rfl, rfl⟩
      go_wp2_with fail
      refine (placeOf_calls E1.out (HX.out.below B1.out).ty).mono ?_; rintro e w2 ⟨rfl, b2⟩
      have E2 := Lib.hid (E1.out.below b2)
      have B2 := Lib.hid (below_then B1.out b2)
      clear b2
      go_wp2_with fail
      refine (placeOf_calls E2.out (HX.out.below B2.out).ty).mono ?_; rintro e w3 ⟨rfl, b3⟩
      have B3 := Lib.hid (below_then B2.out b3)
      clear b3
      go_wp2_with fail
      refine (alive_calls x m w3 (HX.out.below B3.out)).mono ?_; rintro e w4 ⟨rfl, b4⟩
      have B4 := Lib.hid (below_then B3.out b4)
      clear b4
      go_wp2_with fail
      go_ret
      exact ⟨rfl, B4.out⟩
  · rw [Bool.not_eq_true] at hb
    rw [hb] at hf
    clear hb
    go_enter Tryd.func5, Tryd.ntmps5
    go_wp2_with fail
    refine (hf).mono ?_; rintro e w' ⟨rfl, rfl⟩
    go_wp2_with fail
    refine (alive_calls x m w hx).mono ?_; rintro e w1 ⟨rfl, b1⟩
    go_wp2_with fail
    go_ret
    exact ⟨rfl, b1⟩
end Go.Proofs.YtddjfeofmihgdaaDoor
