/- FoldJoins: the walk. -/
import Derived.Test.YtddjfeofmihgdaaDoorFoldsW
import Derived.Test.YtddjfeofmihgdaaDoorCx
namespace Go.Proofs.YtddjfeofmihgdaaDoor
open Go.RowKit
set_option linter.unusedVariables false
set_option linter.unusedSimpArgs false

theorem tmod_in (x : Int) (k : Int) (hk : 0 < k) : -k < x.tmod k ∧ x.tmod k < k := by
  have h1 : (-x).tmod k = -(x.tmod k) := Int.neg_tmod ..
  have h3 := Int.tmod_lt_of_pos (-x) hk
  have h4 := Int.tmod_lt_of_pos x hk
  omega
theorem foldN_at : ∀ (l : List BL) (k : Int), (foldN l k).2 ≠ 0 → k ≤ (foldN l k).1 ∧ (foldN l k).1 < k + l.length
  | [], k, h => absurd rfl h
  | r :: l, k, h => by
    rw [foldN] at h ⊢
    by_cases hr : mayN r = 0
    · rw [if_pos hr] at h ⊢
      have := foldN_at l (k + 1) h
      rw [List.length_cons]; omega
    · rw [if_neg hr, List.length_cons]; simp only; omega
theorem foldN_shift : ∀ (l : List BL) (k j : Int), (foldN l (k + j)).2 = (foldN l k).2 ∧ ((foldN l k).2 ≠ 0 → (foldN l (k + j)).1 = (foldN l k).1 + j)
  | [], k, j => ⟨rfl, fun h => absurd rfl h⟩
  | r :: l, k, j => by
    rw [foldN, foldN]
    by_cases hr : mayN r = 0
    · rw [if_pos hr, if_pos hr, show k + j + 1 = k + 1 + j by omega]; exact foldN_shift l (k + 1) j
    · rw [if_neg hr, if_neg hr]; exact ⟨rfl, fun _ => rfl⟩
theorem foldN_bad : ∀ (a b : List BL) (k : Int), (foldN a k).2 ≠ 0 → foldN (a ++ b) k = foldN a k
  | [], _, _, h => absurd rfl h
  | r :: a, b, k, h => by
    rw [foldN] at h ⊢
    rw [List.cons_append, foldN]
    by_cases hr : mayN r = 0
    · rw [if_pos hr] at h ⊢
      rw [if_pos hr]; exact foldN_bad a b (k + 1) h
    · rw [if_neg hr, if_neg hr]
theorem foldT_le (l : List ByteArray) : (foldT (l.map bts)).length ≤ 4 * (flat l).length + 2 * l.length := by
  induction l with
  | nil => simp [foldT, flat]
  | cons s l ih =>
    have h2 := lines_total (bts s)
    rw [List.map_cons, show bts s :: l.map bts = [bts s] ++ l.map bts from rfl, foldT_append, List.length_append, List.length_cons, show flat (s :: l) = bts s ++ flat l from rfl, List.length_append]
    have : foldT [bts s] = ends (lines (bts s)) := by unfold foldT; simp
    rw [this]; omega
theorem foldV_le (l : List ByteArray) : (foldV (l.map bts)).length ≤ 4 * (flat l).length + 2 * l.length := by
  unfold foldV
  split
  · exact foldT_le l
  · simp

set_option maxRecDepth 100000 in
set_option maxHeartbeats 4000000 in
theorem foldJoins_walk (x : Addr) (m : Int) (a : Option Addr) (cap : Nat) (l : List ByteArray) (n : Int) (w : World) (hx : Glob x m w) (hl : StrsIn w a l) (hs : Small l) (hc : l.length ≤ cap) :
    Calls Tryd.prog 8 #[.slice a l.length cap, iv n] w fun e w' => e = .returned (.bool true) ∧ Below w.heap.size w w' := by
  have hf := few_calls a cap l w hl hs
  by_cases hb : fewB l = true
  · rw [hb] at hf
    obtain ⟨h1, h2, h3⟩ := few_spec hb
    have t0 := tmod_in n (l.length + 1) (by omega)
    obtain ⟨t1, t2⟩ := t0
    obtain ⟨k, hk⟩ : ∃ k : Nat, (n.tmod ((l.length : Int) + 1) + (l.length : Int) + 1) % ((l.length : Int) + 1) = (k : Int) := ⟨((n.tmod ((l.length : Int) + 1) + (l.length : Int) + 1) % ((l.length : Int) + 1)).toNat, by
      have := Int.emod_nonneg (n.tmod ((l.length : Int) + 1) + (l.length : Int) + 1) (show (l.length : Int) + 1 ≠ 0 by omega); omega⟩
    have hk2 : k ≤ l.length := by
      have := Int.emod_lt_of_pos (n.tmod ((l.length : Int) + 1) + (l.length : Int) + 1) (show (0 : Int) < (l.length : Int) + 1 by omega); omega
    have n1 : (l.take k).length = k := by rw [List.length_take]; omega
    have n2 : (l.drop k).length = l.length - k := List.length_drop
    have p1 := Lib.hid (fold_calls x m a cap l w hx hl (by omega) (fun s hs => by have := h3 s hs; omega))
    have p2 := fun w' (b : Below w.heap.size w w') => fold_calls x m a cap (l.take k) w' (hx.below b) ((hl.below b).take k) (by omega) (fun s hs => by have := h3 s (List.mem_of_mem_take hs); omega)
    have p3 := fun w' (b : Below w.heap.size w w') => fold_calls x m (dropA a cap k) (cap - k) (l.drop k) w' (hx.below b) ((hl.below b).dropA hc k) (by omega) (fun s hs => by have := h3 s (List.mem_of_mem_drop hs); omega)
    rw [n1] at p2
    rw [n2] at p3
    have P2 := Lib.hid p2
    have P3 := Lib.hid p3
    have e1 : l.map bts = (l.take k).map bts ++ (l.drop k).map bts := by rw [← List.map_append, List.take_append_drop]
    have la : ((l.take k).map bts).length = k := by rw [List.length_map]; exact n1
    have lb : ((l.drop k).map bts).length = l.length - k := by rw [List.length_map]; exact n2
    have v2 := foldV_le (l.take k)
    have v3 := foldV_le (l.drop k)
    rw [n1] at v2
    rw [n2] at v3
    have fl : (flat (l.take k)).length + (flat (l.drop k)).length = (flat l).length := by
      rw [← List.length_append, ← flat_append, List.take_append_drop]
    have HX := Lib.hid hx
    have c1 := sl_to a l.length cap k k rfl (by omega)
    have c2 := sl_from a l.length cap k k rfl (by omega)
    have h1' : (l.length : Int) ≤ 40 := by omega
    clear hb h3 n1 n2 p2 p3 hl hs hx
    rw [e1] at p1
    generalize hA : (l.take k).map bts = A at *
    generalize hB : (l.drop k).map bts = B at *
    clear hA hB e1
    have K1 := Lib.hid (foldN_bad A B 1)
    have K2 := Lib.hid (foldN_snoc A B 1)
    have K3 := Lib.hid (foldN_shift B 1 A.length)
    have K4 := Lib.hid (foldN_at B 1)
    have K5 := Lib.hid (foldN_zero A 1)
    have K6 := Lib.hid (foldN_zero B 1)
    by_cases q1 : (foldN A 1).2 = 0
    · have r1 := K5.out q1
      rw [K2.out q1, K3.out.1] at p1
      by_cases q2 : (foldN B 1).2 = 0
      · -- all may be
        have r2 := K6.out q2
        have hV : foldV (A ++ B) = foldV A ++ foldV B := by
          unfold foldV
          rw [K2.out q1, K3.out.1, if_pos q2, if_pos q1, if_pos q2, foldT_append]
        rw [hV, q2, foldN_zero B _ (by rw [K3.out.1]; exact q2)] at p1
        rw [q1, r1] at P2
        rw [q2, r2] at P3
        have z1 : (strOf (foldV A)).size + (strOf (foldV B)).size ≤ 1000000 := by rw [strOf_size, strOf_size]; omega
        have qe : ((strOf (foldV A ++ foldV B)).toList == (strOf (foldV A) ++ strOf (foldV B)).toList) = true := by rw [strOf_append]; exact beq_self_eq_true _
        clear K1 K2 K3 K4 K5 K6 q1 q2 r1 r2 hV v2 v3
        generalize foldV A = VA at *
        generalize foldV B = VB at *
        go_enter Tryd.func8, Tryd.ntmps8
        go_wp2_with fail
        refine (hf).mono ?_; rintro e w' ⟨rfl, rfl⟩
        go_wp2_with fail
        refine (p1.out).mono ?_; rintro e w1 ⟨⟨ve, rfl, ee⟩, b1⟩
        obtain rfl := ee.none
        have B1 := Lib.hid b1
        clear b1 ee
        go_wp2_with fail
        refine (P2.out w1 B1.out).mono ?_; rintro e w2 ⟨⟨vf, rfl, ef⟩, b2⟩
        obtain rfl := ef.none
        have B2 := Lib.hid (below_then B1.out b2)
        clear b2 ef
        go_wp2_with fail
        refine (P3.out w2 B2.out).mono ?_; rintro e w3 ⟨⟨vg, rfl, eg⟩, b3⟩
        obtain rfl := eg.none
        have B3 := Lib.hid (below_then B2.out b3)
        clear b3 eg
        go_wp2_with fail
        refine (no_nil _).mono ?_; rintro e w' ⟨rfl, rfl⟩
        go_wp2_with fail
        refine (no_nil _).mono ?_; rintro e w' ⟨rfl, rfl⟩
        go_wp2_with fail
        refine (no_nil _).mono ?_; rintro e w' ⟨rfl, rfl⟩
        go_wp2_with fail
        refine (alive_calls x m w3 (HX.out.below B3.out)).mono ?_; rintro e w4 ⟨rfl, b4⟩
        have B4 := Lib.hid (below_then B3.out b4)
        clear b4
        go_wp2_with fail
        go_ret
        exact ⟨rfl, B4.out⟩
      · -- one of the second part may not be
        have at2 := K4.out q2
        rw [K3.out.2 q2] at p1
        rw [q1, r1] at P2
        have hnb : ((foldN B 1).2 != 0) = true := by simpa using q2
        have hsub : (foldN B 1).1 + (A.length : Int) - (k : Int) = (foldN B 1).1 := by rw [la]; omega
        rw [la] at p1 hsub
        rw [lb] at at2
        clear K1 K2 K3 K4 K5 K6 q1 r1 v2 v3 q2 la lb
        generalize foldV (A ++ B) = VE at *
        generalize foldV A = VA at *
        generalize foldV B = VB at *
        generalize foldN B 1 = K at *
        obtain ⟨kb, nb⟩ := K
        simp only at *
        go_enter Tryd.func8, Tryd.ntmps8
        go_wp2_with fail
        refine (hf).mono ?_; rintro e w' ⟨rfl, rfl⟩
        go_wp2_with fail
        refine (p1.out).mono ?_; rintro e w1 ⟨⟨ve, rfl, ee⟩, b1⟩
        have E1 := Lib.hid ee
        have B1 := Lib.hid b1
        clear b1 ee
        go_wp2_with fail
        refine (P2.out w1 B1.out).mono ?_; rintro e w2 ⟨⟨vf, rfl, ef⟩, b2⟩
        obtain rfl := ef.none
        have E2 := Lib.hid (E1.out.below b2)
        have B2 := Lib.hid (below_then B1.out b2)
        clear b2 ef
        go_wp2_with fail
        refine (P3.out w2 B2.out).mono ?_; rintro e w3 ⟨⟨vg, rfl, eg⟩, b3⟩
        have E3 := Lib.hid (E2.out.below b3)
        have F3 := Lib.hid eg
        have B3 := Lib.hid (below_then B2.out b3)
        clear b3 eg E1 E2
        go_wp2_with fail
        refine (no_calls E3.out).mono ?_; rintro e w' ⟨rfl, rfl⟩
        go_wp2_with fail
        refine (no_nil _).mono ?_; rintro e w' ⟨rfl, rfl⟩
        go_wp2_with fail
        refine (no_nil _).mono ?_; rintro e w' ⟨rfl, rfl⟩
        go_wp2_with fail
        refine (placeOf_calls F3.out (HX.out.below B3.out).ty).mono ?_; rintro e w4 ⟨rfl, b4⟩
        have E4 := Lib.hid (E3.out.below b4)
        have B4 := Lib.hid (below_then B3.out b4)
        clear b4
        go_wp2_with fail
        refine (placeOf_calls E4.out (HX.out.below B4.out).ty).mono ?_; rintro e w5 ⟨rfl, b5⟩
        have B5 := Lib.hid (below_then B4.out b5)
        clear b5
        go_wp2_with fail
        refine (alive_calls x m w5 (HX.out.below B5.out)).mono ?_; rintro e w6 ⟨rfl, b6⟩
        have B6 := Lib.hid (below_then B5.out b6)
        clear b6
        go_wp2_with fail
        go_ret
        exact ⟨rfl, B6.out⟩
    · -- one of the first part may not be
      rw [K1.out q1] at p1
      have hnb : ((foldN A 1).2 != 0) = true := by simpa using q1
      clear K1 K2 K3 K4 K5 K6 v2 v3 q1 la lb
      generalize foldV (A ++ B) = VE at *
      generalize foldV A = VA at *
      generalize foldV B = VB at *
      generalize foldN A 1 = K at *
      obtain ⟨kb, nb⟩ := K
      simp only at *
      go_enter Tryd.func8, Tryd.ntmps8
      go_wp2_with fail
      refine (hf).mono ?_; rintro e w' ⟨rfl, rfl⟩
      go_wp2_with fail
      refine (p1.out).mono ?_; rintro e w1 ⟨⟨ve, rfl, ee⟩, b1⟩
      have E1 := Lib.hid ee
      have B1 := Lib.hid b1
      clear b1 ee
      go_wp2_with fail
      refine (P2.out w1 B1.out).mono ?_; rintro e w2 ⟨⟨vf, rfl, ef⟩, b2⟩
      have E2 := Lib.hid (And.intro (E1.out.below b2) ef)
      have B2 := Lib.hid (below_then B1.out b2)
      clear b2 ef
      go_wp2_with fail
      refine (P3.out w2 B2.out).mono ?_; rintro e w3 ⟨⟨vg, rfl, eg⟩, b3⟩
      have E3 := Lib.hid (And.intro (E2.out.1.below b3) (E2.out.2.below b3))
      have B3 := Lib.hid (below_then B2.out b3)
      clear b3 eg E1 E2
      go_wp2_with fail
      refine (no_calls E3.out.1).mono ?_; rintro e w' ⟨rfl, rfl⟩
      go_wp2_with fail
      refine (no_calls E3.out.2).mono ?_; rintro e w' ⟨rfl, rfl⟩
      go_wp2_with fail
      refine (placeOf_calls E3.out.2 (HX.out.below B3.out).ty).mono ?_; rintro e w4 ⟨rfl, b4⟩
      have E4 := Lib.hid (E3.out.1.below b4)
      have B4 := Lib.hid (below_then B3.out b4)
      clear b4
      go_wp2_with fail
      refine (placeOf_calls E4.out (HX.out.below B4.out).ty).mono ?_; rintro e w5 ⟨rfl, b5⟩
      have B5 := Lib.hid (below_then B4.out b5)
      clear b5
      go_wp2_with fail
      refine (alive_calls x m w5 (HX.out.below B5.out)).mono ?_; rintro e w6 ⟨rfl, b6⟩
      have B6 := Lib.hid (below_then B5.out b6)
      clear b6
      go_wp2_with fail
      go_ret
      exact ⟨rfl, B6.out⟩
  · rw [Bool.not_eq_true] at hb
    rw [hb] at hf
    clear hb
    go_enter Tryd.func8, Tryd.ntmps8
    go_wp2_with fail
    refine (hf).mono ?_; rintro e w' ⟨rfl, rfl⟩
    go_wp2_with fail
    refine (alive_calls x m w hx).mono ?_; rintro e w1 ⟨rfl, b1⟩
    go_wp2_with fail
    go_ret
    exact ⟨rfl, b1⟩
end Go.Proofs.YtddjfeofmihgdaaDoor
