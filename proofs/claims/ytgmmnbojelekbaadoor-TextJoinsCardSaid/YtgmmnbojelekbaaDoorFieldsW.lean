/- TextFields: the walk. -/
import Derived.Test.YtgmmnbojelekbaaDoorListsW
namespace Go.Proofs.YtgmmnbojelekbaaDoor
open Go.RowKit
set_option linter.unusedVariables false
set_option linter.unusedSimpArgs false

theorem rows_self (l : List (List ByteArray)) : rowsSame l l = true := decide_eq_true rfl
theorem unrowsO_length : ∀ {P : List (List UInt8)} {ls : List (List (List UInt8))}, unrowsO P = some ls → ls.length = P.length ∧ ∀ r ∈ ls, r = [] ∨ ∃ p ∈ P, unrowO p = some r
  | [], ls, h => by rw [unrowsO] at h; injection h with h; subst h; simp
  | p :: P, ls, h => by
    rw [unrowsO] at h
    rcases h1 : unrow1 p with _ | a
    · rw [h1] at h; simp at h
    · rcases h2 : unrowsO P with _ | ms
      · rw [h1, h2] at h; simp at h
      · rw [h1, h2] at h; simp at h
        subst h
        obtain ⟨i1, i2⟩ := unrowsO_length h2
        refine ⟨by simp [i1], fun r hr => ?_⟩
        rcases List.mem_cons.1 hr with rfl | hr
        · unfold unrow1 at h1
          split at h1
          · injection h1 with h1; exact .inl h1.symm
          · exact .inr ⟨p, by simp, h1⟩
        · rcases i2 r hr with h | ⟨q, hq, h⟩
          · exact .inl h
          · exact .inr ⟨q, List.mem_cons_of_mem _ hq, h⟩
theorem unrow_length {p : List UInt8} {r : List (List UInt8)} (h : unrowO p = some r) : r.length ≤ p.length + 1 := by
  have h1 := unescAll_length (show unescAll (cut 44 p) = some r from h)
  have h2 := cut_length_le (g := 44) (by decide) p
  omega
theorem rowsS_length (s : ByteArray) : (rowsS (unfieldsO (bts s))).length ≤ s.size + 1 ∧ ∀ r ∈ rowsS (unfieldsO (bts s)), r.length ≤ s.size + 1 := by
  rcases h : unfieldsO (bts s) with _ | ls
  · exact ⟨Nat.zero_le _, fun r hr => by simp [rowsS] at hr⟩
  · obtain ⟨h1, h3⟩ := unrowsO_length (show unrowsO (cut 59 (bts s)) = some ls from h)
    have h2 := cut_length_le (g := 59) (by decide) (bts s)
    rw [bts_length] at h2
    refine ⟨?_, fun r hr => ?_⟩
    · show (ls.map sOf).length ≤ _
      rw [List.length_map]; omega
    · obtain ⟨r', hr', rfl⟩ := List.mem_map.1 (show r ∈ ls.map sOf from hr)
      rw [List.length_map]
      rcases h3 r' hr' with rfl | ⟨p, hp, hu⟩
      · simp
      · have a := unrow_length hu
        have b := mem_cut_le (g := 59) (by decide) hp
        rw [bts_length] at b; omega

set_option maxRecDepth 100000 in
set_option maxHeartbeats 2000000 in
theorem textFields_walk (x : Addr) (a : Option Addr) (cap : Nat) (l : List (List ByteArray)) (s : ByteArray) (w : World) (hx : Laid x w) (hl : RowsIn w a l) (hsm : SmallR l) (hs : s.size ≤ maxLen) :
    Calls Tryd.prog 5 #[.slice a l.length cap, .string s] w fun e w' => e = .returned (.bool true) ∧ Below w.heap.size w w' := by
  unfold maxLen at hs
  have hf := rowsFew_calls a cap l w hl hsm
  by_cases hb : rowsFew l = true
  · rw [hb] at hf
    obtain ⟨g1, g2, g3⟩ := rowsFew_spec hb
    by_cases h1 : 3000 < s.size
    · have h1' : (3000 : Int) < (s.size : Int) := by omega
      clear hb g2
      go_enter Tryd.func5, Tryd.ntmps5
      go_wp2_with fail
      refine (hf).mono ?_; rintro e w' ⟨rfl, rfl⟩
      go_wp2_with fail
      refine (alive_calls x w hx).mono ?_; rintro e w1 ⟨rfl, b1⟩
      go_wp2_with fail
      go_ret
      exact ⟨rfl, b1⟩
    · have h1' : (s.size : Int) ≤ 3000 := by omega
      have g4 : ∀ r ∈ l, r.length ≤ 5000 := fun r hr => by have := (g2 r hr).1; omega
      have p1 := fields_calls x a cap l w hx hl (by omega) g4 (by omega)
      have p2 := fun (w : World) (hl : RowsIn w a l) => fieldsR_calls a cap l w hl (by omega) g4 (by omega)
      have p3 := fun (w : World) (hx : Laid x w) => unfields_calls x s (by omega) w hx
      have p4 := unfieldsR_calls s (by omega)
      rw [saidV_eq] at p1
      simp only [toldRV_eq, errN_eq] at p2 p4
      obtain ⟨zl, zr⟩ := rowsS_length s
      generalize (if l = [] then none else fieldsO (rowsB l)) = O at p1 p2
      have zl' : (rowsS (unfieldsO (bts s))).length ≤ 9223372036854775807 := by omega
      have ZR := Lib.hid (show ∀ r ∈ rowsS (unfieldsO (bts s)), r.length ≤ 9223372036854775807 from fun r hr => by have := zr r hr; omega)
      clear hb g2 g4 zr
      go_enter Tryd.func5, Tryd.ntmps5
      go_wp2_with fail
      refine (hf).mono ?_; rintro e w' ⟨rfl, rfl⟩
      go_wp2_with fail
      refine (p1).mono ?_; rintro e w1 ⟨rfl, b1⟩
      have x1 := hx.below b1
      have l1 := hl.below b1
      go_wp2_with fail
      refine (p2 _ l1).mono ?_; rintro e w' ⟨rfl, rfl⟩
      go_wp2_with fail
      refine (p3 _ x1).mono ?_; rintro e w2 ⟨v2, rfl, o2, b2⟩
      have x2 := x1.below b2
      go_wp2_with fail
      refine (p4 _).mono ?_; rintro e w3 ⟨v3, rfl, o3, b3⟩
      have x3 := x2.below b3
      obtain ⟨a2, c2, rfl, i2, y2⟩ := o2.slice
      obtain ⟨a3, c3, rfl, i3, y3⟩ := o3.slice
      have sm := rows_calls a2 a3 c2 c3 _ _ w3 (i2.below b3) i3 zl' zl' ZR.out ZR.out
      rw [rows_self] at sm
      clear o2 o3 p1 p2 p3 p4
      go_wp2_with fail
      refine (no_errS _ _).mono ?_; rintro e w' ⟨rfl, rfl⟩
      go_wp2_with fail
      refine sm.mono ?_; rintro e w4 ⟨rfl, b4⟩
      have x4 := x3.below b4
      go_wp2_with fail
      refine (no_errS _ _).mono ?_; rintro e w' ⟨rfl, rfl⟩
      go_wp2_with fail
      refine (alive_calls x _ x4).mono ?_; rintro e w5 ⟨rfl, b5⟩
      go_wp2_with fail
      go_ret
      exact ⟨rfl, below_then b1 (below_then b2 (below_then b3 (below_then b4 b5)))⟩
  · rw [Bool.not_eq_true] at hb
    rw [hb] at hf
    clear hb
    go_enter Tryd.func5, Tryd.ntmps5
    go_wp2_with fail
    refine (hf).mono ?_; rintro e w' ⟨rfl, rfl⟩
    go_wp2_with fail
    refine (alive_calls x w hx).mono ?_; rintro e w1 ⟨rfl, b1⟩
    go_wp2_with fail
    go_ret
    exact ⟨rfl, b1⟩
end Go.Proofs.YtgmmnbojelekbaaDoor
