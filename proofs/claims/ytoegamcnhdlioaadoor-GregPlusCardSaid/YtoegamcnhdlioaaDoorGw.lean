/- Weeks: the program's, and the document's. -/
import Derived.Test.YtoegamcnhdlioaaDoorGp
import Derived.Test.YtoegamcnhdlioaaDoorGx
namespace Go.Proofs.YtoegamcnhdlioaaDoor
open Go.RowKit Go.Extern.Stop Go.Stop Go.Extern
set_option linter.unusedVariables false
set_option linter.unusedSimpArgs false

theorem wrapq {q : Int} (h1 : 0 ≤ q) (h2 : q ≤ 366) : wrap64 (wrap64 ((wrap64 q).tdiv 7) + 1) = q / 7 + 1 := by
  have e : wrap64 q = q := by unfold wrap64; omega
  rw [e, Int.tdiv_eq_ediv_of_nonneg h1]
  unfold wrap64; omega

set_option maxRecDepth 100000 in
theorem weekdayB_calls (f : Int) (w : World) :
    Calls Tryd.prog 36 #[iv f] w fun e w' => e = .returned (.bool (decide (0 ≤ f ∧ f ≤ 6))) ∧ w' = w := by
  go_enter Tryd.func36, Tryd.ntmps36
  go_wp2
  all_goals (go_ret; simp_all)
  all_goals omega

theorem cellDay {w : World} {b : Nat} {y m d : Int} {t : TypeId} {fr : Nat × Nat} (h : w.heap[b]? = some (.cells #[iv y, iv m, iv d] t fr)) : DayAt w b y m d :=
  ⟨by rw [cell_of_row w _ 0 _ _ _ h]; rfl, by rw [cell_of_row w _ 1 _ _ _ h]; rfl, by rw [cell_of_row w _ 2 _ _ _ h]; rfl⟩

set_option maxRecDepth 100000 in
set_option maxHeartbeats 1000000 in
theorem yearDayN_calls (n : Int) (h : -365 ≤ n ∧ n ≤ 3652425) (w : World) :
    Calls Tryd.prog 37 #[iv n] w fun e w' => e = .returned (.tuple #[iv (yrI n), iv (n - fdI (yrI n) + 1)]) ∧ Below w.heap.size w w' := by
  have l0 : leapI 0 = 1 := by decide
  by_cases h1 : n < 1
  · have e1 : yrI n = 0 := if_pos h1
    rw [e1, fdI_0]
    go_enter Tryd.func37, Tryd.ntmps37
    go_wp2_with (go_at_call 32; refine (leap_calls _ _).mono ?_; rw [l0]; rintro e w' ⟨rfl, rfl⟩)
    go_ret2
    refine ⟨?_, Below.refl _ _⟩
    simp
  · by_cases h2 : 3652059 < n
    · have e1 : yrI n = 10000 := by unfold yrI; rw [if_neg h1, if_pos (show lastN < n from h2)]
      rw [e1, fdI_last]
      unfold lastN
      go_enter Tryd.func37, Tryd.ntmps37
      go_wp2
      go_ret2
      refine ⟨?_, Below.refl _ _⟩
      simp
      omega
    · have h1' : 1 ≤ n := by omega
      have h2' : n ≤ 3652059 := by omega
      obtain ⟨y, m, d, hr, hn, ho⟩ := day_ex h1' h2'
      obtain ⟨k1, k2, k3, k4, k5, k6⟩ := rightI_in hr
      obtain ⟨a1, a2⟩ := aheadI_in (y := y) ⟨k1, by omega⟩
      have e1 : yrI n = y := by unfold yrI; rw [if_neg h1, if_neg (show ¬ lastN < n from h2), ho]
      have eO := dayO_of hr hn
      rw [e1, fdI_pos k1]
      clear h1 h2
      go_enter Tryd.func37, Tryd.ntmps37
      go_wp2_with (go_at_call 15; refine (of_calls _ _).mono ?_; rw [eO]; rintro e w1 ⟨rfl, b1⟩)
      have A := DayAt.new w1 23 y m d
      have a0 := fun k => (A.past k).c0
      (refine region_past (by kernel_rfl) (by kernel_rfl) ?_; (repeat (first | go_big_quiet_skip | (go_big_quiet_want; go_big_quiet_op; first | go_big_quiet_on | (apply Exists.intro; refine ⟨fun k => ?_, ?_⟩; (focus (first | (go_at_call 35; refine Past.calls_same (ahead_calls _ ⟨k1, by omega⟩ _)))); go_big_quiet_on)))); refine wpQuiet_nil ?_; intro k)
      obtain ⟨w2, b2⟩ := k
      go_wp2_with fail
      go_ret2
      refine ⟨?_, below_then b1 (below_front b2)⟩
      simp
      omega

set_option maxRecDepth 100000 in
set_option maxHeartbeats 1000000 in
theorem week_calls (n f : Int) (w : World) :
    Calls Tryd.prog 26 #[iv n, iv f] w fun e w' => e = .returned (.tuple #[iv (wkY n f), iv (wkN n f)]) ∧ Below w.heap.size w w' := by
  by_cases h : 1 ≤ n ∧ n ≤ lastN ∧ 0 ≤ f ∧ f ≤ 6
  · unfold wkY wkN
    rw [if_pos h, if_pos h]
    obtain ⟨h1, h2, h3, h4⟩ := h
    unfold lastN at h2
    have hf : decide (0 ≤ f ∧ f ≤ 6) = true := by simp; omega
    have hw : 0 ≤ wdI n ∧ wdI n ≤ 6 := by unfold wdI; omega
    obtain ⟨hw1, hw2⟩ := hw
    obtain ⟨m1, m2⟩ := midI_in n f
    obtain ⟨y1, y2, y3, y4⟩ := yrI_spec (m := midI n f) (by omega) (by unfold lastN; omega)
    have hsp := fd_span y1
    have q1 : 0 ≤ midI n f - fdI (yrI (midI n f)) := by omega
    have q2 : midI n f - fdI (yrI (midI n f)) ≤ 366 := by omega
    have hq := wrapq q1 q2
    unfold midI at *
    go_enter Tryd.func26, Tryd.ntmps26
    go_wp2_with (first
      | (go_at_call 36; refine (weekdayB_calls _ _).mono ?_; rw [hf]; rintro e w' ⟨rfl, rfl⟩)
      | (go_at_call 17; refine (weekday_calls _ _).mono ?_; rintro e w' ⟨rfl, rfl⟩)
      | (go_at_call 37; refine (yearDayN_calls _ ⟨by omega, by omega⟩ _).mono ?_; rintro e w1 ⟨rfl, b1⟩))
    go_ret2
    refine ⟨?_, b1⟩
    simp [hq]
  · have e1 : wkY n f = 0 := if_neg h
    have e2 : wkN n f = 0 := if_neg h
    rw [e1, e2]
    unfold lastN at h
    go_enter Tryd.func26, Tryd.ntmps26
    by_cases hn : n < 1 ∨ 3652059 < n
    · go_wp2_with fail
      all_goals first | omega | (go_ret2; exact ⟨rfl, Below.refl _ _⟩)
    · have hf : decide (0 ≤ f ∧ f ≤ 6) = false := by simp; omega
      go_wp2_with (go_at_call 36; refine (weekdayB_calls _ _).mono ?_; rw [hf]; rintro e w' ⟨rfl, rfl⟩)
      all_goals first | omega | (go_ret2; exact ⟨rfl, Below.refl _ _⟩)

set_option maxRecDepth 100000 in
set_option maxHeartbeats 1000000 in
theorem weeks_calls (x : Addr) (y f : Int) (w : World) (hx : Laid x w) :
    Calls Tryd.prog 28 #[iv y, iv f] w fun e w' => e = .returned (iv (wksI y f)) ∧ Below w.heap.size w w' := by
  have hv : wkN (numV y 12 28) f = wksI y f := by
    by_cases hy : 1 ≤ y ∧ y ≤ 9999
    · have hr := (dec28 hy).1
      have e : numV y 12 28 = numI y 12 28 := if_pos hr
      rw [e]
      by_cases hf : 0 ≤ f ∧ f ≤ 6
      · exact dec28_week hy hf
      · rw [wks_bad (by omega)]; exact if_neg (by omega)
    · have hr : ¬ rightI y 12 28 := fun h => hy (by have := rightI_in h; omega)
      have e : numV y 12 28 = 0 := if_neg hr
      rw [e, wks_bad (by omega)]; exact if_neg (by omega)
  go_enter Tryd.func28, Tryd.ntmps28
  go_wp2_with (first
    | (go_at_call 13; refine (num_calls x _ _ _ _ hx).mono ?_; rintro e w1 ⟨rfl, b1⟩)
    | (go_at_call 26; refine (week_calls _ _ _).mono ?_; rintro e w2 ⟨rfl, b2⟩))
  go_ret
  exact ⟨rfl, below_then b1 b2⟩

set_option maxRecDepth 100000 in
theorem middle_calls (n f : Int) (hn : 1 ≤ n ∧ n ≤ 3652059) (hf : 0 ≤ f ∧ f ≤ 6) (w : World) :
    Calls Tryd.prog 38 #[iv n, iv f] w fun e w' => e = .returned (iv (midI n f)) ∧ w' = w := by
  have hw : 0 ≤ wdI n ∧ wdI n ≤ 6 := by unfold wdI; omega
  obtain ⟨hw1, hw2⟩ := hw
  obtain ⟨h1, h2⟩ := hn
  obtain ⟨h3, h4⟩ := hf
  unfold midI
  go_enter Tryd.func38, Tryd.ntmps38
  go_wp2_with (go_at_call 18; refine (weekdayR_calls _ _).mono ?_; rintro e w' ⟨rfl, rfl⟩)
  go_ret
  refine ⟨?_, rfl⟩
  simp

set_option maxRecDepth 100000 in
theorem first_calls (y : Int) (hy : 0 ≤ y ∧ y ≤ 10001) (w : World) :
    Calls Tryd.prog 39 #[iv y] w fun e w' => e = .returned (iv (fdI y)) ∧ w' = w := by
  obtain ⟨h1, h2⟩ := hy
  by_cases h : y = 0
  · subst h
    go_enter Tryd.func39, Tryd.ntmps39
    go_wp2
    go_ret
    exact ⟨rfl, rfl⟩
  · obtain ⟨a1, a2⟩ := aheadI_in (y := y) ⟨by omega, h2⟩
    rw [fdI_pos (by omega)]
    go_enter Tryd.func39, Tryd.ntmps39
    go_wp2_with (go_at_call 34; refine (aheadR_calls _ ⟨by omega, by omega⟩ _).mono ?_; rintro e w' ⟨rfl, rfl⟩)
    go_ret
    refine ⟨?_, rfl⟩
    simp
end Go.Proofs.YtoegamcnhdlioaaDoor
