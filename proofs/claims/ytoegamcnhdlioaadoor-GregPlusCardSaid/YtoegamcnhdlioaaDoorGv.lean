/- Weeks of the document. -/
import Derived.Test.YtoegamcnhdlioaaDoorGw
namespace Go.Proofs.YtoegamcnhdlioaaDoor
open Go.RowKit Go.Extern.Stop Go.Stop Go.Extern
set_option linter.unusedVariables false
set_option linter.unusedSimpArgs false

theorem fdI_in {y : Int} (h : 0 ≤ y ∧ y ≤ 10001) : -365 ≤ fdI y ∧ fdI y ≤ 3653001 := by
  unfold fdI
  split
  · omega
  · have := aheadI_in (y := y) ⟨by omega, h.2⟩; omega

theorem field0 (y m d : Int) (w : World) : (Instr.field 23 (dayV y m d) 0).run Tryd.prog w = .ok (iv y) w := by kernel_rfl

set_option maxRecDepth 100000 in
set_option maxHeartbeats 1000000 in
theorem weekR_calls (n f : Int) (w : World) :
    Calls Tryd.prog 27 #[iv n, iv f] w fun e w' => e = .returned (.tuple #[iv (wkY n f), iv (wkN n f)]) ∧ Below w.heap.size w w' := by
  by_cases h : 1 ≤ n ∧ n ≤ lastN ∧ 0 ≤ f ∧ f ≤ 6
  · unfold wkY wkN
    rw [if_pos h, if_pos h]
    obtain ⟨h1, h2, h3, h4⟩ := h
    unfold lastN at h2
    obtain ⟨y, m, d, hr, hn, ho⟩ := day_ex h1 h2
    obtain ⟨k1, k2, _⟩ := rightI_in hr
    have eO := dayO_of hr hn
    obtain ⟨m1, m2⟩ := midI_in n f
    have hfld := field0
    have hmc := fun w => middle_calls n f ⟨h1, h2⟩ ⟨h3, h4⟩ w
    have hin := numI_in hr
    have hf0 := fdI_pos k1
    have hf1 := fdI_pos (y := y + 1) (by omega)
    have hl1 := fdI_long k1
    have ll := leapI_01 y
    obtain ⟨i1, i2⟩ := fdI_in (y := y) ⟨by omega, by omega⟩
    obtain ⟨i3, i4⟩ := fdI_in (y := y + 1) ⟨by omega, by omega⟩
    rw [hn] at hin
    have hm3 : -2 ≤ midI n f ∧ midI n f ≤ 3652062 := by omega
    generalize midI n f = mid at *
    clear hn ho hr
    by_cases c1 : mid < fdI y
    · have hz : 0 ≤ y - 1 := by omega
      have hlo : fdI (y - 1) ≤ mid := by
        rcases Int.lt_or_le (y - 1) 1 with z | z
        · obtain rfl : y = 1 := by omega
          show fdI 0 ≤ mid
          rw [fdI_0]; omega
        · have ez := fdI_long z
          have := leapI_01 (y - 1)
          rw [show y - 1 + 1 = y by omega] at ez
          omega
      have ey : yrI mid = y - 1 := yrI_eq (by omega) (by unfold lastN; omega) hz hlo (by rw [show y - 1 + 1 = y by omega]; exact c1)
      have hsp := fd_span hz
      rw [show y - 1 + 1 = y by omega] at hsp
      have q1 : 0 ≤ mid - fdI (y - 1) := by omega
      have q2 : mid - fdI (y - 1) ≤ 366 := by omega
      have hq := wrapq q1 q2
      rw [ey]
      clear hf0 hf1 hl1 ll hin
      go_enter Tryd.func27, Tryd.ntmps27
      go_wp2_with (first
        | (go_at_call 38; refine (hmc _).mono ?_; rintro e w' ⟨rfl, rfl⟩)
        | (go_at_call 16; refine (ofR_calls _ _).mono ?_; rw [eO]; rintro e w1 ⟨rfl, b1⟩)
        | (go_at_call 39; refine (first_calls _ ⟨by omega, by omega⟩ _).mono ?_; rintro e w' ⟨rfl, rfl⟩))
      all_goals first | omega | (go_ret2; exact ⟨by simp [hq], b1⟩)
    · by_cases c2 : fdI (y + 1) ≤ mid
      · have hhi : mid < fdI (y + 1 + 1) := by have := fdI_long (y := y + 1) (by omega); have := leapI_01 (y + 1); omega
        have ey : yrI mid = y + 1 := yrI_eq (by omega) (by unfold lastN; omega) (by omega) c2 hhi
        have hsp := fd_span (y := y + 1) (by omega)
        have q1 : 0 ≤ mid - fdI (y + 1) := by omega
        have q2 : mid - fdI (y + 1) ≤ 366 := by omega
        have hq := wrapq q1 q2
        rw [ey]
        clear hf0 hf1 hl1 ll hin hq
        have hq := wrapq q1 q2
        go_enter Tryd.func27, Tryd.ntmps27
        go_wp2_with (first
          | (go_at_call 38; refine (hmc _).mono ?_; rintro e w' ⟨rfl, rfl⟩)
          | (go_at_call 16; refine (ofR_calls _ _).mono ?_; rw [eO]; rintro e w1 ⟨rfl, b1⟩)
          | (go_at_call 39; refine (first_calls _ ⟨by omega, by omega⟩ _).mono ?_; rintro e w' ⟨rfl, rfl⟩))
        all_goals first | omega | (go_ret2; exact ⟨by simp [hq], b1⟩)
      · have ey : yrI mid = y := yrI_eq (by omega) (by unfold lastN; omega) (by omega) (by omega) (by omega)
        have q1 : 0 ≤ mid - fdI y := by omega
        have q2 : mid - fdI y ≤ 366 := by omega
        have hq := wrapq q1 q2
        rw [ey]
        clear hf0 hf1 hl1 ll hin hq
        have hq := wrapq q1 q2
        go_enter Tryd.func27, Tryd.ntmps27
        go_wp2_with (first
          | (go_at_call 38; refine (hmc _).mono ?_; rintro e w' ⟨rfl, rfl⟩)
          | (go_at_call 16; refine (ofR_calls _ _).mono ?_; rw [eO]; rintro e w1 ⟨rfl, b1⟩)
          | (go_at_call 39; refine (first_calls _ ⟨by omega, by omega⟩ _).mono ?_; rintro e w' ⟨rfl, rfl⟩))
        all_goals first | omega | (go_ret2; exact ⟨by simp [hq], b1⟩)
  · have e1 : wkY n f = 0 := if_neg h
    have e2 : wkN n f = 0 := if_neg h
    rw [e1, e2]
    unfold lastN at h
    go_enter Tryd.func27, Tryd.ntmps27
    go_wp2_with fail
    all_goals first | omega | (go_ret2; exact ⟨rfl, Below.refl _ _⟩)

set_option maxRecDepth 100000 in
set_option maxHeartbeats 1000000 in
theorem weeksR_calls (y f : Int) (w : World) :
    Calls Tryd.prog 29 #[iv y, iv f] w fun e w' => e = .returned (iv (wksI y f)) ∧ w' = w := by
  by_cases h : 1 ≤ y ∧ y ≤ 9999 ∧ 0 ≤ f ∧ f ≤ 6
  · unfold wksI
    rw [if_pos h]
    obtain ⟨h1, h2, h3, h4⟩ := h
    obtain ⟨i1, i2⟩ := fdI_in (y := y) ⟨by omega, by omega⟩
    obtain ⟨i3, i4⟩ := fdI_in (y := y + 1) ⟨by omega, by omega⟩
    have hsp : fdI y ≤ fdI (y + 1) := fdI_mono (by omega) (by omega)
    have hsp2 := fd_span (y := y) (by omega)
    go_enter Tryd.func29, Tryd.ntmps29
    go_wp2_with (go_at_call 39; refine (first_calls _ ⟨by omega, by omega⟩ _).mono ?_; rintro e w' ⟨rfl, rfl⟩)
    go_loop [5, 6] (fun c k => ∃ j : Int, fdI y ≤ j ∧ j ≤ fdI (y + 1) ∧ c = iv (sevens (fdI y - f + 3) (j - f + 3)) ∧ k = iv j) (fun _ k => (fdI (y + 1) - intOf k).toNat)
    case atStart => exact ⟨fdI y, Int.le_refl _, by omega, by unfold sevens; simp, rfl⟩
    case round =>
      obtain ⟨j, hj1, hj2, rfl, rfl⟩ := hrel
      have hw : 0 ≤ wdI j ∧ wdI j ≤ 6 := by unfold wdI; omega
      obtain ⟨hw1, hw2⟩ := hw
      have hst := sevens_step (fdI y - f + 3) (j - f + 3)
      rw [show j - f + 3 + 1 = j + 1 - f + 3 by omega] at hst
      have hb : -100 ≤ sevens (fdI y - f + 3) (j - f + 3) ∧ sevens (fdI y - f + 3) (j - f + 3) ≤ 100 := by unfold sevens; omega
      obtain ⟨hb1, hb2⟩ := hb
      by_cases hlt : j < fdI (y + 1)
      · by_cases hm : (wdI j - f + 7) % 7 = 3
        · have hz : (j - f + 3) % 7 = 0 := by unfold wdI at hm; omega
          rw [if_pos hz] at hst
          go_wp2_with (first
            | (go_at_call 39; refine (first_calls _ ⟨by omega, by omega⟩ _).mono ?_; rintro e w' ⟨rfl, rfl⟩)
            | (go_at_call 18; refine (weekdayR_calls _ _).mono ?_; rintro e w' ⟨rfl, rfl⟩))
          all_goals first
            | omega
            | (go_round
               case rel => exact ⟨j + 1, by omega, by omega, by rw [hst], rfl⟩
               case measure => simp [intOf]; omega)
        · have hz : ¬ (j - f + 3) % 7 = 0 := by unfold wdI at hm; omega
          rw [if_neg hz] at hst
          go_wp2_with (first
            | (go_at_call 39; refine (first_calls _ ⟨by omega, by omega⟩ _).mono ?_; rintro e w' ⟨rfl, rfl⟩)
            | (go_at_call 18; refine (weekdayR_calls _ _).mono ?_; rintro e w' ⟨rfl, rfl⟩))
          all_goals first
            | omega
            | (go_round
               case rel => exact ⟨j + 1, by omega, by omega, by rw [hst]; simp, rfl⟩
               case measure => simp [intOf]; omega)
      · obtain rfl : j = fdI (y + 1) := by omega
        go_wp2_with (go_at_call 39; refine (first_calls _ ⟨by omega, by omega⟩ _).mono ?_; rintro e w' ⟨rfl, rfl⟩)
        go_ret
        exact ⟨rfl, rfl⟩
  · rw [wks_bad h]
    go_enter Tryd.func29, Tryd.ntmps29
    go_wp2_with fail
    all_goals first | omega | (go_ret; exact ⟨rfl, rfl⟩)
end Go.Proofs.YtoegamcnhdlioaaDoor
