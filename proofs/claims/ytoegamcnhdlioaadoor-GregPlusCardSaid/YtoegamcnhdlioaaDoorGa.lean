/- Small functions of days: leap, ahead, Long, Weekday; errors.Is of nil and of the one error. -/
import Derived.Test.YtoegamcnhdlioaaDoorChecked
import Derived.Test.YtoegamcnhdlioaaDoorGm
import Derived.WalkKit
import Derived.LaidEql
import Derived.WideLaws
import Derived.Great.BuildSlice
import Derived.Below
import Derived.LoopTactic
import Derived.Stop.Asserts
import Derived.RowKitTokens
import Derived.Lib.Hide
import Derived.Outline
namespace Go.Proofs.YtoegamcnhdlioaaDoor
open Go.RowKit Go.Extern.Stop Go.Stop Go.Extern
set_option linter.unusedVariables false

theorem mod0 (y k : Int) : (y.tmod k = 0) = (y % k = 0) := by
  rw [← Int.dvd_iff_tmod_eq_zero, Int.dvd_iff_emod_eq_zero]

set_option maxRecDepth 100000 in
theorem leap_calls (y : Int) (w : World) :
    Calls Tryd.prog 32 #[.int .i64 y] w fun e w' => e = .returned (.int .i64 (leapI y)) ∧ w' = w := by
  have h4 := mod0 y 4
  have h100 := mod0 y 100
  have h400 := mod0 y 400
  unfold leapI
  go_enter Tryd.func32, Tryd.ntmps32
  go_wp2
  all_goals (go_ret; simp_all)

set_option maxRecDepth 100000 in
theorem yearLong_calls (y : Int) (w : World) :
    Calls Tryd.prog 33 #[.int .i64 y] w fun e w' => e = .returned (.int .i64 (365 + leapI y)) ∧ w' = w := by
  have h4 := mod0 y 4
  have h100 := mod0 y 100
  have h400 := mod0 y 400
  unfold leapI
  go_enter Tryd.func33, Tryd.ntmps33
  go_wp2
  all_goals (go_ret; simp_all)

set_option maxRecDepth 100000 in
theorem ahead_calls (y : Int) (h : 1 ≤ y ∧ y ≤ 10001) (w : World) :
    Calls Tryd.prog 35 #[.int .i64 y] w fun e w' => e = .returned (.int .i64 (aheadI y)) ∧ w' = w := by
  unfold aheadI
  go_enter Tryd.func35, Tryd.ntmps35
  go_wp2
  go_ret
  exact ⟨rfl, rfl⟩
set_option maxRecDepth 100000 in
theorem aheadR_calls (y : Int) (h : 1 ≤ y ∧ y ≤ 10001) (w : World) :
    Calls Tryd.prog 34 #[.int .i64 y] w fun e w' => e = .returned (.int .i64 (aheadI y)) ∧ w' = w := by
  unfold aheadI
  rw [Int.mul_comm (y - 1) 365]
  go_enter Tryd.func34, Tryd.ntmps34
  go_wp2
  go_ret
  exact ⟨rfl, rfl⟩

set_option maxRecDepth 100000 in
theorem long_calls (y m : Int) (w : World) :
    Calls Tryd.prog 11 #[.int .i64 y, .int .i64 m] w fun e w' => e = .returned (.int .i64 (longI y m)) ∧ w' = w := by
  have hl := leapI_01 y
  unfold longI
  go_enter Tryd.func11, Tryd.ntmps11
  go_wp2_with (go_at_call 32; refine (leap_calls _ _).mono ?_; rintro e w' ⟨rfl, rfl⟩)
  all_goals (go_ret; simp_all)
  all_goals omega

set_option maxRecDepth 100000 in
theorem longR_calls (y m : Int) (w : World) :
    Calls Tryd.prog 12 #[.int .i64 y, .int .i64 m] w fun e w' => e = .returned (.int .i64 (longI y m)) ∧ Below w.heap.size w w' := by
  have hl := leapI_01 y
  unfold longI
  by_cases hb : y < 1 ∨ 9999 < y ∨ m < 1 ∨ 12 < m
  · rw [if_pos hb]
    go_enter Tryd.func12, Tryd.ntmps12
    go_wp2
    all_goals first | omega | (go_ret; exact ⟨rfl, Below.refl _ _⟩)
  · rw [if_neg hb]
    have h1 : 1 ≤ y := by omega
    have h2 : y ≤ 9999 := by omega
    have hm : m = 1 ∨ m = 2 ∨ m = 3 ∨ m = 4 ∨ m = 5 ∨ m = 6 ∨ m = 7 ∨ m = 8 ∨ m = 9 ∨ m = 10 ∨ m = 11 ∨ m = 12 := by omega
    clear hb
    rcases hm with rfl | rfl | rfl | rfl | rfl | rfl | rfl | rfl | rfl | rfl | rfl | rfl
    all_goals
      go_enter Tryd.func12, Tryd.ntmps12
      go_wp2_with (first
        | (go_at_call 33; refine (yearLong_calls _ _).mono ?_; rintro e w' ⟨rfl, rfl⟩)
        | (refine wpList_buildFlat rfl 47 3 12 _ rfl .i64 [31, 28, 31, 30, 31, 30, 31, 31, 30, 31, 30, 31] (by kernel_rfl) (by kernel_rfl) (by kernel_rfl) rfl (by decide) (by decide) (by kernel_rfl) ?_))
      go_ret
      refine ⟨?_, (Below.refl _ _).alloc (Nat.le_refl _) _⟩
      simp
    all_goals omega

theorem wd_tmod (n : Int) : (-7 < n.tmod 7 ∧ n.tmod 7 < 7) ∧ wdI n = (n.tmod 7 + 13) % 7 := by
  obtain ⟨a, b, c⟩ := tdm n 7 (by omega)
  refine ⟨by omega, ?_⟩
  unfold wdI; omega

set_option maxRecDepth 100000 in
theorem weekday_calls (n : Int) (w : World) :
    Calls Tryd.prog 17 #[.int .i64 n] w fun e w' => e = .returned (.int .i64 (wdI n)) ∧ w' = w := by
  obtain ⟨⟨h1, h2⟩, hw⟩ := wd_tmod n
  go_enter Tryd.func17, Tryd.ntmps17
  go_wp2
  go_ret
  simp
  omega

set_option maxRecDepth 100000 in
theorem weekdayR_calls (n : Int) (w : World) :
    Calls Tryd.prog 18 #[.int .i64 n] w fun e w' => e = .returned (.int .i64 (wdI n)) ∧ w' = w := by
  obtain ⟨hr, hw⟩ := wd_tmod n
  rw [hw]
  go_enter Tryd.func18, Tryd.ntmps18
  go_wp2
  all_goals (go_ret; simp_all)
  all_goals omega
end Go.Proofs.YtoegamcnhdlioaaDoor
