/- Every number has its day; years of weeks. -/
import Derived.Test.YtoegamcnhdlioaaDoorGm
namespace Go.Proofs.YtoegamcnhdlioaaDoor
set_option linter.unusedVariables false

theorem year_ex (n : Int) (h1 : 1 ≤ n) : ∀ k : Nat, n ≤ aheadI ((k : Int) + 1) → ∃ y : Int, 1 ≤ y ∧ y ≤ k ∧ aheadI y < n ∧ n ≤ aheadI (y + 1)
  | 0, h => by
    have : aheadI ((0 : Nat) + 1 : Int) = 0 := by decide
    omega
  | k + 1, h => by
    by_cases hk : n ≤ aheadI ((k : Int) + 1)
    · obtain ⟨y, a, b, c, d⟩ := year_ex n h1 k hk
      exact ⟨y, a, by omega, c, d⟩
    · exact ⟨(k : Int) + 1, by omega, by omega, by omega, by simpa using h⟩
theorem month_ex (l d : Int) (hl : 0 ≤ l ∧ l ≤ 1) (h1 : 1 ≤ d) : ∀ k : Nat, k ≤ 12 → d ≤ cumI l ((k : Int) + 1) → ∃ m : Int, 1 ≤ m ∧ m ≤ k ∧ cumI l m < d ∧ d ≤ cumI l (m + 1)
  | 0, _, h => by
    have : cumI l ((0 : Nat) + 1 : Int) = 0 := rfl
    omega
  | k + 1, hk12, h => by
    by_cases hk : d ≤ cumI l ((k : Int) + 1)
    · obtain ⟨m, a, b, c, e⟩ := month_ex l d hl h1 k (by omega) hk
      exact ⟨m, a, by omega, c, e⟩
    · exact ⟨(k : Int) + 1, by omega, by omega, by omega, by simpa using h⟩
/-- The day of a number. -/
theorem day_ex {n : Int} (h1 : 1 ≤ n) (h2 : n ≤ lastN) : ∃ y m d, rightI y m d ∧ numI y m d = n ∧ ofI n = (y, m, d) := by
  obtain ⟨y, a, b, c, e⟩ := year_ex n h1 9999 (by have := aheadI_last; rw [show ((9999 : Nat) : Int) + 1 = 10000 from rfl, this]; exact h2)
  have hl := leapI_01 y
  have hs := aheadI_step y a
  obtain ⟨m, a', b', c', e'⟩ := month_ex (leapI y) (n - aheadI y) hl (by omega) 12 (by omega) (by
    rw [show ((12 : Nat) : Int) + 1 = 13 from rfl, cumI_13]; omega)
  have hm := cumI_step (y := y) (m := m) ⟨a, by omega⟩ ⟨a', by omega⟩
  have hr : rightI y m (n - aheadI y - cumI (leapI y) m) := ⟨by omega, by omega⟩
  have he : numI y m (n - aheadI y - cumI (leapI y) m) = n := by unfold numI; omega
  exact ⟨y, m, _, hr, he, ofI_eq hr he⟩

/-- The year of a number, be it a year too far. -/
noncomputable def yrI (m : Int) : Int := if m < 1 then 0 else if lastN < m then 10000 else (ofI m).1
theorem fdI_0 : fdI 0 = -365 := rfl
theorem fdI_pos {y : Int} (h : 1 ≤ y) : fdI y = aheadI y + 1 := if_neg (by omega)
theorem fdI_1 : fdI 1 = 1 := by decide
theorem fdI_last : fdI 10000 = lastN + 1 := by decide
theorem fdI_over : fdI 10001 = lastN + 367 := by decide
theorem fdI_mono {a b : Int} (ha : 0 ≤ a) (h : a ≤ b) : fdI a ≤ fdI b := by
  rcases Int.lt_or_le a 1 with h0 | h0
  · obtain rfl : a = 0 := by omega
    rcases Int.lt_or_le b 1 with k0 | k0
    · obtain rfl : b = 0 := by omega
      exact Int.le_refl _
    · rw [fdI_0, fdI_pos k0]
      have := aheadI_mono (a := 1) (b := b) (by omega) k0
      rw [aheadI_1] at this; omega
  · rw [fdI_pos h0, fdI_pos (by omega)]
    have := aheadI_mono h0 h; omega
theorem fd_unique {m a b : Int} (ha : 0 ≤ a) (hb : 0 ≤ b) (h1 : fdI a ≤ m) (h2 : m < fdI (a + 1)) (h3 : fdI b ≤ m) (h4 : m < fdI (b + 1)) : a = b := by
  rcases Int.lt_trichotomy a b with h | h | h
  · have := fdI_mono (a := a + 1) (b := b) (by omega) (by omega); omega
  · exact h
  · have := fdI_mono (a := b + 1) (b := a) (by omega) (by omega); omega
theorem yrI_spec {m : Int} (h1 : -365 ≤ m) (h2 : m ≤ lastN + 366) : 0 ≤ yrI m ∧ yrI m ≤ 10000 ∧ fdI (yrI m) ≤ m ∧ m < fdI (yrI m + 1) := by
  unfold yrI
  by_cases ha : m < 1
  · rw [if_pos ha, fdI_0]
    refine ⟨by omega, by omega, h1, ?_⟩
    show m < fdI 1
    rw [fdI_1]; exact ha
  · rw [if_neg ha]
    by_cases hb : lastN < m
    · rw [if_pos hb, fdI_last]
      refine ⟨by omega, by omega, by omega, ?_⟩
      show m < fdI 10001
      rw [fdI_over]; omega
    · rw [if_neg hb]
      obtain ⟨y, mo, d, hr, hn, ho⟩ := day_ex (n := m) (by omega) (by omega)
      rw [ho]
      obtain ⟨k1, k2, _⟩ := rightI_in hr
      have := numI_in hr
      show 0 ≤ y ∧ y ≤ 10000 ∧ fdI y ≤ m ∧ m < fdI (y + 1)
      rw [fdI_pos k1, fdI_pos (by omega)]
      omega
theorem yrI_eq {m a : Int} (h1 : -365 ≤ m) (h2 : m ≤ lastN + 366) (ha : 0 ≤ a) (k1 : fdI a ≤ m) (k2 : m < fdI (a + 1)) : yrI m = a := by
  obtain ⟨a1, a2, a3, a4⟩ := yrI_spec h1 h2
  exact fd_unique a1 ha a3 a4 k1 k2
theorem midI_in (n f : Int) : n - 3 ≤ midI n f ∧ midI n f ≤ n + 3 := by unfold midI; omega
theorem midI_mod (n f : Int) : (midI n f - f + 3) % 7 = 0 := by unfold midI wdI; omega
theorem fdI_long {y : Int} (h : 1 ≤ y) : fdI (y + 1) = fdI y + 365 + leapI y := by
  rw [fdI_pos h, fdI_pos (by omega), aheadI_step y h]; omega
theorem fd_span {y : Int} (h : 0 ≤ y) : fdI (y + 1) ≤ fdI y + 366 := by
  rcases Int.lt_or_le y 1 with h0 | h0
  · obtain rfl : y = 0 := by omega
    have := fdI_1; have := fdI_0; show fdI 1 ≤ fdI 0 + 366; omega
  · have := fdI_long h0; have := leapI_01 y; omega
/-- The week of a day: its year, its number. -/
noncomputable def wkY (n f : Int) : Int := if 1 ≤ n ∧ n ≤ lastN ∧ 0 ≤ f ∧ f ≤ 6 then yrI (midI n f) else 0
noncomputable def wkN (n f : Int) : Int := if 1 ≤ n ∧ n ≤ lastN ∧ 0 ≤ f ∧ f ≤ 6 then (midI n f - fdI (yrI (midI n f))) / 7 + 1 else 0
/-- How many multiples of seven there are from a up to ahead of b. -/
def sevens (a b : Int) : Int := (b + 6) / 7 - (a + 6) / 7
theorem sevens_step (a b : Int) : sevens a (b + 1) = sevens a b + (if b % 7 = 0 then 1 else 0) := by
  unfold sevens; split <;> omega
/-- How many weeks a year has. -/
def wksI (y f : Int) : Int := if 1 ≤ y ∧ y ≤ 9999 ∧ 0 ≤ f ∧ f ≤ 6 then sevens (fdI y - f + 3) (fdI (y + 1) - f + 3) else 0
theorem dec28 {y : Int} (hy : 1 ≤ y ∧ y ≤ 9999) : rightI y 12 28 ∧ numI y 12 28 = fdI (y + 1) - 4 := by
  have hl : longI y 12 = 31 := by rw [longI_ok hy ⟨by omega, by omega⟩]; rfl
  refine ⟨⟨by omega, by omega⟩, ?_⟩
  rw [fdI_pos (by omega), aheadI_step y hy.1]
  unfold numI; rw [cumI_12]; omega
theorem dec28_week {y f : Int} (hy : 1 ≤ y ∧ y ≤ 9999) (hf : 0 ≤ f ∧ f ≤ 6) : wkN (numI y 12 28) f = wksI y f := by
  obtain ⟨hr, hn⟩ := dec28 hy
  have hrange := numI_range hr
  have hm := midI_in (numI y 12 28) f
  have hmod := midI_mod (numI y 12 28) f
  have hlong := fdI_long hy.1
  have hl := leapI_01 y
  have hyr : yrI (midI (numI y 12 28) f) = y := by
    refine yrI_eq (by unfold lastN at *; omega) (by omega) (by omega) (by omega) ?_
    have : midI (numI y 12 28) f ≤ fdI (y + 1) - 1 := by omega
    omega
  unfold wkN wksI
  rw [if_pos ⟨hrange.1, hrange.2, hf.1, hf.2⟩, if_pos ⟨hy.1, hy.2, hf.1, hf.2⟩, hyr]
  unfold sevens
  generalize midI (numI y 12 28) f = m at *
  omega
theorem wks_bad {y f : Int} (h : ¬ (1 ≤ y ∧ y ≤ 9999 ∧ 0 ≤ f ∧ f ≤ 6)) : wksI y f = 0 := if_neg h
end Go.Proofs.YtoegamcnhdlioaaDoor
