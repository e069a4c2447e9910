/- Days as numbers: what the functions of days answer, and that a number's day is one. -/
import Derived.WalkKit
namespace Go.Proofs.YtoegamcnhdlioaaDoor
set_option linter.unusedVariables false

def leapI (y : Int) : Int := if y % 4 = 0 ∧ ¬ y % 100 = 0 ∨ y % 400 = 0 then 1 else 0
def longI (y m : Int) : Int := if y < 1 ∨ 9999 < y ∨ m < 1 ∨ 12 < m then 0 else if m = 4 ∨ m = 6 ∨ m = 9 ∨ m = 11 then 30 else if m = 2 then 28 + leapI y else 31
def aheadI (y : Int) : Int := (y - 1) * 365 + (y - 1) / 4 - (y - 1) / 100 + (y - 1) / 400
/-- How many days a year has ahead of a month. -/
def cumI (l m : Int) : Int := if m ≤ 2 then 31 * (m - 1) else (153 * (m - 3) + 2) / 5 + 59 + l
def rightI (y m d : Int) : Prop := 1 ≤ d ∧ d ≤ longI y m
instance (y m d : Int) : Decidable (rightI y m d) := inferInstanceAs (Decidable (_ ∧ _))
def numI (y m d : Int) : Int := aheadI y + d + cumI (leapI y) m
def lastN : Int := 3652059

theorem leapI_01 (y : Int) : 0 ≤ leapI y ∧ leapI y ≤ 1 := by unfold leapI; split <;> omega
theorem longI_ok {y m : Int} (hy : 1 ≤ y ∧ y ≤ 9999) (hm : 1 ≤ m ∧ m ≤ 12) : longI y m = if m = 4 ∨ m = 6 ∨ m = 9 ∨ m = 11 then 30 else if m = 2 then 28 + leapI y else 31 := by
  unfold longI; rw [if_neg (by omega)]
theorem longI_le (y m : Int) : 0 ≤ longI y m ∧ longI y m ≤ 31 := by
  have := leapI_01 y
  unfold longI; split <;> (try split) <;> (try split) <;> omega
theorem longI_28 {y m : Int} (hy : 1 ≤ y ∧ y ≤ 9999) (hm : 1 ≤ m ∧ m ≤ 12) : 28 ≤ longI y m := by
  have := leapI_01 y
  rw [longI_ok hy hm]; split <;> (try split) <;> omega
theorem rightI_in {y m d : Int} (h : rightI y m d) : 1 ≤ y ∧ y ≤ 9999 ∧ 1 ≤ m ∧ m ≤ 12 ∧ 1 ≤ d ∧ d ≤ 31 := by
  obtain ⟨h1, h2⟩ := h
  have h3 := (longI_le y m).2
  by_cases hb : y < 1 ∨ 9999 < y ∨ m < 1 ∨ 12 < m
  · unfold longI at h2; rw [if_pos hb] at h2; omega
  · omega
theorem cumI_step {y m : Int} (hy : 1 ≤ y ∧ y ≤ 9999) (hm : 1 ≤ m ∧ m ≤ 12) : cumI (leapI y) (m + 1) = cumI (leapI y) m + longI y m := by
  rw [longI_ok hy hm]
  unfold cumI
  have : m = 1 ∨ m = 2 ∨ m = 3 ∨ m = 4 ∨ m = 5 ∨ m = 6 ∨ m = 7 ∨ m = 8 ∨ m = 9 ∨ m = 10 ∨ m = 11 ∨ m = 12 := by omega
  rcases this with rfl | rfl | rfl | rfl | rfl | rfl | rfl | rfl | rfl | rfl | rfl | rfl <;> simp <;> omega
theorem cumI_one (l : Int) : cumI l 1 = 0 := rfl
theorem cumI_13 (l : Int) : cumI l 13 = 365 + l := by unfold cumI; simp
theorem cumI_12 (l : Int) : cumI l 12 = 334 + l := by unfold cumI; simp
theorem cumI_le {l m : Int} (hl : 0 ≤ l ∧ l ≤ 1) (hm : 1 ≤ m ∧ m ≤ 13) : 0 ≤ cumI l m ∧ cumI l m ≤ 366 := by
  unfold cumI; split <;> omega
theorem cumI_mono {y m k : Int} (hy : 1 ≤ y ∧ y ≤ 9999) (hm : 1 ≤ m) (hk : m < k) (h13 : k ≤ 13) : cumI (leapI y) m + longI y m ≤ cumI (leapI y) k := by
  have hl := leapI_01 y
  rw [← cumI_step hy ⟨hm, by omega⟩]
  unfold cumI
  split <;> split <;> omega
theorem aheadI_step (y : Int) (hy : 1 ≤ y) : aheadI (y + 1) = aheadI y + 365 + leapI y := by
  unfold aheadI leapI
  split <;> omega
theorem aheadI_mono {a b : Int} (ha : 1 ≤ a) (h : a ≤ b) : aheadI a ≤ aheadI b := by
  unfold aheadI; omega
theorem aheadI_1 : aheadI 1 = 0 := by decide
theorem aheadI_last : aheadI 10000 = lastN := by decide
theorem aheadI_in {y : Int} (h : 1 ≤ y ∧ y ≤ 10001) : 0 ≤ aheadI y ∧ aheadI y ≤ 3653000 := by unfold aheadI; omega

theorem numI_doy {y m d : Int} (h : rightI y m d) : 1 ≤ d + cumI (leapI y) m ∧ d + cumI (leapI y) m ≤ 365 + leapI y := by
  obtain ⟨h1, h2, h3, h4, h5, h6⟩ := rightI_in h
  have := cumI_mono (k := 13) ⟨h1, h2⟩ h3 (by omega) (by omega)
  rw [cumI_13] at this
  have h0 := (cumI_le (m := m) (leapI_01 y) ⟨h3, by omega⟩).1
  have := h.2
  omega
theorem numI_in {y m d : Int} (h : rightI y m d) : aheadI y < numI y m d ∧ numI y m d ≤ aheadI (y + 1) := by
  obtain ⟨h1, h2, h3, h4, h5, h6⟩ := rightI_in h
  have := numI_doy h
  rw [aheadI_step y h1]
  unfold numI
  omega
theorem numI_range {y m d : Int} (h : rightI y m d) : 1 ≤ numI y m d ∧ numI y m d ≤ lastN := by
  obtain ⟨h1, h2, h3, h4, h5, h6⟩ := rightI_in h
  have := numI_in h
  have a := aheadI_mono (by omega) h1
  have b := aheadI_mono (a := y + 1) (b := 10000) (by omega) (by omega)
  rw [aheadI_1] at a
  rw [aheadI_last] at b
  omega
theorem year_eq {n a b : Int} (ha : 1 ≤ a) (hb : 1 ≤ b) (h1 : aheadI a < n) (h2 : n ≤ aheadI (a + 1)) (h3 : aheadI b < n) (h4 : n ≤ aheadI (b + 1)) : a = b := by
  rcases Int.lt_trichotomy a b with h | h | h
  · have := aheadI_mono (a := a + 1) (b := b) (by omega) (by omega); omega
  · exact h
  · have := aheadI_mono (a := b + 1) (b := a) (by omega) (by omega); omega
theorem numI_inj {y m d y' m' d' : Int} (h : rightI y m d) (h' : rightI y' m' d') (he : numI y m d = numI y' m' d') : y = y' ∧ m = m' ∧ d = d' := by
  obtain ⟨h1, h2, h3, h4, h5, h6⟩ := rightI_in h
  obtain ⟨k1, k2, k3, k4, k5, k6⟩ := rightI_in h'
  have a := numI_in h
  have b := numI_in h'
  have e := year_eq (n := numI y m d) h1 k1 a.1 a.2 (by omega) (by omega)
  subst e
  unfold numI at he
  have := h.2
  have := h'.2
  rcases Int.lt_trichotomy m m' with hm | hm | hm
  · have := cumI_mono (y := y) (k := m') ⟨h1, h2⟩ h3 hm (by omega); omega
  · subst hm; exact ⟨rfl, rfl, by omega⟩
  · have := cumI_mono (y := y) (k := m) ⟨h1, h2⟩ k3 hm (by omega); omega

/-! ### the day of a number -/
open Classical in
noncomputable def ofI (n : Int) : Int × Int × Int :=
  if h : ∃ t : Int × Int × Int, rightI t.1 t.2.1 t.2.2 ∧ numI t.1 t.2.1 t.2.2 = n then Classical.choose h else (0, 0, 0)
theorem ofI_eq {n y m d : Int} (h : rightI y m d) (he : numI y m d = n) : ofI n = (y, m, d) := by
  unfold ofI
  have hx : ∃ t : Int × Int × Int, rightI t.1 t.2.1 t.2.2 ∧ numI t.1 t.2.1 t.2.2 = n := ⟨(y, m, d), h, he⟩
  rw [dif_pos hx]
  have hc := Classical.choose_spec hx
  obtain ⟨e1, e2, e3⟩ := numI_inj hc.1 h (hc.2.trans he.symm)
  exact Prod.ext e1 (Prod.ext e2 e3)
theorem ofI_zero {n : Int} (h : n < 1 ∨ lastN < n) : ofI n = (0, 0, 0) := by
  unfold ofI
  rw [dif_neg]
  rintro ⟨t, h1, h2⟩
  have := numI_range h1
  omega
/-- A year that has the number, and a month that has what is left. -/
theorem ofI_of {n y m d : Int} (hy : 1 ≤ y ∧ y ≤ 9999) (hm : 1 ≤ m ∧ m ≤ 12) (h1 : 1 ≤ d) (h2 : d ≤ longI y m) (he : aheadI y + d + cumI (leapI y) m = n) : ofI n = (y, m, d) :=
  ofI_eq ⟨h1, h2⟩ he

/-! ### weekdays, weeks -/
def wdI (n : Int) : Int := (n + 6) % 7
/-- The number of a year's first day, of the years from 0 to 10001. -/
def fdI (y : Int) : Int := if y = 0 then -365 else aheadI y + 1
def midI (n f : Int) : Int := n - (wdI n - f) % 7 + 3

/-! ### quotients -/
theorem tdm (x : Int) (k : Int) (hk : 0 < k) : x = k * x.tdiv k + x.tmod k ∧ (0 ≤ x → 0 ≤ x.tmod k ∧ x.tmod k < k ∧ x.tdiv k = x / k ∧ x.tmod k = x % k) ∧ (x ≤ 0 → x.tmod k ≤ 0 ∧ -k < x.tmod k) := by
  refine ⟨(Int.mul_tdiv_add_tmod x k).symm, fun h => ⟨Int.tmod_nonneg k h, Int.tmod_lt_of_pos x hk, Int.tdiv_eq_ediv_of_nonneg h, Int.tmod_eq_emod_of_nonneg h⟩, fun h => ?_⟩
  have h1 : (-x).tmod k = -(x.tmod k) := Int.neg_tmod ..
  have h2 := Int.tmod_nonneg k (a := -x) (by omega)
  have h3 := Int.tmod_lt_of_pos (-x) hk
  omega
end Go.Proofs.YtoegamcnhdlioaaDoor
