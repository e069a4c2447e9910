/- Seven days of a week. -/
import Derived.Test.YtnangpmnhcglcaaDoorGx
namespace Go.Proofs.YtnangpmnhcglcaaDoor
set_option linter.unusedVariables false

theorem wk_in {M F : Int} (i : Int) (h1 : 2 ≤ M) (h2 : M ≤ 3652046) (hf1 : 0 ≤ F) (hf2 : F ≤ 6) (hm : (M + 6 - F) % 7 = 0) (i1 : 0 ≤ i) (i2 : i ≤ 6) :
    wkY (M + i) F = yrI (M + 3) ∧ wkN (M + i) F = (M + 3 - fdI (yrI (M + 3))) / 7 + 1 := by
  have hmid : midI (M + i) F = M + 3 := by unfold midI wdI; omega
  have hc : 1 ≤ M + i ∧ M + i ≤ lastN ∧ 0 ≤ F ∧ F ≤ 6 := by unfold lastN; omega
  unfold wkY wkN
  rw [if_pos hc, if_pos hc, hmid]
  exact ⟨rfl, rfl⟩
theorem wk_in0 {M F : Int} (h1 : 2 ≤ M) (h2 : M ≤ 3652046) (hf1 : 0 ≤ F) (hf2 : F ≤ 6) (hm : (M + 6 - F) % 7 = 0) :
    wkY M F = yrI (M + 3) ∧ wkN M F = (M + 3 - fdI (yrI (M + 3))) / 7 + 1 := by
  have := wk_in 0 h1 h2 hf1 hf2 hm (by omega) (by omega)
  simpa using this
theorem wk_next {M F : Int} (h1 : 2 ≤ M) (h2 : M ≤ 3652046) (hf1 : 0 ≤ F) (hf2 : F ≤ 6) (hm : (M + 6 - F) % 7 = 0) :
    wkY (M + 7) F = yrI (M + 10) ∧ wkN (M + 7) F = (M + 10 - fdI (yrI (M + 10))) / 7 + 1 := by
  have hmid : midI (M + 7) F = M + 10 := by unfold midI wdI; omega
  have hc : 1 ≤ M + 7 ∧ M + 7 ≤ lastN ∧ 0 ≤ F ∧ F ≤ 6 := by unfold lastN; omega
  unfold wkY wkN
  rw [if_pos hc, if_pos hc, hmid]
  exact ⟨rfl, rfl⟩
theorem wk_laws {M F Y : Int} (h1 : 2 ≤ M) (h2 : M ≤ 3652046) (hf1 : 0 ≤ F) (hf2 : F ≤ 6) (hm : (M + 6 - F) % 7 = 0) (hY : yrI (M + 3) = Y) (y1 : 1 ≤ Y) (y2 : Y ≤ 9999) :
    1 ≤ (M + 3 - fdI Y) / 7 + 1 ∧ (M + 3 - fdI Y) / 7 + 1 ≤ wksI Y F ∧ (wksI Y F = 52 ∨ wksI Y F = 53) ∧
    (yrI (M + 10) = Y ∧ (M + 10 - fdI (yrI (M + 10))) / 7 + 1 = (M + 3 - fdI Y) / 7 + 1 + 1 ∧ (M + 3 - fdI Y) / 7 + 1 < wksI Y F ∨
     yrI (M + 10) = Y + 1 ∧ (M + 10 - fdI (yrI (M + 10))) / 7 + 1 = 1 ∧ (M + 3 - fdI Y) / 7 + 1 = wksI Y F) := by
  obtain ⟨a1, a2, a3, a4⟩ := yrI_spec (m := M + 3) (by omega) (by unfold lastN; omega)
  rw [hY] at a1 a2 a3 a4
  have hl := fdI_long y1
  have ll := leapI_01 Y
  have hw : wksI Y F = sevens (fdI Y - F + 3) (fdI (Y + 1) - F + 3) := if_pos ⟨y1, y2, hf1, hf2⟩
  rw [hw]
  unfold sevens
  by_cases hn : M + 10 < fdI (Y + 1)
  · have e : yrI (M + 10) = Y := yrI_eq (by omega) (by unfold lastN; omega) a1 (by omega) hn
    rw [e]
    generalize fdI Y = d at *
    generalize fdI (Y + 1) = d1 at *
    refine ⟨by omega, by omega, by omega, .inl ⟨rfl, by omega, by omega⟩⟩
  · have e : yrI (M + 10) = Y + 1 := by
      refine yrI_eq (by omega) (by unfold lastN; omega) (by omega) (by omega) ?_
      have h2 := fdI_long (y := Y + 1) (by omega)
      have l2 := leapI_01 (Y + 1)
      omega
    rw [e]
    generalize fdI Y = d at *
    generalize fdI (Y + 1) = d1 at *
    refine ⟨by omega, by omega, by omega, .inr ⟨rfl, by omega, by omega⟩⟩
end Go.Proofs.YtnangpmnhcglcaaDoor
