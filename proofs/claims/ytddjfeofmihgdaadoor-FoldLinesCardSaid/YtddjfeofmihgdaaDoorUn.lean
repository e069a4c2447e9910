/- Rows lead back: what their text's rows are. -/
import Derived.Test.YtddjfeofmihgdaaDoorUz
namespace Go.Proofs.YtddjfeofmihgdaaDoor
open Go.RowKit
set_option linter.unusedVariables false
set_option linter.unusedSimpArgs false

/-- Rows, each with the number of its first line. -/
def numbered : Nat → List BL → List (Nat × BL)
  | _, [] => []
  | k, r :: l => (k, r) :: numbered (k + (lines r).length) l
theorem numbered_length : ∀ (l : List BL) (k : Nat), (numbered k l).length = l.length
  | [], _ => rfl
  | r :: l, k => by rw [numbered, List.length_cons, numbered_length l, List.length_cons]
theorem mayN_ok {r : BL} (h : mayN r = 0) : r ≠ [] ∧ goesOn r = false ∧ (10 : UInt8) ∉ r ∧ (13 : UInt8) ∉ r ∧ r.length ≤ 5000 := by
  have h5 := mayN_small h
  unfold mayN at h
  rw [if_neg (by omega)] at h
  by_cases hb : hasEnd r = true ∨ r = [] ∨ goesOn r = true
  · rw [if_pos hb] at h; cases h
  · simp only [not_or, Bool.not_eq_true] at hb
    refine ⟨hb.2.1, hb.2.2, fun hm => ?_, fun hm => ?_, h5⟩
    · have : hasEnd r = true := List.any_eq_true.2 ⟨10, hm, rfl⟩
      rw [hb.1] at this; cases this
    · have : hasEnd r = true := List.any_eq_true.2 ⟨13, hm, rfl⟩
      rw [hb.1] at this; cases this
theorem foldN_all : ∀ (l : List BL) (k : Int), (foldN l k).2 = 0 → ∀ r ∈ l, mayN r = 0
  | [], _, _, r, hr => by cases hr
  | r :: l, k, h, q, hq => by
    rw [foldN] at h
    by_cases hr : mayN r = 0
    · rw [if_pos hr] at h
      rcases List.mem_cons.1 hq with rfl | hq
      · exact hr
      · exact foldN_all l _ h q hq
    · rw [if_neg hr] at h; exact absurd h hr
theorem goesOn_32 (r : BL) : goesOn (32 :: r) = true := rfl
theorem lines_length_pos (r : BL) (h : r ≠ []) : 1 ≤ (lines r).length := by
  obtain ⟨c, m, t, e, _⟩ := lines_shape r h
  rw [e]; simp
theorem unf_rows : ∀ (rows : List BL) (k : Nat) (d : List (Nat × BL)) (o : Option (Nat × BL)), (∀ r ∈ rows, mayN r = 0) → (d ++ o.toList).length + rows.length ≤ 1000 →
    unf (rows.flatMap lines) k d o = (0, 0, d ++ o.toList ++ numbered k rows)
  | [], k, d, o, _, _ => by simp [unf, numbered]
  | r :: rows, k, d, o, h, hn => by
    obtain ⟨h0, hg, _, _, h5⟩ := mayN_ok (h r List.mem_cons_self)
    obtain ⟨c, m, t, e, hc, ht, hr⟩ := lines_shape r h0
    have hgc : goesOn (c :: m) = false := by
      obtain ⟨c', r', rfl⟩ := List.exists_cons_of_ne_nil h0
      simp only [List.head?_cons, Option.some.injEq] at hc
      subst hc; exact hg
    rw [List.length_cons] at hn
    rw [List.flatMap_cons, e]
    show unf ((c :: m) :: (t ++ rows.flatMap lines)) k d o = _
    rw [unf_row (c :: m) t _ k d o r (by simp) hgc (fun l hl => by obtain ⟨q, rfl⟩ := ht l hl; rfl) hr h5 (by omega)]
    rw [unf_rows rows _ _ _ (fun q hq => h q (List.mem_cons_of_mem _ hq)) (by simp only [Option.toList_some, List.length_append, List.length_cons, List.length_nil] at *; omega)]
    rw [numbered, e, List.length_cons, show k + 1 + t.length = k + (t.length + 1) by omega]
    simp
theorem lines_plain (r : BL) (h : (10 : UInt8) ∉ r) : ∀ l ∈ lines r, (10 : UInt8) ∉ l := fun l hl hm => by
  rcases lns_mem r [] l hl 10 hm with h1 | h1 | h1
  · cases h1
  · exact h h1
  · revert h1; decide
/-- Rows are read from their text as they were. -/
theorem unfold_fold (rows : List BL) (h : ∀ r ∈ rows, mayN r = 0) (hn : rows.length ≤ 1000) : unfoldN (foldT rows) = (0, 0, numbered 1 rows) := by
  unfold unfoldN
  rw [foldT_ends]
  have hs := splitC_ends (rows.flatMap lines) (fun l hl => by
    obtain ⟨r, hr, hl⟩ := List.mem_flatMap.1 hl
    exact lines_plain r (mayN_ok (h r hr)).2.2.1 l hl) []
  rw [List.append_nil] at hs
  rw [hs, show splitC [] [] = [] from rfl, List.append_nil, unf_rows rows 1 [] none h (by simpa using hn)]
  rfl
theorem numbered_at : ∀ (l : List BL) (k i : Nat) (h : i < l.length) (h2 : i < (numbered k l).length), (numbered k l)[i].2 = l[i] ∧ k ≤ (numbered k l)[i].1
  | r :: l, k, 0, _, _ => ⟨rfl, Nat.le_refl _⟩
  | r :: l, k, i + 1, h, h2 => by
    have := numbered_at l (k + (lines r).length) i (by simpa using h) (by rw [numbered_length]; simpa using h)
    exact ⟨this.1, Nat.le_trans (Nat.le_add_right k _) this.2⟩
theorem numbered_rises : ∀ (l : List BL) (k i : Nat) (_ : ∀ r ∈ l, r ≠ []) (h1 : i + 1 < (numbered k l).length), (numbered k l)[i].1 < (numbered k l)[i + 1].1
  | [], k, i, _, h1 => by simp [numbered] at h1
  | [r], k, i, _, h1 => by simp [numbered] at h1
  | r :: q :: l, k, 0, hr, _ => by
    have := lines_length_pos r (hr r List.mem_cons_self)
    show k < k + (lines r).length
    omega
  | r :: q :: l, k, i + 1, hr, h1 => numbered_rises (q :: l) (k + (lines r).length) i (fun x hx => hr x (List.mem_cons_of_mem _ hx)) (by rw [numbered_length] at *; simpa using h1)
end Go.Proofs.YtddjfeofmihgdaaDoor
