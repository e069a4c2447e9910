/- Small functions of fold: whether a line goes on, why it can't be. -/
import Derived.Test.YtddjfeofmihgdaaDoorUe
import Derived.Test.YtddjfeofmihgdaaDoorShelf
import Derived.Test.YtddjfeofmihgdaaDoorUs
namespace Go.Proofs.YtddjfeofmihgdaaDoor
open Go.RowKit
set_option linter.unusedVariables false
set_option linter.unusedSimpArgs false

theorem u8f {c d : UInt8} (h : c ≠ d) : ((c.toNat : Int) == (d.toNat : Int)) = false := by
  rw [beq_eq_false_iff_ne]
  intro e
  exact h (UInt8.toNat_inj.1 (by omega))
theorem isEmpty_no {s : ByteArray} (h : bts s ≠ []) : s.toList.isEmpty = false := by
  rw [ByteArray.toList_eq]
  rcases hl : s.data.toList with _ | ⟨a, l⟩
  · exact absurd hl h
  · rfl
theorem isEmpty_yes {s : ByteArray} (h : bts s = []) : s.toList.isEmpty = true := by
  rw [ByteArray.toList_eq]; show (bts s).isEmpty = true; rw [h]; rfl
theorem size_zero {s : ByteArray} (h : s.size = 0) : s = ⟨#[]⟩ := ba_ext (by
  have : (bts s).length = 0 := by rw [bts_length]; exact h
  rw [List.length_eq_zero_iff.1 this])

set_option maxRecDepth 100000 in
theorem goesOn_calls (s : ByteArray) (w : World) (hs : s.size ≤ 9223372036854775807) :
    Calls Tryd.prog 29 #[.string s] w fun e w' => e = .returned (.bool (goesOn (bts s))) ∧ w = w' := by
  by_cases h0 : 0 < s.size
  · have en := isEmpty_no (s := s) (by intro e; have := congrArg List.length e; rw [bts_length, List.length_nil] at this; exact absurd this (Nat.pos_iff_ne_zero.1 h0))
    have hb : bts s = s[0] :: (bts s).drop 1 := by
      have := List.drop_eq_getElem_cons (l := bts s) (i := 0) (by rw [bts_length]; exact h0)
      rw [List.drop_zero] at this; exact this
    have HB := Lib.hid (show goesOn (bts s) = (s[0] == 32 || s[0] == 9) by rw [hb]; rfl)
    clear hb
    generalize hc : s[0] = c at *
    by_cases h32 : c = 32
    · subst h32
      go_enter Tryd.func29, Tryd.ntmps29
      go_wp2_with fail
      go_ret
      exact ⟨by rw [HB.out]; rfl, rfl⟩
    · have f32 : ((c.toNat : Int) == 32) = false := u8f (d := 32) h32
      by_cases h9 : c = 9
      · subst h9
        go_enter Tryd.func29, Tryd.ntmps29
        go_wp2_with fail
        go_ret
        exact ⟨by rw [HB.out]; rfl, rfl⟩
      · have f9 : ((c.toNat : Int) == 9) = false := u8f (d := 9) h9
        have E := Lib.hid (show (c == 32 || c == 9) = false by simp [h32, h9])
        clear h32 h9
        go_enter Tryd.func29, Tryd.ntmps29
        go_wp2_with fail
        go_ret
        exact ⟨by rw [HB.out, E.out]; rfl, rfl⟩
  · obtain rfl := size_zero (s := s) (by omega)
    go_enter Tryd.func29, Tryd.ntmps29
    go_wp2_with fail
    go_ret
    exact ⟨rfl, rfl⟩

/-- Why a line can't be, by its number; 0: it can. -/
def refusalN (more : Bool) (began bytes ahead : Int) : Int :=
  if more = true ∧ began = 0 then 11 else if 5000 < bytes then 4 else if more = false ∧ 0 < bytes ∧ ahead = 1000 then 5 else 0
def errK (n : Int) : Value := if n = 0 then .nilIface else errNo n
set_option maxRecDepth 100000 in
theorem refusal_calls (more : Bool) (began bytes ahead : Int) (w : World) :
    Calls Tryd.prog 30 #[.bool more, .int .i64 began, .int .i64 bytes, .int .i64 ahead] w fun e w' => e = .returned (errK (refusalN more began bytes ahead)) ∧ w = w' := by
  by_cases hb : began = 0
  · have b1 : (began == 0) = true := by simpa using hb
    rcases more with _ | _
    · by_cases hl : 5000 < bytes
      · rw [show refusalN false began bytes ahead = 4 by unfold refusalN; rw [if_neg (by simp), if_pos hl]]
        clear hb
        go_enter Tryd.func30, Tryd.ntmps30
        go_wp2_with fail
        go_ret
        exact ⟨rfl, rfl⟩
      · have hl' : bytes ≤ 5000 := by omega
        by_cases hp : 0 < bytes
        · by_cases ha : ahead = 1000
          · have a1 : (ahead == 1000) = true := by simpa using ha
            rw [show refusalN false began bytes ahead = 5 by unfold refusalN; rw [if_neg (by simp), if_neg hl, if_pos ⟨rfl, hp, ha⟩]]
            clear hb ha hl
            go_enter Tryd.func30, Tryd.ntmps30
            go_wp2_with fail
            go_ret
            exact ⟨rfl, rfl⟩
          · have a1 : (ahead == 1000) = false := by simpa using ha
            rw [show refusalN false began bytes ahead = 0 by unfold refusalN; rw [if_neg (by simp), if_neg hl, if_neg (by simp [ha])]]
            clear hb ha hl
            go_enter Tryd.func30, Tryd.ntmps30
            go_wp2_with fail
            go_ret
            exact ⟨rfl, rfl⟩
        · have hp' : bytes ≤ 0 := by omega
          rw [show refusalN false began bytes ahead = 0 by unfold refusalN; rw [if_neg (by simp), if_neg hl, if_neg (by simp [hp])]]
          clear hb hl hp
          go_enter Tryd.func30, Tryd.ntmps30
          go_wp2_with fail
          go_ret
          exact ⟨rfl, rfl⟩
    · rw [show refusalN true began bytes ahead = 11 by unfold refusalN; rw [if_pos ⟨rfl, hb⟩]]
      clear hb
      go_enter Tryd.func30, Tryd.ntmps30
      go_wp2_with fail
      go_ret
      exact ⟨rfl, rfl⟩
  · have b1 : (began == 0) = false := by simpa using hb
    by_cases hl : 5000 < bytes
    · rw [show refusalN more began bytes ahead = 4 by unfold refusalN; rw [if_neg (by simp [hb]), if_pos hl]]
      clear hb
      cases more
      all_goals
        go_enter Tryd.func30, Tryd.ntmps30
        go_wp2_with fail
        go_ret
        exact ⟨rfl, rfl⟩
    · have hl' : bytes ≤ 5000 := by omega
      rcases more with _ | _
      · by_cases hp : 0 < bytes
        · by_cases ha : ahead = 1000
          · have a1 : (ahead == 1000) = true := by simpa using ha
            rw [show refusalN false began bytes ahead = 5 by unfold refusalN; rw [if_neg (by simp), if_neg hl, if_pos ⟨rfl, hp, ha⟩]]
            clear hb ha hl
            go_enter Tryd.func30, Tryd.ntmps30
            go_wp2_with fail
            go_ret
            exact ⟨rfl, rfl⟩
          · have a1 : (ahead == 1000) = false := by simpa using ha
            rw [show refusalN false began bytes ahead = 0 by unfold refusalN; rw [if_neg (by simp), if_neg hl, if_neg (by simp [ha])]]
            clear hb ha hl
            go_enter Tryd.func30, Tryd.ntmps30
            go_wp2_with fail
            go_ret
            exact ⟨rfl, rfl⟩
        · have hp' : bytes ≤ 0 := by omega
          rw [show refusalN false began bytes ahead = 0 by unfold refusalN; rw [if_neg (by simp), if_neg hl, if_neg (by simp [hp])]]
          clear hb hl hp
          go_enter Tryd.func30, Tryd.ntmps30
          go_wp2_with fail
          go_ret
          exact ⟨rfl, rfl⟩
      · rw [show refusalN true began bytes ahead = 0 by unfold refusalN; rw [if_neg (by simp [hb]), if_neg hl, if_neg (by simp)]]
        clear hb hl
        go_enter Tryd.func30, Tryd.ntmps30
        go_wp2_with fail
        go_ret
        exact ⟨rfl, rfl⟩
end Go.Proofs.YtddjfeofmihgdaaDoor
