/- The disk's struct: made, refusal, act, Limit, Size, Off. -/
import Derived.Test.YtoiaikgpaobefaaErr
import Derived.BigQuiet
import Derived.Deep.QuietTactic
import Derived.Lib.SmallJoins
namespace Go.Proofs.Ytoiaikgpaobefaa
open Go.RowKit Go.Extern.Stop Go.Stop Go.Extern

/-- The four cells of a disk. -/
def DCells (w : World) (b L M n : Nat) (left : Int) (off : Bool) : Prop :=
  w.heap[b]? = some (.cells #[.slice (some ⟨L, 0, none⟩) n n, .map (some M), .int .i64 left, .bool off] 73 (0, 0))

section
variable {w : World} {b L M n : Nat} {left : Int} {off : Bool}
theorem DCells.c0 (h : DCells w b L M n left off) : w.cell? ⟨b, 0, none⟩ = some (.slice (some ⟨L, 0, none⟩) n n) := by simp [World.cell?, show w.heap[b]? = _ from h]
theorem DCells.c1 (h : DCells w b L M n left off) : w.cell? ⟨b, 1, none⟩ = some (.map (some M)) := by simp [World.cell?, show w.heap[b]? = _ from h]
theorem DCells.c2 (h : DCells w b L M n left off) : w.cell? ⟨b, 2, none⟩ = some (.int .i64 left) := by simp [World.cell?, show w.heap[b]? = _ from h]
theorem DCells.c3 (h : DCells w b L M n left off) : w.cell? ⟨b, 3, none⟩ = some (.bool off) := by simp [World.cell?, show w.heap[b]? = _ from h]
theorem DCells.fr (h : DCells w b L M n left off) (i : Nat) : w.frozen? ⟨b, i, none⟩ = false := by simp [World.frozen?, show w.heap[b]? = _ from h]
end

/-- made: nil. -/
theorem made_nil (w : World) : Calls Try.prog 35 #[.pointer none] w fun e w' => e = .returned (.bool false) ∧ w = w' := by
  go_enter Try.func35, Try.ntmps35
  go_wp2
  go_ret
  exact ⟨rfl, rfl⟩

theorem made_any {w : World} {b L M n : Nat} {left : Int} {off : Bool} (h : DCells w b L M n left off) (hn : 0 < n) :
    Calls Try.prog 35 #[.pointer (some ⟨b, 0, none⟩)] w fun e w' => e = .returned (.bool true) ∧ w = w' := by
  have c0 := h.c0
  have hn' : decide ((0 : Int) < (n : Int)) = true := by simp; omega
  go_enter Try.func35, Try.ntmps35
  go_wp2
  go_ret
  exact ⟨rfl, rfl⟩

/-- An error by its number; 0: none. -/
def errV (n : Int) : Value := if n = 0 then .nilIface else errNo n
theorem errV_0 : errV 0 = .nilIface := rfl
theorem errV_pos {n : Int} (h : 1 ≤ n) : errV n = errNo n := by unfold errV; rw [if_neg (by omega)]

/-- No of an error by its number. -/
theorem no_errV (k : Int) (w : World) (h0 : 0 ≤ k) (h16 : k ≤ 16) : Calls Try.prog 11 #[errV k] w fun e w' => e = .returned (.int .i64 k) ∧ w' = w := by
  by_cases h : k = 0
  · subst h; exact no_nil w
  · rw [errV_pos (by omega)]; exact no_errno k w (by omega) h16

/-- No of an error by its number, whichever. -/
def noN (k : Int) : Int := if 0 ≤ k ∧ k ≤ 16 then k else -1
theorem no_any (k : Int) (w : World) : Calls Try.prog 11 #[errV k] w fun e w' => e = .returned (.int .i64 (noN k)) ∧ w = w' := by
  unfold noN
  by_cases h : 0 ≤ k ∧ k ≤ 16
  · rw [if_pos h]
    exact (no_errV k w h.1 h.2).mono fun e w' ⟨h1, h2⟩ => ⟨h1, h2.symm⟩
  · rw [if_neg h]
    have hv : errV k = errNo k := by unfold errV; rw [if_neg (by omega)]
    rw [hv]
    have hne : ∀ j : Int, 1 ≤ j → j ≤ 16 → (k == j) = false := fun j h1 h2 => by simp; omega
    have HN := Lib.hid hne
    clear hne hv
    go_enter Try.func11, Try.ntmps11
    go_wp2
    go_loop [3] (fun i => ∃ j : Int, 1 ≤ j ∧ j ≤ 17 ∧ i = .int .i64 j) (fun i => (17 - intOf i).toNat)
    case atStart => exact ⟨1, by omega, by omega, rfl⟩
    case round =>
      obtain ⟨j, hj1, hj2, rfl⟩ := hrel
      by_cases hj : j ≤ 16
      · have hq := HN.out j hj1 hj
        go_wp2_with (go_at_call 29; refine (is_errno _ _ _).mono ?_; rw [hq]; rintro e w' ⟨rfl, rfl⟩)
        go_round
        case rel => exact ⟨j + 1, by omega, by omega, rfl⟩
        case measure => simp [intOf]; omega
      · go_wp2
        go_ret
        exact ⟨rfl, rfl⟩

/-- What refuses a use of a disk: 0 writing, 1 reading, 2 flushing. -/
def refN (u : Int) (n : Nat) (off : Bool) (at_ bytes : Int) : Int :=
  if u = 0 ∧ bytes ≠ 256 then 2 else if u ≤ 1 ∧ (at_ < 0 ∨ (n : Int) ≤ at_) then 3 else if off then 9 else 0

theorem refN_bd (u : Int) (n : Nat) (off : Bool) (at_ bytes : Int) : 0 ≤ refN u n off at_ bytes ∧ refN u n off at_ bytes ≤ 16 := by
  unfold refN; repeat' split
  all_goals omega

theorem refusal_nil (u at_ bytes : Int) (w : World) : Calls Try.prog 39 #[.pointer none, .int .i64 u, .int .i64 at_, .int .i64 bytes] w fun e w' => e = .returned (errV 1) ∧ w = w' := by
  go_enter Try.func39, Try.ntmps39
  go_wp2_with (go_at_call 35; refine (made_nil _).mono ?_; rintro e w' ⟨rfl, rfl⟩)
  go_ret
  exact ⟨rfl, rfl⟩

set_option maxRecDepth 100000 in
theorem refusal_write {w : World} {b L M n : Nat} {left : Int} {off : Bool} (h : DCells w b L M n left off) (hn : 0 < n) (at_ bytes : Int) :
    Calls Try.prog 39 #[.pointer (some ⟨b, 0, none⟩), .int .i64 0, .int .i64 at_, .int .i64 bytes] w fun e w' => e = .returned (errV (refN 0 n off at_ bytes)) ∧ w = w' := by
  have c0 := h.c0
  have c3 := h.c3
  unfold refN
  by_cases hb : bytes = 256
  · subst hb
    by_cases h1 : at_ < 0
    · rw [if_neg (by omega), if_pos (by omega)]
      go_enter Try.func39, Try.ntmps39
      go_wp2_with (go_at_call 35; refine (made_any h hn).mono ?_; rintro e w' ⟨rfl, rfl⟩)
      go_ret
      exact ⟨rfl, rfl⟩
    · by_cases h2 : (n : Int) ≤ at_
      · rw [if_neg (by omega), if_pos (by omega)]
        go_enter Try.func39, Try.ntmps39
        go_wp2_with (go_at_call 35; refine (made_any h hn).mono ?_; rintro e w' ⟨rfl, rfl⟩)
        go_ret
        exact ⟨rfl, rfl⟩
      · rw [if_neg (by omega), if_neg (by omega)]
        cases off
        all_goals
          go_enter Try.func39, Try.ntmps39
          go_wp2_with (go_at_call 35; refine (made_any h hn).mono ?_; rintro e w' ⟨rfl, rfl⟩)
          go_ret
          exact ⟨rfl, rfl⟩
  · rw [if_pos ⟨rfl, hb⟩]
    go_enter Try.func39, Try.ntmps39
    go_wp2_with (go_at_call 35; refine (made_any h hn).mono ?_; rintro e w' ⟨rfl, rfl⟩)
    go_ret
    exact ⟨rfl, rfl⟩

set_option maxRecDepth 100000 in
theorem refusal_read {w : World} {b L M n : Nat} {left : Int} {off : Bool} (h : DCells w b L M n left off) (hn : 0 < n) (at_ bytes : Int) :
    Calls Try.prog 39 #[.pointer (some ⟨b, 0, none⟩), .int .i64 1, .int .i64 at_, .int .i64 bytes] w fun e w' => e = .returned (errV (refN 1 n off at_ bytes)) ∧ w = w' := by
  have c0 := h.c0
  have c3 := h.c3
  unfold refN
  rw [if_neg (by omega)]
  by_cases h1 : at_ < 0
  · rw [if_pos (by omega)]
    go_enter Try.func39, Try.ntmps39
    go_wp2_with (go_at_call 35; refine (made_any h hn).mono ?_; rintro e w' ⟨rfl, rfl⟩)
    go_ret
    exact ⟨rfl, rfl⟩
  · by_cases h2 : (n : Int) ≤ at_
    · rw [if_pos (by omega)]
      go_enter Try.func39, Try.ntmps39
      go_wp2_with (go_at_call 35; refine (made_any h hn).mono ?_; rintro e w' ⟨rfl, rfl⟩)
      go_ret
      exact ⟨rfl, rfl⟩
    · rw [if_neg (by omega)]
      cases off
      all_goals
        go_enter Try.func39, Try.ntmps39
        go_wp2_with (go_at_call 35; refine (made_any h hn).mono ?_; rintro e w' ⟨rfl, rfl⟩)
        go_ret
        exact ⟨rfl, rfl⟩

set_option maxRecDepth 100000 in
theorem refusal_flush {w : World} {b L M n : Nat} {left : Int} {off : Bool} (h : DCells w b L M n left off) (hn : 0 < n) (at_ bytes : Int) :
    Calls Try.prog 39 #[.pointer (some ⟨b, 0, none⟩), .int .i64 2, .int .i64 at_, .int .i64 bytes] w fun e w' => e = .returned (errV (refN 2 n off at_ bytes)) ∧ w = w' := by
  have c0 := h.c0
  have c3 := h.c3
  unfold refN
  rw [if_neg (by omega), if_neg (by omega)]
  cases off
  all_goals
    go_enter Try.func39, Try.ntmps39
    go_wp2_with (go_at_call 35; refine (made_any h hn).mono ?_; rintro e w' ⟨rfl, rfl⟩)
    go_ret
    exact ⟨rfl, rfl⟩

/-- An act beyond the limit. -/
theorem act_off {w : World} {b L M n : Nat} {off : Bool} (h : DCells w b L M n 0 off) :
    Calls Try.prog 40 #[.pointer (some ⟨b, 0, none⟩)] w fun e w' => e = .returned (errV 9) ∧ w.setCell ⟨b, 3, none⟩ (.bool true) = w' := by
  have c2 := h.c2
  have c3 := h.c3
  have f3 := h.fr 3
  go_enter Try.func40, Try.ntmps40
  go_wp2
  go_ret
  exact ⟨rfl, rfl⟩

/-- An act without limit. -/
theorem act_free {w : World} {b L M n : Nat} {left : Int} {off : Bool} (h : DCells w b L M n left off) (hl : left < 0) :
    Calls Try.prog 40 #[.pointer (some ⟨b, 0, none⟩)] w fun e w' => e = .returned (errV 0) ∧ w = w' := by
  have c2 := h.c2
  have h0 : (left == 0) = false := by simp; omega
  go_enter Try.func40, Try.ntmps40
  go_wp2
  go_ret
  exact ⟨rfl, rfl⟩

/-- An act within the limit. -/
theorem act_down {w : World} {b L M n : Nat} {left : Int} {off : Bool} (h : DCells w b L M n left off) (hl : 0 < left) (hm : left ≤ 9223372036854775807) :
    Calls Try.prog 40 #[.pointer (some ⟨b, 0, none⟩)] w fun e w' => e = .returned (errV 0) ∧ w.setCell ⟨b, 2, none⟩ (.int .i64 (left - 1)) = w' := by
  have c2 := h.c2
  have f2 := h.fr 2
  have h0 : (left == 0) = false := by simp; omega
  go_enter Try.func40, Try.ntmps40
  go_wp2
  go_ret
  exact ⟨rfl, rfl⟩

/-- Limit: of nil nothing. -/
theorem limit_nil (n : Int) (w : World) : Calls Try.prog 27 #[.pointer none, .int .i64 n] w fun e w' => e = .returned (.tuple #[]) ∧ w = w' := by
  go_enter Try.func27, Try.ntmps27
  go_wp2_with (go_at_call 35; refine (made_nil _).mono ?_; rintro e w' ⟨rfl, rfl⟩)
  go_end0
  exact ⟨rfl, rfl⟩

theorem limit_cells {w : World} {b L M n : Nat} {left : Int} {off : Bool} (h : DCells w b L M n left off) (hn : 0 < n) (x : Int) :
    Calls Try.prog 27 #[.pointer (some ⟨b, 0, none⟩), .int .i64 x] w fun e w' => e = .returned (.tuple #[]) ∧ w.setCell ⟨b, 2, none⟩ (.int .i64 x) = w' := by
  have c2 := h.c2
  have f2 := h.fr 2
  go_enter Try.func27, Try.ntmps27
  go_wp2_with (go_at_call 35; refine (made_any h hn).mono ?_; rintro e w' ⟨rfl, rfl⟩)
  go_end0
  exact ⟨rfl, rfl⟩

/-- Size. -/
theorem size_nil (w : World) : Calls Try.prog 16 #[.pointer none] w fun e w' => e = .returned (.int .i64 0) ∧ w = w' := by
  go_enter Try.func16, Try.ntmps16
  go_wp2_with (go_at_call 35; refine (made_nil _).mono ?_; rintro e w' ⟨rfl, rfl⟩)
  go_ret
  exact ⟨rfl, rfl⟩

theorem size_cells {w : World} {b L M n : Nat} {left : Int} {off : Bool} (h : DCells w b L M n left off) (hn : 0 < n) :
    Calls Try.prog 16 #[.pointer (some ⟨b, 0, none⟩)] w fun e w' => e = .returned (.int .i64 n) ∧ w = w' := by
  have c0 := h.c0
  go_enter Try.func16, Try.ntmps16
  go_wp2_with (go_at_call 35; refine (made_any h hn).mono ?_; rintro e w' ⟨rfl, rfl⟩)
  go_ret
  exact ⟨rfl, rfl⟩

/-- Off. -/
theorem off_nil (w : World) : Calls Try.prog 15 #[.pointer none] w fun e w' => e = .returned (.bool false) ∧ w = w' := by
  go_enter Try.func15, Try.ntmps15
  go_wp2_with (go_at_call 35; refine (made_nil _).mono ?_; rintro e w' ⟨rfl, rfl⟩)
  go_ret
  exact ⟨rfl, rfl⟩

theorem off_cells {w : World} {b L M n : Nat} {left : Int} {off : Bool} (h : DCells w b L M n left off) (hn : 0 < n) :
    Calls Try.prog 15 #[.pointer (some ⟨b, 0, none⟩)] w fun e w' => e = .returned (.bool off) ∧ w = w' := by
  have c3 := h.c3
  go_enter Try.func15, Try.ntmps15
  go_wp2_with (go_at_call 35; refine (made_any h hn).mono ?_; rintro e w' ⟨rfl, rfl⟩)
  go_ret
  exact ⟨rfl, rfl⟩

end Go.Proofs.Ytoiaikgpaobefaa
