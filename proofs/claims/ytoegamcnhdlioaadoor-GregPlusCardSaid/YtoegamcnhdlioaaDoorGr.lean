/- Right, Number, YearDay: the program's, and the document's. -/
import Derived.Test.YtoegamcnhdlioaaDoorGn
import Derived.Deep.WholeRow
namespace Go.Proofs.YtoegamcnhdlioaaDoor
open Go.RowKit Go.Extern.Stop Go.Stop Go.Extern
set_option linter.unusedVariables false
set_option linter.unusedSimpArgs false

theorem Laid.lt {x : Addr} {w : World} (h : Laid x w) : 0 < w.heap.size := World.block_lt_of_cell? w _ h
theorem Laid.below {x : Addr} {w w' : World} (h : Laid x w) (b : Below w.heap.size w w') : Laid x w' := by
  have := h.lt
  unfold Laid at *
  rw [b.cell this]; exact h
theorem Laid.alloc {x : Addr} {w : World} (h : Laid x w) (o : Obj) : Laid x (w.alloc o) := h.below ((Below.refl _ w).alloc (Nat.le_refl _) o)
/-- Behind what was made at first. -/
theorem below_front {w w' : World} {o : Obj} (b : Below (w.alloc o).heap.size (w.alloc o) w') : Below w.heap.size w w' :=
  ((Below.refl _ w).alloc (Nat.le_refl _) o).trans (b.mono (by simp))
theorem below_then {w w' w'' : World} (b : Below w.heap.size w w') (c : Below w'.heap.size w' w'') : Below w.heap.size w w'' := b.trans (c.mono b.size)

theorem numI_small {y m d : Int} (h : rightI y m d) : 1 ≤ numI y m d ∧ numI y m d ≤ 3652059 := numI_range h

set_option maxRecDepth 100000 in
set_option maxHeartbeats 1000000 in
theorem right_calls (x : Addr) (y m d : Int) (w : World) (hx : Laid x w) :
    Calls Tryd.prog 9 #[dayV y m d] w fun e w' => e = .returned (.bool (decide (rightI y m d))) ∧ Below w.heap.size w w' := by
  have hx1 := hx.alloc (.cells #[iv y, iv m, iv d] 23)
  by_cases h : rightI y m d
  · rw [decide_eq_true h]
    go_enter Tryd.func9, Tryd.ntmps9
    go_wp2_with (first
      | (go_at_call 30; refine (number_right _ _ _ h _).mono ?_; rintro e w' ⟨rfl, hb⟩; have q : w'.cell? ⟨0, 0, none⟩ = some (errP x) := hx1.below hb)
      | (go_at_call 31; refine (is_nil x _).mono ?_; rintro e w' ⟨rfl, rfl⟩))
    go_ret
    exact ⟨rfl, below_front hb⟩
  · rw [decide_eq_false h]
    go_enter Tryd.func9, Tryd.ntmps9
    go_wp2_with (first
      | (go_at_call 30; refine (number_wrong x _ _ _ h _ hx1).mono ?_; rintro e w' ⟨rfl, hb⟩; have q : w'.cell? ⟨0, 0, none⟩ = some (errP x) := hx1.below hb)
      | (go_at_call 31; refine (is_same x _).mono ?_; rintro e w' ⟨rfl, rfl⟩))
    go_ret
    exact ⟨rfl, below_front hb⟩

set_option maxRecDepth 100000 in
set_option maxHeartbeats 1000000 in
theorem num_calls (x : Addr) (y m d : Int) (w : World) (hx : Laid x w) :
    Calls Tryd.prog 13 #[dayV y m d] w fun e w' => e = .returned (iv (numV y m d)) ∧ Below w.heap.size w w' := by
  have hx1 := hx.alloc (.cells #[iv y, iv m, iv d] 23)
  unfold numV
  by_cases h : rightI y m d
  · rw [if_pos h]
    go_enter Tryd.func13, Tryd.ntmps13
    go_wp2_with (go_at_call 30; refine (number_right _ _ _ h _).mono ?_; rintro e w' ⟨rfl, hb⟩)
    go_ret
    exact ⟨rfl, below_front hb⟩
  · rw [if_neg h]
    go_enter Tryd.func13, Tryd.ntmps13
    go_wp2_with (go_at_call 30; refine (number_wrong x _ _ _ h _ hx1).mono ?_; rintro e w' ⟨rfl, hb⟩)
    go_ret
    exact ⟨rfl, below_front hb⟩

/-- How manieth of its year a day is. -/
def doyV (y m d : Int) : Int := if rightI y m d then d + cumI (leapI y) m else 0

set_option maxRecDepth 100000 in
set_option maxHeartbeats 1000000 in
theorem yearDay_calls (x : Addr) (y m d : Int) (w : World) (hx : Laid x w) :
    Calls Tryd.prog 19 #[dayV y m d] w fun e w' => e = .returned (iv (doyV y m d)) ∧ Below w.heap.size w w' := by
  have hx1 := hx.alloc (.cells #[iv y, iv m, iv d] 23)
  unfold doyV
  by_cases h : rightI y m d
  · rw [if_pos h]
    obtain ⟨h1, h2, h3, h4, h5, h6⟩ := rightI_in h
    obtain ⟨n1, n2⟩ := numI_small h
    obtain ⟨a1, a2⟩ := aheadI_in (y := y) ⟨h1, by omega⟩
    have en : numI y m d - aheadI y = d + cumI (leapI y) m := by unfold numI; omega
    have A := DayAt.new w 23 y m d
    go_enter Tryd.func19, Tryd.ntmps19
    go_wp2_with (first
      | (go_at_call 30; refine (number_right _ _ _ h _).mono ?_; rintro e w' ⟨rfl, hb⟩; have q : w'.cell? ⟨0, 0, none⟩ = some (errP x) := hx1.below hb; have c0 := (A.past ⟨w', hb⟩).c0; dsimp only at c0)
      | (go_at_call 31; refine (is_nil x _).mono ?_; rintro e w' ⟨rfl, rfl⟩)
      | (go_at_call 35; refine (ahead_calls _ ⟨h1, by omega⟩ _).mono ?_; rintro e w' ⟨rfl, rfl⟩))
    go_ret
    exact ⟨by simp [en], below_front hb⟩
  · rw [if_neg h]
    go_enter Tryd.func19, Tryd.ntmps19
    go_wp2_with (first
      | (go_at_call 30; refine (number_wrong x _ _ _ h _ hx1).mono ?_; rintro e w' ⟨rfl, hb⟩; have q : w'.cell? ⟨0, 0, none⟩ = some (errP x) := hx1.below hb)
      | (go_at_call 31; refine (is_same x _).mono ?_; rintro e w' ⟨rfl, rfl⟩))
    go_ret
    exact ⟨rfl, below_front hb⟩

set_option maxRecDepth 100000 in
set_option maxHeartbeats 1000000 in
theorem rightR_calls (y m d : Int) (w : World) :
    Calls Tryd.prog 10 #[dayV y m d] w fun e w' => e = .returned (.bool (decide (rightI y m d))) ∧ Below w.heap.size w w' := by
  have A := DayAt.new w 23 y m d
  have a0 := fun k => (A.past k).c0
  have a1 := fun k => (A.past k).c1
  have a2 := fun k => (A.past k).c2
  by_cases hd : 1 ≤ d
  · have hd1 : decide (1 ≤ d) = true := by simp; omega
    have e : decide (rightI y m d) = decide (d ≤ longI y m) := by unfold rightI; simp [hd]
    rw [e]
    go_enter Tryd.func10, Tryd.ntmps10
    go_wp2_with fail
    (refine region_past (by kernel_rfl) (by kernel_rfl) ?_; (repeat (first | go_big_quiet_skip | (go_big_quiet_want; go_big_quiet_op; first | go_big_quiet_on | (apply Exists.intro; refine ⟨fun k => ?_, ?_⟩; (focus (first | (go_at_call 12; refine Past.calls (longR_calls _ _ _)))); go_big_quiet_on)))); refine wpQuiet_nil ?_; intro k)
    obtain ⟨w1, b1⟩ := k
    go_wp2_with fail
    go_ret
    exact ⟨by simp, below_front b1⟩
  · have hd1 : decide (1 ≤ d) = false := by simp; omega
    have e : decide (rightI y m d) = false := by unfold rightI; simp [hd]
    rw [e]
    go_enter Tryd.func10, Tryd.ntmps10
    go_wp2_with fail
    (refine region_past (by kernel_rfl) (by kernel_rfl) ?_; (repeat (first | go_big_quiet_skip | (go_big_quiet_want; go_big_quiet_op; first | go_big_quiet_on | (apply Exists.intro; refine ⟨fun k => ?_, ?_⟩; (focus (first | fail)); go_big_quiet_on)))); refine wpQuiet_nil ?_; intro k)
    obtain ⟨w1, b1⟩ := k
    go_wp2_with fail
    go_ret
    exact ⟨by simp, below_front b1⟩

set_option maxRecDepth 100000 in
set_option maxHeartbeats 1000000 in
theorem numR_calls (y m d : Int) (w : World) :
    Calls Tryd.prog 14 #[dayV y m d] w fun e w' => e = .returned (iv (numV y m d)) ∧ Below w.heap.size w w' := by
  have A := DayAt.new w 23 y m d
  unfold numV
  by_cases h : rightI y m d
  · rw [if_pos h]
    have hr : decide (rightI y m d) = true := decide_eq_true h
    obtain ⟨h1, h2, h3, h4, h5, h6⟩ := rightI_in h
    have hl := leapI_01 y
    obtain ⟨ha1, ha2⟩ := aheadI_in (y := y) ⟨h1, by omega⟩
    unfold numI
    go_enter Tryd.func14, Tryd.ntmps14
    go_wp2_with (go_at_call 10; refine (rightR_calls _ _ _ _).mono ?_; rw [hr]; rintro e w1 ⟨rfl, b1⟩)
    have B := A.past ⟨w1, b1⟩
    dsimp only at B
    have a0 := fun k => (B.past k).c0
    have a1 := fun k => (B.past k).c1
    have a2 := fun k => (B.past k).c2
    (refine region_past (by kernel_rfl) (by kernel_rfl) ?_; (repeat (first | go_big_quiet_skip | (go_big_quiet_want; go_big_quiet_op; first | go_big_quiet_on | (apply Exists.intro; refine ⟨fun k => ?_, ?_⟩; (focus (first | (go_at_call 34; refine Past.calls_same (aheadR_calls _ ⟨h1, by omega⟩ _)))); go_big_quiet_on)))); refine wpQuiet_nil ?_; intro k)
    have C := B.past k
    obtain ⟨w2, b2⟩ := k
    dsimp only at C
    clear a0 a1 a2
    go_wp2_with fail
    go_loopw [3, 4] (fun n k wr => ∃ j : Int, 1 ≤ j ∧ j ≤ m ∧ n = iv (aheadI y + d + cumI (leapI y) j) ∧ k = iv j ∧ Below w2.heap.size w2 wr) (fun _ k _ => (13 - intOf k).toNat)
    case atStart => exact ⟨1, by omega, by omega, by simp [cumI_one], rfl, Below.refl _ _⟩
    case round =>
      obtain ⟨j, hj1, hjm, rfl, rfl, hb⟩ := hrel
      have c0 := (C.past ⟨_, hb⟩).c0
      have c1 := (C.past ⟨_, hb⟩).c1
      dsimp only at c0 c1
      obtain ⟨hc1, hc2⟩ := cumI_le (m := j) hl ⟨hj1, by omega⟩
      obtain ⟨hL1, hL2⟩ := longI_le y j
      by_cases hlt : j < m
      · have hs := cumI_step (y := y) (m := j) ⟨h1, h2⟩ ⟨hj1, by omega⟩
        go_wp2_with (go_at_call 12; refine (longR_calls _ _ _).mono ?_; rintro e w' ⟨rfl, hb'⟩)
        go_roundw
        case rel => exact ⟨j + 1, by omega, by omega, by rw [hs]; congr 1; omega, rfl, below_then hb hb'⟩
        case measure => simp [intOf]; omega
      · obtain rfl : j = m := by omega
        go_wp2
        go_ret
        exact ⟨rfl, below_then (below_then (below_front b1) b2) hb⟩
  · rw [if_neg h]
    have hr : decide (rightI y m d) = false := decide_eq_false h
    go_enter Tryd.func14, Tryd.ntmps14
    go_wp2_with (go_at_call 10; refine (rightR_calls _ _ _ _).mono ?_; rw [hr]; rintro e w1 ⟨rfl, b1⟩)
    go_ret
    exact ⟨rfl, below_front b1⟩

/-- A day's row. -/
theorem past_row {w : World} {y m d : Int} {t : TypeId} (k : Past (w.alloc (.cells #[iv y, iv m, iv d] t))) : k.to.heap[w.heap.size]? = some (.cells #[iv y, iv m, iv d] t (0, 0)) :=
  Past.heap (heap_alloc_last w _) k

set_option maxRecDepth 100000 in
set_option maxHeartbeats 1000000 in
theorem yearDayR_calls (y m d : Int) (w : World) :
    Calls Tryd.prog 20 #[dayV y m d] w fun e w' => e = .returned (iv (doyV y m d)) ∧ Below w.heap.size w w' := by
  have A := DayAt.new w 23 y m d
  have hrow := @past_row w y m d 23
  unfold doyV
  by_cases h : rightI y m d
  · rw [if_pos h]
    have hr : decide (rightI y m d) = true := decide_eq_true h
    obtain ⟨h1, h2, h3, h4, h5, h6⟩ := rightI_in h
    obtain ⟨n1, n2⟩ := numI_small h
    obtain ⟨ha1, ha2⟩ := aheadI_in (y := y) ⟨h1, by omega⟩
    have en : numI y m d - aheadI y = d + cumI (leapI y) m := by unfold numI; omega
    have ev : numV y m d = numI y m d := if_pos h
    go_enter Tryd.func20, Tryd.ntmps20
    go_wp2_with (go_at_call 10; refine (rightR_calls _ _ _ _).mono ?_; rw [hr]; rintro e w1 ⟨rfl, b1⟩)
    have B := A.past ⟨w1, b1⟩
    have rB := fun k => Past.heap (hrow ⟨w1, b1⟩) k
    dsimp only at B rB
    have a0 := fun k => (B.past k).c0
    have a1 := fun k => (B.past k).c1
    have a2 := fun k => (B.past k).c2
    (refine region_past (by kernel_rfl) (by kernel_rfl) ?_; (repeat (first | go_big_quiet_skip | (go_big_quiet_want; go_big_quiet_op; first | go_big_quiet_on | (apply Exists.intro; refine ⟨fun k => ?_, ?_⟩; (focus (first | (go_at_call 34; refine Past.calls_same (aheadR_calls _ ⟨h1, by omega⟩ _)) | (go_at_call 14; refine Past.calls (ev ▸ numR_calls _ _ _ _)))); go_big_quiet_on)))); refine wpQuiet_nil ?_; intro k)
    obtain ⟨w2, b2⟩ := k
    go_wp2_with fail
    go_ret
    exact ⟨by simp [en], below_then (below_front b1) b2⟩
  · rw [if_neg h]
    have hr : decide (rightI y m d) = false := decide_eq_false h
    go_enter Tryd.func20, Tryd.ntmps20
    go_wp2_with (go_at_call 10; refine (rightR_calls _ _ _ _).mono ?_; rw [hr]; rintro e w1 ⟨rfl, b1⟩)
    go_ret
    exact ⟨rfl, below_front b1⟩
end Go.Proofs.YtoegamcnhdlioaaDoor
