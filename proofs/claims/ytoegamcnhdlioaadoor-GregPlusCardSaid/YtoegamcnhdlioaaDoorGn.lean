/- A day's number: number, Right, Number, YearDay. -/
import Derived.Test.YtoegamcnhdlioaaDoorGi
import Derived.Test.YtoegamcnhdlioaaDoorPast
import Derived.Deep.RegionWith
import Derived.Deep.QuietTactic
import Derived.BigQuiet
import Derived.Deep.Quiet
namespace Go.Proofs.YtoegamcnhdlioaaDoor
open Go.RowKit Go.Extern.Stop Go.Stop Go.Extern
set_option linter.unusedVariables false

abbrev iv (n : Int) : Value := .int .i64 n
/-- A day. -/
abbrev dayV (y m d : Int) : Value := .agg #[iv y, iv m, iv d]
/-- The variable errDay holds its error. -/
def Laid (x : Addr) (w : World) : Prop := w.cell? ⟨0, 0, none⟩ = some (errP x)
def numV (y m d : Int) : Int := if rightI y m d then numI y m d else 0

/-- A day lies in a block. -/
structure DayAt (w : World) (b : Nat) (y m d : Int) : Prop where
  c0 : w.cell? ⟨b, 0, none⟩ = some (iv y)
  c1 : w.cell? ⟨b, 1, none⟩ = some (iv m)
  c2 : w.cell? ⟨b, 2, none⟩ = some (iv d)
theorem DayAt.new (w : World) (t : TypeId) (y m d : Int) : DayAt (w.alloc (.cells #[iv y, iv m, iv d] t)) w.heap.size y m d :=
  ⟨by go_simp, by go_simp, by go_simp⟩
theorem DayAt.past {w : World} {b : Nat} {y m d : Int} (h : DayAt w b y m d) (k : Past w) : DayAt k.to b y m d :=
  ⟨Past.cell h.c0 k, Past.cell h.c1 k, Past.cell h.c2 k⟩

set_option maxRecDepth 100000 in
set_option maxHeartbeats 1000000 in
theorem number_right (y m d : Int) (h : rightI y m d) (w : World) :
    Calls Tryd.prog 30 #[dayV y m d] w fun e w' => e = .returned (.tuple #[iv (numI y m d), .nilIface]) ∧ Below w.heap.size w w' := by
  obtain ⟨h1, h2, h3, h4, h5, h6⟩ := rightI_in h
  have hd := h.2
  have hl := leapI_01 y
  have ha := aheadI_in (y := y) ⟨h1, by omega⟩
  obtain ⟨ha1, ha2⟩ := ha
  have hd1 : decide (d < 1) = false := by simp; omega
  have hdl : decide (longI y m < d) = false := by simp; omega
  unfold numI
  have A := DayAt.new w 23 y m d
  have a0 := fun k => (A.past k).c0
  have a1 := fun k => (A.past k).c1
  have a2 := fun k => (A.past k).c2
  go_enter Tryd.func30, Tryd.ntmps30
  go_wp2_with fail
  (refine region_past (by kernel_rfl) (by kernel_rfl) ?_; (repeat (first | go_big_quiet_skip | (go_big_quiet_want; go_big_quiet_op; first | go_big_quiet_on | (apply Exists.intro; refine ⟨fun k => ?_, ?_⟩; (focus (first | (go_at_call 11; refine Past.calls_same (long_calls _ _ _)))); go_big_quiet_on)))); refine wpQuiet_nil ?_; intro k)
  have B := A.past k
  obtain ⟨w1, b1⟩ := k
  clear a0 a1 a2
  have a0 := fun k => (B.past k).c0
  have a1 := fun k => (B.past k).c1
  have a2 := fun k => (B.past k).c2
  go_wp2_with fail
  (refine region_past (by kernel_rfl) (by kernel_rfl) ?_; (repeat (first | go_big_quiet_skip | (go_big_quiet_want; go_big_quiet_op; first | go_big_quiet_on | (apply Exists.intro; refine ⟨fun k => ?_, ?_⟩; (focus (first | (go_at_call 35; refine Past.calls_same (ahead_calls _ ⟨h1, by omega⟩ _)))); go_big_quiet_on)))); refine wpQuiet_nil ?_; intro k)
  have C := B.past k
  obtain ⟨w2, b2⟩ := k
  clear a0 a1 a2
  have c0 := C.c0
  have c1 := C.c1
  go_wp2_with fail
  go_loop [4, 5] (fun n k => ∃ j : Int, 1 ≤ j ∧ j ≤ m ∧ n = iv (aheadI y + d + cumI (leapI y) j) ∧ k = iv j) (fun _ k => (13 - intOf k).toNat)
  case atStart => exact ⟨1, by omega, by omega, by simp [cumI_one], rfl⟩
  case round =>
    obtain ⟨j, hj1, hjm, rfl, rfl⟩ := hrel
    have hc := cumI_le (m := j) hl ⟨hj1, by omega⟩
    have hL := longI_le y j
    obtain ⟨hc1, hc2⟩ := hc
    obtain ⟨hL1, hL2⟩ := hL
    by_cases hlt : j < m
    · have hs := cumI_step (y := y) (m := j) ⟨h1, h2⟩ ⟨hj1, by omega⟩
      go_wp2_with (go_at_call 11; refine (long_calls _ _ _).mono ?_; rintro e w' ⟨rfl, rfl⟩)
      go_round
      case rel => exact ⟨j + 1, by omega, by omega, by rw [hs]; congr 1; omega, rfl⟩
      case measure => simp [intOf]; omega
    · obtain rfl : j = m := by omega
      go_wp2
      go_ret2
      exact ⟨rfl, (((Below.refl _ w).alloc (Nat.le_refl _) _).trans (b1.mono (by simp))).trans (b2.mono (by have := b1.size; simp at this; omega))⟩

set_option maxRecDepth 100000 in
set_option maxHeartbeats 1000000 in
theorem number_wrong (x : Addr) (y m d : Int) (h : ¬ rightI y m d) (w : World) (hx : Laid x w) :
    Calls Tryd.prog 30 #[dayV y m d] w fun e w' => e = .returned (.tuple #[iv 0, errP x]) ∧ Below w.heap.size w w' := by
  unfold Laid at hx
  have hlt : 0 < w.heap.size := World.block_lt_of_cell? w _ hx
  have A := DayAt.new w 23 y m d
  have a0 := fun k => (A.past k).c0
  have a1 := fun k => (A.past k).c1
  have a2 := fun k => (A.past k).c2
  by_cases hd : d < 1
  · go_enter Tryd.func30, Tryd.ntmps30
    go_wp2_with fail
    (refine region_past (by kernel_rfl) (by kernel_rfl) ?_; (repeat (first | go_big_quiet_skip | (go_big_quiet_want; go_big_quiet_op; first | go_big_quiet_on | (apply Exists.intro; refine ⟨fun k => ?_, ?_⟩; (focus (first | fail)); go_big_quiet_on)))); refine wpQuiet_nil ?_; intro k)
    obtain ⟨w1, b1⟩ := k
    clear a0 a1 a2
    have hx1 : w1.cell? ⟨0, 0, none⟩ = some (errP x) := by rw [b1.cell (by simp <;> omega)]; go_simp
    have hx2 := Past.cell hx1
    go_wp2_with fail
    (refine region_past (by kernel_rfl) (by kernel_rfl) ?_; (repeat (first | go_big_quiet_skip | (go_big_quiet_want; go_big_quiet_op; first | go_big_quiet_on | (apply Exists.intro; refine ⟨fun k => ?_, ?_⟩; (focus (first | fail)); go_big_quiet_on)))); refine wpQuiet_nil ?_; intro k)
    obtain ⟨w2, b2⟩ := k
    go_wp2_with fail
    go_ret2
    exact ⟨rfl, (((Below.refl _ w).alloc (Nat.le_refl _) _).trans (b1.mono (by simp))).trans (b2.mono (by have := b1.size; simp at this; omega))⟩
  · have hd1 : decide (d < 1) = false := by simp; omega
    have hdl : longI y m < d := by unfold rightI at h; omega
    go_enter Tryd.func30, Tryd.ntmps30
    go_wp2_with fail
    (refine region_past (by kernel_rfl) (by kernel_rfl) ?_; (repeat (first | go_big_quiet_skip | (go_big_quiet_want; go_big_quiet_op; first | go_big_quiet_on | (apply Exists.intro; refine ⟨fun k => ?_, ?_⟩; (focus (first | (go_at_call 11; refine Past.calls_same (long_calls _ _ _)))); go_big_quiet_on)))); refine wpQuiet_nil ?_; intro k)
    obtain ⟨w1, b1⟩ := k
    clear a0 a1 a2
    have hx1 : w1.cell? ⟨0, 0, none⟩ = some (errP x) := by rw [b1.cell (by simp <;> omega)]; go_simp
    have hx2 := Past.cell hx1
    go_wp2_with fail
    (refine region_past (by kernel_rfl) (by kernel_rfl) ?_; (repeat (first | go_big_quiet_skip | (go_big_quiet_want; go_big_quiet_op; first | go_big_quiet_on | (apply Exists.intro; refine ⟨fun k => ?_, ?_⟩; (focus (first | fail)); go_big_quiet_on)))); refine wpQuiet_nil ?_; intro k)
    obtain ⟨w2, b2⟩ := k
    go_wp2_with fail
    go_ret2
    exact ⟨rfl, (((Below.refl _ w).alloc (Nat.le_refl _) _).trans (b1.mono (by simp))).trans (b2.mono (by have := b1.size; simp at this; omega))⟩
end Go.Proofs.YtoegamcnhdlioaaDoor
