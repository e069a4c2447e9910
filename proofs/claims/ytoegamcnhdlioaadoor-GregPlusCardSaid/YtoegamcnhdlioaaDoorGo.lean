/- Of: the day of a number, the program's and the document's. -/
import Derived.Test.YtoegamcnhdlioaaDoorGr
import Derived.Laws.Rows
namespace Go.Proofs.YtoegamcnhdlioaaDoor
open Go.RowKit Go.Extern.Stop Go.Stop Go.Extern
set_option linter.unusedVariables false
set_option linter.unusedSimpArgs false

/-- The day of a number, as a value. -/
noncomputable abbrev dayO (n : Int) : Value := dayV (ofI n).1 (ofI n).2.1 (ofI n).2.2
theorem dayO_zero {n : Int} (h : n < 1 ∨ lastN < n) : dayO n = dayV 0 0 0 := by unfold dayO; rw [ofI_zero h]
theorem dayO_of {n y m d : Int} (h : rightI y m d) (he : numI y m d = n) : dayO n = dayV y m d := by unfold dayO; rw [ofI_eq h he]

theorem year_start {n k : Int} (h1 : 1 ≤ n) (h2 : n ≤ 3652059) (hk : k = (n - 1) * 400 / 146097) : 0 ≤ k ∧ k ≤ 9998 ∧ aheadI (k + 1) < n := by
  unfold aheadI; omega
theorem year_startR {n k : Int} (h1 : 1 ≤ n) (h2 : n ≤ 3652059) (hk : k = (n - 1) / 366) : 0 ≤ k ∧ k ≤ 9998 ∧ aheadI (k + 1) < n := by
  unfold aheadI; omega
theorem year_end {n y : Int} (hy : 1 ≤ y ∧ y ≤ 9999) (h2 : n ≤ 3652059) (h : y = 9999 ∨ n ≤ aheadI (y + 1)) : n ≤ aheadI (y + 1) := by
  rcases h with rfl | h
  · have := aheadI_last; unfold lastN at this; rw [show (9999 : Int) + 1 = 10000 from rfl, this]; exact h2
  · exact h

theorem ret_day {fn : Func} {p : Tmp} (h : fn.results = #[.cell p 23]) (tmps : Array Value) (w : World) (g : Nat) (y m d : Int) (fr : Nat × Nat)
    (hp : tmps.getD p undef = .pointer (some ⟨g, 0, none⟩)) (hg : w.heap[g]? = some (.cells #[iv y, iv m, iv d] 23 fr)) : (results fn tmps).run Tryd.prog w = .ok (dayV y m d) w :=
  results_cell_row h tmps w g _ _ fr _ hp hg Tryd.underlying23 rfl (by kernel_rfl)

theorem row_set {w : World} {b i : Nat} {cs : Array Value} {t : TypeId} {fr : Nat × Nat} (v : Value) (h : w.heap[b]? = some (.cells cs t fr)) : (w.setCell ⟨b, i, none⟩ v).heap[b]? = some (.cells (cs.setIfInBounds i v) t fr) := by
  simp [World.setCell, Array.getElem?_modify, h]
theorem row_other {w : World} {b b' i : Nat} {o : Obj} (v : Value) (hb : b' ≠ b) (h : w.heap[b]? = some o) : (w.setCell ⟨b', i, none⟩ v).heap[b]? = some o := by
  rw [Below.heap_setCell _ _ _ _ (Ne.symm hb)]; exact h
theorem setRow_same {w : World} {g : Nat} {old : Array Value} {t : TypeId} {fr : Nat × Nat} (cs : Array Value) (h : w.heap[g]? = some (.cells old t fr)) : (w.setRow g cs).heap[g]? = some (.cells cs t fr) := by
  simp [World.setRow, Array.getElem?_modify, h]
theorem below_setRow {w wr : World} (h : Below w.heap.size w wr) {cs : Array Value} : Below w.heap.size w (wr.setRow w.heap.size cs) :=
  ⟨h.os, h.tape, h.output, by rw [size_setRow]; exact h.size, fun k hk => by rw [setRow_other _ _ _ _ (by omega)]; exact h.block k hk⟩
def cellInt (w : World) (p : Addr) : Int := match w.cell? p with | some v => intOf v | none => 0
theorem cellInt_of {w : World} {p : Addr} {x : Int} (h : w.cell? p = some (iv x)) : cellInt w p = x := by unfold cellInt; rw [h]; rfl
/-- Of's two days: the answer's place, and the one that is reckoned with. -/
structure OfAt (w wr : World) (y mo da : Int) : Prop where
  row0 : wr.heap[w.heap.size]? = some (.cells #[iv 0, iv 0, iv 0] 23 (0, 0))
  row1 : wr.heap[w.heap.size + 1]? = some (.cells #[iv y, iv mo, iv da] 23 (0, 0))
  below : Below w.heap.size w wr
theorem OfAt.day {w wr : World} {y mo da : Int} (h : OfAt w wr y mo da) : DayAt wr (w.heap.size + 1) y mo da :=
  ⟨by rw [cell_of_row wr _ 0 _ _ _ h.row1]; rfl, by rw [cell_of_row wr _ 1 _ _ _ h.row1]; rfl, by rw [cell_of_row wr _ 2 _ _ _ h.row1]; rfl⟩
theorem OfAt.past {w wr : World} {y mo da : Int} (h : OfAt w wr y mo da) (k : Past wr) : OfAt w k.to y mo da :=
  ⟨Past.heap h.row0 k, Past.heap h.row1 k, h.below.trans (k.below.mono h.below.size)⟩
theorem OfAt.set1 {w wr : World} {y mo da : Int} (h : OfAt w wr y mo da) (x : Int) : OfAt w (wr.setCell ⟨w.heap.size + 1, 1, none⟩ (iv x)) y x da :=
  ⟨row_other _ (by omega) h.row0, by rw [row_set _ h.row1]; rfl, h.below.setCell (by simp) _⟩
theorem OfAt.set2 {w wr : World} {y mo da : Int} (h : OfAt w wr y mo da) (x : Int) : OfAt w (wr.setCell ⟨w.heap.size + 1, 2, none⟩ (iv x)) y mo x :=
  ⟨row_other _ (by omega) h.row0, by rw [row_set _ h.row1]; rfl, h.below.setCell (by simp) _⟩
theorem OfAt.new (w : World) (y mo da : Int) : OfAt w ((w.alloc (.cells #[iv 0, iv 0, iv 0] 23)).alloc (.cells #[iv y, iv mo, iv da] 23)) y mo da := by
  refine ⟨?_, ?_, ((Below.refl _ w).alloc (Nat.le_refl _) _).alloc (by simp) _⟩
  · rw [Below.heap_alloc _ _ _ (by simp)]; exact heap_alloc_last w _
  · have := heap_alloc_last (w.alloc (.cells #[iv 0, iv 0, iv 0] 23)) (.cells #[iv y, iv mo, iv da] 23)
    simpa using this

set_option maxRecDepth 100000 in
set_option maxHeartbeats 2000000 in
theorem of_calls (n : Int) (w : World) :
    Calls Tryd.prog 15 #[iv n] w fun e w' => e = .returned (dayO n) ∧ Below w.heap.size w w' := by
  by_cases hn : n < 1 ∨ 3652059 < n
  · rw [dayO_zero hn]
    go_enter Tryd.func15, Tryd.ntmps15
    go_wp2
    all_goals first
      | omega
      | (try simp only [Exit.inBlock, Exit.then]
         exact bodyPost_ret (ret_day rfl _ _ w.heap.size 0 0 0 (0, 0) rfl (heap_alloc_last w _)) rfl ⟨rfl, (Below.refl _ w).alloc (Nat.le_refl _) _⟩)
  · have hn1 : 1 ≤ n := by omega
    have hn2 : n ≤ 3652059 := by omega
    clear hn
    go_enter Tryd.func15, Tryd.ntmps15
    go_wp2_with fail
    obtain ⟨k1, k2, k3⟩ := year_start (k := (n - 1) * 400 / 146097) hn1 hn2 rfl
    generalize (n - 1) * 400 / 146097 = q at *
    go_loop [3] (fun v => ∃ y : Int, 1 ≤ y ∧ y ≤ 9999 ∧ aheadI y < n ∧ v = iv y) (fun v => (9999 - intOf v).toNat)
    case atStart => exact ⟨q + 1, by omega, by omega, k3, rfl⟩
    case round =>
      obtain ⟨y, hy1, hy2, hy3, rfl⟩ := hrel
      clear k1 k2 k3
      by_cases hy : y < 9999
      · by_cases hlt : aheadI (y + 1) < n
        · go_wp2_with (go_at_call 35; refine (ahead_calls _ ⟨by omega, by omega⟩ _).mono ?_; rintro e w' ⟨rfl, rfl⟩)
          go_round
          case rel => exact ⟨y + 1, by omega, by omega, hlt, rfl⟩
          case measure => simp [intOf]; omega
        · have hend := year_end ⟨hy1, hy2⟩ hn2 (.inr (by omega))
          obtain ⟨ha1, ha2⟩ := aheadI_in (y := y) ⟨hy1, by omega⟩
          have I0 := OfAt.new w y 1 (n - aheadI y)
          have hl := leapI_01 y
          have hst := aheadI_step y hy1
          go_wp2_with (go_at_call 35; refine (ahead_calls _ ⟨by omega, by omega⟩ _).mono ?_; rintro e w' ⟨rfl, rfl⟩)
          go_loopw [41] (fun _ wr => ∃ mo da : Int, 1 ≤ mo ∧ mo ≤ 12 ∧ 1 ≤ da ∧ da ≤ 366 ∧ aheadI y + da + cumI (leapI y) mo = n ∧ OfAt w wr y mo da) (fun _ wr => (13 - cellInt wr ⟨w.heap.size + 1, 1, none⟩).toNat)
          case atStart => exact ⟨1, n - aheadI y, by omega, by omega, by omega, by omega, by rw [cumI_one]; omega, I0⟩
          case round =>
            obtain ⟨mo, da, hm1, hm2, hd1, hd2, hsum, I⟩ := hrel
            have hL := longI_28 (y := y) (m := mo) ⟨hy1, hy2⟩ ⟨hm1, hm2⟩
            obtain ⟨hL1, hL2⟩ := longI_le y mo
            have hs := cumI_step (y := y) (m := mo) ⟨hy1, hy2⟩ ⟨hm1, hm2⟩
            have a0 := fun k => (I.past k).day.c0
            have a1 := fun k => (I.past k).day.c1
            have a2 := fun k => (I.past k).day.c2
            go_wp2_with fail
            (refine region_past (by kernel_rfl) (by kernel_rfl) ?_; (repeat (first | go_big_quiet_skip | (go_big_quiet_want; go_big_quiet_op; first | go_big_quiet_on | (apply Exists.intro; refine ⟨fun k => ?_, ?_⟩; (focus (first | (go_at_call 11; refine Past.calls_same (long_calls _ _ _)))); go_big_quiet_on)))); refine wpQuiet_nil ?_; intro k)
            have J := I.past k
            generalize k.to = w1 at *
            clear a0 a1 a2 k
            by_cases hlong : longI y mo < da
            · have hm12 : mo < 12 := by
                rcases Int.lt_or_le mo 12 with h | h
                · exact h
                · obtain rfl : mo = 12 := by omega
                  rw [cumI_12] at hsum
                  have : longI y 12 = 31 := by rw [longI_ok ⟨hy1, hy2⟩ ⟨by omega, by omega⟩]; rfl
                  omega
              have a0 := J.day.c0
              have a1 := J.day.c1
              have a2 := J.day.c2
              have f1 := frozen_of_row w1 _ 1 _ _ J.row1
              have f2 := frozen_of_row w1 _ 2 _ _ J.row1
              go_wp2_with fail
              go_region_with (go_at_call 11; refine (long_calls _ _ _).mono ?_; rintro e w' ⟨rfl, rfl⟩)
              all_goals
                have c1 := J.day.c1
                go_wp2_with fail
                go_roundw
                case rel =>
                  refine ⟨mo + 1, da - longI y mo, by omega, by omega, by omega, by omega, by rw [hs]; omega, ?_⟩
                  have J2 := ((OfAt.set2 (J.past ⟨w1.drew, (Below.refl _ _).drew⟩) (da - longI y mo)).set1 (mo + 1))
                  exact J2
                case measure =>
                  have J2 := ((OfAt.set2 (J.past ⟨w1.drew, (Below.refl _ _).drew⟩) (da - longI y mo)).set1 (mo + 1))
                  refine Nat.lt_of_le_of_lt (Nat.le_of_eq (congrArg (fun x : Int => (13 - x).toNat) (cellInt_of J2.day.c1))) ?_
                  rw [cellInt_of I.day.c1]
                  omega
            · have r0 := J.row0
              have a0 := J.day.c0
              have a1 := J.day.c1
              have a2 := J.day.c2
              have z0 : w1.cell? ⟨w.heap.size, 0, none⟩ = some (iv 0) := by rw [cell_of_row w1 _ 0 _ _ _ r0]; rfl
              have z1 : w1.cell? ⟨w.heap.size, 1, none⟩ = some (iv 0) := by rw [cell_of_row w1 _ 1 _ _ _ r0]; rfl
              have z2 : w1.cell? ⟨w.heap.size, 2, none⟩ = some (iv 0) := by rw [cell_of_row w1 _ 2 _ _ _ r0]; rfl
              have y0 := frozen_of_row w1 _ 0 _ _ r0
              have y1 := frozen_of_row w1 _ 1 _ _ r0
              have y2 := frozen_of_row w1 _ 2 _ _ r0
              have hfin := row_set (i := 2) (iv da) (row_set (i := 1) (iv mo) (row_set (i := 0) (iv y) r0))
              have HF := Lib.hid hfin
              clear r0 hfin
              go_wp2_with fail
              try simp only [Exit.inBlock, Exit.then]
              have hr : rightI y mo da := ⟨hd1, by omega⟩
              rw [dayO_of hr (by unfold numI; omega)]
              exact bodyPost_ret (ret_day rfl _ _ w.heap.size y mo da (0, 0) rfl HF.out) rfl ⟨rfl, ((J.below.setCell (Nat.le_refl _) _).setCell (Nat.le_refl _) _).setCell (Nat.le_refl _) _⟩
      · have hend := year_end ⟨hy1, hy2⟩ hn2 (.inl (by omega))
        obtain ⟨ha1, ha2⟩ := aheadI_in (y := y) ⟨hy1, by omega⟩
        have I0 := OfAt.new w y 1 (n - aheadI y)
        have hl := leapI_01 y
        have hst := aheadI_step y hy1
        go_wp2_with (go_at_call 35; refine (ahead_calls _ ⟨by omega, by omega⟩ _).mono ?_; rintro e w' ⟨rfl, rfl⟩)
        go_loopw [41] (fun _ wr => ∃ mo da : Int, 1 ≤ mo ∧ mo ≤ 12 ∧ 1 ≤ da ∧ da ≤ 366 ∧ aheadI y + da + cumI (leapI y) mo = n ∧ OfAt w wr y mo da) (fun _ wr => (13 - cellInt wr ⟨w.heap.size + 1, 1, none⟩).toNat)
        case atStart => exact ⟨1, n - aheadI y, by omega, by omega, by omega, by omega, by rw [cumI_one]; omega, I0⟩
        case round =>
          obtain ⟨mo, da, hm1, hm2, hd1, hd2, hsum, I⟩ := hrel
          have hL := longI_28 (y := y) (m := mo) ⟨hy1, hy2⟩ ⟨hm1, hm2⟩
          obtain ⟨hL1, hL2⟩ := longI_le y mo
          have hs := cumI_step (y := y) (m := mo) ⟨hy1, hy2⟩ ⟨hm1, hm2⟩
          have a0 := fun k => (I.past k).day.c0
          have a1 := fun k => (I.past k).day.c1
          have a2 := fun k => (I.past k).day.c2
          go_wp2_with fail
          (refine region_past (by kernel_rfl) (by kernel_rfl) ?_; (repeat (first | go_big_quiet_skip | (go_big_quiet_want; go_big_quiet_op; first | go_big_quiet_on | (apply Exists.intro; refine ⟨fun k => ?_, ?_⟩; (focus (first | (go_at_call 11; refine Past.calls_same (long_calls _ _ _)))); go_big_quiet_on)))); refine wpQuiet_nil ?_; intro k)
          have J := I.past k
          generalize k.to = w1 at *
          clear a0 a1 a2 k
          by_cases hlong : longI y mo < da
          · have hm12 : mo < 12 := by
              rcases Int.lt_or_le mo 12 with h | h
              · exact h
              · obtain rfl : mo = 12 := by omega
                rw [cumI_12] at hsum
                have : longI y 12 = 31 := by rw [longI_ok ⟨hy1, hy2⟩ ⟨by omega, by omega⟩]; rfl
                omega
            have a0 := J.day.c0
            have a1 := J.day.c1
            have a2 := J.day.c2
            have f1 := frozen_of_row w1 _ 1 _ _ J.row1
            have f2 := frozen_of_row w1 _ 2 _ _ J.row1
            go_wp2_with fail
            go_region_with (go_at_call 11; refine (long_calls _ _ _).mono ?_; rintro e w' ⟨rfl, rfl⟩)
            all_goals
              have c1 := J.day.c1
              go_wp2_with fail
              go_roundw
              case rel =>
                refine ⟨mo + 1, da - longI y mo, by omega, by omega, by omega, by omega, by rw [hs]; omega, ?_⟩
                have J2 := ((OfAt.set2 (J.past ⟨w1.drew, (Below.refl _ _).drew⟩) (da - longI y mo)).set1 (mo + 1))
                exact J2
              case measure =>
                have J2 := ((OfAt.set2 (J.past ⟨w1.drew, (Below.refl _ _).drew⟩) (da - longI y mo)).set1 (mo + 1))
                refine Nat.lt_of_le_of_lt (Nat.le_of_eq (congrArg (fun x : Int => (13 - x).toNat) (cellInt_of J2.day.c1))) ?_
                rw [cellInt_of I.day.c1]
                omega
          · have r0 := J.row0
            have a0 := J.day.c0
            have a1 := J.day.c1
            have a2 := J.day.c2
            have z0 : w1.cell? ⟨w.heap.size, 0, none⟩ = some (iv 0) := by rw [cell_of_row w1 _ 0 _ _ _ r0]; rfl
            have z1 : w1.cell? ⟨w.heap.size, 1, none⟩ = some (iv 0) := by rw [cell_of_row w1 _ 1 _ _ _ r0]; rfl
            have z2 : w1.cell? ⟨w.heap.size, 2, none⟩ = some (iv 0) := by rw [cell_of_row w1 _ 2 _ _ _ r0]; rfl
            have y0 := frozen_of_row w1 _ 0 _ _ r0
            have y1 := frozen_of_row w1 _ 1 _ _ r0
            have y2 := frozen_of_row w1 _ 2 _ _ r0
            have hfin := row_set (i := 2) (iv da) (row_set (i := 1) (iv mo) (row_set (i := 0) (iv y) r0))
            have HF := Lib.hid hfin
            clear r0 hfin
            go_wp2_with fail
            try simp only [Exit.inBlock, Exit.then]
            have hr : rightI y mo da := ⟨hd1, by omega⟩
            rw [dayO_of hr (by unfold numI; omega)]
            exact bodyPost_ret (ret_day rfl _ _ w.heap.size y mo da (0, 0) rfl HF.out) rfl ⟨rfl, ((J.below.setCell (Nat.le_refl _) _).setCell (Nat.le_refl _) _).setCell (Nat.le_refl _) _⟩
end Go.Proofs.YtoegamcnhdlioaaDoor
