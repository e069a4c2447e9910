/- Of: the day of a number, the document's. -/
import Derived.Test.YtoegamcnhdlioaaDoorGo
namespace Go.Proofs.YtoegamcnhdlioaaDoor
open Go.RowKit Go.Extern.Stop Go.Stop Go.Extern
set_option linter.unusedVariables false
set_option linter.unusedSimpArgs false

set_option maxRecDepth 100000 in
set_option maxHeartbeats 2000000 in
theorem ofR_calls (n : Int) (w : World) :
    Calls Tryd.prog 16 #[iv n] w fun e w' => e = .returned (dayO n) ∧ Below w.heap.size w w' := by
  by_cases hn : n < 1 ∨ 3652059 < n
  · rw [dayO_zero hn]
    go_enter Tryd.func16, Tryd.ntmps16
    go_wp2
    all_goals first
      | omega
      | (try simp only [Exit.inBlock, Exit.then]
         exact bodyPost_ret (ret_day rfl _ _ w.heap.size 0 0 0 (0, 0) rfl (heap_alloc_last w _)) rfl ⟨rfl, (Below.refl _ w).alloc (Nat.le_refl _) _⟩)
  · have hn1 : 1 ≤ n := by omega
    have hn2 : n ≤ 3652059 := by omega
    clear hn
    go_enter Tryd.func16, Tryd.ntmps16
    go_wp2_with fail
    obtain ⟨k1, k2, k3⟩ := year_startR (k := (n - 1) / 366) hn1 hn2 rfl
    generalize (n - 1) / 366 = q at *
    go_loop [3] (fun v => ∃ y : Int, 1 ≤ y ∧ y ≤ 9999 ∧ aheadI y < n ∧ v = iv y) (fun v => (9999 - intOf v).toNat)
    case atStart => exact ⟨q + 1, by omega, by omega, k3, by rw [Int.add_comm]⟩
    case round =>
      obtain ⟨y, hy1, hy2, hy3, rfl⟩ := hrel
      clear k1 k2 k3
      have hy99 : aheadI (y + 1) < n → y < 9999 := fun h => by
        rcases Int.lt_or_le y 9999 with h' | h'
        · exact h'
        · obtain rfl : y = 9999 := by omega
          have := aheadI_last; unfold lastN at this; rw [show (9999 : Int) + 1 = 10000 from rfl] at h; omega
      by_cases hlt : aheadI (y + 1) < n
      · have hy := hy99 hlt
        go_wp2_with (go_at_call 34; refine (aheadR_calls _ ⟨by omega, by omega⟩ _).mono ?_; rintro e w' ⟨rfl, rfl⟩)
        go_round
        case rel => exact ⟨y + 1, by omega, by omega, hlt, rfl⟩
        case measure => simp [intOf]; omega
      · have hend := year_end ⟨hy1, hy2⟩ hn2 (.inr (by omega))
        obtain ⟨ha1, ha2⟩ := aheadI_in (y := y) ⟨hy1, by omega⟩
        have I0 := OfAt.new w y 1 (n - aheadI y)
        have hl := leapI_01 y
        have hst := aheadI_step y hy1
        go_wp2_with (go_at_call 34; refine (aheadR_calls _ ⟨by omega, by omega⟩ _).mono ?_; rintro e w' ⟨rfl, rfl⟩)
        go_loopw [35] (fun _ wr => ∃ mo da : Int, 1 ≤ mo ∧ mo ≤ 12 ∧ 1 ≤ da ∧ da ≤ 366 ∧ aheadI y + da + cumI (leapI y) mo = n ∧ OfAt w wr y mo da) (fun _ wr => (13 - cellInt wr ⟨w.heap.size + 1, 1, none⟩).toNat)
        case atStart => exact ⟨1, n - aheadI y, by omega, by omega, by omega, by omega, by rw [cumI_one]; omega, I0⟩
        case round =>
          obtain ⟨mo, da, hm1, hm2, hd1, hd2, hsum, I⟩ := hrel
          have hL := longI_28 (y := y) (m := mo) ⟨hy1, hy2⟩ ⟨hm1, hm2⟩
          obtain ⟨hL1, hL2⟩ := longI_le y mo
          have hs := cumI_step (y := y) (m := mo) ⟨hy1, hy2⟩ ⟨hm1, hm2⟩
          have a0 := fun k => (I.past k).day.c0
          have a1 := fun k => (I.past k).day.c1
          have a2 := fun k => (I.past k).day.c2
          go_wp2_with fail
          (refine region_past (by kernel_rfl) (by kernel_rfl) ?_; (repeat (first | go_big_quiet_skip | (go_big_quiet_want; go_big_quiet_op; first | go_big_quiet_on | (apply Exists.intro; refine ⟨fun k => ?_, ?_⟩; (focus (first | (go_at_call 12; refine Past.calls (longR_calls _ _ _)))); go_big_quiet_on)))); refine wpQuiet_nil ?_; intro k)
          have J := I.past k
          generalize k.to = w1 at *
          clear a0 a1 a2 k
          by_cases hlong : longI y mo < da
          · have hm12 : mo < 12 := by
              rcases Int.lt_or_le mo 12 with h | h
              · exact h
              · obtain rfl : mo = 12 := by omega
                rw [cumI_12] at hsum
                have : longI y 12 = 31 := by rw [longI_ok ⟨hy1, hy2⟩ ⟨by omega, by omega⟩]; rfl
                omega
            have a0 := J.day.c0
            have a1 := J.day.c1
            have a2 := J.day.c2
            have f1 := frozen_of_row w1 _ 1 _ _ J.row1
            have f2 := frozen_of_row w1 _ 2 _ _ J.row1
            go_wp2_with fail
            have K0 := J.past ⟨w1.drew, (Below.refl _ _).drew⟩
            go_region_with (go_at_call 12; refine (longR_calls _ _ _).mono ?_; rintro e w2 ⟨rfl, hb⟩; have J3 := K0.past ⟨w2, hb⟩; have q1 := J3.day.c1; have q2 := J3.day.c2; have g1 := frozen_of_row w2 _ 1 _ _ J3.row1; have g2 := frozen_of_row w2 _ 2 _ _ J3.row1)
            all_goals
              have c1 := J.day.c1
              go_wp2_with fail
              go_roundw
              case rel =>
                refine ⟨mo + 1, da - longI y mo, by omega, by omega, by omega, by omega, by rw [hs]; omega, ?_⟩
                have J2 := ((OfAt.set2 J3 (da - longI y mo)).set1 (mo + 1))
                exact J2
              case measure =>
                have J2 := ((OfAt.set2 J3 (da - longI y mo)).set1 (mo + 1))
                refine Nat.lt_of_le_of_lt (Nat.le_of_eq (congrArg (fun x : Int => (13 - x).toNat) (cellInt_of J2.day.c1))) ?_
                rw [cellInt_of I.day.c1]
                omega
          · have r0 := J.row0
            have a0 := J.day.c0
            have a1 := J.day.c1
            have a2 := J.day.c2
            have z0 : w1.cell? ⟨w.heap.size, 0, none⟩ = some (iv 0) := by rw [cell_of_row w1 _ 0 _ _ _ r0]; rfl
            have z1 : w1.cell? ⟨w.heap.size, 1, none⟩ = some (iv 0) := by rw [cell_of_row w1 _ 1 _ _ _ r0]; rfl
            have z2 : w1.cell? ⟨w.heap.size, 2, none⟩ = some (iv 0) := by rw [cell_of_row w1 _ 2 _ _ _ r0]; rfl
            have y0 := frozen_of_row w1 _ 0 _ _ r0
            have y1 := frozen_of_row w1 _ 1 _ _ r0
            have y2 := frozen_of_row w1 _ 2 _ _ r0
            have hfin := row_set (i := 2) (iv da) (row_set (i := 1) (iv mo) (row_set (i := 0) (iv y) r0))
            have HF := Lib.hid hfin
            clear r0 hfin
            go_wp2_with fail
            try simp only [Exit.inBlock, Exit.then]
            have hr : rightI y mo da := ⟨hd1, by omega⟩
            rw [dayO_of hr (by unfold numI; omega)]
            exact bodyPost_ret (ret_day rfl _ _ w.heap.size y mo da (0, 0) rfl HF.out) rfl ⟨rfl, ((J.below.setCell (Nat.le_refl _) _).setCell (Nat.le_refl _) _).setCell (Nat.le_refl _) _⟩
end Go.Proofs.YtoegamcnhdlioaaDoor
