/- GregYears: the walk. -/
import Derived.Test.YtnangpmnhcglcaaDoorGc
import Derived.Great.BuildSlice
namespace Go.Proofs.YtnangpmnhcglcaaDoor
open Go.RowKit Go.Extern.Stop Go.Stop Go.Extern
set_option linter.unusedVariables false
set_option linter.unusedSimpArgs false

theorem year_days {Y : Int} (h : 1 ≤ Y ∧ Y ≤ 9599) : doyV Y 12 31 = 365 + leapI Y ∧ numV (Y + 1) 1 1 = numV Y 12 31 + 1 ∧ longI Y 2 = 28 + leapI Y := by
  have hl : longI Y 12 = 31 := by rw [longI_ok ⟨by omega, by omega⟩ ⟨by omega, by omega⟩]; rfl
  have hl1 : longI (Y + 1) 1 = 31 := by rw [longI_ok ⟨by omega, by omega⟩ ⟨by omega, by omega⟩]; rfl
  have r1 : rightI Y 12 31 := ⟨by omega, by omega⟩
  have r2 : rightI (Y + 1) 1 1 := ⟨by omega, by omega⟩
  refine ⟨?_, ?_, ?_⟩
  · unfold doyV; rw [if_pos r1, cumI_12]; omega
  · unfold numV; rw [if_pos r1, if_pos r2]; unfold numI; rw [cumI_12, cumI_one, aheadI_step Y h.1]; omega
  · rw [longI_ok ⟨by omega, by omega⟩ ⟨by omega, by omega⟩]; rfl
theorem year_400 {Y : Int} (h : 1 ≤ Y ∧ Y ≤ 9599) : btwV [(Y, 1, 1), (Y + 400, 1, 1)] = .tuple #[iv 146097, .bool true] := by
  have hl1 : longI Y 1 = 31 := by rw [longI_ok ⟨by omega, by omega⟩ ⟨by omega, by omega⟩]; rfl
  have hl2 : longI (Y + 400) 1 = 31 := by rw [longI_ok ⟨by omega, by omega⟩ ⟨by omega, by omega⟩]; rfl
  have r1 : rightI Y 1 1 := ⟨by omega, by omega⟩
  have r2 : rightI (Y + 400) 1 1 := ⟨by omega, by omega⟩
  have n1 : numI Y 1 1 = aheadI Y + 1 := by unfold numI; rw [cumI_one]; omega
  have n2 : numI (Y + 400) 1 1 = aheadI Y + 146098 := by unfold numI; rw [cumI_one]; unfold aheadI; omega
  have k1 := numI_small r1
  have k2 := numI_small r2
  have ha : allR [(Y, 1, 1), (Y + 400, 1, 1)] := fun i hi => by
    match i, hi with
    | 0, _ => exact r1
    | 1, _ => exact r2
  unfold btwV
  rw [if_pos ⟨by simp, ha⟩]
  have e1 : mnL [(Y, 1, 1), (Y + 400, 1, 1)] = numI Y 1 1 := by
    show min (min 3652059 (numI Y 1 1)) (numI (Y + 400) 1 1) = _
    omega
  have e2 : mxL [(Y, 1, 1), (Y + 400, 1, 1)] = numI (Y + 400) 1 1 := by
    show max (max 0 (numI Y 1 1)) (numI (Y + 400) 1 1) = _
    omega
  rw [e1, e2, n1, n2]
  have : aheadI Y + 146098 - (aheadI Y + 1) = 146097 := by omega
  rw [this]
theorem two_days (w : World) (y m d y' m' d' : Int) (t : TypeId) : DaysAt (w.alloc (.cells #[iv y, iv m, iv d, iv y', iv m', iv d'] t)) w.heap.size 0 [(y, m, d), (y', m', d')] := fun i hi => by
  match i, hi with
  | 0, _ => exact ⟨by go_simp, by go_simp, by go_simp⟩
  | 1, _ => exact ⟨by go_simp, by go_simp, by go_simp⟩
theorem dayInfo : (Tryd.prog.info? 23).isSome = true := by kernel_rfl
theorem dayZero : (((Tryd.prog.info? 23).get dayInfo).zero).isSome = true := by kernel_rfl

set_option maxRecDepth 100000 in
set_option maxHeartbeats 2000000 in
theorem gregYears_walk (x : Addr) (a0 : Int) (w : World) (hx : Laid x w) :
    Calls Tryd.prog 8 #[iv a0] w fun e w' => e = .returned (.bool true) ∧ Below w.heap.size w w' := by
  obtain ⟨p1, p2, p3⟩ := tdm a0 9599 (by omega)
  have k1 : -9599 < a0.tmod 9599 := by omega
  have k2 : a0.tmod 9599 < 9599 := by omega
  clear p1 p2 p3
  go_enter Tryd.func8, Tryd.ntmps8
  go_wp2_with fail
  generalize hY : 1 + a0.tmod 9599 % 9599 = Y
  have y1 : 1 ≤ Y := by omega
  have y2 : Y ≤ 9599 := by omega
  clear hY k1 k2
  generalize (a0.tmod 9599 + 9599) % 9599 = q11
  generalize a0.tmod 9599 = q9
  obtain ⟨d1, d2, d3⟩ := year_days ⟨y1, y2⟩
  have d4 := year_400 ⟨y1, y2⟩
  have hl := leapI_01 Y
  obtain ⟨l1, l2⟩ := hl

  go_loop [3, 4] (fun s k => ∃ j : Int, 1 ≤ j ∧ j ≤ 13 ∧ s = iv (cumI (leapI Y) j) ∧ k = iv j) (fun _ k => (13 - intOf k).toNat)
  case atStart => exact ⟨1, by omega, by omega, rfl, rfl⟩
  case round =>
    obtain ⟨j, j1, j2, rfl, rfl⟩ := hrel
    obtain ⟨c1, c2⟩ := cumI_le (m := j) ⟨l1, l2⟩ ⟨j1, j2⟩
    obtain ⟨L1, L2⟩ := longI_le Y j
    by_cases hlt : j ≤ 12
    · have hs := cumI_step (y := Y) (m := j) ⟨y1, by omega⟩ ⟨j1, hlt⟩
      go_wp2_with (go_at_call 11; refine (long_calls _ _ _).mono ?_; rintro e w' ⟨rfl, rfl⟩)
      go_round
      case rel => exact ⟨j + 1, by omega, by omega, by rw [hs], rfl⟩
      case measure => simp [intOf]; omega
    · obtain rfl : j = 13 := by omega
      rw [cumI_13]
      have xa := hx.alloc (.cells #[iv Y, iv 12, iv 31] 23)
      have lx := fun k : Past (w.alloc (.cells #[iv Y, iv 12, iv 31] 23)) => xa.below k.below
      have A := DayAt.new w 23 Y 12 31
      have rowA := @past_row w Y 12 31 23
      have c0 := fun k => (A.past k).c0
      have c1 := fun k => (A.past k).c1
      have c2 := fun k => (A.past k).c2
      have cY : ∀ k : Past (w.alloc (.cells #[iv Y, iv 12, iv 31] 23)), Calls Tryd.prog 19 #[dayV Y 12 31] k.to fun e w' => e = .returned (iv (365 + leapI Y)) ∧ Below k.to.heap.size k.to w' := fun k => by
        have := yearDay_calls x Y 12 31 k.to (lx k); rw [d1] at this; exact this
      have nb1 : 0 ≤ numV Y 12 31 := by unfold numV; split <;> (try omega); rename_i h; have := numI_small h; omega
      have nb2 : numV Y 12 31 ≤ 3652059 := by unfold numV; split <;> (try omega); rename_i h; have := numI_small h; omega
      clear d1
      go_wp2_with fail
      (refine region_past (by kernel_rfl) (by kernel_rfl) ?_; (repeat (first | go_big_quiet_skip | (go_big_quiet_want; go_big_quiet_op; first | go_big_quiet_on | (apply Exists.intro; refine ⟨fun k => ?_, ?_⟩; (focus (first | (go_at_call 19; refine Past.calls (cY _)) | (go_at_call 13; refine Past.calls (num_calls x _ _ _ _ (lx _))))); go_big_quiet_on)))); refine wpQuiet_nil ?_; intro k)
      obtain ⟨w1, b1⟩ := k
      have x1 := xa.below b1
      dsimp only
      go_wp2_with (first
        | (refine wpList_buildSlice rfl 31 23 2 _ rfl #[iv Y, iv 1, iv 1, iv (Y + 400), iv 1, iv 1] ((Tryd.prog.info? 23).get dayInfo) (((Tryd.prog.info? 23).get dayInfo).zero.get dayZero) Tryd.underlying31 (Option.some_get _).symm (Option.some_get _).symm (by decide +kernel) (by decide +kernel) (by kernel_rfl) ?_)
        | (go_at_call 23; refine (between_calls x w1.heap.size 0 2 [(Y, 1, 1), (Y + 400, 1, 1)] _ (x1.alloc _) (two_days _ _ _ _ _ _ _ _) (by simp)).mono ?_; rw [d4]; rintro e w2 ⟨rfl, b2⟩; have x2 := (x1.alloc _).below b2)
        | (go_at_call 11; refine (long_calls _ _ _).mono ?_; rw [d3]; rintro e w' ⟨rfl, rfl⟩)
        | (go_at_call 21; refine (alive_calls x _ x2).mono ?_; rintro e w4 ⟨rfl, b4⟩))
      go_ret
      exact ⟨rfl, below_then (below_then (below_front b1) (below_front b2)) b4⟩
end Go.Proofs.YtnangpmnhcglcaaDoor
