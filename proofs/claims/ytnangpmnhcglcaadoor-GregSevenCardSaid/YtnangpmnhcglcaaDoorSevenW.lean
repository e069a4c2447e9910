/- GregSeven: the walk. -/
import Derived.Test.YtnangpmnhcglcaaDoorGe
import Derived.Test.YtnangpmnhcglcaaDoorSevenM
namespace Go.Proofs.YtnangpmnhcglcaaDoor
open Go.RowKit Go.Extern.Stop Go.Stop Go.Extern
set_option linter.unusedVariables false
set_option linter.unusedSimpArgs false

set_option maxRecDepth 100000 in
set_option maxHeartbeats 2000000 in
theorem gregSeven_walk (x : Addr) (a0 a1 : Int) (w : World) (hx : Laid x w) :
    Calls Tryd.prog 7 #[iv a0, iv a1] w fun e w' => e = .returned (.bool true) ∧ Below w.heap.size w w' := by
  obtain ⟨p1, p2, p3⟩ := tdm a0 3652039 (by omega)
  have k1 : -3652039 < a0.tmod 3652039 := by omega
  have k2 : a0.tmod 3652039 < 3652039 := by omega
  obtain ⟨q1, q2, q3⟩ := tdm a1 7 (by omega)
  have k3 : -7 < a1.tmod 7 := by omega
  have k4 : a1.tmod 7 < 7 := by omega
  clear p1 p2 p3 q1 q2 q3
  go_enter Tryd.func7, Tryd.ntmps7
  go_wp2_with (first
    | (go_at_call 17; generalize hN : 8 + (a0.tmod 3652039 + 3652059 - 20) % 3652039 = N; generalize hF : (a1.tmod 7 + 7) % 7 = F; have n1 : 8 ≤ N := by omega
       have n2 : N ≤ 3652046 := by omega
       have f1 : 0 ≤ F := by omega
       have f2 : F ≤ 6 := by omega
       have wb1 : 0 ≤ wdI N := by unfold wdI; omega
       have wb2 : wdI N ≤ 6 := by unfold wdI; omega
       clear hN hF; refine (weekday_calls _ _).mono ?_; rintro e w' ⟨rfl, rfl⟩)
    | (go_at_call 26; generalize hM : N - (wdI N - F) % 7 = M; have m1 : 2 ≤ M := by omega
       have m2 : M ≤ 3652046 := by omega
       have m3 : (M + 6 - F) % 7 = 0 := by rw [← hM]; unfold wdI; omega
       clear hM; obtain ⟨c1, c2⟩ := wk_in0 m1 m2 f1 f2 m3; refine (week_calls _ _ _).mono ?_; rw [c1, c2]; rintro e w1 ⟨rfl, b1⟩; generalize hY : yrI (M + 3) = Y; generalize hW : (M + 3 - fdI Y) / 7 + 1 = W))
  go_loopw [37] (fun v wr => ∃ i : Int, 0 ≤ i ∧ i ≤ 7 ∧ v = iv i ∧ Below w1.heap.size w1 wr) (fun v _ => (7 - intOf v).toNat)
  case atStart => exact ⟨0, by omega, by omega, rfl, Below.refl _ _⟩
  case round =>
    obtain ⟨i, i1, i2, rfl, bb⟩ := hrel
    by_cases hi : i < 7
    · obtain ⟨e1, e2⟩ := wk_in i m1 m2 f1 f2 m3 i1 (by omega)
      rw [hY] at e1 e2
      rw [hW] at e2
      go_wp2_with (go_at_call 26; refine (week_calls _ _ _).mono ?_; rw [e1, e2]; rintro e w2 ⟨rfl, b2⟩)
      go_roundw
      case rel => exact ⟨i + 1, by omega, by omega, by go_num, below_then bb b2⟩
      case measure => simp [intOf]; omega
    · obtain rfl : i = 7 := by omega
      obtain ⟨e1, e2⟩ := wk_next m1 m2 f1 f2 m3
      by_cases hin : 1 ≤ Y ∧ Y ≤ 9999
      · obtain ⟨L1, L2, L3, L4⟩ := wk_laws m1 m2 f1 f2 m3 hY hin.1 hin.2
        rw [hW] at L1 L2 L4
        obtain ⟨y1, y2⟩ := hin
        clear c1 c2 hW hY m3
        generalize hT : wksI Y F = T at *
        generalize (M + 10 - fdI (yrI (M + 10))) / 7 + 1 = V at *
        generalize yrI (M + 10) = Z at *
        rcases L3 with rfl | rfl
        · rcases L4 with ⟨rfl, rfl, L5⟩ | ⟨rfl, rfl, rfl⟩
          · go_wp2_with (first
              | (go_at_call 26; refine (week_calls _ _ _).mono ?_; rw [e1, e2]; rintro e w3 ⟨rfl, b3⟩; have x3 := (hx.below b1).below (below_then bb b3))
              | (go_at_call 28; refine (weeks_calls x _ _ _ x3).mono ?_; rw [hT]; rintro e w4 ⟨rfl, b4⟩; have x4 := x3.below b4)
              | (go_at_call 21; refine (alive_calls x _ x4).mono ?_; rintro e w5 ⟨rfl, b5⟩))
            all_goals first | omega | (go_ret; exact ⟨rfl, below_then (below_then (below_then b1 (below_then bb b3)) b4) b5⟩)
          · go_wp2_with (first
              | (go_at_call 26; refine (week_calls _ _ _).mono ?_; rw [e1, e2]; rintro e w3 ⟨rfl, b3⟩; have x3 := (hx.below b1).below (below_then bb b3))
              | (go_at_call 28; refine (weeks_calls x _ _ _ x3).mono ?_; rw [hT]; rintro e w4 ⟨rfl, b4⟩; have x4 := x3.below b4)
              | (go_at_call 21; refine (alive_calls x _ x4).mono ?_; rintro e w5 ⟨rfl, b5⟩))
            all_goals first | omega | (go_ret; exact ⟨rfl, below_then (below_then (below_then b1 (below_then bb b3)) b4) b5⟩)
        · rcases L4 with ⟨rfl, rfl, L5⟩ | ⟨rfl, rfl, rfl⟩
          · go_wp2_with (first
              | (go_at_call 26; refine (week_calls _ _ _).mono ?_; rw [e1, e2]; rintro e w3 ⟨rfl, b3⟩; have x3 := (hx.below b1).below (below_then bb b3))
              | (go_at_call 28; refine (weeks_calls x _ _ _ x3).mono ?_; rw [hT]; rintro e w4 ⟨rfl, b4⟩; have x4 := x3.below b4)
              | (go_at_call 21; refine (alive_calls x _ x4).mono ?_; rintro e w5 ⟨rfl, b5⟩))
            all_goals first | omega | (go_ret; exact ⟨rfl, below_then (below_then (below_then b1 (below_then bb b3)) b4) b5⟩)
          · go_wp2_with (first
              | (go_at_call 26; refine (week_calls _ _ _).mono ?_; rw [e1, e2]; rintro e w3 ⟨rfl, b3⟩; have x3 := (hx.below b1).below (below_then bb b3))
              | (go_at_call 28; refine (weeks_calls x _ _ _ x3).mono ?_; rw [hT]; rintro e w4 ⟨rfl, b4⟩; have x4 := x3.below b4)
              | (go_at_call 21; refine (alive_calls x _ x4).mono ?_; rintro e w5 ⟨rfl, b5⟩))
            all_goals first | omega | (go_ret; exact ⟨rfl, below_then (below_then (below_then b1 (below_then bb b3)) b4) b5⟩)
      · clear c1 c2 hW m3
        go_wp2_with (first
          | (go_at_call 26; refine (week_calls _ _ _).mono ?_; rw [e1, e2]; rintro e w3 ⟨rfl, b3⟩; have x3 := (hx.below b1).below (below_then bb b3))
          | (go_at_call 21; refine (alive_calls x _ x3).mono ?_; rintro e w5 ⟨rfl, b5⟩))
        all_goals first | omega | (go_ret; exact ⟨rfl, below_then (below_then b1 (below_then bb b3)) b5⟩)
end Go.Proofs.YtnangpmnhcglcaaDoor
