/- GregTurns: the walk. -/
import Derived.Test.YtnangpmnhcglcaaDoorGe
import Derived.Test.YtnangpmnhcglcaaDoorGx
namespace Go.Proofs.YtnangpmnhcglcaaDoor
open Go.RowKit Go.Extern.Stop Go.Stop Go.Extern
set_option linter.unusedVariables false
set_option linter.unusedSimpArgs false

theorem next_day {y m d a b c : Int} (h : rightI y m d) (k : rightI a b c) (e : numI a b c = numI y m d + 1) :
    (a = y ∧ b = m ∧ c = d + 1) ∨ (c = 1 ∧ d = longI y m ∧ b = m + 1 ∧ a = y) ∨ (c = 1 ∧ d = longI y m ∧ b = 1 ∧ m = 12 ∧ a = y + 1) := by
  obtain ⟨h1, h2, h3, h4, h5, h6⟩ := rightI_in h
  have hd := h.2
  have hs := cumI_step (y := y) (m := m) ⟨h1, h2⟩ ⟨h3, h4⟩
  by_cases c1 : d < longI y m
  · have r : rightI y m (d + 1) := ⟨by omega, by omega⟩
    have q : numI y m (d + 1) = numI y m d + 1 := by unfold numI; omega
    exact .inl (numI_inj k r (e.trans q.symm))
  · by_cases c2 : m < 12
    · have r : rightI y (m + 1) 1 := ⟨by omega, by have := longI_28 (y := y) (m := m + 1) ⟨h1, h2⟩ ⟨by omega, by omega⟩; omega⟩
      have q : numI y (m + 1) 1 = numI y m d + 1 := by unfold numI; omega
      obtain ⟨e1, e2, e3⟩ := numI_inj k r (e.trans q.symm)
      exact .inr (.inl ⟨e3, by omega, e2, e1⟩)
    · obtain rfl : m = 12 := by omega
      have hl : longI y 12 = 31 := by rw [longI_ok ⟨h1, h2⟩ ⟨by omega, by omega⟩]; rfl
      have hst := aheadI_step y h1
      have hn : numI y 12 d = aheadI (y + 1) := by unfold numI; rw [cumI_12, hst]; omega
      have hk := numI_range k
      have hy : y < 9999 := by
        rcases Int.lt_or_le y 9999 with z | z
        · exact z
        · obtain rfl : y = 9999 := by omega
          have := aheadI_last
          rw [show (9999 : Int) + 1 = 10000 from rfl] at hn
          omega
      have r : rightI (y + 1) 1 1 := ⟨by omega, by have := longI_28 (y := y + 1) (m := 1) ⟨by omega, by omega⟩ ⟨by omega, by omega⟩; omega⟩
      have q : numI (y + 1) 1 1 = numI y 12 d + 1 := by rw [hn]; unfold numI; rw [cumI_one]; omega
      obtain ⟨e1, e2, e3⟩ := numI_inj k r (e.trans q.symm)
      exact .inr (.inr ⟨e3, by omega, e2, rfl, e1⟩)
theorem neqDay_same (a b c : Int) (w : World) : (binOp .neq 23 (dayV a b c) (dayV a b c)).run Tryd.prog w = .ok (.bool false) w := by
  have h := eqDay_same a b c w
  simp only [binOp] at h ⊢
  revert h
  generalize (Op.equal 23 (dayV a b c) (dayV a b c)) = s
  intro h
  simp at h ⊢
  revert h
  cases s.run Tryd.prog w <;> simp
theorem wd_next (n : Int) : wdI (n + 1) = (wdI n + 1) % 7 := by unfold wdI; omega
theorem wd_in (n : Int) : 0 ≤ wdI n ∧ wdI n ≤ 6 := by unfold wdI; omega

set_option maxRecDepth 100000 in
set_option maxHeartbeats 8000000 in
theorem gregTurns_walk (x : Addr) (y m d n : Int) (w : World) (hx : Laid x w) :
    Calls Tryd.prog 4 #[dayV y m d, iv n] w fun e w' => e = .returned (.bool true) ∧ Below w.heap.size w w' := by
  have xa := hx.alloc (.cells #[iv y, iv m, iv d] 23)
  have A := DayAt.new w 23 y m d
  have hrow := @past_row w y m d 23
  have q0 := eqDay_same 0 0 0
  have hn : (n < 1 ∨ lastN < n) ∨ n = 3652059 ∨ (1 ≤ n ∧ n < 3652059) := by unfold lastN; omega
  by_cases hr : rightI y m d
  · obtain ⟨n1, n2⟩ := numI_small hr
    have nk : decide (numI y m d < 1) = false := by simp; omega
    have eK : numV y m d = numI y m d := if_pos hr
    have eR : decide (rightI y m d) = true := decide_eq_true hr
    have eO := dayO_of hr rfl
    have qd := neqDay_same y m d
    have cO := fun w => of_calls (numI y m d) w
    rw [eO] at cO
    have cR := fun w hx => right_calls x y m d w hx
    rw [eR] at cR
    clear eR hr
    go_enter Tryd.func4, Tryd.ntmps4
    go_wp2_with (go_at_call 13; refine (num_calls x _ _ _ _ xa).mono ?_; rw [eK]; rintro e w1 ⟨rfl, b1⟩)
    have x1 := xa.below b1
    have lx := fun k : Past w1 => x1.below k.below
    have B := A.past ⟨w1, b1⟩
    dsimp only at B
    have c0 := fun k => (B.past k).c0
    have c1 := fun k => (B.past k).c1
    have c2 := fun k => (B.past k).c2
    (refine region_past (by kernel_rfl) (by kernel_rfl) ?_; (repeat (first | go_big_quiet_skip | (go_big_quiet_want; go_big_quiet_op; first | go_big_quiet_on | (apply Exists.intro; refine ⟨fun k => ?_, ?_⟩; (focus (first | (go_at_call 9; refine Past.calls (cR _ (lx _))) | (go_at_call 15; refine Past.calls (cO _)))); go_big_quiet_on)))); refine wpQuiet_nil ?_; intro k)
    have x2 := lx k
    obtain ⟨w2, b2⟩ := k
    dsimp only at x2 ⊢
    clear c0 c1 c2 lx B A hrow cR
    clear eO qd eK cO nk n1 n2
    rcases hn with hn | hn | hn
    · have eN := dayO_zero (n := n) hn
      rcases hn with hn | hn
      · unfold lastN at *
        go_wp2_with (first
          | (go_at_call 15; refine (of_calls _ _).mono ?_; rw [eN]; rintro e w3 ⟨rfl, b3⟩; have x3 := (x2.below b3).alloc (.cells #[iv 0, iv 0, iv 0] 23))
          | (go_at_call 21; refine (alive_calls x _ x3).mono ?_; rintro e w4 ⟨rfl, b4⟩))
        go_ret
        exact ⟨rfl, below_then (below_then (below_front b1) b2) (below_then b3 (below_front b4))⟩
      · unfold lastN at *
        go_wp2_with (first
          | (go_at_call 15; refine (of_calls _ _).mono ?_; rw [eN]; rintro e w3 ⟨rfl, b3⟩; have x3 := (x2.below b3).alloc (.cells #[iv 0, iv 0, iv 0] 23))
          | (go_at_call 21; refine (alive_calls x _ x3).mono ?_; rintro e w4 ⟨rfl, b4⟩))
        go_ret
        exact ⟨rfl, below_then (below_then (below_front b1) b2) (below_then b3 (below_front b4))⟩
    · subst hn
      have hl : rightI 9999 12 31 := by decide
      have nl : numI 9999 12 31 = 3652059 := by decide
      have eN := dayO_of hl nl
      have eV : numV 9999 12 31 = 3652059 := by decide
      have eD : decide (rightI 9999 12 31) = true := by decide
      go_wp2_with (first
        | (go_at_call 15; refine (of_calls _ _).mono ?_; rw [eN]; rintro e w3 ⟨rfl, b3⟩; have x3 := (x2.below b3).alloc (.cells #[iv 9999, iv 12, iv 31] 23); have O := DayAt.new w3 23 9999 12 31)
        | (go_at_call 13; refine (num_calls x _ _ _ _ x3).mono ?_; rw [eV]; rintro e w4 ⟨rfl, b4⟩; have x4 := x3.below b4; have O4 := O.past ⟨w4, b4⟩; have o0 := O4.c0; have o1 := O4.c1; have o2 := O4.c2; dsimp only at o0 o1 o2)
        | (go_at_call 9; refine (right_calls x _ _ _ _ x4).mono ?_; rw [eD]; rintro e w5 ⟨rfl, b5⟩; have x5 := x4.below b5)
        | (go_at_call 21; refine (alive_calls x _ x5).mono ?_; rintro e w6 ⟨rfl, b6⟩))
      go_ret
      exact ⟨rfl, below_then (below_then (below_front b1) b2) (below_then b3 (below_then (below_then (below_front b4) b5) b6))⟩
    · obtain ⟨g1, g2⟩ := hn
      obtain ⟨Y, M, D, hr1, hn1, ho1⟩ := day_ex (n := n) g1 (by unfold lastN; omega)
      obtain ⟨A2, B2, C2, hr2, hn2, ho2⟩ := day_ex (n := n + 1) (by omega) (by unfold lastN; omega)
      have eN := dayO_of hr1 hn1
      have eX := dayO_of hr2 hn2
      have eV : numV Y M D = n := (if_pos hr1).trans hn1
      have eD : decide (rightI Y M D) = true := decide_eq_true hr1
      have hnx := next_day hr1 hr2 (by omega)
      obtain ⟨i1, i2, i3, i4, i5, i6⟩ := rightI_in hr1
      obtain ⟨s1, s2⟩ := wd_in n
      have sw := wd_next n
      have L0 := longI_le Y M
      obtain ⟨L1, L2⟩ := L0
      clear hr1 hn1 ho1 hr2 hn2 ho2
      rcases hnx with ⟨rfl, rfl, rfl⟩ | ⟨rfl, rfl, rfl, rfl⟩ | ⟨rfl, rfl, rfl, rfl, rfl⟩
      · go_wp2_with (first
          | (go_at_call_of 15 (iv n); refine (of_calls n _).mono ?_; rw [eN]; rintro e w3 ⟨rfl, b3⟩; have x3 := (x2.below b3).alloc (.cells #[iv (A2), iv (B2), iv (D)] 23); have O := DayAt.new w3 23 (A2) (B2) (D))
          | (go_at_call 15; refine (of_calls (n + 1) _).mono ?_; rw [eX]; rintro e w6 ⟨rfl, b6⟩; have x6 := (x5.below b6).alloc (.cells #[iv (A2), iv (B2), iv (D + 1)] 23); have O6 := O5.past ⟨w6, b6⟩; have o0 := O6.c0; have o1 := O6.c1; have o2 := O6.c2; dsimp only at o0 o1 o2; have hlt := World.block_lt_of_cell? w6 _ o0; dsimp only at hlt)
          | (go_at_call 13; refine (num_calls x _ _ _ _ x3).mono ?_; rw [eV]; rintro e w4 ⟨rfl, b4⟩; have x4 := x3.below b4; have O4 := O.past ⟨w4, b4⟩; have o0 := O4.c0; have o1 := O4.c1; have o2 := O4.c2; dsimp only at o0 o1 o2)
          | (go_at_call 9; refine (right_calls x _ _ _ _ x4).mono ?_; rw [eD]; rintro e w5 ⟨rfl, b5⟩; have x5 := x4.below b5; have O5 := O4.past ⟨w5, b5⟩))
        have P := O6.past ⟨w6.alloc (.cells #[iv (A2), iv (B2), iv (D + 1)] 23), (Below.refl _ _).alloc (Nat.le_refl _) _⟩
        dsimp only at P
        have Xn := DayAt.new w6 23 (A2) (B2) (D + 1)
        have p0 := fun k => (P.past k).c0
        have p1 := fun k => (P.past k).c1
        have p2 := fun k => (P.past k).c2
        have e0 := fun k => (Xn.past k).c0
        have e1 := fun k => (Xn.past k).c1
        have e2 := fun k => (Xn.past k).c2
        clear o0 o1 o2
        go_wp2_with fail
        simp only [List.append]
        (refine region_past (by kernel_rfl) (by kernel_rfl) ?_; (repeat (first | go_big_quiet_skip | (go_big_quiet_want; go_big_quiet_op; first | go_big_quiet_on | (apply Exists.intro; refine ⟨fun k => ?_, ?_⟩; (focus (first | (go_at_call 11; refine Past.calls_same (long_calls _ _ _)))); go_big_quiet_on)))); refine wpQuiet_nil ?_; intro k)
        have x7 := x6.below k.below
        obtain ⟨w7, b8⟩ := k
        dsimp only at x7 ⊢
        clear p0 p1 p2 e0 e1 e2
        go_wp2_with (first
          | (go_at_call_of 17 (iv n); refine (weekday_calls n _).mono ?_; rintro e w' ⟨rfl, rfl⟩)
          | (go_at_call 17; refine (weekday_calls (n + 1) _).mono ?_; rw [sw]; rintro e w' ⟨rfl, rfl⟩)
          | (go_at_call 21; refine (alive_calls x _ x7).mono ?_; rintro e w8 ⟨rfl, b9⟩))
        go_ret
        exact ⟨rfl, below_then (below_then (below_front b1) b2) (below_then b3 (below_then (below_then (below_front b4) b5) (below_then b6 (below_then (below_front b8) b9))))⟩
      · go_wp2_with (first
          | (go_at_call_of 15 (iv n); refine (of_calls n _).mono ?_; rw [eN]; rintro e w3 ⟨rfl, b3⟩; have x3 := (x2.below b3).alloc (.cells #[iv (A2), iv (M), iv (longI A2 M)] 23); have O := DayAt.new w3 23 (A2) (M) (longI A2 M))
          | (go_at_call 15; refine (of_calls (n + 1) _).mono ?_; rw [eX]; rintro e w6 ⟨rfl, b6⟩; have x6 := (x5.below b6).alloc (.cells #[iv (A2), iv (M + 1), iv (1)] 23); have O6 := O5.past ⟨w6, b6⟩; have o0 := O6.c0; have o1 := O6.c1; have o2 := O6.c2; dsimp only at o0 o1 o2; have hlt := World.block_lt_of_cell? w6 _ o0; dsimp only at hlt)
          | (go_at_call 13; refine (num_calls x _ _ _ _ x3).mono ?_; rw [eV]; rintro e w4 ⟨rfl, b4⟩; have x4 := x3.below b4; have O4 := O.past ⟨w4, b4⟩; have o0 := O4.c0; have o1 := O4.c1; have o2 := O4.c2; dsimp only at o0 o1 o2)
          | (go_at_call 9; refine (right_calls x _ _ _ _ x4).mono ?_; rw [eD]; rintro e w5 ⟨rfl, b5⟩; have x5 := x4.below b5; have O5 := O4.past ⟨w5, b5⟩))
        have P := O6.past ⟨w6.alloc (.cells #[iv (A2), iv (M + 1), iv (1)] 23), (Below.refl _ _).alloc (Nat.le_refl _) _⟩
        dsimp only at P
        have Xn := DayAt.new w6 23 (A2) (M + 1) (1)
        have p0 := fun k => (P.past k).c0
        have p1 := fun k => (P.past k).c1
        have p2 := fun k => (P.past k).c2
        have e0 := fun k => (Xn.past k).c0
        have e1 := fun k => (Xn.past k).c1
        have e2 := fun k => (Xn.past k).c2
        clear o0 o1 o2
        have hb1 : (M + 1 == M) = false := beq_eq_false_iff_ne.2 (by omega)
        have hb2 : decide (M + 1 = M) = false := decide_eq_false (by omega)
        go_wp2_with fail
        simp only [List.append]
        (refine region_past (by kernel_rfl) (by kernel_rfl) ?_; (repeat (first | go_big_quiet_skip | (go_big_quiet_want; go_big_quiet_op; first | go_big_quiet_on | (apply Exists.intro; refine ⟨fun k => ?_, ?_⟩; (focus (first | (go_at_call 11; refine Past.calls_same (long_calls _ _ _)))); go_big_quiet_on)))); refine wpQuiet_nil ?_; intro k)
        have x7 := x6.below k.below
        obtain ⟨w7, b8⟩ := k
        dsimp only at x7 ⊢
        clear p0 p1 p2 e0 e1 e2
        go_wp2_with (first
          | (go_at_call_of 17 (iv n); refine (weekday_calls n _).mono ?_; rintro e w' ⟨rfl, rfl⟩)
          | (go_at_call 17; refine (weekday_calls (n + 1) _).mono ?_; rw [sw]; rintro e w' ⟨rfl, rfl⟩)
          | (go_at_call 21; refine (alive_calls x _ x7).mono ?_; rintro e w8 ⟨rfl, b9⟩))
        go_ret
        exact ⟨rfl, below_then (below_then (below_front b1) b2) (below_then b3 (below_then (below_then (below_front b4) b5) (below_then b6 (below_then (below_front b8) b9))))⟩
      · go_wp2_with (first
          | (go_at_call_of 15 (iv n); refine (of_calls n _).mono ?_; rw [eN]; rintro e w3 ⟨rfl, b3⟩; have x3 := (x2.below b3).alloc (.cells #[iv (Y), iv (12), iv (longI Y 12)] 23); have O := DayAt.new w3 23 (Y) (12) (longI Y 12))
          | (go_at_call 15; refine (of_calls (n + 1) _).mono ?_; rw [eX]; rintro e w6 ⟨rfl, b6⟩; have x6 := (x5.below b6).alloc (.cells #[iv (Y + 1), iv (1), iv (1)] 23); have O6 := O5.past ⟨w6, b6⟩; have o0 := O6.c0; have o1 := O6.c1; have o2 := O6.c2; dsimp only at o0 o1 o2; have hlt := World.block_lt_of_cell? w6 _ o0; dsimp only at hlt)
          | (go_at_call 13; refine (num_calls x _ _ _ _ x3).mono ?_; rw [eV]; rintro e w4 ⟨rfl, b4⟩; have x4 := x3.below b4; have O4 := O.past ⟨w4, b4⟩; have o0 := O4.c0; have o1 := O4.c1; have o2 := O4.c2; dsimp only at o0 o1 o2)
          | (go_at_call 9; refine (right_calls x _ _ _ _ x4).mono ?_; rw [eD]; rintro e w5 ⟨rfl, b5⟩; have x5 := x4.below b5; have O5 := O4.past ⟨w5, b5⟩))
        have P := O6.past ⟨w6.alloc (.cells #[iv (Y + 1), iv (1), iv (1)] 23), (Below.refl _ _).alloc (Nat.le_refl _) _⟩
        dsimp only at P
        have Xn := DayAt.new w6 23 (Y + 1) (1) (1)
        have p0 := fun k => (P.past k).c0
        have p1 := fun k => (P.past k).c1
        have p2 := fun k => (P.past k).c2
        have e0 := fun k => (Xn.past k).c0
        have e1 := fun k => (Xn.past k).c1
        have e2 := fun k => (Xn.past k).c2
        clear o0 o1 o2
        have hb1 : (Y + 1 == Y) = false := beq_eq_false_iff_ne.2 (by omega)
        have hb2 : decide (Y + 1 = Y) = false := decide_eq_false (by omega)
        go_wp2_with fail
        simp only [List.append]
        (refine region_past (by kernel_rfl) (by kernel_rfl) ?_; (repeat (first | go_big_quiet_skip | (go_big_quiet_want; go_big_quiet_op; first | go_big_quiet_on | (apply Exists.intro; refine ⟨fun k => ?_, ?_⟩; (focus (first | (go_at_call 11; refine Past.calls_same (long_calls _ _ _)))); go_big_quiet_on)))); refine wpQuiet_nil ?_; intro k)
        have x7 := x6.below k.below
        obtain ⟨w7, b8⟩ := k
        dsimp only at x7 ⊢
        clear p0 p1 p2 e0 e1 e2
        go_wp2_with (first
          | (go_at_call_of 17 (iv n); refine (weekday_calls n _).mono ?_; rintro e w' ⟨rfl, rfl⟩)
          | (go_at_call 17; refine (weekday_calls (n + 1) _).mono ?_; rw [sw]; rintro e w' ⟨rfl, rfl⟩)
          | (go_at_call 21; refine (alive_calls x _ x7).mono ?_; rintro e w8 ⟨rfl, b9⟩))
        go_ret
        exact ⟨rfl, below_then (below_then (below_front b1) b2) (below_then b3 (below_then (below_then (below_front b4) b5) (below_then b6 (below_then (below_front b8) b9))))⟩
  · have eK : numV y m d = 0 := if_neg hr
    have eR : decide (rightI y m d) = false := decide_eq_false hr
    have cR := fun w hx => right_calls x y m d w hx
    rw [eR] at cR
    clear eR hr
    go_enter Tryd.func4, Tryd.ntmps4
    go_wp2_with (go_at_call 13; refine (num_calls x _ _ _ _ xa).mono ?_; rw [eK]; rintro e w1 ⟨rfl, b1⟩)
    have x1 := xa.below b1
    have lx := fun k : Past w1 => x1.below k.below
    have B := A.past ⟨w1, b1⟩
    dsimp only at B
    have c0 := fun k => (B.past k).c0
    have c1 := fun k => (B.past k).c1
    have c2 := fun k => (B.past k).c2
    (refine region_past (by kernel_rfl) (by kernel_rfl) ?_; (repeat (first | go_big_quiet_skip | (go_big_quiet_want; go_big_quiet_op; first | go_big_quiet_on | (apply Exists.intro; refine ⟨fun k => ?_, ?_⟩; (focus (first | (go_at_call 9; refine Past.calls (cR _ (lx _))))); go_big_quiet_on)))); refine wpQuiet_nil ?_; intro k)
    have x2 := lx k
    obtain ⟨w2, b2⟩ := k
    dsimp only at x2 ⊢
    clear c0 c1 c2 lx B A hrow cR
    clear eK
    rcases hn with hn | hn | hn
    · have eN := dayO_zero (n := n) hn
      rcases hn with hn | hn
      · unfold lastN at *
        go_wp2_with (first
          | (go_at_call 15; refine (of_calls _ _).mono ?_; rw [eN]; rintro e w3 ⟨rfl, b3⟩; have x3 := (x2.below b3).alloc (.cells #[iv 0, iv 0, iv 0] 23))
          | (go_at_call 21; refine (alive_calls x _ x3).mono ?_; rintro e w4 ⟨rfl, b4⟩))
        go_ret
        exact ⟨rfl, below_then (below_then (below_front b1) b2) (below_then b3 (below_front b4))⟩
      · unfold lastN at *
        go_wp2_with (first
          | (go_at_call 15; refine (of_calls _ _).mono ?_; rw [eN]; rintro e w3 ⟨rfl, b3⟩; have x3 := (x2.below b3).alloc (.cells #[iv 0, iv 0, iv 0] 23))
          | (go_at_call 21; refine (alive_calls x _ x3).mono ?_; rintro e w4 ⟨rfl, b4⟩))
        go_ret
        exact ⟨rfl, below_then (below_then (below_front b1) b2) (below_then b3 (below_front b4))⟩
    · subst hn
      have hl : rightI 9999 12 31 := by decide
      have nl : numI 9999 12 31 = 3652059 := by decide
      have eN := dayO_of hl nl
      have eV : numV 9999 12 31 = 3652059 := by decide
      have eD : decide (rightI 9999 12 31) = true := by decide
      go_wp2_with (first
        | (go_at_call 15; refine (of_calls _ _).mono ?_; rw [eN]; rintro e w3 ⟨rfl, b3⟩; have x3 := (x2.below b3).alloc (.cells #[iv 9999, iv 12, iv 31] 23); have O := DayAt.new w3 23 9999 12 31)
        | (go_at_call 13; refine (num_calls x _ _ _ _ x3).mono ?_; rw [eV]; rintro e w4 ⟨rfl, b4⟩; have x4 := x3.below b4; have O4 := O.past ⟨w4, b4⟩; have o0 := O4.c0; have o1 := O4.c1; have o2 := O4.c2; dsimp only at o0 o1 o2)
        | (go_at_call 9; refine (right_calls x _ _ _ _ x4).mono ?_; rw [eD]; rintro e w5 ⟨rfl, b5⟩; have x5 := x4.below b5)
        | (go_at_call 21; refine (alive_calls x _ x5).mono ?_; rintro e w6 ⟨rfl, b6⟩))
      go_ret
      exact ⟨rfl, below_then (below_then (below_front b1) b2) (below_then b3 (below_then (below_then (below_front b4) b5) b6))⟩
    · obtain ⟨g1, g2⟩ := hn
      obtain ⟨Y, M, D, hr1, hn1, ho1⟩ := day_ex (n := n) g1 (by unfold lastN; omega)
      obtain ⟨A2, B2, C2, hr2, hn2, ho2⟩ := day_ex (n := n + 1) (by omega) (by unfold lastN; omega)
      have eN := dayO_of hr1 hn1
      have eX := dayO_of hr2 hn2
      have eV : numV Y M D = n := (if_pos hr1).trans hn1
      have eD : decide (rightI Y M D) = true := decide_eq_true hr1
      have hnx := next_day hr1 hr2 (by omega)
      obtain ⟨i1, i2, i3, i4, i5, i6⟩ := rightI_in hr1
      obtain ⟨s1, s2⟩ := wd_in n
      have sw := wd_next n
      have L0 := longI_le Y M
      obtain ⟨L1, L2⟩ := L0
      clear hr1 hn1 ho1 hr2 hn2 ho2
      rcases hnx with ⟨rfl, rfl, rfl⟩ | ⟨rfl, rfl, rfl, rfl⟩ | ⟨rfl, rfl, rfl, rfl, rfl⟩
      · go_wp2_with (first
          | (go_at_call_of 15 (iv n); refine (of_calls n _).mono ?_; rw [eN]; rintro e w3 ⟨rfl, b3⟩; have x3 := (x2.below b3).alloc (.cells #[iv (A2), iv (B2), iv (D)] 23); have O := DayAt.new w3 23 (A2) (B2) (D))
          | (go_at_call 15; refine (of_calls (n + 1) _).mono ?_; rw [eX]; rintro e w6 ⟨rfl, b6⟩; have x6 := (x5.below b6).alloc (.cells #[iv (A2), iv (B2), iv (D + 1)] 23); have O6 := O5.past ⟨w6, b6⟩; have o0 := O6.c0; have o1 := O6.c1; have o2 := O6.c2; dsimp only at o0 o1 o2; have hlt := World.block_lt_of_cell? w6 _ o0; dsimp only at hlt)
          | (go_at_call 13; refine (num_calls x _ _ _ _ x3).mono ?_; rw [eV]; rintro e w4 ⟨rfl, b4⟩; have x4 := x3.below b4; have O4 := O.past ⟨w4, b4⟩; have o0 := O4.c0; have o1 := O4.c1; have o2 := O4.c2; dsimp only at o0 o1 o2)
          | (go_at_call 9; refine (right_calls x _ _ _ _ x4).mono ?_; rw [eD]; rintro e w5 ⟨rfl, b5⟩; have x5 := x4.below b5; have O5 := O4.past ⟨w5, b5⟩))
        have P := O6.past ⟨w6.alloc (.cells #[iv (A2), iv (B2), iv (D + 1)] 23), (Below.refl _ _).alloc (Nat.le_refl _) _⟩
        dsimp only at P
        have Xn := DayAt.new w6 23 (A2) (B2) (D + 1)
        have p0 := fun k => (P.past k).c0
        have p1 := fun k => (P.past k).c1
        have p2 := fun k => (P.past k).c2
        have e0 := fun k => (Xn.past k).c0
        have e1 := fun k => (Xn.past k).c1
        have e2 := fun k => (Xn.past k).c2
        clear o0 o1 o2
        go_wp2_with fail
        simp only [List.append]
        (refine region_past (by kernel_rfl) (by kernel_rfl) ?_; (repeat (first | go_big_quiet_skip | (go_big_quiet_want; go_big_quiet_op; first | go_big_quiet_on | (apply Exists.intro; refine ⟨fun k => ?_, ?_⟩; (focus (first | (go_at_call 11; refine Past.calls_same (long_calls _ _ _)))); go_big_quiet_on)))); refine wpQuiet_nil ?_; intro k)
        have x7 := x6.below k.below
        obtain ⟨w7, b8⟩ := k
        dsimp only at x7 ⊢
        clear p0 p1 p2 e0 e1 e2
        go_wp2_with (first
          | (go_at_call_of 17 (iv n); refine (weekday_calls n _).mono ?_; rintro e w' ⟨rfl, rfl⟩)
          | (go_at_call 17; refine (weekday_calls (n + 1) _).mono ?_; rw [sw]; rintro e w' ⟨rfl, rfl⟩)
          | (go_at_call 21; refine (alive_calls x _ x7).mono ?_; rintro e w8 ⟨rfl, b9⟩))
        go_ret
        exact ⟨rfl, below_then (below_then (below_front b1) b2) (below_then b3 (below_then (below_then (below_front b4) b5) (below_then b6 (below_then (below_front b8) b9))))⟩
      · go_wp2_with (first
          | (go_at_call_of 15 (iv n); refine (of_calls n _).mono ?_; rw [eN]; rintro e w3 ⟨rfl, b3⟩; have x3 := (x2.below b3).alloc (.cells #[iv (A2), iv (M), iv (longI A2 M)] 23); have O := DayAt.new w3 23 (A2) (M) (longI A2 M))
          | (go_at_call 15; refine (of_calls (n + 1) _).mono ?_; rw [eX]; rintro e w6 ⟨rfl, b6⟩; have x6 := (x5.below b6).alloc (.cells #[iv (A2), iv (M + 1), iv (1)] 23); have O6 := O5.past ⟨w6, b6⟩; have o0 := O6.c0; have o1 := O6.c1; have o2 := O6.c2; dsimp only at o0 o1 o2; have hlt := World.block_lt_of_cell? w6 _ o0; dsimp only at hlt)
          | (go_at_call 13; refine (num_calls x _ _ _ _ x3).mono ?_; rw [eV]; rintro e w4 ⟨rfl, b4⟩; have x4 := x3.below b4; have O4 := O.past ⟨w4, b4⟩; have o0 := O4.c0; have o1 := O4.c1; have o2 := O4.c2; dsimp only at o0 o1 o2)
          | (go_at_call 9; refine (right_calls x _ _ _ _ x4).mono ?_; rw [eD]; rintro e w5 ⟨rfl, b5⟩; have x5 := x4.below b5; have O5 := O4.past ⟨w5, b5⟩))
        have P := O6.past ⟨w6.alloc (.cells #[iv (A2), iv (M + 1), iv (1)] 23), (Below.refl _ _).alloc (Nat.le_refl _) _⟩
        dsimp only at P
        have Xn := DayAt.new w6 23 (A2) (M + 1) (1)
        have p0 := fun k => (P.past k).c0
        have p1 := fun k => (P.past k).c1
        have p2 := fun k => (P.past k).c2
        have e0 := fun k => (Xn.past k).c0
        have e1 := fun k => (Xn.past k).c1
        have e2 := fun k => (Xn.past k).c2
        clear o0 o1 o2
        have hb1 : (M + 1 == M) = false := beq_eq_false_iff_ne.2 (by omega)
        have hb2 : decide (M + 1 = M) = false := decide_eq_false (by omega)
        go_wp2_with fail
        simp only [List.append]
        (refine region_past (by kernel_rfl) (by kernel_rfl) ?_; (repeat (first | go_big_quiet_skip | (go_big_quiet_want; go_big_quiet_op; first | go_big_quiet_on | (apply Exists.intro; refine ⟨fun k => ?_, ?_⟩; (focus (first | (go_at_call 11; refine Past.calls_same (long_calls _ _ _)))); go_big_quiet_on)))); refine wpQuiet_nil ?_; intro k)
        have x7 := x6.below k.below
        obtain ⟨w7, b8⟩ := k
        dsimp only at x7 ⊢
        clear p0 p1 p2 e0 e1 e2
        go_wp2_with (first
          | (go_at_call_of 17 (iv n); refine (weekday_calls n _).mono ?_; rintro e w' ⟨rfl, rfl⟩)
          | (go_at_call 17; refine (weekday_calls (n + 1) _).mono ?_; rw [sw]; rintro e w' ⟨rfl, rfl⟩)
          | (go_at_call 21; refine (alive_calls x _ x7).mono ?_; rintro e w8 ⟨rfl, b9⟩))
        go_ret
        exact ⟨rfl, below_then (below_then (below_front b1) b2) (below_then b3 (below_then (below_then (below_front b4) b5) (below_then b6 (below_then (below_front b8) b9))))⟩
      · go_wp2_with (first
          | (go_at_call_of 15 (iv n); refine (of_calls n _).mono ?_; rw [eN]; rintro e w3 ⟨rfl, b3⟩; have x3 := (x2.below b3).alloc (.cells #[iv (Y), iv (12), iv (longI Y 12)] 23); have O := DayAt.new w3 23 (Y) (12) (longI Y 12))
          | (go_at_call 15; refine (of_calls (n + 1) _).mono ?_; rw [eX]; rintro e w6 ⟨rfl, b6⟩; have x6 := (x5.below b6).alloc (.cells #[iv (Y + 1), iv (1), iv (1)] 23); have O6 := O5.past ⟨w6, b6⟩; have o0 := O6.c0; have o1 := O6.c1; have o2 := O6.c2; dsimp only at o0 o1 o2; have hlt := World.block_lt_of_cell? w6 _ o0; dsimp only at hlt)
          | (go_at_call 13; refine (num_calls x _ _ _ _ x3).mono ?_; rw [eV]; rintro e w4 ⟨rfl, b4⟩; have x4 := x3.below b4; have O4 := O.past ⟨w4, b4⟩; have o0 := O4.c0; have o1 := O4.c1; have o2 := O4.c2; dsimp only at o0 o1 o2)
          | (go_at_call 9; refine (right_calls x _ _ _ _ x4).mono ?_; rw [eD]; rintro e w5 ⟨rfl, b5⟩; have x5 := x4.below b5; have O5 := O4.past ⟨w5, b5⟩))
        have P := O6.past ⟨w6.alloc (.cells #[iv (Y + 1), iv (1), iv (1)] 23), (Below.refl _ _).alloc (Nat.le_refl _) _⟩
        dsimp only at P
        have Xn := DayAt.new w6 23 (Y + 1) (1) (1)
        have p0 := fun k => (P.past k).c0
        have p1 := fun k => (P.past k).c1
        have p2 := fun k => (P.past k).c2
        have e0 := fun k => (Xn.past k).c0
        have e1 := fun k => (Xn.past k).c1
        have e2 := fun k => (Xn.past k).c2
        clear o0 o1 o2
        have hb1 : (Y + 1 == Y) = false := beq_eq_false_iff_ne.2 (by omega)
        have hb2 : decide (Y + 1 = Y) = false := decide_eq_false (by omega)
        go_wp2_with fail
        simp only [List.append]
        (refine region_past (by kernel_rfl) (by kernel_rfl) ?_; (repeat (first | go_big_quiet_skip | (go_big_quiet_want; go_big_quiet_op; first | go_big_quiet_on | (apply Exists.intro; refine ⟨fun k => ?_, ?_⟩; (focus (first | (go_at_call 11; refine Past.calls_same (long_calls _ _ _)))); go_big_quiet_on)))); refine wpQuiet_nil ?_; intro k)
        have x7 := x6.below k.below
        obtain ⟨w7, b8⟩ := k
        dsimp only at x7 ⊢
        clear p0 p1 p2 e0 e1 e2
        go_wp2_with (first
          | (go_at_call_of 17 (iv n); refine (weekday_calls n _).mono ?_; rintro e w' ⟨rfl, rfl⟩)
          | (go_at_call 17; refine (weekday_calls (n + 1) _).mono ?_; rw [sw]; rintro e w' ⟨rfl, rfl⟩)
          | (go_at_call 21; refine (alive_calls x _ x7).mono ?_; rintro e w8 ⟨rfl, b9⟩))
        go_ret
        exact ⟨rfl, below_then (below_then (below_front b1) b2) (below_then b3 (below_then (below_then (below_front b4) b5) (below_then b6 (below_then (below_front b8) b9))))⟩
end Go.Proofs.YtnangpmnhcglcaaDoor
