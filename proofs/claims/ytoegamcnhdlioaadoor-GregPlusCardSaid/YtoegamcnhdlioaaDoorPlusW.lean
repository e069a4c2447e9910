/- GregPlus: the walk. -/
import Derived.Test.YtoegamcnhdlioaaDoorGt
namespace Go.Proofs.YtoegamcnhdlioaaDoor
open Go.RowKit Go.Extern.Stop Go.Stop Go.Extern
set_option linter.unusedVariables false
set_option linter.unusedSimpArgs false

theorem neqDay_none (a b c : Int) (w : World) : (binOp .neq 23 (dayV a b c) (dayV a b c)).run Tryd.prog w = .ok (.bool false) w := by
  have h := eqDay_same a b c w
  simp only [binOp] at h ⊢
  revert h
  generalize (Op.equal 23 (dayV a b c) (dayV a b c)) = s
  intro h
  simp at h ⊢
  revert h
  cases s.run Tryd.prog w <;> simp
theorem eqDay_no (a b c : Int) (h : (a == 0) = false) (w : World) : (binOp .eql 23 (dayV a b c) (dayV 0 0 0)).run Tryd.prog w = .ok (.bool false) w := by
  rw [eqDay, h]; rfl
theorem btwV_form (l : List Tri) : ∃ (n : Int) (b : Bool), btwV l = .tuple #[iv n, .bool b] := by
  unfold btwV; split
  · exact ⟨_, _, rfl⟩
  · exact ⟨_, _, rfl⟩
theorem plus_back {y m d on : Int} (h : plusR y m d on) : plusV ((y * 12 + m - 1 + on) / 12) ((y * 12 + m - 1 + on) % 12 + 1) d (-on) = dayV y m d := by
  obtain ⟨h1, h2, h3, h4, _⟩ := rightI_in h.1
  obtain ⟨k1, k2, k3, k4, _⟩ := rightI_in h.2
  have e : (y * 12 + m - 1 + on) / 12 * 12 + ((y * 12 + m - 1 + on) % 12 + 1) - 1 + -on = y * 12 + (m - 1) := by omega
  have e1 : (y * 12 + (m - 1)) / 12 = y := by omega
  have e2 : (y * 12 + (m - 1)) % 12 + 1 = m := by omega
  unfold plusV
  rw [e, e1, e2]
  exact if_pos ⟨h.2, by rw [e, e1, e2]; exact h.1⟩

set_option maxRecDepth 100000 in
set_option maxHeartbeats 4000000 in
theorem gregPlus_walk (x : Addr) (y m d on : Int) (a : Option Addr) (cap : Nat) (l : List Tri) (w : World) (hx : Laid x w) (ho : (Lit.int .i64 on).wf = true) (hl : DaysIn w a l) :
    Calls Tryd.prog 5 #[dayV y m d, iv on, .slice a l.length cap] w fun e w' => e = .returned (.bool true) ∧ Below w.heap.size w w' := by
  have hb : -9223372036854775808 ≤ on ∧ on ≤ 9223372036854775807 := by simpa [Lit.wf, IntKind.min, IntKind.max, IntKind.bits, IntKind.signed] using ho
  have xa := hx.alloc (.cells #[iv y, iv m, iv d] 23)
  by_cases hn : 50 < l.length
  · have hn' : (50 : Int) < (l.length : Int) := by omega
    go_enter Tryd.func5, Tryd.ntmps5
    go_wp2_with (go_at_call 21; refine (alive_calls x _ xa).mono ?_; rintro e w1 ⟨rfl, b1⟩)
    go_ret
    exact ⟨rfl, below_front b1⟩
  · have hn' : (l.length : Int) ≤ 50 := by omega
    have A := DayAt.new w 23 y m d
    have la := hl.below ((Below.refl _ w).alloc (Nat.le_refl _) (.cells #[iv y, iv m, iv d] 23))
    have q0 := eqDay_same 0 0 0
    have qd := eqDay_same y m d
    obtain ⟨N, B, eB⟩ := btwV_form l
    by_cases hp : plusR y m d on
    · have eP : plusV y m d on = dayV ((y * 12 + m - 1 + on) / 12) ((y * 12 + m - 1 + on) % 12 + 1) d := if_pos hp
      have eQ := plus_back hp
      have hz : (((y * 12 + m - 1 + on) / 12) == (0 : Int)) = false := by
        obtain ⟨h1, h2, _⟩ := rightI_in hp.2
        have : (y * 12 + m - 1 + on) / 12 ≠ 0 := by omega
        simp [this]
      have hs : -200000 ≤ on ∧ on ≤ 200000 := by
        obtain ⟨h1, h2, h3, h4, _⟩ := rightI_in hp.1
        obtain ⟨k1, k2, _⟩ := rightI_in hp.2
        omega
      obtain ⟨hs1, hs2⟩ := hs
      clear hp
      generalize hY : (y * 12 + m - 1 + on) / 12 = Y at *
      generalize hM : (y * 12 + m - 1 + on) % 12 + 1 = M at *
      clear hY hM
      have nd := neqDay_none Y M d
      have zd := eqDay_no Y M d hz
      clear hz
      have cR := fun w => plusR_calls y m d on w
      rw [eP] at cR
      have cB := fun w hx => plus_calls x Y M d (-on) w hx ⟨by omega, by omega⟩
      rw [eQ] at cB
      go_enter Tryd.func5, Tryd.ntmps5
      go_wp2_with (first
        | (go_at_call 22; refine (plus_calls x _ _ _ _ _ xa hb).mono ?_; rw [eP]; rintro e w1 ⟨rfl, b1⟩; have x1 := (xa.below b1).alloc (.cells #[iv Y, iv M, iv d] 23); have l1 := (la.below b1).below ((Below.refl _ w1).alloc (Nat.le_refl _) (.cells #[iv Y, iv M, iv d] 23)); have O := DayAt.new w1 23 Y M d)
        | (go_at_call 23; refine (between_any x a cap l _ x1 l1 (by omega)).mono ?_; rw [eB]; rintro e w2 ⟨rfl, b2⟩; have x2 := x1.below b2; have l2 := l1.below b2; have O2 := O.past ⟨w2, b2⟩)
        | (go_at_call 24; refine (betweenR_any a cap l _ l2 (by omega)).mono ?_; rw [eB]; rintro e w3 ⟨rfl, b3⟩; have x3 := x2.below b3))
      have b0 : Below (w.alloc (.cells #[iv y, iv m, iv d] 23)).heap.size (w.alloc (.cells #[iv y, iv m, iv d] 23)) w3 := below_then (below_then b1 (below_front b2)) b3
      have A3 := A.past ⟨w3, b0⟩
      have O3 := O2.past ⟨w3, b3⟩
      dsimp only at A3 O3
      have c0 := fun k => (A3.past k).c0
      have c1 := fun k => (A3.past k).c1
      have c2 := fun k => (A3.past k).c2
      have o0 := fun k => (O3.past k).c0
      have o1 := fun k => (O3.past k).c1
      have o2 := fun k => (O3.past k).c2
      (refine region_past (by kernel_rfl) (by kernel_rfl) ?_; (repeat (first | go_big_quiet_skip | (go_big_quiet_want; go_big_quiet_op; first | go_big_quiet_on | (apply Exists.intro; refine ⟨fun k => ?_, ?_⟩; (focus (first | (go_at_call 25; refine Past.calls (cR _)))); go_big_quiet_on)))); refine wpQuiet_nil ?_; intro k)
      have A4 := A3.past k
      have O4 := O3.past k
      have x4 := x3.below k.below
      obtain ⟨w4, b4⟩ := k
      dsimp only at A4 O4 x4 ⊢
      clear c0 c1 c2 o0 o1 o2
      have c0 := fun k => (A4.past k).c0
      have c1 := fun k => (A4.past k).c1
      have c2 := fun k => (A4.past k).c2
      have o0 := fun k => (O4.past k).c0
      have o1 := fun k => (O4.past k).c1
      have o2 := fun k => (O4.past k).c2
      have p0 := O4.c0
      have p1 := O4.c1
      have p2 := O4.c2
      have lx := fun k : Past w4 => x4.below k.below
      go_wp2_with fail
      (refine region_past (by kernel_rfl) (by kernel_rfl) ?_; (repeat (first | go_big_quiet_skip | (go_big_quiet_want; go_big_quiet_op; first | go_big_quiet_on | (apply Exists.intro; refine ⟨fun k => ?_, ?_⟩; (focus (first | (go_at_call 22; refine Past.calls (cB _ (lx _))) | (go_at_call 21; refine Past.calls (alive_calls x _ (lx _))))); go_big_quiet_on)))); refine wpQuiet_nil ?_; intro k)
      obtain ⟨w5, b5⟩ := k
      go_wp2_with fail
      go_ret
      exact ⟨rfl, below_then (below_then (below_front b0) b4) b5⟩
    · have eP : plusV y m d on = dayV 0 0 0 := if_neg hp
      clear hp
      have nd := neqDay_none 0 0 0
      have cR := fun w => plusR_calls y m d on w
      rw [eP] at cR
      go_enter Tryd.func5, Tryd.ntmps5
      go_wp2_with (first
        | (go_at_call 22; refine (plus_calls x _ _ _ _ _ xa hb).mono ?_; rw [eP]; rintro e w1 ⟨rfl, b1⟩; have x1 := (xa.below b1).alloc (.cells #[iv 0, iv 0, iv 0] 23); have l1 := (la.below b1).below ((Below.refl _ w1).alloc (Nat.le_refl _) (.cells #[iv 0, iv 0, iv 0] 23)); have O := DayAt.new w1 23 0 0 0)
        | (go_at_call 23; refine (between_any x a cap l _ x1 l1 (by omega)).mono ?_; rw [eB]; rintro e w2 ⟨rfl, b2⟩; have x2 := x1.below b2; have l2 := l1.below b2; have O2 := O.past ⟨w2, b2⟩)
        | (go_at_call 24; refine (betweenR_any a cap l _ l2 (by omega)).mono ?_; rw [eB]; rintro e w3 ⟨rfl, b3⟩; have x3 := x2.below b3))
      have b0 : Below (w.alloc (.cells #[iv y, iv m, iv d] 23)).heap.size (w.alloc (.cells #[iv y, iv m, iv d] 23)) w3 := below_then (below_then b1 (below_front b2)) b3
      have A3 := A.past ⟨w3, b0⟩
      have O3 := O2.past ⟨w3, b3⟩
      dsimp only at A3 O3
      have c0 := fun k => (A3.past k).c0
      have c1 := fun k => (A3.past k).c1
      have c2 := fun k => (A3.past k).c2
      have o0 := fun k => (O3.past k).c0
      have o1 := fun k => (O3.past k).c1
      have o2 := fun k => (O3.past k).c2
      (refine region_past (by kernel_rfl) (by kernel_rfl) ?_; (repeat (first | go_big_quiet_skip | (go_big_quiet_want; go_big_quiet_op; first | go_big_quiet_on | (apply Exists.intro; refine ⟨fun k => ?_, ?_⟩; (focus (first | (go_at_call 25; refine Past.calls (cR _)))); go_big_quiet_on)))); refine wpQuiet_nil ?_; intro k)
      have O4 := O3.past k
      have x4 := x3.below k.below
      obtain ⟨w4, b4⟩ := k
      dsimp only at O4 x4 ⊢
      clear c0 c1 c2 o0 o1 o2
      have p0 := O4.c0
      have p1 := O4.c1
      have p2 := O4.c2
      go_wp2_with (go_at_call 21; refine (alive_calls x _ x4).mono ?_; rintro e w5 ⟨rfl, b5⟩)
      go_ret
      exact ⟨rfl, below_then (below_then (below_front b0) b4) b5⟩
end Go.Proofs.YtoegamcnhdlioaaDoor
