/- Between, the document's. -/
import Derived.Test.YtoegamcnhdlioaaDoorGb
namespace Go.Proofs.YtoegamcnhdlioaaDoor
open Go.RowKit Go.Extern.Stop Go.Stop Go.Extern
set_option linter.unusedVariables false
set_option linter.unusedSimpArgs false

theorem mnL_le (l : List Tri) (i : Nat) (h : i < l.length) : ∀ k, i < k → k ≤ l.length → mnL (l.take k) ≤ numT l[i]
  | 0, h0, _ => by omega
  | k + 1, h0, hk => by
    rw [mnL_step l k (by omega)]
    rcases Nat.lt_or_ge i k with h1 | h1
    · have := mnL_le l i h k h1 (by omega); omega
    · obtain rfl : i = k := by omega
      omega
theorem mxL_ge (l : List Tri) (i : Nat) (h : i < l.length) : ∀ k, i < k → k ≤ l.length → numT l[i] ≤ mxL (l.take k)
  | 0, h0, _ => by omega
  | k + 1, h0, hk => by
    rw [mxL_step l k (by omega)]
    rcases Nat.lt_or_ge i k with h1 | h1
    · have := mxL_ge l i h k h1 (by omega); omega
    · obtain rfl : i = k := by omega
      omega

theorem hzero (t : Tri) : numV t.1 t.2.1 t.2.2 = if rightT t then numT t else 0 := rfl

set_option maxRecDepth 100000 in
set_option maxHeartbeats 2000000 in
theorem betweenR_calls (b off cap : Nat) (l : List Tri) (w : World) (hl : DaysAt w b off l) (hn : l.length ≤ 1000) :
    Calls Tryd.prog 24 #[.slice (some ⟨b, off, none⟩) l.length cap] w fun e w' => e = .returned (btwV l) ∧ Below w.heap.size w w' := by
  by_cases h2 : 2 ≤ l.length
  · have h2' : (2 : Int) ≤ (l.length : Int) := by omega
    have h0 : 0 < l.length := by omega
    obtain ⟨z0, z1, z2⟩ := hl 0 h0
    rw [Nat.zero_mul, Nat.add_zero] at z0 z1 z2
    go_enter Tryd.func24, Tryd.ntmps24
    go_wp2_with (go_at_call 14; refine (numR_calls _ _ _ _).mono ?_; rintro e w1 ⟨rfl, b1⟩)
    generalize hL : numV (l[0]'h0).1 (l[0]'h0).2.1 (l[0]'h0).2.2 = L0 at *
    have L0r : rightT (l[0]'h0) → L0 = numT (l[0]'h0) := fun h => by rw [← hL, hzero, if_pos h]
    go_loopw [4, 5, 6] (fun lo hi v wr => ∃ i : Nat, i ≤ l.length ∧ v = .int .i64 i ∧ lo = iv (min L0 (mnL (l.take i))) ∧ hi = iv (max L0 (mxL (l.take i))) ∧ (∀ (j : Nat) (h : j < l.length), j < i → rightT l[j]) ∧ Below w.heap.size w wr) (fun _ _ v _ => l.length - (intOf v).toNat)
    case atStart =>
      have hr : 0 ≤ L0 ∧ L0 ≤ 3652059 := by
        rw [← hL, hzero]
        split
        · rename_i h; have : 1 ≤ numT (l[0]'h0) ∧ numT (l[0]'h0) ≤ 3652059 := numI_small h; omega
        · omega
      exact ⟨0, Nat.zero_le _, rfl, by simp [mnL]; omega, by simp [mxL]; omega, fun j _ h => by omega, b1⟩
    case round =>
      obtain ⟨i, hi, rfl, rfl, rfl, hall, bb⟩ := hrel
      by_cases hlt : i < l.length
      · have hlt' : (i : Int) < (l.length : Int) := by omega
        have da := hl.below bb
        obtain ⟨c0, c1, c2⟩ := da i hlt
        have s1 := mnL_step l i hlt
        have s2 := mxL_step l i hlt
        by_cases hr : rightT l[i]
        · have er : decide (rightI l[i].1 l[i].2.1 l[i].2.2) = true := decide_eq_true hr
          have ev : numV l[i].1 l[i].2.1 l[i].2.2 = numT l[i] := if_pos hr
          simp only [numT] at ev s1 s2
          generalize hA : min L0 (mnL (l.take i)) = A at *
          generalize hB : max L0 (mxL (l.take i)) = B at *
          go_wp2_with (first
            | (go_at_call 10; refine (rightR_calls _ _ _ _).mono ?_; rw [er]; rintro e w2 ⟨rfl, b2⟩; obtain ⟨g0, g1, g2⟩ := da.below b2 i hlt; have d2 := da.below b2; have t2 := below_then bb b2)
            | (go_at_call 14; refine (numR_calls _ _ _ _).mono ?_; rw [ev]; rintro e w3 ⟨rfl, b3⟩; obtain ⟨g0, g1, g2⟩ := d2.below b3 i hlt; have d3 := d2.below b3; have d2 := d3; have t3 := below_then t2 b3; have t2 := t3))
          all_goals
            refine ⟨⟨i + 1, by omega, by simp, ?_, ?_, fun j hj hji => ?_, t2⟩, ?_⟩
            · rw [s1]; congr 1; omega
            · rw [s2]; congr 1; omega
            · rcases Nat.lt_or_ge j i with hj2 | hj2
              · exact hall j hj hj2
              · obtain rfl : j = i := by omega
                exact hr
            · simp [intOf]; omega
        · have er : decide (rightI l[i].1 l[i].2.1 l[i].2.2) = false := decide_eq_false hr
          go_wp2_with (go_at_call 10; refine (rightR_calls _ _ _ _).mono ?_; rw [er]; rintro e w2 ⟨rfl, b2⟩)
          go_ret2
          exact ⟨by rw [btwV_bad i hlt hr]; rfl, below_then bb b2⟩
      · obtain rfl : i = l.length := by omega
        have hA : allR l := fun j hj => hall j hj hj
        obtain ⟨r1, r2, r3, r4⟩ := mn_in l hA l.length (Nat.le_refl _)
        have q1 := mnL_le l 0 h0 l.length h0 (Nat.le_refl _)
        have q2 := mxL_ge l 0 h0 l.length h0 (Nat.le_refl _)
        have q3 := L0r (hA 0 h0)
        have e : btwV l = .tuple #[iv (mxL l - mnL l), .bool true] := if_pos ⟨h2, hA⟩
        rw [List.take_length] at r1 r2 r3 r4 q1 q2 ⊢
        have m1 : min L0 (mnL l) = mnL l := by rw [q3]; omega
        have m2 : max L0 (mxL l) = mxL l := by rw [q3]; omega
        rw [m1, m2]
        clear q1 q2 q3 m1 m2 L0r hL
        go_wp2_with fail
        go_ret2
        exact ⟨by rw [e]; simp, bb⟩
  · rw [btwV_short (by omega)]
    have h2' : (l.length : Int) < 2 := by omega
    go_enter Tryd.func24, Tryd.ntmps24
    go_wp2_with fail
    go_ret2
    exact ⟨rfl, Below.refl _ _⟩
end Go.Proofs.YtoegamcnhdlioaaDoor
