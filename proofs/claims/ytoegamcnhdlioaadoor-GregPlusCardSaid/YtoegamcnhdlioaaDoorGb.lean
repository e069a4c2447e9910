/- Between: the program's, and the document's. -/
import Derived.Test.YtoegamcnhdlioaaDoorGe
namespace Go.Proofs.YtoegamcnhdlioaaDoor
open Go.RowKit Go.Extern.Stop Go.Stop Go.Extern
set_option linter.unusedVariables false
set_option linter.unusedSimpArgs false

abbrev Tri := Int × Int × Int
abbrev triV (t : Tri) : Value := dayV t.1 t.2.1 t.2.2
/-- Days lie behind one another from a place of a block on. -/
def DaysAt (w : World) (b off : Nat) (l : List Tri) : Prop :=
  ∀ (i : Nat) (h : i < l.length), w.cell? ⟨b, off + i * 3, none⟩ = some (iv l[i].1) ∧ w.cell? ⟨b, off + i * 3 + 1, none⟩ = some (iv l[i].2.1) ∧ w.cell? ⟨b, off + i * 3 + 2, none⟩ = some (iv l[i].2.2)

theorem DaysAt.below {w w' : World} {b off : Nat} {l : List Tri} (h : DaysAt w b off l) (hb : Below w.heap.size w w') : DaysAt w' b off l := fun i hi => by
  obtain ⟨c0, c1, c2⟩ := h i hi
  have hlt : b < w.heap.size := World.block_lt_of_cell? w _ c0
  exact ⟨by rw [hb.cell hlt]; exact c0, by rw [hb.cell hlt]; exact c1, by rw [hb.cell hlt]; exact c2⟩
abbrev rightT (t : Tri) : Prop := rightI t.1 t.2.1 t.2.2
abbrev numT (t : Tri) : Int := numI t.1 t.2.1 t.2.2
def mnL (l : List Tri) : Int := l.foldl (fun a t => min a (numT t)) 3652059
def mxL (l : List Tri) : Int := l.foldl (fun a t => max a (numT t)) 0
theorem mnL_step (l : List Tri) (i : Nat) (h : i < l.length) : mnL (l.take (i + 1)) = min (mnL (l.take i)) (numT l[i]) := by
  unfold mnL; rw [List.take_add_one, List.getElem?_eq_getElem h, List.foldl_append]; rfl
theorem mxL_step (l : List Tri) (i : Nat) (h : i < l.length) : mxL (l.take (i + 1)) = max (mxL (l.take i)) (numT l[i]) := by
  unfold mxL; rw [List.take_add_one, List.getElem?_eq_getElem h, List.foldl_append]; rfl
def allR (l : List Tri) : Prop := ∀ (i : Nat) (h : i < l.length), rightT l[i]
open Classical in
noncomputable def btwV (l : List Tri) : Value := if 2 ≤ l.length ∧ allR l then .tuple #[iv (mxL l - mnL l), .bool true] else .tuple #[iv 0, .bool false]
theorem btwV_bad {l : List Tri} (i : Nat) (h : i < l.length) (hr : ¬ rightT l[i]) : btwV l = .tuple #[iv 0, .bool false] := if_neg (fun hh => hr (hh.2 i h))
theorem btwV_short {l : List Tri} (h : l.length < 2) : btwV l = .tuple #[iv 0, .bool false] := if_neg (fun hh => by omega)
theorem mn_in (l : List Tri) (hr : allR l) : ∀ i, i ≤ l.length → 1 ≤ mnL (l.take i) ∧ mnL (l.take i) ≤ 3652059 ∧ 0 ≤ mxL (l.take i) ∧ mxL (l.take i) ≤ 3652059
  | 0, _ => by simp [mnL, mxL]
  | i + 1, h => by
    obtain ⟨a, b, c, d⟩ := mn_in l hr i (by omega)
    have e : 1 ≤ numT l[i] ∧ numT l[i] ≤ 3652059 := numI_small (hr i (by omega))
    rw [mnL_step l i (by omega), mxL_step l i (by omega)]
    omega

set_option maxRecDepth 100000 in
set_option maxHeartbeats 1000000 in
theorem between_calls (x : Addr) (b off cap : Nat) (l : List Tri) (w : World) (hx : Laid x w) (hl : DaysAt w b off l) (hn : l.length ≤ 1000) :
    Calls Tryd.prog 23 #[.slice (some ⟨b, off, none⟩) l.length cap] w fun e w' => e = .returned (btwV l) ∧ Below w.heap.size w w' := by
  by_cases h2 : 2 ≤ l.length
  · have h2' : (2 : Int) ≤ (l.length : Int) := by omega
    go_enter Tryd.func23, Tryd.ntmps23
    go_wp2_with fail
    go_loopw [4, 5, 15] (fun lo hi v wr => ∃ i : Nat, i ≤ l.length ∧ v = .int .i64 i ∧ lo = iv (mnL (l.take i)) ∧ hi = iv (mxL (l.take i)) ∧ (∀ (j : Nat) (h : j < l.length), j < i → rightT l[j]) ∧ Below w.heap.size w wr) (fun _ _ v _ => l.length - (intOf v).toNat)
    case atStart => exact ⟨0, Nat.zero_le _, rfl, rfl, rfl, fun j _ h => by omega, Below.refl _ _⟩
    case round =>
      obtain ⟨i, hi, rfl, rfl, rfl, hall, bb⟩ := hrel
      by_cases hlt : i < l.length
      · have hlt' : (i : Int) < (l.length : Int) := by omega
        obtain ⟨c0, c1, c2⟩ := hl.below bb i hlt
        have xr := (hx.below bb).alloc (.cells #[iv l[i].1, iv l[i].2.1, iv l[i].2.2] 23)
        have s1 := mnL_step l i hlt
        have s2 := mxL_step l i hlt
        by_cases hr : rightT l[i]
        · go_wp2_with (first
            | (go_at_call 30; refine (number_right _ _ _ hr _).mono ?_; rintro e w1 ⟨rfl, b1⟩; have q : w1.cell? ⟨0, 0, none⟩ = some (errP x) := xr.below b1)
            | (go_at_call 31; refine (is_nil x _).mono ?_; rintro e w' ⟨rfl, rfl⟩))
          refine ⟨⟨i + 1, by omega, by simp, ?_, ?_, fun j hj hji => ?_, below_then bb (below_front b1)⟩, ?_⟩
          · rw [s1]; simp only [numT, Int.min_def]; congr 1; split <;> split <;> omega
          · rw [s2]; simp only [numT, Int.max_def]; congr 1; split <;> split <;> omega
          · rcases Nat.lt_or_ge j i with hj2 | hj2
            · exact hall j hj hj2
            · obtain rfl : j = i := by omega
              exact hr
          · simp [intOf]; omega
        · go_wp2_with (first
            | (go_at_call 30; refine (number_wrong x _ _ _ hr _ xr).mono ?_; rintro e w1 ⟨rfl, b1⟩; have q : w1.cell? ⟨0, 0, none⟩ = some (errP x) := xr.below b1)
            | (go_at_call 31; refine (is_same x _).mono ?_; rintro e w' ⟨rfl, rfl⟩))
          go_ret2
          exact ⟨by rw [btwV_bad i hlt hr]; rfl, below_then bb (below_front b1)⟩
      · obtain rfl : i = l.length := by omega
        have hA : allR l := fun j hj => hall j hj hj
        obtain ⟨r1, r2, r3, r4⟩ := mn_in l hA l.length (Nat.le_refl _)
        have e : btwV l = .tuple #[iv (mxL l - mnL l), .bool true] := if_pos ⟨h2, hA⟩
        rw [List.take_length] at r1 r2 r3 r4 ⊢
        go_wp2_with fail
        go_ret2
        exact ⟨by rw [e]; simp, bb⟩
  · rw [btwV_short (by omega)]
    have h2' : (l.length : Int) < 2 := by omega
    go_enter Tryd.func23, Tryd.ntmps23
    go_wp2_with fail
    go_ret2
    exact ⟨rfl, Below.refl _ _⟩
end Go.Proofs.YtoegamcnhdlioaaDoor
