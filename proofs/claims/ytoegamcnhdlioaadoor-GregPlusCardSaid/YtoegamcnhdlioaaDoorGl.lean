/- Plus: the program's, and the document's. -/
import Derived.Test.YtoegamcnhdlioaaDoorGv
namespace Go.Proofs.YtoegamcnhdlioaaDoor
open Go.RowKit Go.Extern.Stop Go.Stop Go.Extern
set_option linter.unusedVariables false
set_option linter.unusedSimpArgs false

/-- The day some months on. -/
def plusR (y m d on : Int) : Prop := rightI y m d ∧ rightI ((y * 12 + m - 1 + on) / 12) ((y * 12 + m - 1 + on) % 12 + 1) d
instance (y m d on : Int) : Decidable (plusR y m d on) := inferInstanceAs (Decidable (_ ∧ _))
def plusV (y m d on : Int) : Value := if plusR y m d on then dayV ((y * 12 + m - 1 + on) / 12) ((y * 12 + m - 1 + on) % 12 + 1) d else dayV 0 0 0

/-- What Plus reckons with. -/
def plusN (y m on : Int) : Int := wrap64 (y * 12 + m - 1 + on)
theorem plusN_right {y m d on : Int} (h : rightI y m d) (ho : -9223372036854775808 ≤ on ∧ on ≤ 9223372036854775807) :
    (decide (rightI ((plusN y m on).tdiv 12) ((plusN y m on).tmod 12 + 1) d) = decide (plusR y m d on)) ∧ (plusR y m d on → plusN y m on = y * 12 + m - 1 + on ∧ 0 ≤ y * 12 + m - 1 + on) := by
  obtain ⟨h1, h2, h3, h4, h5, h6⟩ := rightI_in h
  have en : plusN y m on = wrap64 (y * 12 + m - 1 + on) := rfl
  unfold plusR
  rw [en]
  by_cases hin : y * 12 + m - 1 + on ≤ 9223372036854775807
  · have e4 : wrap64 (y * 12 + m - 1 + on) = y * 12 + m - 1 + on := by unfold wrap64; omega
    rw [e4]
    by_cases hp : 0 ≤ y * 12 + m - 1 + on
    · rw [Int.tdiv_eq_ediv_of_nonneg hp, Int.tmod_eq_emod_of_nonneg hp]
      exact ⟨by simp [h], fun _ => ⟨rfl, hp⟩⟩
    · obtain ⟨t1, _, t3⟩ := tdm (y * 12 + m - 1 + on) 12 (by omega)
      have hnot : ¬ rightI ((y * 12 + m - 1 + on).tdiv 12) ((y * 12 + m - 1 + on).tmod 12 + 1) d := fun hr => by
        have := rightI_in hr; have := t3 (by omega); omega
      have hnot2 : ¬ rightI ((y * 12 + m - 1 + on) / 12) ((y * 12 + m - 1 + on) % 12 + 1) d := fun hr => by
        have := rightI_in hr; omega
      exact ⟨by simp [hnot, hnot2], fun hr => absurd hr.2 hnot2⟩
  · have hneg : wrap64 (y * 12 + m - 1 + on) < 0 := by unfold wrap64; omega
    obtain ⟨t1, _, t3⟩ := tdm (wrap64 (y * 12 + m - 1 + on)) 12 (by omega)
    have hnot : ¬ rightI ((wrap64 (y * 12 + m - 1 + on)).tdiv 12) ((wrap64 (y * 12 + m - 1 + on)).tmod 12 + 1) d := fun hr => by
      have := rightI_in hr; have := t3 (by omega); omega
    have hnot2 : ¬ rightI ((y * 12 + m - 1 + on) / 12) ((y * 12 + m - 1 + on) % 12 + 1) d := fun hr => by
      have := rightI_in hr; omega
    exact ⟨by simp [hnot, hnot2], fun hr => absurd hr.2 hnot2⟩

theorem three {w w1 : World} {A B C : Obj} (b : Below (((w.alloc A).alloc B).alloc C).heap.size (((w.alloc A).alloc B).alloc C) w1) :
    w1.heap[w.heap.size]? = some A ∧ w1.heap[w.heap.size + 1]? = some B ∧ w1.heap[w.heap.size + 1 + 1]? = some C := by
  refine ⟨?_, ?_, ?_⟩
  · rw [b.block _ (by simp <;> omega), Below.heap_alloc _ _ _ (by simp <;> omega), Below.heap_alloc _ _ _ (by simp <;> omega)]; exact heap_alloc_last w A
  · rw [b.block _ (by simp <;> omega), Below.heap_alloc _ _ _ (by simp <;> omega)]
    have := heap_alloc_last (w.alloc A) B; simpa using this
  · rw [b.block _ (by simp <;> omega)]
    have := heap_alloc_last ((w.alloc A).alloc B) C; simpa using this
theorem blk_lt {w : World} {b : Nat} {o : Obj} (h : w.heap[b]? = some o) : b < w.heap.size := (Array.getElem?_eq_some_iff.1 h).1
theorem below_three {w w1 : World} {A B C : Obj} (b : Below (((w.alloc A).alloc B).alloc C).heap.size (((w.alloc A).alloc B).alloc C) w1) : Below w.heap.size w w1 :=
  ((((Below.refl _ w).alloc (Nat.le_refl _) A).alloc (by simp) B).alloc (by simp <;> omega) C).trans (b.mono (by simp <;> omega))

set_option maxRecDepth 100000 in
set_option maxHeartbeats 1000000 in
theorem plus_calls (x : Addr) (y m d on : Int) (w : World) (hx : Laid x w) (ho : -9223372036854775808 ≤ on ∧ on ≤ 9223372036854775807) :
    Calls Tryd.prog 22 #[dayV y m d, iv on] w fun e w' => e = .returned (plusV y m d on) ∧ Below w.heap.size w w' := by
  by_cases h : rightI y m d
  · obtain ⟨h1, h2, h3, h4, h5, h6⟩ := rightI_in h
    obtain ⟨er, ep⟩ := plusN_right h ho
    have hr : decide (rightI y m d) = true := decide_eq_true h
    obtain ⟨t1, t2, t3⟩ := tdm (plusN y m on) 12 (by omega)
    have tb1 : -12 < (plusN y m on).tmod 12 := by omega
    have tb2 : (plusN y m on).tmod 12 < 12 := by omega
    have hN : -9223372036854775808 ≤ plusN y m on ∧ plusN y m on ≤ 9223372036854775807 := by unfold plusN wrap64; omega
    have tq1 : -9223372036854775808 ≤ (plusN y m on).tdiv 12 := by omega
    have tq2 : (plusN y m on).tdiv 12 ≤ 9223372036854775807 := by omega
    clear t1 t2 t3 hN
    unfold plusV
    by_cases hp : plusR y m d on
    · rw [if_pos hp]
      rw [decide_eq_true hp] at er
      obtain ⟨e1, e2⟩ := ep hp
      rw [e1, Int.tdiv_eq_ediv_of_nonneg e2, Int.tmod_eq_emod_of_nonneg e2] at er
      obtain ⟨j1, j2, j3, j4, _⟩ := rightI_in hp.2
      have e3 : y * 12 + m - 1 + on ≤ 119999 := by omega
      clear ep hp h tb1 tb2 tq1 tq2 e1 j1 j2 j3 j4
      go_enter Tryd.func22, Tryd.ntmps22
      go_wp2_with (first
        | (go_at_call 9; refine (right_calls x _ _ _ _ lx).mono ?_; rw [er]; rintro e w2 ⟨rfl, b2⟩; have rB := (b2.block _ (blk_lt rB'.out)).trans rB'.out; have rC := (b2.block _ (blk_lt rC'.out)).trans rC'.out; have z0 := (cellDay rB).c0; have z1 := (cellDay rB).c1; have z2 := (cellDay rB).c2; have u0 := (cellDay rC).c0; have u1 := (cellDay rC).c1; have u2 := (cellDay rC).c2; have y0 := frozen_of_row w2 _ 0 _ _ rB; have y1 := frozen_of_row w2 _ 1 _ _ rB; have y2 := frozen_of_row w2 _ 2 _ _ rB; have rB2 := Lib.hid rB; clear rB rC)
        | (go_at_call_of 9 (Value.agg #[iv y, iv m, iv d]); refine (right_calls x y m d _ ?_).mono ?_; exact ((hx.alloc _).alloc _).alloc _; rw [hr]; rintro e w1 ⟨rfl, b1⟩; obtain ⟨rA, rB, rC⟩ := three b1; have v0 := (cellDay rC).c0; have v1 := (cellDay rC).c1; have v2 := (cellDay rC).c2; have lx := hx.below (below_three b1); have rB' := Lib.hid rB; have rC' := Lib.hid rC; clear rA rB rC))
      try simp only [Exit.inBlock, Exit.then]
      have hfin := row_set (i := 2) (iv d) (row_set (i := 1) (iv ((y * 12 + m - 1 + on) % 12 + 1)) (row_set (i := 0) (iv ((y * 12 + m - 1 + on) / 12)) rB2.out))
      exact bodyPost_ret (ret_day rfl _ _ (w.heap.size + 1) _ _ _ (0, 0) rfl hfin) rfl ⟨rfl, ((((below_three b1).trans (b2.mono (below_three b1).size)).setCell (by simp) _).setCell (by simp) _).setCell (by simp) _⟩
    · rw [if_neg hp]
      rw [decide_eq_false hp] at er
      unfold plusN at er tb1 tb2 tq1 tq2
      clear ep hp h
      go_enter Tryd.func22, Tryd.ntmps22
      go_wp2_with (first
        | (go_at_call 9; refine (right_calls x _ _ _ _ lx).mono ?_; rw [er]; rintro e w2 ⟨rfl, b2⟩; have rB := (b2.block _ (blk_lt rB'.out)).trans rB'.out; have rC := (b2.block _ (blk_lt rC'.out)).trans rC'.out; have z0 := (cellDay rB).c0; have z1 := (cellDay rB).c1; have z2 := (cellDay rB).c2; have u0 := (cellDay rC).c0; have u1 := (cellDay rC).c1; have u2 := (cellDay rC).c2; have y0 := frozen_of_row w2 _ 0 _ _ rB; have y1 := frozen_of_row w2 _ 1 _ _ rB; have y2 := frozen_of_row w2 _ 2 _ _ rB; have rB2 := Lib.hid rB; clear rB rC)
        | (go_at_call_of 9 (Value.agg #[iv y, iv m, iv d]); refine (right_calls x y m d _ ?_).mono ?_; exact ((hx.alloc _).alloc _).alloc _; rw [hr]; rintro e w1 ⟨rfl, b1⟩; obtain ⟨rA, rB, rC⟩ := three b1; have v0 := (cellDay rC).c0; have v1 := (cellDay rC).c1; have v2 := (cellDay rC).c2; have lx := hx.below (below_three b1); have rB' := Lib.hid rB; have rC' := Lib.hid rC; clear rA rB rC))
      try simp only [Exit.inBlock, Exit.then]
      have hfin := row_set (i := 2) (iv 0) (row_set (i := 1) (iv 0) (row_set (i := 0) (iv 0) rB2.out))
      exact bodyPost_ret (ret_day rfl _ _ (w.heap.size + 1) _ _ _ (0, 0) rfl hfin) rfl ⟨rfl, ((((below_three b1).trans (b2.mono (below_three b1).size)).setCell (by simp) _).setCell (by simp) _).setCell (by simp) _⟩
  · have hp : plusV y m d on = dayV 0 0 0 := if_neg (fun hh => h hh.1)
    have hr : decide (rightI y m d) = false := decide_eq_false h
    rw [hp]
    clear hp
    go_enter Tryd.func22, Tryd.ntmps22
    go_wp2_with (go_at_call 9; refine (right_calls x _ _ _ _ ?_).mono ?_; exact ((hx.alloc _).alloc _).alloc _; rw [hr]; rintro e w1 ⟨rfl, b1⟩; obtain ⟨rA, rB, rC⟩ := three b1; have z0 := (cellDay rB).c0; have z1 := (cellDay rB).c1; have z2 := (cellDay rB).c2; have y0 := frozen_of_row w1 _ 0 _ _ rB; have y1 := frozen_of_row w1 _ 1 _ _ rB; have y2 := frozen_of_row w1 _ 2 _ _ rB; have hfin := Lib.hid (row_set (i := 2) (iv 0) (row_set (i := 1) (iv 0) (row_set (i := 0) (iv 0) rB))); clear rA rB rC)
    try simp only [Exit.inBlock, Exit.then]
    exact bodyPost_ret (ret_day rfl _ _ (w.heap.size + 1) 0 0 0 (0, 0) rfl hfin.out) rfl ⟨rfl, (((below_three b1).setCell (by simp) _).setCell (by simp) _).setCell (by simp) _⟩
end Go.Proofs.YtoegamcnhdlioaaDoor
