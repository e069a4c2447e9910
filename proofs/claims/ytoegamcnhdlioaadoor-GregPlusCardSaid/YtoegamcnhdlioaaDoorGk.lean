/- Plus, the document's. -/
import Derived.Test.YtoegamcnhdlioaaDoorGl
namespace Go.Proofs.YtoegamcnhdlioaaDoor
open Go.RowKit Go.Extern.Stop Go.Stop Go.Extern
set_option linter.unusedVariables false
set_option linter.unusedSimpArgs false

theorem two {w w1 : World} {A B : Obj} (b : Below ((w.alloc A).alloc B).heap.size ((w.alloc A).alloc B) w1) :
    w1.heap[w.heap.size]? = some A ∧ w1.heap[w.heap.size + 1]? = some B := by
  refine ⟨?_, ?_⟩
  · rw [b.block _ (by simp <;> omega), Below.heap_alloc _ _ _ (by simp <;> omega)]; exact heap_alloc_last w A
  · rw [b.block _ (by simp <;> omega)]
    have := heap_alloc_last (w.alloc A) B; simpa using this
theorem below_two {w w1 : World} {A B : Obj} (b : Below ((w.alloc A).alloc B).heap.size ((w.alloc A).alloc B) w1) : Below w.heap.size w w1 :=
  (((Below.refl _ w).alloc (Nat.le_refl _) A).alloc (by simp) B).trans (b.mono (by simp <;> omega))

/-- Year and month of the document's Plus. -/
theorem plus_far {y m d on : Int} (h : rightI y m d) (ho : on < -200000 ∨ 200000 < on) : ¬ plusR y m d on := fun hp => by
  obtain ⟨h1, h2, h3, h4, h5, h6⟩ := rightI_in h
  obtain ⟨j1, j2, _⟩ := rightI_in hp.2
  omega
theorem plus_parts {y m on q r : Int} (h : 1 ≤ m ∧ m ≤ 12) (e : on = 12 * q + r) (h1 : -12 < r) (h2 : r < 12) :
    (m + r < 1 → (y * 12 + m - 1 + on) / 12 = y + q - 1 ∧ (y * 12 + m - 1 + on) % 12 + 1 = m + r + 12) ∧
    (12 < m + r → (y * 12 + m - 1 + on) / 12 = y + q + 1 ∧ (y * 12 + m - 1 + on) % 12 + 1 = m + r - 12) ∧
    (1 ≤ m + r ∧ m + r ≤ 12 → (y * 12 + m - 1 + on) / 12 = y + q ∧ (y * 12 + m - 1 + on) % 12 + 1 = m + r) := by
  omega

set_option maxRecDepth 100000 in
set_option maxHeartbeats 2000000 in
theorem plusR_calls (y m d on : Int) (w : World) :
    Calls Tryd.prog 25 #[dayV y m d, iv on] w fun e w' => e = .returned (plusV y m d on) ∧ Below w.heap.size w w' := by
  by_cases h : rightI y m d
  · have hr : decide (rightI y m d) = true := decide_eq_true h
    by_cases ho : on < -200000 ∨ 200000 < on
    · have hp : plusV y m d on = dayV 0 0 0 := if_neg (plus_far h ho)
      rw [hp]
      clear hp h
      rcases ho with ho | ho
      · go_enter Tryd.func25, Tryd.ntmps25
        go_wp2_with (go_at_call_of 10 (Value.agg #[iv y, iv m, iv d]); refine (rightR_calls y m d _).mono ?_; rw [hr]; rintro e w1 ⟨rfl, b1⟩; obtain ⟨rA, rB⟩ := two b1; have v0 := (cellDay rA).c0; have v1 := (cellDay rA).c1; have v2 := (cellDay rA).c2; have z0 := (cellDay rB).c0; have z1 := (cellDay rB).c1; have z2 := (cellDay rB).c2; have y0 := frozen_of_row w1 _ 0 _ _ rB; have y1 := frozen_of_row w1 _ 1 _ _ rB; have y2 := frozen_of_row w1 _ 2 _ _ rB; have rB1 := Lib.hid rB; clear rA rB)
        try simp only [Exit.inBlock, Exit.then]
        have hfin := row_set (i := 2) (iv 0) (row_set (i := 1) (iv 0) (row_set (i := 0) (iv 0) rB1.out))
        exact bodyPost_ret (ret_day rfl _ _ (w.heap.size + 1) _ _ _ (0, 0) rfl hfin) rfl ⟨rfl, (((below_two b1).setCell (by simp) _).setCell (by simp) _).setCell (by simp) _⟩
      · go_enter Tryd.func25, Tryd.ntmps25
        go_wp2_with (go_at_call_of 10 (Value.agg #[iv y, iv m, iv d]); refine (rightR_calls y m d _).mono ?_; rw [hr]; rintro e w1 ⟨rfl, b1⟩; obtain ⟨rA, rB⟩ := two b1; have v0 := (cellDay rA).c0; have v1 := (cellDay rA).c1; have v2 := (cellDay rA).c2; have z0 := (cellDay rB).c0; have z1 := (cellDay rB).c1; have z2 := (cellDay rB).c2; have y0 := frozen_of_row w1 _ 0 _ _ rB; have y1 := frozen_of_row w1 _ 1 _ _ rB; have y2 := frozen_of_row w1 _ 2 _ _ rB; have rB1 := Lib.hid rB; clear rA rB)
        try simp only [Exit.inBlock, Exit.then]
        have hfin := row_set (i := 2) (iv 0) (row_set (i := 1) (iv 0) (row_set (i := 0) (iv 0) rB1.out))
        exact bodyPost_ret (ret_day rfl _ _ (w.heap.size + 1) _ _ _ (0, 0) rfl hfin) rfl ⟨rfl, (((below_two b1).setCell (by simp) _).setCell (by simp) _).setCell (by simp) _⟩
    · have ho1 : -200000 ≤ on := by omega
      have ho2 : on ≤ 200000 := by omega
      clear ho
      obtain ⟨h1, h2, h3, h4, h5, h6⟩ := rightI_in h
      obtain ⟨t1, t2, t3⟩ := tdm on 12 (by omega)
      have tb1 : -12 < on.tmod 12 := by omega
      have tb2 : on.tmod 12 < 12 := by omega
      have tq1 : -20000 ≤ on.tdiv 12 := by omega
      have tq2 : on.tdiv 12 ≤ 20000 := by omega
      obtain ⟨p1, p2, p3⟩ := plus_parts (y := y) ⟨h3, h4⟩ t1 tb1 tb2
      clear t1 t2 t3
      unfold plusV
      rcases Int.lt_or_le (m + on.tmod 12) 1 with c | c
      · obtain ⟨e1, e2⟩ := p1 c
        clear p1 p2 p3
        by_cases hp : rightI (y + on.tdiv 12 - 1) (m + on.tmod 12 + 12) d
        · rw [if_pos (show plusR y m d on from ⟨h, by rw [e1, e2]; exact hp⟩), e1, e2]
          have er : decide (rightI (y + on.tdiv 12 - 1) (m + on.tmod 12 + 12) d) = true := decide_eq_true hp
          clear hp h e1 e2
          go_enter Tryd.func25, Tryd.ntmps25
          go_wp2_with (first
            | (go_at_call_of 10 (Value.agg #[iv y, iv m, iv d]); refine (rightR_calls y m d _).mono ?_; rw [hr]; rintro e w1 ⟨rfl, b1⟩; obtain ⟨rA, rB⟩ := two b1; have v0 := (cellDay rA).c0; have v1 := (cellDay rA).c1; have v2 := (cellDay rA).c2; have z0 := (cellDay rB).c0; have z1 := (cellDay rB).c1; have z2 := (cellDay rB).c2; have y0 := frozen_of_row w1 _ 0 _ _ rB; have y1 := frozen_of_row w1 _ 1 _ _ rB; have y2 := frozen_of_row w1 _ 2 _ _ rB; have rB1 := Lib.hid rB; clear rA rB)
            | (go_at_call 10; refine (rightR_calls _ _ _ _).mono ?_; rw [er]; rintro e w2 ⟨rfl, b2⟩; have rB := (b2.block _ (by have := blk_lt rB1.out; simp; omega)).trans ((Below.heap_alloc _ _ _ (blk_lt rB1.out)).trans rB1.out); have rC := (b2.block _ (by simp)).trans (heap_alloc_last w1 _); have s0 := (cellDay rB).c0; have s1 := (cellDay rB).c1; have s2 := (cellDay rB).c2; have u0 := (cellDay rC).c0; have u1 := (cellDay rC).c1; have u2 := (cellDay rC).c2; have x0 := frozen_of_row w2 _ 0 _ _ rB; have x1 := frozen_of_row w2 _ 1 _ _ rB; have x2 := frozen_of_row w2 _ 2 _ _ rB; have rB2 := Lib.hid rB; clear rB rC z0 z1 z2 y0 y1 y2))
          try simp only [Exit.inBlock, Exit.then]
          have hfin := row_set (i := 2) (iv (d)) (row_set (i := 1) (iv (m + on.tmod 12 + 12)) (row_set (i := 0) (iv (y + on.tdiv 12 - 1)) rB2.out))
          exact bodyPost_ret (ret_day rfl _ _ (w.heap.size + 1) _ _ _ (0, 0) rfl hfin) rfl ⟨rfl, ((((below_two b1).trans ((below_front b2).mono (below_two b1).size)).setCell (by simp) _).setCell (by simp) _).setCell (by simp) _⟩
        · rw [if_neg (fun hh : plusR y m d on => hp (by have := hh.2; rw [e1, e2] at this; exact this))]
          have er : decide (rightI (y + on.tdiv 12 - 1) (m + on.tmod 12 + 12) d) = false := decide_eq_false hp
          clear hp h e1 e2
          go_enter Tryd.func25, Tryd.ntmps25
          go_wp2_with (first
            | (go_at_call_of 10 (Value.agg #[iv y, iv m, iv d]); refine (rightR_calls y m d _).mono ?_; rw [hr]; rintro e w1 ⟨rfl, b1⟩; obtain ⟨rA, rB⟩ := two b1; have v0 := (cellDay rA).c0; have v1 := (cellDay rA).c1; have v2 := (cellDay rA).c2; have z0 := (cellDay rB).c0; have z1 := (cellDay rB).c1; have z2 := (cellDay rB).c2; have y0 := frozen_of_row w1 _ 0 _ _ rB; have y1 := frozen_of_row w1 _ 1 _ _ rB; have y2 := frozen_of_row w1 _ 2 _ _ rB; have rB1 := Lib.hid rB; clear rA rB)
            | (go_at_call 10; refine (rightR_calls _ _ _ _).mono ?_; rw [er]; rintro e w2 ⟨rfl, b2⟩; have rB := (b2.block _ (by have := blk_lt rB1.out; simp; omega)).trans ((Below.heap_alloc _ _ _ (blk_lt rB1.out)).trans rB1.out); have rC := (b2.block _ (by simp)).trans (heap_alloc_last w1 _); have s0 := (cellDay rB).c0; have s1 := (cellDay rB).c1; have s2 := (cellDay rB).c2; have u0 := (cellDay rC).c0; have u1 := (cellDay rC).c1; have u2 := (cellDay rC).c2; have x0 := frozen_of_row w2 _ 0 _ _ rB; have x1 := frozen_of_row w2 _ 1 _ _ rB; have x2 := frozen_of_row w2 _ 2 _ _ rB; have rB2 := Lib.hid rB; clear rB rC z0 z1 z2 y0 y1 y2))
          try simp only [Exit.inBlock, Exit.then]
          have hfin := row_set (i := 2) (iv (0)) (row_set (i := 1) (iv (0)) (row_set (i := 0) (iv (0)) rB2.out))
          exact bodyPost_ret (ret_day rfl _ _ (w.heap.size + 1) _ _ _ (0, 0) rfl hfin) rfl ⟨rfl, ((((below_two b1).trans ((below_front b2).mono (below_two b1).size)).setCell (by simp) _).setCell (by simp) _).setCell (by simp) _⟩
      · rcases Int.lt_or_le 12 (m + on.tmod 12) with c2 | c2
        · obtain ⟨e1, e2⟩ := p2 c2
          clear p1 p2 p3
          by_cases hp : rightI (y + on.tdiv 12 + 1) (m + on.tmod 12 - 12) d
          · rw [if_pos (show plusR y m d on from ⟨h, by rw [e1, e2]; exact hp⟩), e1, e2]
            have er : decide (rightI (y + on.tdiv 12 + 1) (m + on.tmod 12 - 12) d) = true := decide_eq_true hp
            clear hp h e1 e2
            go_enter Tryd.func25, Tryd.ntmps25
            go_wp2_with (first
              | (go_at_call_of 10 (Value.agg #[iv y, iv m, iv d]); refine (rightR_calls y m d _).mono ?_; rw [hr]; rintro e w1 ⟨rfl, b1⟩; obtain ⟨rA, rB⟩ := two b1; have v0 := (cellDay rA).c0; have v1 := (cellDay rA).c1; have v2 := (cellDay rA).c2; have z0 := (cellDay rB).c0; have z1 := (cellDay rB).c1; have z2 := (cellDay rB).c2; have y0 := frozen_of_row w1 _ 0 _ _ rB; have y1 := frozen_of_row w1 _ 1 _ _ rB; have y2 := frozen_of_row w1 _ 2 _ _ rB; have rB1 := Lib.hid rB; clear rA rB)
              | (go_at_call 10; refine (rightR_calls _ _ _ _).mono ?_; rw [er]; rintro e w2 ⟨rfl, b2⟩; have rB := (b2.block _ (by have := blk_lt rB1.out; simp; omega)).trans ((Below.heap_alloc _ _ _ (blk_lt rB1.out)).trans rB1.out); have rC := (b2.block _ (by simp)).trans (heap_alloc_last w1 _); have s0 := (cellDay rB).c0; have s1 := (cellDay rB).c1; have s2 := (cellDay rB).c2; have u0 := (cellDay rC).c0; have u1 := (cellDay rC).c1; have u2 := (cellDay rC).c2; have x0 := frozen_of_row w2 _ 0 _ _ rB; have x1 := frozen_of_row w2 _ 1 _ _ rB; have x2 := frozen_of_row w2 _ 2 _ _ rB; have rB2 := Lib.hid rB; clear rB rC z0 z1 z2 y0 y1 y2))
            try simp only [Exit.inBlock, Exit.then]
            have hfin := row_set (i := 2) (iv (d)) (row_set (i := 1) (iv (m + on.tmod 12 - 12)) (row_set (i := 0) (iv (y + on.tdiv 12 + 1)) rB2.out))
            exact bodyPost_ret (ret_day rfl _ _ (w.heap.size + 1) _ _ _ (0, 0) rfl hfin) rfl ⟨rfl, ((((below_two b1).trans ((below_front b2).mono (below_two b1).size)).setCell (by simp) _).setCell (by simp) _).setCell (by simp) _⟩
          · rw [if_neg (fun hh : plusR y m d on => hp (by have := hh.2; rw [e1, e2] at this; exact this))]
            have er : decide (rightI (y + on.tdiv 12 + 1) (m + on.tmod 12 - 12) d) = false := decide_eq_false hp
            clear hp h e1 e2
            go_enter Tryd.func25, Tryd.ntmps25
            go_wp2_with (first
              | (go_at_call_of 10 (Value.agg #[iv y, iv m, iv d]); refine (rightR_calls y m d _).mono ?_; rw [hr]; rintro e w1 ⟨rfl, b1⟩; obtain ⟨rA, rB⟩ := two b1; have v0 := (cellDay rA).c0; have v1 := (cellDay rA).c1; have v2 := (cellDay rA).c2; have z0 := (cellDay rB).c0; have z1 := (cellDay rB).c1; have z2 := (cellDay rB).c2; have y0 := frozen_of_row w1 _ 0 _ _ rB; have y1 := frozen_of_row w1 _ 1 _ _ rB; have y2 := frozen_of_row w1 _ 2 _ _ rB; have rB1 := Lib.hid rB; clear rA rB)
              | (go_at_call 10; refine (rightR_calls _ _ _ _).mono ?_; rw [er]; rintro e w2 ⟨rfl, b2⟩; have rB := (b2.block _ (by have := blk_lt rB1.out; simp; omega)).trans ((Below.heap_alloc _ _ _ (blk_lt rB1.out)).trans rB1.out); have rC := (b2.block _ (by simp)).trans (heap_alloc_last w1 _); have s0 := (cellDay rB).c0; have s1 := (cellDay rB).c1; have s2 := (cellDay rB).c2; have u0 := (cellDay rC).c0; have u1 := (cellDay rC).c1; have u2 := (cellDay rC).c2; have x0 := frozen_of_row w2 _ 0 _ _ rB; have x1 := frozen_of_row w2 _ 1 _ _ rB; have x2 := frozen_of_row w2 _ 2 _ _ rB; have rB2 := Lib.hid rB; clear rB rC z0 z1 z2 y0 y1 y2))
            try simp only [Exit.inBlock, Exit.then]
            have hfin := row_set (i := 2) (iv (0)) (row_set (i := 1) (iv (0)) (row_set (i := 0) (iv (0)) rB2.out))
            exact bodyPost_ret (ret_day rfl _ _ (w.heap.size + 1) _ _ _ (0, 0) rfl hfin) rfl ⟨rfl, ((((below_two b1).trans ((below_front b2).mono (below_two b1).size)).setCell (by simp) _).setCell (by simp) _).setCell (by simp) _⟩
        · obtain ⟨e1, e2⟩ := p3 ⟨c, c2⟩
          clear p1 p2 p3
          by_cases hp : rightI (y + on.tdiv 12) (m + on.tmod 12) d
          · rw [if_pos (show plusR y m d on from ⟨h, by rw [e1, e2]; exact hp⟩), e1, e2]
            have er : decide (rightI (y + on.tdiv 12) (m + on.tmod 12) d) = true := decide_eq_true hp
            clear hp h e1 e2
            go_enter Tryd.func25, Tryd.ntmps25
            go_wp2_with (first
              | (go_at_call_of 10 (Value.agg #[iv y, iv m, iv d]); refine (rightR_calls y m d _).mono ?_; rw [hr]; rintro e w1 ⟨rfl, b1⟩; obtain ⟨rA, rB⟩ := two b1; have v0 := (cellDay rA).c0; have v1 := (cellDay rA).c1; have v2 := (cellDay rA).c2; have z0 := (cellDay rB).c0; have z1 := (cellDay rB).c1; have z2 := (cellDay rB).c2; have y0 := frozen_of_row w1 _ 0 _ _ rB; have y1 := frozen_of_row w1 _ 1 _ _ rB; have y2 := frozen_of_row w1 _ 2 _ _ rB; have rB1 := Lib.hid rB; clear rA rB)
              | (go_at_call 10; refine (rightR_calls _ _ _ _).mono ?_; rw [er]; rintro e w2 ⟨rfl, b2⟩; have rB := (b2.block _ (by have := blk_lt rB1.out; simp; omega)).trans ((Below.heap_alloc _ _ _ (blk_lt rB1.out)).trans rB1.out); have rC := (b2.block _ (by simp)).trans (heap_alloc_last w1 _); have s0 := (cellDay rB).c0; have s1 := (cellDay rB).c1; have s2 := (cellDay rB).c2; have u0 := (cellDay rC).c0; have u1 := (cellDay rC).c1; have u2 := (cellDay rC).c2; have x0 := frozen_of_row w2 _ 0 _ _ rB; have x1 := frozen_of_row w2 _ 1 _ _ rB; have x2 := frozen_of_row w2 _ 2 _ _ rB; have rB2 := Lib.hid rB; clear rB rC z0 z1 z2 y0 y1 y2))
            try simp only [Exit.inBlock, Exit.then]
            have hfin := row_set (i := 2) (iv (d)) (row_set (i := 1) (iv (m + on.tmod 12)) (row_set (i := 0) (iv (y + on.tdiv 12)) rB2.out))
            exact bodyPost_ret (ret_day rfl _ _ (w.heap.size + 1) _ _ _ (0, 0) rfl hfin) rfl ⟨rfl, ((((below_two b1).trans ((below_front b2).mono (below_two b1).size)).setCell (by simp) _).setCell (by simp) _).setCell (by simp) _⟩
          · rw [if_neg (fun hh : plusR y m d on => hp (by have := hh.2; rw [e1, e2] at this; exact this))]
            have er : decide (rightI (y + on.tdiv 12) (m + on.tmod 12) d) = false := decide_eq_false hp
            clear hp h e1 e2
            go_enter Tryd.func25, Tryd.ntmps25
            go_wp2_with (first
              | (go_at_call_of 10 (Value.agg #[iv y, iv m, iv d]); refine (rightR_calls y m d _).mono ?_; rw [hr]; rintro e w1 ⟨rfl, b1⟩; obtain ⟨rA, rB⟩ := two b1; have v0 := (cellDay rA).c0; have v1 := (cellDay rA).c1; have v2 := (cellDay rA).c2; have z0 := (cellDay rB).c0; have z1 := (cellDay rB).c1; have z2 := (cellDay rB).c2; have y0 := frozen_of_row w1 _ 0 _ _ rB; have y1 := frozen_of_row w1 _ 1 _ _ rB; have y2 := frozen_of_row w1 _ 2 _ _ rB; have rB1 := Lib.hid rB; clear rA rB)
              | (go_at_call 10; refine (rightR_calls _ _ _ _).mono ?_; rw [er]; rintro e w2 ⟨rfl, b2⟩; have rB := (b2.block _ (by have := blk_lt rB1.out; simp; omega)).trans ((Below.heap_alloc _ _ _ (blk_lt rB1.out)).trans rB1.out); have rC := (b2.block _ (by simp)).trans (heap_alloc_last w1 _); have s0 := (cellDay rB).c0; have s1 := (cellDay rB).c1; have s2 := (cellDay rB).c2; have u0 := (cellDay rC).c0; have u1 := (cellDay rC).c1; have u2 := (cellDay rC).c2; have x0 := frozen_of_row w2 _ 0 _ _ rB; have x1 := frozen_of_row w2 _ 1 _ _ rB; have x2 := frozen_of_row w2 _ 2 _ _ rB; have rB2 := Lib.hid rB; clear rB rC z0 z1 z2 y0 y1 y2))
            try simp only [Exit.inBlock, Exit.then]
            have hfin := row_set (i := 2) (iv (0)) (row_set (i := 1) (iv (0)) (row_set (i := 0) (iv (0)) rB2.out))
            exact bodyPost_ret (ret_day rfl _ _ (w.heap.size + 1) _ _ _ (0, 0) rfl hfin) rfl ⟨rfl, ((((below_two b1).trans ((below_front b2).mono (below_two b1).size)).setCell (by simp) _).setCell (by simp) _).setCell (by simp) _⟩
  · have hp : plusV y m d on = dayV 0 0 0 := if_neg (fun hh => h hh.1)
    have hr : decide (rightI y m d) = false := decide_eq_false h
    rw [hp]
    clear hp h
    go_enter Tryd.func25, Tryd.ntmps25
    go_wp2_with (go_at_call_of 10 (Value.agg #[iv y, iv m, iv d]); refine (rightR_calls y m d _).mono ?_; rw [hr]; rintro e w1 ⟨rfl, b1⟩; obtain ⟨rA, rB⟩ := two b1; have v0 := (cellDay rA).c0; have v1 := (cellDay rA).c1; have v2 := (cellDay rA).c2; have z0 := (cellDay rB).c0; have z1 := (cellDay rB).c1; have z2 := (cellDay rB).c2; have y0 := frozen_of_row w1 _ 0 _ _ rB; have y1 := frozen_of_row w1 _ 1 _ _ rB; have y2 := frozen_of_row w1 _ 2 _ _ rB; have rB1 := Lib.hid rB; clear rA rB)
    try simp only [Exit.inBlock, Exit.then]
    have hfin := row_set (i := 2) (iv 0) (row_set (i := 1) (iv 0) (row_set (i := 0) (iv 0) rB1.out))
    exact bodyPost_ret (ret_day rfl _ _ (w.heap.size + 1) _ _ _ (0, 0) rfl hfin) rfl ⟨rfl, (((below_two b1).setCell (by simp) _).setCell (by simp) _).setCell (by simp) _⟩
end Go.Proofs.YtoegamcnhdlioaaDoor
