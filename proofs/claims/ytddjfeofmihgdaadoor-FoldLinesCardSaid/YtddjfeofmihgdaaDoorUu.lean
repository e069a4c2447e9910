/- What ends the row that is open: Unfold's closure. -/
import Derived.Test.YtddjfeofmihgdaaDoorUq
namespace Go.Proofs.YtddjfeofmihgdaaDoor
open Go.RowKit
set_option linter.unusedVariables false
set_option linter.unusedSimpArgs false

def textOf : Option (Nat × BL) → BL
  | none => []
  | some p => p.2
def numOf : Option (Nat × BL) → Nat
  | none => 0
  | some p => p.1
/-- Unfold's variables: the rows in block N, the builder of the open one behind it, and the line that began it. -/
structure USt (N : Nat) (d : List (Nat × BL)) (o : Option (Nat × BL)) (w : World) : Prop where
  rows : ∃ v, w.heap[N]? = some (.cells #[v] 32 (0, 0)) ∧ RowOwn (N + 3) v d w
  bld : Bld (N + 1) (N + 1) (textOf o) w
  began : w.heap[N + 2]? = some (.cells #[iv (numOf o)] 3 (0, 0))
  pos : ∀ p, o = some p → 1 ≤ p.1
theorem USt.size {N : Nat} {d : List (Nat × BL)} {o : Option (Nat × BL)} {w : World} (h : USt N d o w) : N + 3 ≤ w.heap.size := by
  have := (Array.getElem?_eq_some_iff.1 h.began).1; omega
theorem USt.below {N : Nat} {d : List (Nat × BL)} {o : Option (Nat × BL)} {w w' : World} (h : USt N d o w) (hb : Below w.heap.size w w') : USt N d o w' := by
  obtain ⟨v, h1, h2⟩ := h.rows
  refine ⟨⟨v, (hb.block _ (blk_lt h1)).trans h1, h2.same (fun g _ hg => hb.block g (by obtain ⟨_, c, hc⟩ := h2.kind g hg; exact blk_lt hc))⟩, Bld.keep h.bld hb, (hb.block _ (blk_lt h.began)).trans h.began, h.pos⟩
theorem setCell_heap_same {w : World} {X i : Nat} {cs : Array Value} {t : TypeId} {fr : Nat × Nat} (u : Value) (h : w.heap[X]? = some (.cells cs t fr)) : (w.setCell ⟨X, i, none⟩ u).heap[X]? = some (.cells (cs.setIfInBounds i u) t fr) := by
  simp [World.setCell, Array.getElem?_modify, h]
theorem setCell_heap_other {w : World} {X Y i : Nat} (u : Value) (h : Y ≠ X) : (w.setCell ⟨X, i, none⟩ u).heap[Y]? = w.heap[Y]? := Below.heap_setCell w ⟨X, i, none⟩ u Y h
/-- Behind the builder's new beginning. -/
theorem USt.reset {N : Nat} {d : List (Nat × BL)} {v p q : Value} {x : Value} {w w' : World} (h1 : w.heap[N]? = some (.cells #[v] 32 (0, 0))) (h2 : RowOwn (N + 3) v d w) (h3 : w.heap[N + 1]? = some (.cells #[p, q] 46 (0, 0)))
    (h4 : w.heap[N + 2]? = some (.cells #[x] 3 (0, 0)))
    (hw : w' = ((w.setCell ⟨N + 2, 0, none⟩ (iv 0)).setCell ⟨N + 1, 0, none⟩ (.pointer none)).setCell ⟨N + 1, 1, none⟩ (.slice none 0 0)) : USt N d none w' := by
  subst hw
  refine ⟨⟨v, ?_, h2.same (fun g hg _ => ?_)⟩, .inl ⟨Nat.le_refl _, .slice none 0 0, ?_, ⟨rfl, .inl ⟨rfl, rfl⟩⟩, by simp [Value.ownBlock]⟩, ?_, by simp⟩
  · rw [setCell_heap_other _ (by omega), setCell_heap_other _ (by omega), setCell_heap_other _ (by omega)]; exact h1
  · rw [setCell_heap_other _ (by omega), setCell_heap_other _ (by omega), setCell_heap_other _ (by omega)]
  · have e := setCell_heap_same (X := N + 1) (i := 0) (.pointer none) ((setCell_heap_other (X := N + 2) (Y := N + 1) (i := 0) (iv 0) (by omega)).trans h3)
    have e2 := setCell_heap_same (X := N + 1) (i := 1) (.slice none 0 0) e
    exact e2
  · rw [setCell_heap_other _ (by omega), setCell_heap_other _ (by omega)]
    exact setCell_heap_same (X := N + 2) (i := 0) (iv 0) h4
theorem reset_below {N : Nat} {w0 w : World} (hb : Below N w0 w) : Below N w0 (((w.setCell ⟨N + 2, 0, none⟩ (iv 0)).setCell ⟨N + 1, 0, none⟩ (.pointer none)).setCell ⟨N + 1, 1, none⟩ (.slice none 0 0)) :=
  ((hb.setCell (p := ⟨N + 2, 0, none⟩) (by simp) _).setCell (p := ⟨N + 1, 0, none⟩) (by simp) _).setCell (p := ⟨N + 1, 1, none⟩) (by simp) _
theorem bld_cells {B b : Nat} {l : BL} {w : World} (h : Bld B b l w) : ∃ p q, w.heap[b]? = some (.cells #[p, q] 46 (0, 0)) := by
  rcases h with ⟨_, v, h, _⟩ | ⟨_, v, h, _⟩
  · exact ⟨_, _, h⟩
  · exact ⟨_, _, h⟩
theorem cell_at {w : World} {b : Nat} {cs : Array Value} {t : TypeId} {fr : Nat × Nat} (h : w.heap[b]? = some (.cells cs t fr)) (i : Nat) : w.cell? ⟨b, i, none⟩ = cs[i]? := by simp [World.cell?, h]
theorem free_at {w : World} {b : Nat} {cs : Array Value} {t : TypeId} (h : w.heap[b]? = some (.cells cs t (0, 0))) (i : Nat) : w.frozen? ⟨b, i, none⟩ = false := by simp [World.frozen?, h]

set_option maxRecDepth 100000 in
set_option maxHeartbeats 2000000 in
theorem end_none (N : Nat) (d : List (Nat × BL)) (w : World) (h : USt N d none w) :
    Calls Tryd.prog 27 #[.pointer (some ⟨N + 2, 0, none⟩), .pointer (some ⟨N, 0, none⟩), .pointer (some ⟨N + 1, 0, none⟩)] w fun e w' => e = .returned (.tuple #[]) ∧ USt N d none w' ∧ Below N w w' := by
  obtain ⟨v, h1, h2⟩ := h.rows
  obtain ⟨p, q, h3⟩ := bld_cells h.bld
  have h4 := h.began
  have c4 : w.cell? ⟨N + 2, 0, none⟩ = some (iv 0) := cell_at h4 0
  have f4 := free_at h4 0
  have h3' := (setCell_heap_other (X := N + 2) (Y := N + 1) (i := 0) (iv 0) (by omega)).trans h3
  have c30 : (w.setCell ⟨N + 2, 0, none⟩ (iv 0)).cell? ⟨N + 1, 0, none⟩ = some p := cell_at h3' 0
  have f30 := free_at h3' 0
  have h3'' := setCell_heap_same (i := 0) (.pointer none) h3'
  have c31 : ((w.setCell ⟨N + 2, 0, none⟩ (iv 0)).setCell ⟨N + 1, 0, none⟩ (.pointer none)).cell? ⟨N + 1, 1, none⟩ = some q := cell_at h3'' 1
  have f31 := free_at h3'' 1
  have HR := Lib.hid (USt.reset h1 h2 h3 h4 rfl)
  have HB := Lib.hid (reset_below (Below.refl N w))
  clear h h1 h2 h3 h4 h3' h3''
  go_enter Tryd.func27, Tryd.ntmps27
  go_wp2_with fail
  go_end0
  exact ⟨rfl, HR.out, HB.out⟩
set_option maxRecDepth 100000 in
set_option maxHeartbeats 4000000 in
theorem end_some (N : Nat) (d : List (Nat × BL)) (k : Nat) (t : BL) (w : World) (h : USt N d (some (k, t)) w) (hd : d.length ≤ 1000000) (hk2 : k < 9223372036854775807) :
    Calls Tryd.prog 27 #[.pointer (some ⟨N + 2, 0, none⟩), .pointer (some ⟨N, 0, none⟩), .pointer (some ⟨N + 1, 0, none⟩)] w fun e w' => e = .returned (.tuple #[]) ∧ USt N (d ++ [(k, t)]) none w' ∧ Below N w w' := by
  have hsz := h.size
  have hk := h.pos _ rfl
  obtain ⟨v, h1, h2⟩ := h.rows
  have h4 := h.began
  rw [show numOf (some (k, t)) = k from rfl] at h4
  have hB := h.bld
  rw [show textOf (some (k, t)) = t from rfl] at hB
  have c4 : w.cell? ⟨N + 2, 0, none⟩ = some (iv k) := cell_at h4 0
  have c1 : w.cell? ⟨N, 0, none⟩ = some v := cell_at h1 0
  have hkp : (0 : Int) < (k : Int) := by omega
  have H := Lib.hid (And.intro h1 (And.intro h2 h4))
  have HB := Lib.hid (Lib.IsBuilderF.of (Bld.keep hB (below_draws (Below.refl _ w) 1)))
  have HS := Lib.hid hsz
  clear h h1 h2 h4 hB hsz hk
  go_enter Tryd.func27, Tryd.ntmps27
  go_wp2_with fail
  have hD : ∀ l, Ahead [6] (fun w' => w'.cell? ⟨N + 2, 0, none⟩ = some (iv k)) (fun w' => w'.cell? ⟨N, 0, none⟩ = some v) l w.drew := fun l => ⟨c4, fun _ => c1⟩
  refine region_instep (D := Ahead [6] (fun w' => w'.cell? ⟨N + 2, 0, none⟩ = some (iv k)) (fun w' => w'.cell? ⟨N, 0, none⟩ = some v)) (by kernel_rfl) ?_
  refine ahead_takeX (i := 0) (oi := _) (v := ?_) rfl (by kernel_rfl) (by kernel_rfl) (by kernel_rfl) rfl (by kernel_rfl) (by kernel_rfl) (fun _ _ _ h => h) (hD _) (Or.inl ⟨by kernel_rfl, ?_⟩) ?_
  rotate_left
  · (intro w hSw; (try dsimp only at hSw); go_simp; with_reducible rfl)
  try simp only [Act.put, List.setIfInBounds_toArray, List.set_cons_zero, List.set_cons_succ]
  refine ahead_take (i := 1) (oi := _) (v := ?_) rfl (by kernel_rfl) (by kernel_rfl) (by kernel_rfl) rfl (fun _ _ _ h => h) (hD _) (Or.inl ⟨by kernel_rfl, ?_⟩) ?_
  rotate_left
  · (intro w hSw; (try dsimp only at hSw); go_simp; with_reducible rfl)
  try simp only [Act.put, List.setIfInBounds_toArray, List.set_cons_zero, List.set_cons_succ]
  refine instep_one (i := 2) (o := _) (by kernel_rfl) rfl (fun K1 hK1 => ?_)
  go_simp
  refine (Tryd.Builder_String_any_k (N + 1) (N + 1) t w.drew HB.out (by have := HS.out; simp; omega)).mono ?_
  rintro e w1 ⟨rfl, hF, b1, o1⟩
  have K1h : Hid (w1.heap[N]? = some (.cells #[v] 32 (0, 0)) ∧ RowOwn (N + 3) v d w1 ∧ w1.heap[N + 2]? = some (.cells #[iv k] 3 (0, 0)) ∧ (∃ p q, w1.heap[N + 1]? = some (.cells #[p, q] 46 (0, 0))) ∧ Below N w w1) := Lib.hid (by
    have hm : (∃ p q, w1.heap[N + 1]? = some (.cells #[p, q] 46 (0, 0))) := by
      rcases hF with ⟨_, v0, h, _⟩ | ⟨_, v0, h, _⟩
      · exact ⟨_, _, h⟩
      · exact ⟨_, _, h⟩
    have e1 : w1.heap[N]? = some (.cells #[v] 32 (0, 0)) := o1 N _ H.out.1 (by intro e; cases e) (by intro c fz e; cases e)
    have e2 : w1.heap[N + 2]? = some (.cells #[iv k] 3 (0, 0)) := o1 (N + 2) _ H.out.2.2 (by intro e; cases e) (by intro c fz e; cases e)
    have e3 : RowOwn (N + 3) v d w1 := RowOwn.others (show RowOwn (N + 3) v d w.drew from H.out.2.1.same (fun _ _ _ => rfl)) o1 (by omega)
    exact ⟨e1, e3, e2, hm, (show Below N w w1 from ⟨b1.os, b1.tape, b1.output, b1.size, fun i hi => b1.block i (by omega)⟩)⟩)
  have hD1 : ∀ l, Ahead [6] (fun w' => w'.cell? ⟨N + 2, 0, none⟩ = some (iv k)) (fun w' => w'.cell? ⟨N, 0, none⟩ = some v) l w1 := fun l => ⟨cell_at K1h.out.2.2.1 0, fun _ => cell_at K1h.out.1 0⟩
  have hz1 : N + 3 ≤ w1.heap.size := by have := HS.out; have := K1h.out.2.2.2.2.size; omega
  clear hF b1 o1
  go_simp
  refine hK1.out _ _ (hD1 _) (fun _ => ?_)
  clear hK1 K1
  try simp only [Act.put, List.setIfInBounds_toArray, List.set_cons_zero, List.set_cons_succ]
  refine ahead_take (i := 3) (oi := _) (v := ?_) rfl (by kernel_rfl) (by kernel_rfl) (by kernel_rfl) rfl (fun _ _ _ h => h) (hD1 _) (Or.inl ⟨by kernel_rfl, ?_⟩) ?_
  rotate_left
  · (intro w hSw; (try dsimp only at hSw); go_simp; with_reducible rfl)
  try simp only [Act.put, List.setIfInBounds_toArray, List.set_cons_zero, List.set_cons_succ]
  refine instep_one (i := 4) (o := _) (by kernel_rfl) rfl (fun K1 hK1 => ?_)
  rw [if_pos (by kernel_rfl)]
  refine wp_bs_row _ rfl (u := iv k) (u' := .string (strOf t)) rfl rfl rfl ?_
  have hD2 : ∀ l, Ahead [6] (fun w' => w'.cell? ⟨N + 2, 0, none⟩ = some (iv k)) (fun w' => w'.cell? ⟨N, 0, none⟩ = some v) l (w1.alloc (.cells #[iv k, .string (strOf t)] 40)) := fun l => ⟨(World.cell?_alloc_lt w1 _ (a := ⟨N + 2, 0, none⟩) (by simp; omega)).trans (cell_at K1h.out.2.2.1 0), fun _ => (World.cell?_alloc_lt w1 _ (a := ⟨N, 0, none⟩) (by simp; omega)).trans (cell_at K1h.out.1 0)⟩
  refine hK1.out _ _ (hD2 _) (fun _ => ?_)
  clear hK1 K1
  try simp only [Act.put, List.setIfInBounds_toArray, List.set_cons_zero, List.set_cons_succ]
  refine instep_one (i := 5) (o := _) (by kernel_rfl) rfl (fun K1 hK1 => ?_)
  rw [if_pos (by kernel_rfl)]
  refine wp_app_row _ _ rfl (N + 3) v d rfl K1h.out.2.1 k t rfl hd hz1 ?_
  intro v' w3 own3 gr3
  have K3 : Hid (w3.heap[N]? = some (.cells #[v] 32 (0, 0)) ∧ RowOwn (N + 3) v' (d ++ [(k, t)]) w3 ∧ w3.heap[N + 2]? = some (.cells #[iv k] 3 (0, 0)) ∧ (∃ p q, w3.heap[N + 1]? = some (.cells #[p, q] 46 (0, 0))) ∧ Below N w w3) := Lib.hid (by
    obtain ⟨e1, e3, e2, ⟨p, q, hm⟩, b1⟩ := K1h.out
    have no : ∀ j, j < N + 3 → w3.heap[j]? = w1.heap[j]? := fun j hj => by
      rw [gr3.block j (by simp; omega) (fun e => by obtain ⟨hb, _⟩ := e3.kind j e.symm; omega)]
      exact Below.heap_alloc _ _ _ (by omega)
    refine ⟨(no N (by omega)).trans e1, own3, (no _ (by omega)).trans e2, ⟨p, q, (no _ (by omega)).trans hm⟩, ?_⟩
    exact (b1.alloc (by omega) _).grown gr3 (by simp; omega) (fun j hj => by obtain ⟨hb, _⟩ := e3.kind j hj; omega))
  have hD3 : ∀ l, Ahead [6] (fun w' => w'.cell? ⟨N + 2, 0, none⟩ = some (iv k)) (fun w' => w'.cell? ⟨N, 0, none⟩ = some v) l w3 := fun l => ⟨cell_at K3.out.2.2.1 0, fun _ => cell_at K3.out.1 0⟩
  clear own3 gr3
  refine hK1.out _ _ (hD3 _) (fun _ => ?_)
  clear hK1 K1
  try simp only [Act.put, List.setIfInBounds_toArray, List.set_cons_zero, List.set_cons_succ]
  have y0 : w3.cell? ⟨N, 0, none⟩ = some v := cell_at K3.out.1 0
  have y1 := free_at K3.out.1 0
  have K4 : Hid ((w3.setCell ⟨N, 0, none⟩ v').heap[N]? = some (.cells #[v'] 32 (0, 0)) ∧ RowOwn (N + 3) v' (d ++ [(k, t)]) (w3.setCell ⟨N, 0, none⟩ v') ∧ (w3.setCell ⟨N, 0, none⟩ v').heap[N + 2]? = some (.cells #[iv k] 3 (0, 0)) ∧ (∃ p q, (w3.setCell ⟨N, 0, none⟩ v').heap[N + 1]? = some (.cells #[p, q] 46 (0, 0))) ∧ Below N w (w3.setCell ⟨N, 0, none⟩ v')) := Lib.hid (by
    obtain ⟨e1, e3, e2, ⟨p, q, hm⟩, b1⟩ := K3.out
    exact ⟨setCell_heap_same v' e1, e3.same (fun g hg _ => setCell_heap_other v' (by omega)), (setCell_heap_other v' (by omega)).trans e2, ⟨p, q, (setCell_heap_other v' (by omega)).trans hm⟩, b1.setCell (p := ⟨N, 0, none⟩) (Nat.le_refl _) _⟩)
  have hD4 : ∀ l : Array Bool, l.getD 6 true = true → Ahead [6] (fun w' => w'.cell? ⟨N + 2, 0, none⟩ = some (iv k)) (fun w' => w'.cell? ⟨N, 0, none⟩ = some v) l (w3.setCell ⟨N, 0, none⟩ v') := fun l hl => ⟨cell_at K4.out.2.2.1 0, fun h => by have := h 6 (by simp); rw [hl] at this; cases this⟩
  have one : v'.oneCell' = true := by
    obtain ⟨a, cap, rfl, _⟩ := K3.out.2.1.slice
    rfl
  refine instep_one (i := 6) (o := _) (by kernel_rfl) rfl (fun K1 hK1 => ?_)
  obtain ⟨a', n', cap', rfl⟩ : ∃ a n c, v' = .slice a n c := by obtain ⟨a, c, h, _⟩ := K3.out.2.1.slice; exact ⟨a, _, c, h⟩
  go_simp
  refine hK1.out _ _ (hD4 _ ?_) (fun _ => ?_)
  · kernel_rfl
  clear hK1 K1
  try simp only [Act.put, List.setIfInBounds_toArray, List.set_cons_zero, List.set_cons_succ]
  refine instep_done (by kernel_rfl) ?_ _
  clear hD hD1 hD2 hD3 hD4 y0 y1 one c4 c1
  generalize hw4 : w3.setCell ⟨N, 0, none⟩ (.slice a' n' cap') = w4 at *
  obtain ⟨e1, e3, e2, ⟨p, q, hm⟩, b1⟩ := K4.out
  have c4 : w4.cell? ⟨N + 2, 0, none⟩ = some (iv k) := cell_at e2 0
  have f4 := free_at e2 0
  have h3' := (setCell_heap_other (X := N + 2) (Y := N + 1) (i := 0) (iv 0) (by omega)).trans hm
  have c30 : (w4.setCell ⟨N + 2, 0, none⟩ (iv 0)).cell? ⟨N + 1, 0, none⟩ = some p := cell_at h3' 0
  have f30 := free_at h3' 0
  have h3'' := setCell_heap_same (i := 0) (.pointer none) h3'
  have c31 : ((w4.setCell ⟨N + 2, 0, none⟩ (iv 0)).setCell ⟨N + 1, 0, none⟩ (.pointer none)).cell? ⟨N + 1, 1, none⟩ = some q := cell_at h3'' 1
  have f31 := free_at h3'' 1
  have HR := Lib.hid (USt.reset e1 e3 hm e2 rfl)
  have HB2 := Lib.hid (reset_below b1)
  clear e1 e3 e2 hm b1 h3' h3'' hw4 K3 K4
  go_wp2_with fail
  go_end0
  exact ⟨rfl, HR.out, HB2.out⟩
/-- What ends the open row, be there one or not. -/
theorem end_calls (N : Nat) (d : List (Nat × BL)) (o : Option (Nat × BL)) (w : World) (h : USt N d o w) (hd : d.length ≤ 1000000) (hk2 : numOf o < 9223372036854775807) :
    Calls Tryd.prog 27 #[.pointer (some ⟨N + 2, 0, none⟩), .pointer (some ⟨N, 0, none⟩), .pointer (some ⟨N + 1, 0, none⟩)] w fun e w' => e = .returned (.tuple #[]) ∧ USt N (d ++ o.toList) none w' ∧ Below N w w' := by
  rcases o with _ | ⟨k, t⟩
  · rw [show d ++ (none : Option (Nat × BL)).toList = d by simp]; exact end_none N d w h
  · exact end_some N d k t w h hd hk2
end Go.Proofs.YtddjfeofmihgdaaDoor
