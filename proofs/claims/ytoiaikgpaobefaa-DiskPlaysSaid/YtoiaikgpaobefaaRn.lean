/- The document's New. -/
import Derived.Test.YtoiaikgpaobefaaRk
import Derived.Test.YtoiaikgpaobefaaOf
import Derived.Deep.RegionHeld3
import Derived.Deep.DrawnRows
namespace Go.Proofs.Ytoiaikgpaobefaa
open Go.RowKit Go.Maps

/-- append of one, at a step of a region that draws its order. -/
theorem step_append_one {ops : Array Oper} {o : Oper} {ac : Act} {w : World} {K : Act → World → Prop} {Q : Exit → Act → World → Prop} {F : Prop} {t e : TypeId} {z : Value} {bytes : Nat} (E : ElemIs t e z bytes) (hgd : o.guard = none) (s x : Operand)
    (ho : o.op = .call { callee := .builtin .append, args := #[s, x], argTypes := #[t, t] }) {a : Option Addr} {n cap : Nat} {xs : List Value} (h : Row w e a n cap xs) (hs : ac.eval s = .slice a n cap)
    (v : Value) (hv : v.oneCell' = true) (g0 : Nat) (hx : ac.eval x = .slice (some ⟨g0, 0, none⟩) 1 1) {t' : TypeId} {fr : Nat × Nat} (hg : w.heap[g0]? = some (.cells #[v] t' fr)) (hn : n ≤ 1099511627776)
    (hK : ∀ g cap' w', Row w' e (some ⟨g, 0, none⟩) (n + 1) cap' (xs ++ [v]) → Only (blk a) w w' → (g ∈ blk a ∨ w.heap.size ≤ g) → K (ac.put o.dst (.slice (some ⟨g, 0, none⟩) (n + 1) cap')) w') :
    if Region.wanted o (yielded ops ac.tmps) = true then Oper.wp Try.prog o ac w K Q else F := by
  have hw : Region.wanted o (yielded ops ac.tmps) = true := by simp [Region.wanted, hgd]
  rw [if_pos hw]
  obtain ⟨g, cap', w', hr, h2, h3, h4⟩ := run_append_row E h ⟨g0, 0, none⟩ 1 [v] (one_news hg) (fun u hu => by simp at hu; subst hu; exact hv) Nat.one_pos hn (show 1 ≤ 1099511627776 by decide) o.type
  have hr : (Builtin.append_ #[t, t] o.type #[.slice a n cap, .slice (some ⟨g0, 0, none⟩) 1 1]).run Try.prog w = .ok (.slice (some ⟨g, 0, none⟩) (n + 1) cap') w' := hr
  unfold Oper.wp execOp
  simp only [ho, resolve, invoke, builtin, Sem.run_bind, Sem.run_pure, Result.andThen_ok, List.map_toArray, List.map_cons, List.map_nil, hs, hx, hr]
  exact hK g cap' w' h2 h3 h4

/-- What New answers. -/
def MadeRef2 (w : World) (m : DM) (e : Ending) (w' : World) : Prop :=
  ∃ r S, e = .returned (.tuple #[.pointer (some ⟨r, 0, none⟩), .int .i64 0]) ∧ RefIn w' r S m 0 ∧ Below w.heap.size w w' ∧ ∀ x ∈ S, w.heap.size ≤ x

theorem new_ref_refused (n : Int) (h : n < 1 ∨ 8192 < n) (w : World) : Calls Try.prog 10 #[.int .i64 n] w fun e w' => e = .returned (.tuple #[.pointer none, .int .i64 2]) ∧ w = w' := by
  by_cases h1 : n < 1
  · go_enter Try.func10, Try.ntmps10
    go_wp2
    go_ret2
    exact ⟨rfl, rfl⟩
  · have h2 : 8192 < n := by omega
    clear h
    go_enter Try.func10, Try.ntmps10
    go_wp2
    go_ret2
    exact ⟨rfl, rfl⟩

/-- The loop under way. -/
structure NrInv (w : World) (R j : Nat) (la : Option Addr) (lc : Nat) (wr : World) : Prop where
  cells : RCells wr R (.slice la j lc) (.slice none 0 0) (.slice none 0 0) (-1) false
  row : Row wr 9 la j lc ((List.replicate j zeroSec).map strV)
  below : Below w.heap.size w wr
  new : ∀ x ∈ blk la, w.heap.size ≤ x ∧ x ≠ R

set_option maxRecDepth 100000 in
set_option maxHeartbeats 4000000 in
theorem new_ref (n : Nat) (h1 : 0 < n) (h : n ≤ 8192) (w : World) : Calls Try.prog 10 #[.int .i64 n] w (MadeRef2 w (DM.made n)) := by
  have hmk := mk_bytes
  have h1I : (1 : Int) ≤ (n : Int) := by omega
  have hI : (n : Int) ≤ 8192 := by omega
  have H1 := Lib.hid (And.intro h1 h)
  clear h1 h
  go_enter Try.func10, Try.ntmps10
  go_wp2
  go_loopw [5] (fun i wr => ∃ (j : Nat) (la : Option Addr) (lc : Nat), j ≤ n ∧ i = .int .i64 j ∧ NrInv w w.heap.size j la lc wr) (fun i _ => n - (intOf i).toNat)
  case atStart => exact ⟨0, none, 0, Nat.zero_le _, rfl, heap_alloc_last w _, Row.nil _ _, (Below.refl _ _).alloc (Nat.le_refl _) _, by simp [blk]⟩
  case round =>
    obtain ⟨j, la, lc, hj, rfl, inv⟩ := hrel
    by_cases hlt : j < n
    · have hltI : (j : Int) < (n : Int) := by omega
      have c0 := inv.cells.c0
      have f0 := inv.cells.fr 0
      have Inv := Lib.hid inv
      have hjl : j ≤ 1099511627776 := by have := H1.out; omega
      clear inv
      have ltr := Inv.out.cells.lt
      have lw := Inv.out.below.size
      have z0 : (convert 47 9 (.slice (some ⟨wr.heap.size, 0, none⟩) 256 256)).run Try.prog (wr.alloc (.cells (cellsOf zeroSec) 5)).drew = .ok (.string (strOf zeroSec)) (wr.alloc (.cells (cellsOf zeroSec) 5)).drew := conv_bytes 256 256 zeroSec_length (heap_alloc_last wr _)
      have oA : Only [] wr ((wr.alloc (.cells (cellsOf zeroSec) 5)).alloc (.cells #[.string (strOf zeroSec)] 9)).drew := (((Only.refl _ _).alloc _).alloc _).drew
      have hR := Lib.hid (Inv.out.row.keep oA (by simp))
      have hg : ((wr.alloc (.cells (cellsOf zeroSec) 5)).alloc (.cells #[.string (strOf zeroSec)] 9)).drew.heap[wr.heap.size + 1]? = some (.cells #[.string (strOf zeroSec)] 9 (0, 0)) := by
        have := heap_alloc_last (wr.alloc (.cells (cellsOf zeroSec) 5)) (.cells #[.string (strOf zeroSec)] 9)
        rw [World.size_alloc] at this
        exact this
      have Hg := Lib.hid hg
      clear hg
      go_wp2
      go_region_law
        ((refine step_append_one elemStr (by rfl) (.tmp 23) (.tmp 26) (by rfl) hR.out (by rfl) (.string (strOf zeroSec)) rfl (wr.heap.size + 1) (by rfl) Hg.out hjl ?_; intro g2 cap2 w2 hR2 o2 n2; have cc := (Inv.out.cells.keep oA (by simp)).keep o2 (fun hh => (Inv.out.new _ hh).2 rfl); have d0 := cc.c0; have fr0 := cc.fr 0))
      all_goals
        have c9 := cc.set0 (.slice (some ⟨g2, 0, none⟩) (j + 1) cap2)
        have s1 : ((wr.alloc (.cells (cellsOf zeroSec) 5)).alloc (.cells #[.string (strOf zeroSec)] 9)).drew.heap.size = wr.heap.size + 2 := by
          show ((wr.alloc (.cells (cellsOf zeroSec) 5)).alloc (.cells #[.string (strOf zeroSec)] 9)).heap.size = _
          simp
        have hg2 : w.heap.size ≤ g2 ∧ g2 ≠ w.heap.size := by
          rcases n2 with h1 | h1
          · exact Inv.out.new _ h1
          · exact ⟨by omega, by omega⟩
        have oB : Only [w.heap.size] w2 (w2.setCell ⟨w.heap.size, 0, none⟩ (.slice (some ⟨g2, 0, none⟩) (j + 1) cap2)) := (Only.refl _ _).setCell (by simp) _
        have r9 := hR2.keep oB (by intro x hx; simp [blk] at hx; subst hx; simpa using hg2.2)
        have inv2 : NrInv w w.heap.size (j + 1) (some ⟨g2, 0, none⟩) cap2 (w2.setCell ⟨w.heap.size, 0, none⟩ (.slice (some ⟨g2, 0, none⟩) (j + 1) cap2)) := by
          refine ⟨c9, ?_, ?_, by simpa [blk] using hg2⟩
          · rw [List.replicate_succ', List.map_append]; exact r9
          · exact Below.then_only (Below.then_only (Below.then_only Inv.out.below oA Inv.out.below.size (by simp)) o2 (by omega) (fun x hx => (Inv.out.new x hx).1)) oB (by have := o2.size; omega) (by simp)
        have Inv2 := Lib.hid inv2
        clear inv2 r9 oB hg2 s1 c9 cc hR2 o2 n2 d0 fr0
        go_wp2
        go_roundw
        case rel => exact ⟨j + 1, _, _, by omega, by go_num, Inv2.out⟩
        case measure => simp [intOf]; omega
    · have hj' : j = n := by omega
      subst hj'
      go_wp2
      go_ret2
      have hnew := inv.new
      refine ⟨w.heap.size, w.heap.size :: (blk la ++ (blk none ++ blk none)), rfl, ⟨la, lc, none, 0, none, 0, [], ⟨by simpa [DM.made, normLeft] using inv.cells, by simpa [DM.made] using inv.row, Row.nil _ _, Row.nil _ _, rfl, ?_, fun k => rfl, by simp⟩, Nat.le_refl _⟩, inv.below, ?_⟩
      · cases la with
        | none => simp [blk]
        | some x => have := (hnew x.block (by simp [blk])).2; simp [blk]; exact fun e => this e.symm
      · intro x hx
        simp only [List.mem_cons, List.mem_append] at hx
        rcases hx with rfl | hx | hx | hx
        · exact Nat.le_refl _
        · exact (hnew x hx).1
        · cases hx
        · cases hx

end Go.Proofs.Ytoiaikgpaobefaa
