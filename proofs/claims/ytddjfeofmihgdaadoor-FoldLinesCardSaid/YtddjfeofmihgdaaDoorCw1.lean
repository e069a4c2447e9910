/- A builder of texts: WriteByte. -/
import Derived.Test.YtddjfeofmihgdaaDoorCw
import Derived.Laws.AppendOwn
namespace Go.Proofs.YtddjfeofmihgdaaDoor
open Go.RowKit
set_option linter.unusedVariables false
set_option linter.unusedSimpArgs false

set_option maxHeartbeats 2000000 in
set_option maxRecDepth 100000 in
theorem writeByte_calls (B b : Nat) (l : List UInt8) (c : UInt8) (w : World) (h : Bld B b l w) (hlen : l.length + 1 ≤ 140737488355328) (hBw : B ≤ w.heap.size) :
    Calls Tryd.prog 37 #[.pointer (some ⟨b, 0, none⟩), .int .u8 (c.toNat : Int)] w fun e w' => e = .returned .nilIface ∧ Bld B b (l ++ [c]) w' ∧ Wrote B b w w' := by
  obtain ⟨i0, hi, hz0, hz1, hz2⟩ := info_parts infoByte
  go_enter Tryd.func37, Tryd.ntmps37
  go_wp2_with (go_at_call 46; refine (copyCheck_calls B b l _ h).mono ?_)
  rintro e w1 ⟨rfl, h1, k1⟩
  obtain ⟨hB, v, hbk, hown, hne⟩ := h1
  have c1 : w1.cell? ⟨b, 1, none⟩ = some v := by rw [Lib.cell_of_heap hbk]; rfl
  have z1 := k1.below.size
  have hl0 : (Lib.byteCells l).length = l.length := Lib.byteCells_length l
  go_wp2_with (first
    | (refine wpList_bs_byte rfl _ rfl rfl ?_)
    | (at_builtin; refine wpList_append_own _ rfl _ _ 44 rfl B 5 i0 (bv 0) 1 1 Tryd.underlying44 hi hz0 hz1 hz2 rfl (by decide) v _ _ rfl (hown.alloc _) ⟨w1.heap.size, 0, none⟩ 1 1 [.int .u8 (c.toNat : Int)] rfl rfl ?c1 ?c2 ?c3 ?c4 ?c5 ?_))
  case c1 =>
    intro j u hj
    match j, hj with
    | 0, hj => simp at hj; subst hj; rw [Addr.add_mid, cell_of_row _ _ _ _ _ _ (heap_alloc_last w1 _)]; rfl
  case c2 => intro u hu; rw [List.mem_singleton.1 hu]; rfl
  case c3 => rw [hl0]; unfold maxLen; omega
  case c4 => rw [hl0]; omega
  case c5 => simp; omega
  intro v2 w2 hown2 hgrow _
  have hb2 : w2.heap[b]? = some (.cells #[.pointer (some ⟨b, 0, none⟩), v] 46 (0, 0)) :=
    (hgrow.block b (by have := blk_lt hbk; simp; omega) (fun e => hne e.symm)).trans ((Below.heap_alloc _ _ _ (blk_lt hbk)).trans hbk)
  have d1 : w2.cell? ⟨b, 1, none⟩ = some v := by rw [Lib.cell_of_heap hb2]; rfl
  have f1 : w2.frozen? ⟨b, 1, none⟩ = false := Lib.frozen_of_heap hb2 1
  have kind := Lib.ownsRowF_kind (World.ownsRowF_of (hown.alloc (.cells #[.int .u8 (c.toNat : Int)] 5)))
  have lt := hown.lt
  obtain ⟨ao, n2, cap, rfl⟩ : ∃ ao n2 cap, v2 = .slice ao n2 cap := by
    rcases hown2.2 with ⟨hv, _⟩ | ⟨g, cap, cur, hv, _⟩
    · exact ⟨none, 0, 0, hv⟩
    · exact ⟨_, _, _, hv⟩
  go_wp2
  go_ret
  refine ⟨rfl, .inr ?_, ?_, ?_⟩
  · refine Lib.BuilderAt.put hB hb2 ?_ bApart
    have e : Lib.byteCells (l ++ [c]) = Lib.byteCells l ++ [.int .u8 (c.toNat : Int)] := Lib.byteCells_append _ _
    rw [e, List.length_append, hl0]
    exact hown2
  · exact ((k1.below.alloc (Nat.le_trans hBw z1) _).grown hgrow (by simp; omega) (fun k hk => (lt k hk).1)).setCell (p := ⟨b, 1, none⟩) hB _
  · exact (((k1.others.alloc _).grown hgrow kind)).setCell ⟨b, 1, none⟩ rfl _
theorem writeByte_n (B b : Nat) (l : List UInt8) (c : UInt8) (n : Int) (hn : (c.toNat : Int) = n) (w : World) (h : Bld B b l w) (hlen : l.length + 1 ≤ 140737488355328) (hBw : B ≤ w.heap.size) :
    Calls Tryd.prog 37 #[.pointer (some ⟨b, 0, none⟩), .int .u8 n] w fun e w' => e = .returned .nilIface ∧ Bld B b (l ++ [c]) w' ∧ Wrote B b w w' := by
  subst hn; exact writeByte_calls B b l c w h hlen hBw
end Go.Proofs.YtddjfeofmihgdaaDoor
