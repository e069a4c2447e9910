/- Read. -/
import Derived.Test.YtoiaikgpaobefaaDm
import Derived.Test.YtoiaikgpaobefaaFlat
namespace Go.Proofs.Ytoiaikgpaobefaa
open Go.RowKit Go.Extern.Stop Go.Stop Go.Extern Go.Maps

/-- What is read of a sector. -/
def DM.now (m : DM) (k : Int) : Sec := (m.fresh k).getD (m.lasts.getD k.toNat zeroSec)

theorem read_refused {w : World} {b L M N : Nat} {m : DM} (h : DiskIn w b L M N m) (k : Int) (hr : 1 ≤ refN 1 m.lasts.length m.off k 0) :
    Calls Try.prog 20 #[.pointer (some ⟨b, 0, none⟩), .int .i64 k] w fun e w' => e = .returned (.tuple #[.slice none 0 0, errV (refN 1 m.lasts.length m.off k 0)]) ∧ w = w' := by
  rw [errV_pos hr]
  go_enter Try.func20, Try.ntmps20
  go_wp2_with (go_at_call 39; refine (refusal_read h.cells h.ok.pos k 0).mono ?_; rw [errV_pos hr]; rintro e w' ⟨rfl, rfl⟩)
  go_ret2
  exact ⟨rfl, rfl⟩

/-- What a call answers that makes a sector's bytes. -/
def MadeSec (w : World) (s : Sec) (e : Ending) (w' : World) : Prop :=
  ∃ g, e = .returned (.tuple #[.slice (some ⟨g, 0, none⟩) 256 256, errV 0]) ∧ w'.heap[g]? = some (.cells (cellsOf s) 79 (0, 0)) ∧ Below w.heap.size w w' ∧ w.heap.size ≤ g

theorem DiskIn.range {w : World} {b L M N : Nat} {m : DM} (h : DiskIn w b L M N m) {k : Nat} (hk : k < m.lasts.length) : w.rangeAt L (k * 256) ((m.lasts[k]).map bv) := by
  intro j v hv
  rw [cell_of_row w L _ _ _ _ h.lasts]
  unfold flat
  rw [cellsOf_get]
  have hp := flatten_part m.lasts k h.ok.sec hk
  rw [List.getElem?_map, ← hp, List.getElem?_take] at hv
  split at hv
  · rw [List.getElem?_drop] at hv
    exact hv
  · simp at hv

set_option maxRecDepth 100000 in
theorem read_fresh {w : World} {b L M N : Nat} {m : DM} (h : DiskIn w b L M N m) (k : Int) (hr : refN 1 m.lasts.length m.off k 0 = 0) (s : Sec) (hs : m.fresh k = some s) (hk : Fits k) (hsl : s.length = 256) :
    Calls Try.prog 20 #[.pointer (some ⟨b, 0, none⟩), .int .i64 k] w (MadeSec w s) := by
  have c1 := h.cells.c1
  have hl := h.fresh.look hk
  rw [hs] at hl
  simp only [Option.getD_some, Option.isSome_some] at hl
  have hz := zeroSecA
  have hz0 : (cellsOf zeroSec).size = (cellsOf s).size := by rw [size_cellsOf, size_cellsOf, hsl]; exact zeroSec_length
  go_enter Try.func20, Try.ntmps20
  go_wp2_with (first | (go_at_call 39; refine (refusal_read h.cells h.ok.pos k 0).mono ?_; rw [hr, errV_0]; rintro e w' ⟨rfl, rfl⟩) | (refine wpList_store_new rfl 79 (.tmp 7) (.tmp 22) rfl _ _ rfl rfl (sizeSec hsl) hz0 (all_cellsOf _) ?_))
  go_ret2
  exact ⟨w.heap.size, rfl, heap_alloc_last _ _, (Below.refl _ _).alloc (Nat.le_refl _) _, Nat.le_refl _⟩

set_option maxRecDepth 100000 in
theorem read_last {w : World} {b L M N : Nat} {m : DM} (h : DiskIn w b L M N m) (k : Nat) (hr : refN 1 m.lasts.length m.off k 0 = 0) (hs : m.fresh k = none) (hk : k < m.lasts.length) :
    Calls Try.prog 20 #[.pointer (some ⟨b, 0, none⟩), .int .i64 k] w (MadeSec w m.lasts[k]) := by
  have c0 := h.cells.c0
  have c1 := h.cells.c1
  have hf := h.ok.few
  have hl := h.fresh.look (k := k) ⟨by omega, by omega⟩
  rw [hs] at hl
  simp only [Option.getD_none, Option.isSome_none] at hl
  have hz := zeroSecA
  have hsl := h.ok.sec _ (List.getElem_mem hk)
  have hrg := h.range hk
  have hlb := h.ltb
  have hi1 : ((k : Int) * 256).toNat = k * 256 := by omega
  have hz0 : (cellsOf zeroSec).size = (cellsOf m.lasts[k]).size := by rw [size_cellsOf, size_cellsOf, hsl]; exact zeroSec_length
  go_enter Try.func20, Try.ntmps20
  go_wp2_with (first | (go_at_call 39; refine (refusal_read h.cells h.ok.pos k 0).mono ?_; rw [hr, errV_0]; rintro e w' ⟨rfl, rfl⟩) | (refine wpList_store_new rfl 79 (.tmp 7) (.tmp 22) rfl _ _ rfl rfl (sizeSec zeroSec_length) rfl (all_cellsOf _) ?_) | (refine wpList_load_mid rfl 79 (.tmp 31) rfl L (k * 256) rfl ((m.lasts[k]).map bv) _ (World.rangeAt_alloc hrg _) Try.underlying79 rfl (sizeSec hsl) ?_) | (refine wpList_store_new rfl 79 (.tmp 7) (.tmp 32) rfl _ _ rfl rfl (sizeSec hsl) hz0 (all_cellsOf _) ?_))
  go_ret2
  exact ⟨w.heap.size, rfl, heap_alloc_last _ _, (Below.refl _ _).alloc (Nat.le_refl _) _, Nat.le_refl _⟩

/-- Read of a sector that is there, of a disk that is on. -/
theorem read_ok {w : World} {b L M N : Nat} {m : DM} (h : DiskIn w b L M N m) (k : Int) (hr : refN 1 m.lasts.length m.off k 0 = 0) :
    Calls Try.prog 20 #[.pointer (some ⟨b, 0, none⟩), .int .i64 k] w (MadeSec w (m.now k)) := by
  have hk : 0 ≤ k ∧ k < m.lasts.length := by
    unfold refN at hr
    rw [if_neg (by simp)] at hr
    by_cases e : k < 0 ∨ (m.lasts.length : Int) ≤ k
    · rw [if_pos ⟨by decide, e⟩] at hr; omega
    · omega
  have hfew := h.ok.few
  obtain ⟨n, rfl⟩ := Int.eq_ofNat_of_zero_le hk.1
  have hn : n < m.lasts.length := by omega
  unfold DM.now
  cases hf : m.fresh (n : Int) with
  | none =>
    have e : m.lasts.getD n zeroSec = m.lasts[n] := by rw [List.getD_eq_getElem?_getD, List.getElem?_eq_getElem hn]; rfl
    rw [Option.getD_none, Int.toNat_natCast, e]
    exact read_last h n hr hf hn
  | some s => exact read_fresh h n hr s hf ⟨by omega, by omega⟩ (h.ok.keys _ s hf).2.2

theorem read_nil (k : Int) (w : World) : Calls Try.prog 20 #[.pointer none, .int .i64 k] w fun e w' => e = .returned (.tuple #[.slice none 0 0, errV 1]) ∧ w = w' := by
  go_enter Try.func20, Try.ntmps20
  go_wp2_with (go_at_call 39; refine (refusal_nil _ _ _ _).mono ?_; rw [errV_pos (by decide)]; rintro e w' ⟨rfl, rfl⟩)
  go_ret2
  exact ⟨rfl, rfl⟩

end Go.Proofs.Ytoiaikgpaobefaa
