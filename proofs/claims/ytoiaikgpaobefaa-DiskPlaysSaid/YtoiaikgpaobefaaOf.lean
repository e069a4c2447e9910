/- The statements' sector of one byte, with another one at its end. -/
import Derived.Test.YtoiaikgpaobefaaMem
import Derived.LoopTactic
namespace Go.Proofs.Ytoiaikgpaobefaa
open Go.RowKit Go.Maps

/-- A sector of one byte, with another one at its end. -/
def ofSec (c e : UInt8) : Sec := List.replicate 255 c ++ [e]
theorem ofSec_length (c e : UInt8) : (ofSec c e).length = 256 := by unfold ofSec; rw [List.length_append, List.length_replicate]; rfl
/-- Its make under way. -/
def partOf (c : UInt8) (k : Nat) : List UInt8 := List.replicate k c ++ List.replicate (256 - k) 0
theorem partOf_length (c : UInt8) (k : Nat) (h : k ≤ 256) : (partOf c k).length = 256 := by unfold partOf; rw [List.length_append, List.length_replicate, List.length_replicate]; omega
theorem partOf_zero (c : UInt8) : partOf c 0 = zeroSec := by unfold partOf zeroSec; rfl
theorem partOf_get (c : UInt8) (k : Nat) (h : k < 256) : (cellsOf (partOf c k))[k]? = some (bv 0) := by
  rw [cellsOf_get]
  unfold partOf
  rw [List.getElem?_append_right (by rw [List.length_replicate]; exact Nat.le_refl _), List.length_replicate, Nat.sub_self, List.getElem?_replicate, if_pos (by omega)]
  rfl
theorem cellsOf_set (l : List UInt8) (k : Nat) (u : UInt8) : (cellsOf l).setIfInBounds k (bv u) = cellsOf (l.set k u) := by
  unfold cellsOf; rw [List.setIfInBounds_toArray, List.map_set]
theorem partOf_set (c : UInt8) (k : Nat) (h : k < 256) : (partOf c k).set k c = partOf c (k + 1) := by
  unfold partOf
  rw [List.set_append_right _ _ (by rw [List.length_replicate]; exact Nat.le_refl _), List.length_replicate, Nat.sub_self]
  have e : 256 - k = (256 - (k + 1)) + 1 := by omega
  rw [e, List.replicate_succ, List.set_cons_zero, List.replicate_succ', List.append_assoc]
  rfl
theorem partOf_end (c e : UInt8) : (partOf c 256).set 255 e = ofSec c e := by
  unfold partOf ofSec
  rw [Nat.sub_self, List.replicate_zero, List.append_nil]
  rw [show (256 : Nat) = 255 + 1 from rfl, List.replicate_succ', List.set_append_right _ _ (by rw [List.length_replicate]; exact Nat.le_refl _), List.length_replicate]
  rfl
theorem partOf_last (c : UInt8) : (cellsOf (partOf c 256))[255]? = some (bv c) := by
  rw [cellsOf_get]
  unfold partOf
  rw [Nat.sub_self, List.replicate_zero, List.append_nil, List.getElem?_replicate, if_pos (by decide)]
  rfl

theorem infoByte : (Try.prog.info? 5).map (fun i => (i.zero, i.size, i.bytes)) = some (some (bv 0), 1, 1) := by kernel_rfl
theorem zero_cells (n : Nat) : madeCells (bv 0).cells n = cellsOf (List.replicate n 0) := by
  have e : (bv 0).cells = (List.replicate 1 (bv 0)).toArray := rfl
  rw [e]
  unfold madeCells cellsOf
  rw [List.map_replicate]
  apply Array.ext'
  apply List.ext_getElem?
  intro i
  by_cases hi : i < n
  · rw [List.getElem?_replicate, if_pos hi]
    simp [hi, Nat.mod_one]
  · rw [List.getElem?_replicate, if_neg hi]
    simp; omega
/-- 'make([]byte, n)'. -/
theorem mk_bytes_n (n : Nat) (h : n ≤ 281474976710656) (w : World) : (Instr.makeSlice 47 (.int .i64 n) (.int .i64 n)).run Try.prog w = .ok (.slice (some ⟨w.heap.size, 0, none⟩) n n) (w.alloc (.cells (cellsOf (List.replicate n 0)) 5)) := by
  obtain ⟨i, hi, hz⟩ := Option.map_eq_some_iff.1 infoByte
  simp only [Prod.mk.injEq] at hz
  have := run_make (P := Try.prog) w 47 5 i (bv 0) Try.underlying47 hi hz.1 .i64 .i64 n n (by omega) (by omega) (by rw [hz.2.2]; omega) (by omega)
  rw [this, hz.2.1]
  simp only [Int.toNat_natCast, Nat.mul_one, zero_cells]
theorem mk_bytes (w : World) : (Instr.makeSlice 47 (.int .i64 256) (.int .i64 256)).run Try.prog w = .ok (.slice (some ⟨w.heap.size, 0, none⟩) 256 256) (w.alloc (.cells (cellsOf zeroSec) 5)) := mk_bytes_n 256 (by decide) w

set_option maxRecDepth 100000 in
/-- Of. -/
theorem of_any (c e : UInt8) (w : World) : Calls Try.prog 26 #[bv c, bv e] w fun en w' => en = .returned (.slice (some ⟨w.heap.size, 0, none⟩) 256 256) ∧ w' = w.alloc (.cells (cellsOf (ofSec c e)) 5) := by
  have hmk := mk_bytes
  have hw : ∀ u : UInt8, bv u = .int .u8 (u.toNat : Int) := fun _ => rfl
  go_enter Try.func26, Try.ntmps26
  go_wp2
  go_loopw [10] (fun i wr => ∃ k : Nat, k ≤ 256 ∧ i = .int .i64 k ∧ wr = w.alloc (.cells (cellsOf (partOf c k)) 5)) (fun i _ => 256 - (intOf i).toNat)
  case atStart => exact ⟨0, Nat.zero_le _, rfl, by rw [partOf_zero]⟩
  case round =>
    obtain ⟨k, hk, rfl, rfl⟩ := hrel
    by_cases hlt : k < 256
    · have hg := partOf_get c k hlt
      go_wp2
      have key : (cellsOf (partOf c k)).setIfInBounds k (.int .u8 (c.toNat : Int)) = cellsOf (partOf c (k + 1)) := by
        rw [← partOf_set c k hlt]; exact cellsOf_set _ _ _
      go_roundw
      case rel => exact ⟨k + 1, by omega, by go_num, by rw [key]⟩
      case measure => simp [intOf]; omega
    · obtain rfl : k = 256 := by omega
      have hl := partOf_last c
      have key : (cellsOf (partOf c 256)).setIfInBounds 255 (.int .u8 (e.toNat : Int)) = cellsOf (ofSec c e) := by
        rw [← partOf_end]; exact cellsOf_set _ _ _
      have K := Lib.hid key
      clear key
      go_wp2
      go_ret
      exact ⟨rfl, by rw [K.out]⟩

/-- What Of leaves, by its block. -/
theorem of_made (c e : UInt8) (w : World) : Calls Try.prog 26 #[bv c, bv e] w fun en w' => ∃ g, en = .returned (.slice (some ⟨g, 0, none⟩) 256 256) ∧ w'.heap[g]? = some (.cells (cellsOf (ofSec c e)) 5 (0, 0)) ∧ Below w.heap.size w w' ∧ g = w.heap.size :=
  (of_any c e w).mono fun en w' ⟨h1, h2⟩ => ⟨_, h1, by rw [h2]; exact heap_alloc_last w _, by rw [h2]; exact (Below.refl _ _).alloc (Nat.le_refl _) _, rfl⟩

theorem range_of_bytes {w : World} {g : Nat} {l : List UInt8} {t : TypeId} {fr : Nat × Nat} (h : w.heap[g]? = some (.cells (cellsOf l) t fr)) : w.rangeAt g 0 (l.map bv) := fun j v hv => by
  rw [cell_of_row w g (0 + j) _ _ _ h, cellsOf_get, ← hv, List.getElem?_map, Nat.zero_add]

end Go.Proofs.Ytoiaikgpaobefaa
