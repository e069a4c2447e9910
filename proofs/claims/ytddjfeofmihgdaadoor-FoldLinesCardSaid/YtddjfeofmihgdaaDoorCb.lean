/- Bytes in cells, and texts. -/
import Derived.Test.YtddjfeofmihgdaaDoorChecked
import Derived.WalkKit
import Derived.LoopTactic
import Derived.Below
import Derived.Lib.Hide
import Derived.Outline
import Derived.Deep.MidRow
import Derived.Deep.WholeRow
import Derived.Laws.IdiomStrings
import Derived.Laws.MakeOwn
import Derived.IntWalk
import Derived.Great.BuildSlice
import Derived.Deep.RegionWith
import Derived.Deep.QuietTactic
import Derived.BigQuiet
namespace Go.Proofs.YtddjfeofmihgdaaDoor
open Go.RowKit
set_option linter.unusedVariables false

abbrev iv (n : Int) : Value := .int .i64 n
/-- A byte in a cell. -/
def bv (u : UInt8) : Value := .int .u8 (u.toNat : Int)
theorem bv_one (u : UInt8) : (bv u).oneCell' = true := rfl
/-- The cells of a list of bytes. -/
def cellsOf (l : List UInt8) : Array Value := (l.map bv).toArray
theorem size_cellsOf (l : List UInt8) : (cellsOf l).size = l.length := by simp [cellsOf]
theorem cellsOf_get (l : List UInt8) (i : Nat) : (cellsOf l)[i]? = l[i]?.map bv := by simp [cellsOf]
theorem cellsOf_set (l : List UInt8) (k : Nat) (u : UInt8) : (cellsOf l).setIfInBounds k (bv u) = cellsOf (l.set k u) := by
  unfold cellsOf; rw [List.setIfInBounds_toArray, List.map_set]
/-- A text of a list of bytes. -/
def strOf (l : List UInt8) : ByteArray := ⟨l.toArray⟩
/-- The bytes of a text. -/
abbrev bts (s : ByteArray) : List UInt8 := s.data.toList
theorem bts_strOf (l : List UInt8) : bts (strOf l) = l := rfl
theorem strOf_bts (s : ByteArray) : strOf (bts s) = s := rfl
theorem strOf_size (l : List UInt8) : (strOf l).size = l.length := by unfold strOf ByteArray.size; simp
theorem bts_length (s : ByteArray) : (bts s).length = s.size := by unfold ByteArray.size; rw [Array.length_toList]
theorem ba_ext {s t : ByteArray} (h : bts s = bts t) : s = t := by rw [← strOf_bts s, ← strOf_bts t, h]
theorem bts_append (s t : ByteArray) : bts (s ++ t) = bts s ++ bts t := by
  show (s ++ t).data.toList = s.data.toList ++ t.data.toList
  rw [ByteArray.data_append, Array.toList_append]
theorem strOf_append (l m : List UInt8) : strOf l ++ strOf m = strOf (l ++ m) := ba_ext (by rw [bts_append]; rfl)
theorem strOf_inj {l m : List UInt8} (h : strOf l = strOf m) : l = m := by rw [← bts_strOf l, ← bts_strOf m, h]
theorem bts_extract (s : ByteArray) (a b : Nat) : bts (s.extract a b) = ((bts s).drop a).take (b - a) := by simp [bts]
theorem bts_get (s : ByteArray) (k : Nat) (h : k < s.size) : (bts s)[k]'(by rw [bts_length]; exact h) = s[k] := rfl
theorem bts_take (s : ByteArray) (k : Nat) (h : k < s.size) : (bts s).take (k + 1) = (bts s).take k ++ [s[k]] := by
  rw [List.take_succ_eq_append_getElem (by rw [bts_length]; exact h)]; rfl

theorem infoByte : (Tryd.prog.info? 5).map (fun i => (i.zero, i.size, i.bytes)) = some (some (bv 0), 1, 1) := by kernel_rfl
theorem zero_cells (n : Nat) : madeCells (bv 0).cells n = cellsOf (List.replicate n 0) := by
  have e : (bv 0).cells = (List.replicate 1 (bv 0)).toArray := rfl
  rw [e]
  unfold madeCells cellsOf
  rw [List.map_replicate]
  apply Array.ext'
  apply List.ext_getElem?
  intro i
  by_cases hi : i < n
  · rw [List.getElem?_replicate, if_pos hi]
    simp [hi, Nat.mod_one]
  · rw [List.getElem?_replicate, if_neg hi]
    simp; omega
/-- 'make([]byte, n)'. -/
theorem mk_bytes_n (n : Nat) (h : n ≤ 281474976710656) (w : World) : (Instr.makeSlice 44 (.int .i64 n) (.int .i64 n)).run Tryd.prog w = .ok (.slice (some ⟨w.heap.size, 0, none⟩) n n) (w.alloc (.cells (cellsOf (List.replicate n 0)) 5)) := by
  obtain ⟨i, hi, hz⟩ := Option.map_eq_some_iff.1 infoByte
  simp only [Prod.mk.injEq] at hz
  have := run_make (P := Tryd.prog) w 44 5 i (bv 0) Tryd.underlying44 hi hz.1 .i64 .i64 n n (by omega) (by omega) (by rw [hz.2.2]; omega) (by omega)
  rw [this, hz.2.1]
  simp only [Int.toNat_natCast, Nat.mul_one, zero_cells]
/-- 'string(b)'. -/
theorem conv_bytes {w : World} {g : Nat} {l : List UInt8} {t : TypeId} {fr : Nat × Nat} (n cap : Nat) (hn : l.length = n) (h : w.heap[g]? = some (.cells (cellsOf l) t fr)) :
    (convert 44 9 (.slice (some ⟨g, 0, none⟩) n cap)).run Tryd.prog w = .ok (.string (strOf l)) w := by
  subst hn
  refine run_convert_bytes_back w 44 9 5 ⟨g, 0, none⟩ cap l Tryd.underlying44 Tryd.underlying5 Tryd.underlying9 (fun j hj => ?_)
  rw [Addr.add_mid, Nat.zero_add, cell_of_row w g j _ _ _ h, cellsOf_get, List.getElem?_eq_getElem hj]
  rfl
/-- 'a slice of the elements that are written out'. -/
theorem infoParts (t : TypeId) (zz : Value) (n k : Nat) (h : (Tryd.prog.info? t).map (fun i => (i.zero, i.size, i.bytes)) = some (some zz, n, k)) : ∃ i, Tryd.prog.info? t = some i ∧ i.zero = some zz ∧ i.size = n ∧ i.bytes = k := by
  obtain ⟨i, hi, hz⟩ := Option.map_eq_some_iff.1 h
  simp only [Prod.mk.injEq] at hz
  exact ⟨i, hi, hz.1, hz.2.1, hz.2.2⟩
theorem wpList_bs_byte {ops : Array Oper} {rest : List Oper} {o : Oper} {a : Act} {w : World} {Q : Exit → Act → World → Prop} (hg : o.guard = none) (x : Operand) (ho : o.op = .buildSlice 44 1 #[(0, x)]) {u : Int} (hx : a.eval x = .int .u8 u)
    (h : wpList Tryd.prog ops Q rest (a.put o.dst (.slice (some ⟨w.heap.size, 0, none⟩) 1 1)) (w.alloc (.cells #[.int .u8 u] 5))) : wpList Tryd.prog ops Q (o :: rest) a w := by
  obtain ⟨i, hi, hz, hs, _⟩ := infoParts _ _ _ _ infoByte
  exact wpList_buildSlice hg 44 5 1 _ ho #[.int .u8 u] i (bv 0) Tryd.underlying44 hi hz (by rw [hs]; decide) (by rw [hs]; decide) (by rw [hs]; simp only [List.map_toArray, List.map_cons, List.map_nil, hx]; kernel_rfl) h
/-- 's[a:b]'. -/
theorem sl_str (s : ByteArray) (a b : Nat) (x y : Int) (hx : x = a) (hy : y = b) (h1 : a ≤ b) (h2 : b ≤ s.size) (w : World) :
    (Instr.slice 9 (.string s) (some (.int .i64 x)) (some (.int .i64 y)) none).run Tryd.prog w = .ok (.string (s.extract a b)) w := by
  rw [run_slice_string w 9 s .i64 .i64 x y Tryd.underlying9 (by omega) (by omega) (by omega), hx, hy]
  rfl
theorem toList_beq_ne {s t : ByteArray} (h : s ≠ t) : (s.toList == t.toList) = false := by
  rw [beq_eq_false_iff_ne]
  intro e
  apply h
  rw [ByteArray.toList_eq, ByteArray.toList_eq] at e
  exact ba_ext e
/-- Behind what was made at first. -/
theorem below_front {w w' : World} {o : Obj} (b : Below (w.alloc o).heap.size (w.alloc o) w') : Below w.heap.size w w' :=
  ((Below.refl _ w).alloc (Nat.le_refl _) o).trans (b.mono (by simp))
theorem below_then {w w' w'' : World} (b : Below w.heap.size w w') (c : Below w'.heap.size w' w'') : Below w.heap.size w w'' := b.trans (c.mono b.size)
theorem below_draws {B : Nat} {a w : World} (h : Below B a w) (n : Nat) : Below B a (w.drewN n) := ⟨h.os, h.tape, h.output, h.size, h.block⟩
theorem below_alloc (w : World) (o : Obj) : Below w.heap.size w (w.alloc o) := (Below.refl _ w).alloc (Nat.le_refl _) o
theorem blk_lt {w : World} {b : Nat} {o : Obj} (h : w.heap[b]? = some o) : b < w.heap.size := (Array.getElem?_eq_some_iff.1 h).1
end Go.Proofs.YtddjfeofmihgdaaDoor
