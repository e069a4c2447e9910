/- Frames: their heads, their sizes. -/
import Derived.Test.YtmongcpaphifaaaDoorFb
import Derived.Test.YtmongcpaphifaaaDoorCw
import Derived.Test.YtmongcpaphifaaaDoorCe
import Derived.Deep.QuietTactic
import Derived.BigQuiet
namespace Go.Proofs.YtmongcpaphifaaaDoor
open Go.RowKit
set_option linter.unusedVariables false
set_option linter.unusedSimpArgs false

/-- A record's frame. -/
def frm (r : List UInt8) : List UInt8 := leB (r.length + 1) 3 ++ leB (crc (leB (r.length + 1) 3 ++ r)) 4 ++ r
theorem frm_length (r : List UInt8) : (frm r).length = r.length + 7 := by unfold frm; simp [leB_length]; omega
def frames (l : List ByteArray) : List UInt8 := l.flatMap fun s => frm (bts s)
theorem frames_append (l m : List ByteArray) : frames (l ++ m) = frames l ++ frames m := by simp [frames]
theorem frames_take (l : List ByteArray) (k : Nat) (h : k < l.length) : frames (l.take (k + 1)) = frames (l.take k) ++ frm (bts l[k]) := by
  rw [take_snoc l k h, frames_append]; simp [frames]
def fits (l : List ByteArray) : Prop := ∀ s ∈ l, s.size ≤ 30000
instance (l : List ByteArray) : Decidable (fits l) := by unfold fits; infer_instance
theorem fits_get {l : List ByteArray} (h : fits l) (k : Nat) (hk : k < l.length) : l[k].size ≤ 30000 := h _ (List.getElem_mem hk)
theorem fits_not {l : List ByteArray} (k : Nat) (hk : k < l.length) (h : 30000 < l[k].size) : ¬ fits l := fun hf => by have := fits_get hf k hk; omega
theorem fits_take {l : List ByteArray} (h : fits l) (k : Nat) : fits (l.take k) := fun s hs => h s (List.mem_of_mem_take hs)
theorem fits_snoc {l : List ByteArray} {k : Nat} (hk : k < l.length) (h : fits (l.take k)) (h2 : l[k].size ≤ 30000) : fits (l.take (k + 1)) := by
  rw [take_snoc l k hk]
  intro s hs
  rcases List.mem_append.1 hs with h3 | h3
  · exact h s h3
  · rw [List.mem_singleton.1 h3]; exact h2
theorem frames_bound (l : List ByteArray) (h : fits l) : (frames l).length ≤ 30007 * l.length := by
  induction l with
  | nil => simp [frames]
  | cons s l ih =>
    have h1 := ih (fun t ht => h t (List.mem_cons_of_mem _ ht))
    have h2 := h s List.mem_cons_self
    have e : frames (s :: l) = frm (bts s) ++ frames l := by simp [frames]
    rw [e, List.length_append, frm_length, bts_length, List.length_cons]; omega
theorem small_of_fits {l : List ByteArray} (h : fits l) (hn : l.length ≤ 1000) : Small l := ⟨by omega, fun s hs => by have := h s hs; omega⟩

/-! ### heads, the program's -/
set_option maxRecDepth 100000 in
set_option maxHeartbeats 1000000 in
theorem head_calls (r : ByteArray) (hr : r.size ≤ 30000) (w : World) :
    Calls Tryd.prog 25 #[.string r] w fun e w' => e = .returned (.string (strOf (leB (r.size + 1) 3 ++ leB (crc (leB (r.size + 1) 3 ++ bts r)) 4))) ∧ Below w.heap.size w w' := by
  have hc := crc_lt (leB (r.size + 1) 3 ++ bts r)
  have z1 : (strOf (leB (r.size + 1) 3)).size ≤ 3 := by rw [strOf_size, leB_length]; exact Nat.le_refl _
  have z2 : (strOf (leB (crc (leB (r.size + 1) 3 ++ bts r)) 4)).size ≤ 4 := by rw [strOf_size, leB_length]; exact Nat.le_refl _
  have ef : flat [strOf (leB (r.size + 1) 3), r] = leB (r.size + 1) 3 ++ bts r := by simp [flat, bts_strOf]
  have sm : Small [strOf (leB (r.size + 1) 3), r] := ⟨by simp, fun s hs => by
    rcases List.mem_cons.1 hs with rfl | h
    · omega
    · rw [List.mem_singleton.1 h]; omega⟩
  have EF := Lib.hid ef
  clear ef
  have l1 : ∀ w : World, Calls Tryd.prog 34 #[.int .u32 ((r.size : Int) + 1), .int .i64 3] w fun e w' => e = .returned (.string (strOf (leB (r.size + 1) 3))) ∧ Below w.heap.size w w' := laid_calls (r.size + 1) 3 (by omega) (by omega)
  have l2 : ∀ w : World, Calls Tryd.prog 34 #[u32 (crc (leB (r.size + 1) 3 ++ bts r)), .int .i64 4] w fun e w' => e = .returned (.string (strOf (leB (crc (leB (r.size + 1) 3 ++ bts r)) 4))) ∧ Below w.heap.size w w' := laid_calls (crc (leB (r.size + 1) 3 ++ bts r)) 4 hc (by omega)
  go_enter Tryd.func25, Tryd.ntmps25
  go_wp2_with fail
  refine (l1 _).mono ?_; rintro e w1 ⟨rfl, b1⟩
  go_wp2_with (refine wpList_bs_str2 rfl _ _ rfl rfl rfl ?_)
  refine (sum_any _ 2 [strOf (leB (r.size + 1) 3), r] _ (strs2 _ _ _ _) sm).mono ?_; rw [EF.out]; rintro e w2 ⟨rfl, rfl⟩
  go_wp2_with fail
  refine (l2 _).mono ?_; rintro e w3 ⟨rfl, b3⟩
  go_wp2_with fail
  go_ret
  exact ⟨by simp [strOf_append], below_then b1 (below_front b3)⟩
end Go.Proofs.YtmongcpaphifaaaDoor
