/- Frames of records: measured, packed; the document's. -/
import Derived.Test.YtmongcpaphifaaaDoorFc
import Derived.Test.YtmongcpaphifaaaDoorShelf
namespace Go.Proofs.YtmongcpaphifaaaDoor
open Go.RowKit
set_option linter.unusedVariables false
set_option linter.unusedSimpArgs false

set_option maxRecDepth 100000 in
set_option maxHeartbeats 1000000 in
theorem measure_yes (a : Option Addr) (cap : Nat) (l : List ByteArray) (w : World) (hl : StrsIn w a l) (hn : l.length ≤ 1000) (hf : fits l) :
    Calls Tryd.prog 22 #[.slice a l.length cap] w fun e w' => e = .returned (.tuple #[iv (frames l).length, .nilIface]) ∧ w = w' := by
  go_enter Tryd.func22, Tryd.ntmps22
  go_wp2
  go_loop [4, 9] (fun s i => ∃ k : Nat, k ≤ l.length ∧ i = iv k ∧ s = iv (frames (l.take k)).length) (fun _ i => (l.length - intOf i).toNat)
  case atStart => exact ⟨0, Nat.zero_le _, rfl, rfl⟩
  case round =>
    obtain ⟨k, hk, rfl, rfl⟩ := hrel
    have hb := frames_bound _ (fits_take hf k)
    have hbl : (l.take k).length ≤ 1000 := by rw [List.length_take]; omega
    by_cases hlt : k < l.length
    · rcases hl with rfl | ⟨b, off, rfl, hl⟩
      · simp at hlt
      have c0 := hl k hlt
      have hz := fits_get hf k hlt
      have e : (frames (l.take (k + 1))).length = (frames (l.take k)).length + (7 + l[k].size) := by rw [frames_take l k hlt, List.length_append, frm_length, bts_length]; omega
      have E := Lib.hid e
      clear e
      go_wp2
      go_round
      case rel => exact ⟨k + 1, by omega, by go_num, by rw [E.out]; go_num⟩
      case measure => simp [intOf]; omega
    · obtain rfl : k = l.length := by omega
      go_wp2
      go_ret2
      exact ⟨rfl, rfl⟩
set_option maxRecDepth 100000 in
set_option maxHeartbeats 1000000 in
theorem measure_no (a : Option Addr) (cap : Nat) (l : List ByteArray) (w : World) (hl : StrsIn w a l) (hn : l.length ≤ 1000) (hf : ¬ fits l) :
    Calls Tryd.prog 22 #[.slice a l.length cap] w fun e w' => e = .returned (.tuple #[iv 0, errNo 4]) ∧ w = w' := by
  go_enter Tryd.func22, Tryd.ntmps22
  go_wp2
  go_loop [4, 9] (fun s i => ∃ k : Nat, k ≤ l.length ∧ fits (l.take k) ∧ i = iv k ∧ s = iv (frames (l.take k)).length) (fun _ i => (l.length - intOf i).toNat)
  case atStart => exact ⟨0, Nat.zero_le _, fun s hs => by simp at hs, rfl, rfl⟩
  case round =>
    obtain ⟨k, hk, hft, rfl, rfl⟩ := hrel
    have hb := frames_bound _ hft
    have hbl : (l.take k).length ≤ 1000 := by rw [List.length_take]; omega
    by_cases hlt : k < l.length
    · rcases hl with rfl | ⟨b, off, rfl, hl⟩
      · simp at hlt
      have c0 := hl k hlt
      by_cases hz : l[k].size ≤ 30000
      · have e : (frames (l.take (k + 1))).length = (frames (l.take k)).length + (7 + l[k].size) := by rw [frames_take l k hlt, List.length_append, frm_length, bts_length]; omega
        have E := Lib.hid e
        clear e
        go_wp2
        go_round
        case rel => exact ⟨k + 1, by omega, fits_snoc hlt hft hz, by go_num, by rw [E.out]; go_num⟩
        case measure => simp [intOf]; omega
      · have hz' : 30000 < (l[k].size : Int) := by omega
        go_wp2
        go_ret2
        exact ⟨rfl, rfl⟩
    · obtain rfl : k = l.length := by omega
      rw [List.take_length] at hft
      exact absurd hft hf

def sizeI (l : List ByteArray) : Nat := if fits l then (frames l).length else 0
theorem size_calls (a : Option Addr) (cap : Nat) (l : List ByteArray) (w : World) (hl : StrsIn w a l) (hn : l.length ≤ 1000) :
    Calls Tryd.prog 19 #[.slice a l.length cap] w fun e w' => e = .returned (iv (sizeI l)) ∧ w = w' := by
  by_cases hf : fits l
  · have e : sizeI l = (frames l).length := if_pos hf
    rw [e]
    have m := measure_yes a cap l w hl hn hf
    clear e hf
    go_enter Tryd.func19, Tryd.ntmps19
    go_wp2_with (go_at_call 22; refine m.mono ?_; rintro e w' ⟨rfl, rfl⟩)
    go_ret
    exact ⟨rfl, rfl⟩
  · have e : sizeI l = 0 := if_neg hf
    rw [e]
    have m := measure_no a cap l w hl hn hf
    clear e hf
    go_enter Tryd.func19, Tryd.ntmps19
    go_wp2_with (go_at_call 22; refine m.mono ?_; rintro e w' ⟨rfl, rfl⟩)
    go_ret
    exact ⟨rfl, rfl⟩

/-- What Pack answers. -/
def packV (l : List ByteArray) : Value := if fits l then .tuple #[.string (strOf (frames l)), .nilIface] else .tuple #[.string ⟨#[]⟩, errNo 4]

set_option maxRecDepth 100000 in
set_option maxHeartbeats 2000000 in
theorem pack_calls (a : Option Addr) (cap : Nat) (l : List ByteArray) (w : World) (hl : StrsIn w a l) (hn : l.length ≤ 1000) :
    Calls Tryd.prog 14 #[.slice a l.length cap] w fun e w' => e = .returned (packV l) ∧ Below w.heap.size w w' := by
  by_cases hf : fits l
  · have e : packV l = .tuple #[.string (strOf (frames l)), .nilIface] := if_pos hf
    rw [e]
    have m := measure_yes a cap l w hl hn hf
    have hbig := frames_bound l hf
    clear e
    go_enter Tryd.func14, Tryd.ntmps14
    go_wp2_with (go_at_call 22; refine m.mono ?_; rintro e w' ⟨rfl, rfl⟩)
    have hblk := heap_alloc_last w (.cells #[.pointer none, .slice none 0 0] 50)
    refine (Tryd.Builder_Grow_fresh w.heap.size w.heap.size (frames l).length _ (Nat.le_refl _) hblk (by simp) (by omega)).mono ?_
    rintro e w1 ⟨rfl, h1, b1⟩
    have h1' : Bld w.heap.size w.heap.size [] w1 := .inr h1
    have b0 : Below w.heap.size w w1 := (below_alloc w _).trans b1
    clear hblk h1 m b1
    go_wp2_with fail
    go_loopw [21] (fun i wr => ∃ k : Nat, k ≤ l.length ∧ i = iv k ∧ Bld w.heap.size w.heap.size (frames (l.take k)) wr ∧ Below w.heap.size w wr) (fun i _ => (l.length - intOf i).toNat)
    case atStart => exact ⟨0, Nat.zero_le _, rfl, h1', b0⟩
    case round =>
      obtain ⟨k, hk, rfl, hbd, bb⟩ := hrel
      by_cases hlt : k < l.length
      · obtain ⟨b, off, rfl, hlw⟩ := (hl.below bb).form hlt
        have c0 := hlw k hlt
        have hz := fits_get hf k hlt
        have hfr := frames_bound _ (fits_take hf k)
        have hbl : (l.take k).length ≤ 1000 := by rw [List.length_take]; omega
        have sz := bb.size
        have hd := head_calls l[k] hz wr
        go_wp2_with fail
        refine hd.mono ?_
        rintro e w2 ⟨rfl, b2⟩
        have hbd2 := hbd.keep b2
        have z2 := b2.size
        generalize hH : leB (l[k].size + 1) 3 ++ leB (crc (leB (l[k].size + 1) 3 ++ bts l[k])) 4 = H
        have hHl : H.length = 7 := by rw [← hH, List.length_append, leB_length, leB_length]
        have sH : (strOf H).size = 7 := by rw [strOf_size]; exact hHl
        go_wp2_with fail
        refine (writeString_calls _ _ _ (strOf H) _ hbd2 (by omega) (by omega)).mono ?_
        rintro e w3 ⟨rfl, h3, k3⟩
        have z3 := k3.below.size
        have bb3 : Below w.heap.size w w3 := bb.trans ((b2.mono bb.size).trans k3.below)
        have c3 := (hl.below bb3).at_ k hlt
        go_wp2_with fail
        refine (writeString_calls _ _ _ l[k] _ h3 (by rw [bts_strOf, List.length_append]; omega) (by omega)).mono ?_
        rintro e w4 ⟨rfl, h4, k4⟩
        have e4 : frames (l.take k) ++ bts (strOf H) ++ bts l[k] = frames (l.take (k + 1)) := by
          rw [frames_take l k hlt, frm, bts_length, hH, bts_strOf, List.append_assoc]
        rw [e4] at h4
        have bb4 := bb3.trans k4.below
        go_wp2_with fail
        go_roundw
        case rel => exact ⟨k + 1, by omega, by go_num, h4, bb4⟩
        case measure => simp [intOf]; omega
      · obtain rfl : k = l.length := by omega
        rw [List.take_length] at hbd
        have sz := bb.size
        go_wp2_with fail
        refine (Tryd.Builder_String_any _ _ _ _ hbd sz).mono ?_
        rintro e w2 ⟨rfl, b2⟩
        go_wp2_with fail
        go_ret2
        exact ⟨rfl, bb.trans b2⟩
  · have e : packV l = .tuple #[.string ⟨#[]⟩, errNo 4] := if_neg hf
    rw [e]
    have m := measure_no a cap l w hl hn hf
    clear e hf
    go_enter Tryd.func14, Tryd.ntmps14
    go_wp2_with (go_at_call 22; refine m.mono ?_; rintro e w' ⟨rfl, rfl⟩)
    go_ret2
    exact ⟨rfl, Below.refl _ _⟩

/-! ### the document's -/
set_option maxRecDepth 100000 in
set_option maxHeartbeats 1000000 in
theorem frameR_calls (r : ByteArray) (hr : r.size ≤ 30000) (w : World) :
    Calls Tryd.prog 27 #[.string r] w fun e w' => e = .returned (.string (strOf (frm (bts r)))) ∧ Below w.heap.size w w' := by
  have hc := crc_lt (leB (r.size + 1) 3 ++ bts r)
  have z1 : (strOf (leB (r.size + 1) 3)).size ≤ 3 := by rw [strOf_size, leB_length]; exact Nat.le_refl _
  have z2 : (strOf (leB (crc (leB (r.size + 1) 3 ++ bts r)) 4)).size ≤ 4 := by rw [strOf_size, leB_length]; exact Nat.le_refl _
  have z3 : (strOf (leB (r.size + 1) 3) ++ strOf (leB (crc (leB (r.size + 1) 3 ++ bts r)) 4)).size ≤ 7 := by rw [strOf_append, strOf_size, List.length_append, leB_length, leB_length]; exact Nat.le_refl _
  have l1 : ∀ w : World, Calls Tryd.prog 35 #[.int .i64 ((r.size : Int) + 1), .int .i64 3] w fun e w' => e = .returned (.string (strOf (leB (r.size + 1) 3))) ∧ Below w.heap.size w w' := numberR_calls (r.size + 1) 3 (by omega) (by omega)
  have l2 : ∀ w : World, Calls Tryd.prog 35 #[iv (crc (leB (r.size + 1) 3 ++ bts r)), .int .i64 4] w fun e w' => e = .returned (.string (strOf (leB (crc (leB (r.size + 1) 3 ++ bts r)) 4))) ∧ Below w.heap.size w w' := numberR_calls (crc (leB (r.size + 1) 3 ++ bts r)) 4 hc (by omega)
  have es : strOf (leB (r.size + 1) 3) ++ r = strOf (leB (r.size + 1) 3 ++ bts r) := by
    rw [← strOf_append]; rfl
  have sz : (strOf (leB (r.size + 1) 3) ++ r).size ≤ 9223372036854775807 := by
    rw [es, strOf_size, List.length_append, leB_length, bts_length]; omega
  have sm := sumR_calls (strOf (leB (r.size + 1) 3) ++ r) sz
  rw [es, bts_strOf] at sm
  rw [← es] at sm
  have ef : strOf (leB (r.size + 1) 3) ++ strOf (leB (crc (leB (r.size + 1) 3 ++ bts r)) 4) ++ r = strOf (frm (bts r)) := by
    unfold frm
    rw [← strOf_append, ← strOf_append, bts_length, strOf_bts]
  have EF := Lib.hid ef
  clear ef es sz
  go_enter Tryd.func27, Tryd.ntmps27
  go_wp2_with fail
  refine (l1 _).mono ?_; rintro e w1 ⟨rfl, b1⟩
  go_wp2_with fail
  refine (sm _).mono ?_; rintro e w2 ⟨rfl, rfl⟩
  go_wp2_with fail
  refine (l2 _).mono ?_; rintro e w3 ⟨rfl, b3⟩
  go_wp2_with fail
  go_ret
  exact ⟨by rw [← EF.out]; rfl, below_then b1 b3⟩

def packRV (l : List ByteArray) : Value := if fits l then .tuple #[.string (strOf (frames l)), iv 0] else .tuple #[.string ⟨#[]⟩, iv 4]

set_option maxRecDepth 100000 in
set_option maxHeartbeats 1000000 in
theorem packR_calls (a : Option Addr) (cap : Nat) (l : List ByteArray) (w : World) (hl : StrsIn w a l) (hn : l.length ≤ 1000) :
    Calls Tryd.prog 15 #[.slice a l.length cap] w fun e w' => e = .returned (packRV l) ∧ Below w.heap.size w w' := by
  go_enter Tryd.func15, Tryd.ntmps15
  go_wp2
  go_loopw [4, 5] (fun s i wr => ∃ k : Nat, k ≤ l.length ∧ fits (l.take k) ∧ i = iv k ∧ s = .string (strOf (frames (l.take k))) ∧ Below w.heap.size w wr) (fun _ i _ => (l.length - intOf i).toNat)
  case atStart => exact ⟨0, Nat.zero_le _, fun s hs => by simp at hs, rfl, rfl, Below.refl _ _⟩
  case round =>
    obtain ⟨k, hk, hft, rfl, rfl, bb⟩ := hrel
    have hb := frames_bound _ hft
    have hbl : (l.take k).length ≤ 1000 := by rw [List.length_take]; omega
    have z1 : (strOf (frames (l.take k))).size ≤ 30007000 := by rw [strOf_size]; omega
    by_cases hlt : k < l.length
    · obtain ⟨b, off, rfl, hlw⟩ := (hl.below bb).form hlt
      have c0 := hlw k hlt
      by_cases hz : l[k].size ≤ 30000
      · have hd := frameR_calls l[k] hz wr
        have z2 : (strOf (frm (bts l[k]))).size ≤ 30007 := by rw [strOf_size, frm_length, bts_length]; omega
        have e4 : strOf (frames (l.take k)) ++ strOf (frm (bts l[k])) = strOf (frames (l.take (k + 1))) := by rw [strOf_append, frames_take l k hlt]
        have E4 := Lib.hid e4
        clear e4
        go_wp2_with fail
        refine hd.mono ?_; rintro e w1 ⟨rfl, b1⟩
        go_wp2_with fail
        go_roundw
        case rel => exact ⟨k + 1, by omega, fits_snoc hlt hft hz, by go_num, by rw [E4.out], below_then bb b1⟩
        case measure => simp [intOf]; omega
      · have e : packRV l = .tuple #[.string ⟨#[]⟩, iv 4] := if_neg (fits_not k hlt (by omega))
        have E := Lib.hid e
        clear e
        have hz' : 30000 < (l[k].size : Int) := by omega
        go_wp2
        go_ret2
        exact ⟨by rw [E.out]; rfl, bb⟩
    · obtain rfl : k = l.length := by omega
      rw [List.take_length] at hft
      have e : packRV l = .tuple #[.string (strOf (frames l)), iv 0] := if_pos hft
      have E := Lib.hid e
      clear e
      go_wp2
      go_ret2
      exact ⟨by rw [E.out]; simp, bb⟩
end Go.Proofs.YtmongcpaphifaaaDoor
