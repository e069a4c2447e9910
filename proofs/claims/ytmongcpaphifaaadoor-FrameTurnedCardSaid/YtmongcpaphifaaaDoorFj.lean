/- The examples. -/
import Derived.Test.YtmongcpaphifaaaDoorFi
namespace Go.Proofs.YtmongcpaphifaaaDoor
open Go.RowKit
set_option linter.unusedVariables false
set_option linter.unusedSimpArgs false

theorem ex_frames : frames [⟨#[97]⟩] = [2, 0, 0, 89, 70, 248, 177, 97] := by decide +kernel
theorem ex_sum : crc (flat [⟨#[49, 50, 51, 52]⟩, ⟨#[53, 54, 55, 56, 57]⟩]) = 3421780262 := by decide +kernel
theorem ex_fits : fits [⟨#[97]⟩] := by decide +kernel
theorem not_whole_nil : ¬ Whole [] := fun ⟨r, t, _, h⟩ => by
  have := congrArg List.length h
  rw [List.length_append, frm_length, List.length_nil] at this; omega
theorem scan_frames (l : List ByteArray) (h : fits l) : IsScan (frames l) l [] := ⟨by simp, h, not_whole_nil⟩
theorem ex_pack : packV [⟨#[97]⟩] = .tuple #[.string ⟨#[2, 0, 0, 89, 70, 248, 177, 97]⟩, .nilIface] := by
  unfold packV; rw [if_pos ex_fits, ex_frames]; rfl
theorem ex_same : sameB [⟨#[97]⟩] [⟨#[97]⟩] = true := decide_eq_true rfl

set_option maxRecDepth 100000 in
set_option maxHeartbeats 1000000 in
theorem alive_calls (x : Addr) (w : World) (hx : Laid x w) :
    Calls Tryd.prog 10 #[] w fun e w' => e = .returned (.bool true) ∧ Below w.heap.size w w' := by
  have p1 := fun w : World => pack_calls (some ⟨w.heap.size, 0, none⟩) 1 [⟨#[97]⟩] (w.alloc (.cells #[.string ⟨#[97]⟩] 9)) (strs1 _ _ _) (by simp)
  rw [ex_pack] at p1
  have s1 := fun (w : World) (hx : Laid x w) => scan_calls x ⟨#[2, 0, 0, 89, 70, 248, 177, 97]⟩ (by decide) w hx
  have u1 := fun w : World => sum_any (some ⟨w.heap.size, 0, none⟩) 2 [⟨#[49, 50, 51, 52]⟩, ⟨#[53, 54, 55, 56, 57]⟩] (w.alloc (.cells #[.string ⟨#[49, 50, 51, 52]⟩, .string ⟨#[53, 54, 55, 56, 57]⟩] 9)) (strs2 _ _ _ _) ⟨by simp, fun s hs => by
    rcases List.mem_cons.1 hs with rfl | h
    · decide
    · rw [List.mem_singleton.1 h]; decide⟩
  rw [ex_sum] at u1
  go_enter Tryd.func10, Tryd.ntmps10
  go_wp2_with (refine wpList_bs_str1 rfl _ rfl rfl ?_)
  refine (p1 _).mono ?_; rintro e w1 ⟨rfl, b1⟩
  have x1 := (hx.alloc _).below b1
  go_wp2_with fail
  refine (s1 _ x1).mono ?_; rintro e w2 ⟨a, cap, l, rest, rfl, hsc, hin, b2, _⟩
  obtain ⟨rfl, rfl⟩ : l = [⟨#[97]⟩] ∧ rest = [] := scan_unique hsc (by have := scan_frames _ ex_fits; rw [ex_frames] at this; exact this)
  have el : ((frames [⟨#[97]⟩]).length : Int) = 8 := by rw [ex_frames]; rfl
  rw [el]
  clear el hsc
  go_wp2_with (refine wpList_bs_str2 rfl _ _ rfl rfl rfl ?_)
  refine (u1 _).mono ?_; rintro e w' ⟨rfl, rfl⟩
  have in2 := hin.below (below_alloc w2 (.cells #[.string ⟨#[49, 50, 51, 52]⟩, .string ⟨#[53, 54, 55, 56, 57]⟩] 9))
  go_wp2_with (first
    | (go_at_call 18; refine (no_nil _).mono ?_; rintro e w' ⟨rfl, rfl⟩)
    | (refine wpList_bs_str1 rfl _ rfl rfl ?_))
  have in3 := in2.below (below_alloc (w2.alloc (.cells #[.string ⟨#[49, 50, 51, 52]⟩, .string ⟨#[53, 54, 55, 56, 57]⟩] 9)) (.cells #[.string ⟨#[97]⟩] 9))
  have st : StrsIn ((w2.alloc (.cells #[.string ⟨#[49, 50, 51, 52]⟩, .string ⟨#[53, 54, 55, 56, 57]⟩] 9)).alloc (.cells #[.string ⟨#[97]⟩] 9)) (some ⟨w2.heap.size + 1, 0, none⟩) [⟨#[97]⟩] := by
    have := strs1 (w2.alloc (.cells #[.string ⟨#[49, 50, 51, 52]⟩, .string ⟨#[53, 54, 55, 56, 57]⟩] 9)) ⟨#[97]⟩ 9
    simpa using this
  refine (same_calls a (some ⟨w2.heap.size + 1, 0, none⟩) cap 1 [⟨#[97]⟩] [⟨#[97]⟩] _ in3 st (by simp) (by simp)).mono ?_
  rw [ex_same]
  rintro e w3 ⟨rfl, b3⟩
  go_wp2_with fail
  go_ret
  exact ⟨rfl, below_then (below_front b1) (below_then b2 (((below_alloc w2 _).alloc (by simp) _).trans (b3.mono (by simp; omega))))⟩
end Go.Proofs.YtmongcpaphifaaaDoor
