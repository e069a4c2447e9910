/- A text's first line, and what is behind it. -/
import Derived.Test.YtddjfeofmihgdaaDoorUa
import Derived.Test.YtddjfeofmihgdaaDoorPast
namespace Go.Proofs.YtddjfeofmihgdaaDoor
open Go.RowKit
set_option linter.unusedVariables false
set_option linter.unusedSimpArgs false

/-- A text's first line (a CR ahead of its LF is none of it), and what is behind it. -/
def cutL (s : List UInt8) : List UInt8 × List UInt8 :=
  ((if (Lib.cut s [10]).2.2 then Lib.trimSuffix (Lib.cut s [10]).1 [13] else (Lib.cut s [10]).1), (Lib.cut s [10]).2.1)

theorem lib_cut_le (s : List UInt8) : (Lib.cut s [10]).1.length ≤ s.length := by
  unfold Lib.cut
  split
  · simp only [List.length_take]; omega
  · simp

theorem strings_Cut_b (s : ByteArray) (m : Int) (w : World) (hs : s.size < 4294967281) (hm : w.cell? ⟨4, 0, none⟩ = some (.int .i64 m)) :
    Calls Tryd.prog 44 #[.string s, .string ⟨#[10]⟩] w fun e w' => e = .returned (.tuple #[.string ⟨(Lib.cut (bts s) [10]).1.toArray⟩, .string ⟨(Lib.cut (bts s) [10]).2.1.toArray⟩, .bool (Lib.cut (bts s) [10]).2.2]) ∧ Below w.heap.size w w' :=
  (Tryd.strings_Cut s ⟨#[10]⟩ m w hs hm).mono fun e w' ⟨he, n, hn⟩ => ⟨he, by
    subst hn; exact ⟨(Below.refl w.heap.size w).os, (Below.refl w.heap.size w).tape, (Below.refl w.heap.size w).output, (Below.refl w.heap.size w).size, (Below.refl w.heap.size w).block⟩⟩
theorem strings_Trim_b (s : ByteArray) (w : World) (hs : s.size ≤ 9223372036854775807) :
    Calls Tryd.prog 45 #[.string s, .string ⟨#[13]⟩] w fun e w' => e = .returned (.string ⟨(Lib.trimSuffix (bts s) [13]).toArray⟩) ∧ w = w' :=
  (Tryd.strings_TrimSuffix s ⟨#[13]⟩ w hs).mono fun e w' ⟨he, h⟩ => ⟨he, h.symm⟩

set_option maxRecDepth 100000 in
theorem cut_end (x : Addr) (w : World) (hx : Laid x w) :
    Calls Tryd.prog 28 #[.string ⟨#[]⟩] w fun e w' => e = .returned (.tuple #[.string ⟨#[]⟩, .string ⟨#[]⟩, errP x]) ∧ Below w.heap.size w w' := by
  have lx := hx
  unfold Laid at lx
  have lk : ∀ k : Past w, k.to.cell? ⟨0, 0, none⟩ = some (errP x) := fun k => Past.cell lx k
  clear hx
  go_enter Tryd.func28, Tryd.ntmps28
  go_wp2_with fail
  (refine region_past (by kernel_rfl) (by kernel_rfl) ?_; (repeat (first | go_big_quiet_skip | (go_big_quiet_want; go_big_quiet_op; first | go_big_quiet_on | (apply Exists.intro; refine ⟨fun k => ?_, ?_⟩; (focus (first | fail)); go_big_quiet_on)))); refine wpQuiet_nil ?_; intro k)
  go_wp2_with fail
  go_ret3
  exact ⟨rfl, k.below⟩

set_option maxRecDepth 100000 in
set_option maxHeartbeats 1000000 in
theorem cut_calls (s : ByteArray) (m : Int) (w : World) (h0 : 0 < s.size) (hs : s.size < 4294967281) (hm : w.cell? ⟨4, 0, none⟩ = some (.int .i64 m)) :
    Calls Tryd.prog 28 #[.string s] w fun e w' => e = .returned (.tuple #[.string ⟨(cutL (bts s)).1.toArray⟩, .string ⟨(cutL (bts s)).2.toArray⟩, .nilIface]) ∧ Below w.heap.size w w' := by
  have en := isEmpty_no (s := s) (by intro e; have := congrArg List.length e; rw [bts_length, List.length_nil] at this; exact absurd this (Nat.pos_iff_ne_zero.1 h0))
  have hl : (⟨(Lib.cut (bts s) [10]).1.toArray⟩ : ByteArray).size ≤ 9223372036854775807 := by
    have h1 := lib_cut_le (bts s)
    have h2 : (⟨(Lib.cut (bts s) [10]).1.toArray⟩ : ByteArray).size = (Lib.cut (bts s) [10]).1.length := by
      show (Lib.cut (bts s) [10]).1.toArray.size = _
      exact List.size_toArray ..
    rw [bts_length] at h1
    omega
  have HC := Lib.hid (strings_Cut_b s m w hs hm)
  have HT := Lib.hid (fun w' => strings_Trim_b ⟨(Lib.cut (bts s) [10]).1.toArray⟩ w' hl)
  have HL : Hid (cutL (bts s) = ((if (Lib.cut (bts s) [10]).2.2 then Lib.trimSuffix (Lib.cut (bts s) [10]).1 [13] else (Lib.cut (bts s) [10]).1), (Lib.cut (bts s) [10]).2.1)) := Lib.hid rfl
  clear hl
  generalize Lib.cut (bts s) [10] = q at *
  obtain ⟨l, r, b⟩ := q
  rcases b with _ | _
  · go_enter Tryd.func28, Tryd.ntmps28
    go_wp2_with fail
    refine (HC.out).mono ?_; rintro e w1 ⟨rfl, b1⟩
    go_wp2_with fail
    go_ret3
    exact ⟨by rw [HL.out]; rfl, b1⟩
  · go_enter Tryd.func28, Tryd.ntmps28
    go_wp2_with fail
    refine (HC.out).mono ?_; rintro e w1 ⟨rfl, b1⟩
    go_wp2_with fail
    refine (HT.out _).mono ?_; rintro e w2 ⟨rfl, rfl⟩
    go_wp2_with fail
    go_ret3
    exact ⟨by rw [HL.out]; rfl, b1⟩
end Go.Proofs.YtddjfeofmihgdaaDoor
