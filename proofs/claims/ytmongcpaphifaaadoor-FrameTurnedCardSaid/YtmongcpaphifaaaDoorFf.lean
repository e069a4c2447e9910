/- The frame with which a text begins, walked. -/
import Derived.Test.YtmongcpaphifaaaDoorFd
import Derived.Test.YtmongcpaphifaaaDoorFe
import Derived.Test.YtmongcpaphifaaaDoorFs
namespace Go.Proofs.YtmongcpaphifaaaDoor
open Go.RowKit
set_option linter.unusedVariables false
set_option linter.unusedSimpArgs false

/-- A text's cuts. -/
theorem cut_head (s : ByteArray) : bts (s.extract 0 3) = (bts s).take 3 := by rw [bts_extract]; simp
theorem cut_sum (s : ByteArray) : bts (s.extract 3 7) = ((bts s).drop 3).take 4 := by rw [bts_extract]
theorem cut_rest (s : ByteArray) : bts (s.extract 7 s.size) = (bts s).drop 7 := by
  rw [bts_extract, ← bts_length]
  exact List.take_of_length_le (by rw [List.length_drop]; exact Nat.le_refl _)
theorem size_extract (s : ByteArray) (a b : Nat) (h : b ≤ s.size) : (s.extract a b).size = b - a := by
  rw [← bts_length, bts_extract, List.length_take, List.length_drop, bts_length]; omega

set_option maxRecDepth 100000 in
set_option maxHeartbeats 2000000 in
theorem first_yes (s : ByteArray) (n : Nat) (h : Head (bts s) n) (hs : s.size ≤ 9223372036854775807) (w : World) :
    Calls Tryd.prog 28 #[.string s] w fun e w' => e = .returned (.tuple #[.string (strOf (((bts s).drop 7).take n)), .nilIface]) ∧ Below w.heap.size w w' := by
  obtain ⟨h7, hsz, hmost, hfit, hsum⟩ := h
  rw [bts_length] at h7 hfit
  have e1 := cut_head s
  have e2 := cut_sum s
  have e3 := cut_rest s
  have z1 := size_extract s 0 3 (by omega)
  have z2 := size_extract s 3 7 (by omega)
  have z3 := size_extract s 7 s.size (Nat.le_refl _)
  have n1 := number_calls (s.extract 0 3) (by omega)
  have n2 := number_calls (s.extract 3 7) (by omega)
  rw [e1, hsz] at n1
  rw [e2, hsum] at n2
  have er : (s.extract 7 s.size).extract 0 n = strOf (((bts s).drop 7).take n) := ba_ext (by rw [bts_extract, e3, bts_strOf]; simp)
  have z4 := size_extract (s.extract 7 s.size) 0 n (by omega)
  have ef : flat [s.extract 0 3, (s.extract 7 s.size).extract 0 n] = (bts s).take 3 ++ ((bts s).drop 7).take n := by simp [flat, e1, er, bts_strOf]
  have sm : Small [s.extract 0 3, (s.extract 7 s.size).extract 0 n] := ⟨by simp, fun t ht => by
    rcases List.mem_cons.1 ht with rfl | h
    · omega
    · rw [List.mem_singleton.1 h]; omega⟩
  have su := fun w : World => sum_any (some ⟨w.heap.size, 0, none⟩) 2 [s.extract 0 3, (s.extract 7 s.size).extract 0 n] (w.alloc (.cells #[.string (s.extract 0 3), .string ((s.extract 7 s.size).extract 0 n)] 9)) (strs2 _ _ _ _) sm
  rw [ef] at su
  have ER := Lib.hid er
  clear e1 e2 e3 er ef hsum hsz sm
  have z1' : (s.extract 0 3).size ≤ 3 := by omega
  have z3' : 7 + (s.extract 7 s.size).size ≤ s.size := by omega
  have z3'' : s.size ≤ 7 + (s.extract 7 s.size).size := by omega
  clear z1 z2 z3 z4
  go_enter Tryd.func28, Tryd.ntmps28
  go_wp2_with fail
  go_quiet (fail)
  go_wp2_with fail
  refine (n1 _).mono ?_; rintro e w' ⟨rfl, rfl⟩
  go_wp2_with (refine wpList_bs_str2 rfl _ _ rfl rfl rfl ?_)
  refine (su _).mono ?_; rintro e w' ⟨rfl, rfl⟩
  go_wp2_with fail
  refine (n2 _).mono ?_; rintro e w' ⟨rfl, rfl⟩
  go_wp2_with fail
  go_ret2
  exact ⟨by rw [← ER.out]; rfl, (below_draws (Below.refl _ w) nq).alloc (Nat.le_refl _) _⟩

/-- What a text that begins with no whole frame is refused with. -/
def Refused (w : World) (e : Ending) (w' : World) : Prop := ∃ t : ByteArray, e = .returned (.tuple #[.string ⟨#[]⟩, flawV t]) ∧ Below w.heap.size w w'

set_option maxRecDepth 100000 in
set_option maxHeartbeats 4000000 in
theorem first_no (s : ByteArray) (h : ¬ Whole (bts s)) (hs : s.size ≤ 9223372036854775807) (w : World) :
    Calls Tryd.prog 28 #[.string s] w (Refused w) := by
  by_cases h7 : 7 ≤ s.size
  · have e1 := cut_head s
    have e2 := cut_sum s
    have e3 := cut_rest s
    have z1 := size_extract s 0 3 (by omega)
    have z2 := size_extract s 3 7 (by omega)
    have z3 := size_extract s 7 s.size (Nat.le_refl _)
    have n1 := number_calls (s.extract 0 3) (by omega)
    have n2 := number_calls (s.extract 3 7) (by omega)
    rw [e1] at n1
    rw [e2] at n2
    have hb := rdB_lt ((bts s).take 3)
    have hb2 := rdB_lt (((bts s).drop 3).take 4)
    rw [show ((bts s).take 3).length = 3 by rw [List.length_take, bts_length]; omega, p24] at hb
    rw [show (((bts s).drop 3).take 4).length = 4 by rw [List.length_take, List.length_drop, bts_length]; omega, p32] at hb2
    generalize hN : rdB ((bts s).take 3) = N at *
    have z3' : 7 + (s.extract 7 s.size).size ≤ s.size := by omega
    have z3'' : s.size ≤ 7 + (s.extract 7 s.size).size := by omega
    by_cases hN0 : N = 0
    · subst hN0
      clear e1 e2 e3 z1 z2 z3 n2 hN h
      go_enter Tryd.func28, Tryd.ntmps28
      go_wp2_with fail
      go_quiet (fail)
      go_wp2_with fail
      refine (n1 _).mono ?_; rintro e w' ⟨rfl, rfl⟩
      go_wp2_with fail
      go_ret2
      exact ⟨_, rfl, below_draws (Below.refl _ w) nq⟩
    · obtain ⟨n, rfl⟩ : ∃ n, N = n + 1 := ⟨N - 1, by omega⟩
      by_cases hm : n ≤ 30000
      · by_cases hf : 7 + n ≤ s.size
        · have er : (s.extract 7 s.size).extract 0 n = strOf (((bts s).drop 7).take n) := ba_ext (by rw [bts_extract, e3, bts_strOf]; simp)
          have z4 := size_extract (s.extract 7 s.size) 0 n (by omega)
          have ef : flat [s.extract 0 3, (s.extract 7 s.size).extract 0 n] = (bts s).take 3 ++ ((bts s).drop 7).take n := by simp [flat, e1, er, bts_strOf]
          have sm : Small [s.extract 0 3, (s.extract 7 s.size).extract 0 n] := ⟨by simp, fun t ht => by
            rcases List.mem_cons.1 ht with rfl | h
            · omega
            · rw [List.mem_singleton.1 h]; omega⟩
          have su := fun w : World => sum_any (some ⟨w.heap.size, 0, none⟩) 2 [s.extract 0 3, (s.extract 7 s.size).extract 0 n] (w.alloc (.cells #[.string (s.extract 0 3), .string ((s.extract 7 s.size).extract 0 n)] 9)) (strs2 _ _ _ _) sm
          rw [ef] at su
          have hne : rdB (((bts s).drop 3).take 4) ≠ crc ((bts s).take 3 ++ ((bts s).drop 7).take n) := fun hc =>
            h (Head.whole (n := n) ⟨by rw [bts_length]; exact h7, hN, hm, by rw [bts_length]; exact hf, hc⟩)
          have hne' : ((crc ((bts s).take 3 ++ ((bts s).drop 7).take n) : Int) == (rdB (((bts s).drop 3).take 4) : Int)) = false := by simp; omega
          have hne2 : ((crc ((bts s).take 3 ++ ((bts s).drop 7).take n) : Int) != (rdB (((bts s).drop 3).take 4) : Int)) = true := by simp; omega
          clear e1 e2 e3 er ef sm hN h hne z1 z2 z3 z4
          go_enter Tryd.func28, Tryd.ntmps28
          go_wp2_with fail
          go_quiet (fail)
          go_wp2_with fail
          refine (n1 _).mono ?_; rintro e w' ⟨rfl, rfl⟩
          go_wp2_with (refine wpList_bs_str2 rfl _ _ rfl rfl rfl ?_)
          refine (su _).mono ?_; rintro e w' ⟨rfl, rfl⟩
          go_wp2_with fail
          refine (n2 _).mono ?_; rintro e w' ⟨rfl, rfl⟩
          go_wp2_with fail
          go_ret2
          exact ⟨_, rfl, (below_draws (Below.refl _ w) nq).alloc (Nat.le_refl _) _⟩
        · have hf' : (s.extract 7 s.size).size < n := by omega
          clear e1 e2 e3 z1 z2 z3 n2 hN h hf
          go_enter Tryd.func28, Tryd.ntmps28
          go_wp2_with fail
          go_quiet (fail)
          go_wp2_with fail
          refine (n1 _).mono ?_; rintro e w' ⟨rfl, rfl⟩
          go_wp2_with fail
          go_ret2
          exact ⟨_, rfl, below_draws (Below.refl _ w) nq⟩
      · have hm' : 30000 < n := by omega
        clear e1 e2 e3 z1 z2 z3 n2 hN h hm
        go_enter Tryd.func28, Tryd.ntmps28
        go_wp2_with fail
        go_quiet (fail)
        go_wp2_with fail
        refine (n1 _).mono ?_; rintro e w' ⟨rfl, rfl⟩
        go_wp2_with fail
        go_ret2
        exact ⟨_, rfl, below_draws (Below.refl _ w) nq⟩
  · have h7' : s.size < 7 := by omega
    go_enter Tryd.func28, Tryd.ntmps28
    go_wp2_with fail
    go_ret2
    exact ⟨_, rfl, Below.refl _ w⟩
end Go.Proofs.YtmongcpaphifaaaDoor
