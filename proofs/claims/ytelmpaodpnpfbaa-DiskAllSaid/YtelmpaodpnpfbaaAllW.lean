/- DiskAll: the walk. -/
import Derived.Test.YtelmpaodpnpfbaaAl
import Derived.Test.YtelmpaodpnpfbaaPl
import Derived.Test.YtelmpaodpnpfbaaCm
import Derived.Test.YtelmpaodpnpfbaaRd0
namespace Go.Proofs.Ytelmpaodpnpfbaa
open Go.RowKit Go.Extern.Stop Go.Stop Go.Extern Go.Maps

set_option maxRecDepth 100000 in
set_option maxHeartbeats 2000000 in
theorem diskAll_calls (n : Int) {ka : Option Addr} {ms : List AM} (cap : Nat) (w : World) (h : ActsIn w ka ms) :
    Calls Try.prog 5 #[.int .i64 n, .slice ka ms.length cap] w fun e w' => e = .returned (.bool true) ∧ Below w.heap.size w w' := by
  have n0 := noN_0
  have n9 := noN_9
  go_enter Try.func5, Try.ntmps5
  go_wp2_with fail
  refine (play_any n cap h).mono ?_
  rintro e w1 ⟨B1, rfl | ⟨b, L, M, m, rfl, d1, hlen, g1, g2, g3⟩⟩
  · go_wp2_with (go_at_call 12; refine (alive_any _).mono ?_; rintro e w9 ⟨rfl, hb⟩)
    go_ret
    exact ⟨rfl, B1.trans (hb.mono B1.size)⟩
  go_wp2_with fail
  refine (dirty_any d1 (by decide)).mono ?_
  rintro e w2 ⟨kd, cd, rfl, i2, b2⟩
  have d2 := d1.below b2
  have B2 := B1.trans (b2.mono B1.size)
  have hdl := dirty_length m
  have hfew := d1.ok.few
  have hfit : ∀ k ∈ m.dirty, Fits k := fun k hk => by
    obtain ⟨s, hs⟩ := Option.isSome_iff_exists.1 ((mem_dirty d1.ok k).1 hk)
    have := d1.ok.keys k s hs
    exact ⟨by omega, by omega⟩
  have hm := d1.ok
  clear d1 b2 B1 g1 g2 g3
  go_wp2_with fail
  refine (crash_any d2 (-1) 0 ⟨by decide, by decide⟩ kd cd m.dirty i2 hfit (by omega)).mono ?_
  rintro e w3 ⟨bo, Lo, Mo, rfl, x3, b3, go1, go2, go3⟩
  have d3 := d2.below b3
  have B3 := B2.trans (b3.mono B2.size)
  clear d2 b3 B2 hdl hfew hfit i2 go1 go2 go3
  go_wp2_with fail
  refine (dirty_any x3 (by decide)).mono ?_
  rw [crash_dirty]
  rintro e w4 ⟨ko, co, rfl, _, b4⟩
  have d4 := d3.below b4
  have x4 := x3.below b4
  have B4 := B3.trans (b4.mono B3.size)
  clear d3 x3 b4 B3
  go_wp2_with (go_at_call 15; refine (show Calls Try.prog 15 _ w4 (fun e w' => e = .returned (.bool false) ∧ w4 = w') from off_cells x4.cells x4.ok.pos).mono ?_; rintro e w' ⟨rfl, rfl⟩)
  subst hlen
  have HM := Lib.hid hm
  clear hm
  go_loopw [7] (fun i wr => ∃ k : Nat, k ≤ 30 ∧ k ≤ m.lasts.length ∧ i = .int .i64 k ∧ Below w4.heap.size w4 wr) (fun i _ => 30 - (intOf i).toNat)
  case atStart => exact ⟨0, by omega, Nat.zero_le _, rfl, Below.refl _ _⟩
  case round =>
    obtain ⟨k, h30, hk, rfl, hb⟩ := hrel
    by_cases hlt : k < m.lasts.length
    · by_cases hl30 : k < 30
      · have hlt' : (k : Int) < (m.lasts.length : Int) := by omega
        have hl30' : (k : Int) < 30 := by omega
        have B5 := B4.trans (hb.mono B4.size)
        have d5 := d4.below hb
        have x5 := x4.below hb
        have hro := read_crashed HM.out (-1) 0 m.dirty hlt
        have hnow := crash_all_now HM.out k hlt
        have hlen := now_length HM.out k hlt
        have HL := Lib.hid hlt
        have HL3 := Lib.hid hl30
        have Hb := Lib.hid hb
        clear hlt hl30 hb
        cases hoff : m.off
        · have hrd : refN 1 m.lasts.length m.off k 0 = 0 := by rw [read_n HL.out, hoff]; rfl
          have Hnow := Lib.hid hnow
          clear hnow
          go_wp2_with fail
          refine (read_ok d5 k hrd).mono ?_
          rintro e w6 ⟨ga, rfl, ha, b6, ga1⟩
          have d6 := d5.below b6
          have x6 := x5.below b6
          have B6 := B5.trans (b6.mono B5.size)
          have Ha := Lib.hid ha
          clear d5 x5 B5 ha
          go_wp2_with fail
          refine (read_ok x6 k hro).mono ?_
          rw [Hnow.out]
          rintro e w7 ⟨gb, rfl, hb, b7, gb1⟩
          have B7 := B6.trans (b7.mono B6.size)
          have hb7 : Below w4.heap.size w4 w7 := Hb.out.trans ((b6.mono Hb.out.size).trans (b7.mono (Nat.le_trans Hb.out.size b6.size)))
          have lta := (Array.getElem?_eq_some_iff.1 Ha.out).1
          have kA := conv_bytes 256 256 hlen ((b7.block ga lta).trans Ha.out)
          have kB := conv_bytes 256 256 hlen hb
          have Hb7 := Lib.hid hb7
          clear d6 x6 B6 b6 b7 lta hb hb7 ga1 gb1
          generalize strOf (m.now k) = S at kA kB
          go_wp2_with (first
            | (go_at_call 11; refine (no_any _ _).mono ?_; rintro e w' ⟨rfl, rfl⟩))
          go_roundw
          case rel => exact ⟨k + 1, by have := HL3.out; omega, by have := HL.out; omega, by go_num, Hb7.out⟩
          case measure => simp [intOf]; omega
        · have hrd : refN 1 m.lasts.length m.off k 0 = 9 := by rw [read_n HL.out, hoff]; rfl
          have hrr := read_refused d5 k (by rw [hrd]; decide)
          rw [hrd] at hrr
          have Hnow := Lib.hid hnow
          clear hnow
          go_wp2_with fail
          refine hrr.mono ?_
          rintro e w6 ⟨rfl, rfl⟩
          clear hrr
          go_wp2_with fail
          refine (read_ok x5 k hro).mono ?_
          rw [Hnow.out]
          rintro e w7 ⟨gb, rfl, hb, b7, gb1⟩
          have hb7 : Below w4.heap.size w4 w7 := Hb.out.trans (b7.mono Hb.out.size)
          have d7 := d5.below b7
          have Hb7 := Lib.hid hb7
          clear d5 x5 B5 b7 hb hb7 gb1
          go_wp2_with (first
            | (go_at_call 11; refine (no_any _ _).mono ?_; rintro e w' ⟨rfl, rfl⟩)
            | (go_at_call 15; refine (off_cells d7.cells d7.ok.pos).mono ?_; rw [hoff]; rintro e w' ⟨rfl, rfl⟩))
          go_roundw
          case rel => exact ⟨k + 1, by have := HL3.out; omega, by have := HL.out; omega, by go_num, Hb7.out⟩
          case measure => simp [intOf]; omega
      · go_wp2_with (go_at_call 12; refine (alive_any _).mono ?_; rintro e w9 ⟨rfl, hb9⟩)
        go_ret
        exact ⟨rfl, (B4.trans (hb.mono B4.size)).trans (hb9.mono (B4.trans (hb.mono B4.size)).size)⟩
    · go_wp2_with (go_at_call 12; refine (alive_any _).mono ?_; rintro e w9 ⟨rfl, hb9⟩)
      go_ret
      exact ⟨rfl, (B4.trans (hb.mono B4.size)).trans (hb9.mono (B4.trans (hb.mono B4.size)).size)⟩

theorem diskAll_walk {W : World} (a0 : Int) (_w0 : (Lit.int .i64 a0).wf = true) (a1 : Option Addr) (c1 : Nat) (ms1 : List AM) (w1 : ActsIn W a1 ms1) :
    Calls Try.prog 5 #[.int .i64 a0, .slice a1 ms1.length c1] W fun e w' => e = .returned (.bool true) ∧ Below W.heap.size W w' :=
  diskAll_calls a0 c1 W w1

end Go.Proofs.Ytelmpaodpnpfbaa
