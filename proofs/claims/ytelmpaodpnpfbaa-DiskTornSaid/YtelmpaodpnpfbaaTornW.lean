/- DiskTorn: the walk. -/
import Derived.Test.YtelmpaodpnpfbaaAl
import Derived.Test.YtelmpaodpnpfbaaRd0
namespace Go.Proofs.Ytelmpaodpnpfbaa
open Go.RowKit Go.Extern.Stop Go.Stop Go.Extern Go.Maps

/-- The disks of DiskTorn, one behind the other. -/
def tm1 (A : Sec) : DM := (DM.made 2).write 1 256 A
def tm2 (A : Sec) : DM := (tm1 A).flush
def tm3 (A B : Sec) : DM := (tm2 A).write 1 256 B
def tm4 (A B : Sec) (cut : Int) : DM := (tm3 A B).crash 1 cut []
theorem tm1_n : (DM.made 2).writeN 1 256 = 0 := rfl
theorem tm2_n (A : Sec) : (tm1 A).flushN = 0 := rfl
theorem tm3_n (A : Sec) : (tm2 A).writeN 1 256 = 0 := rfl
theorem tm4_n (A B : Sec) (cut : Int) : refN 1 (tm4 A B cut).lasts.length (tm4 A B cut).off 1 0 = 0 := rfl
theorem tm4_now (A B : Sec) (cut : Int) : (tm4 A B cut).now 1 = B.take (clampN cut) ++ A.drop (clampN cut) := rfl

theorem ofSec_same (u : UInt8) : ofSec u u = List.replicate 256 u := by
  unfold ofSec; rw [← List.replicate_succ']
theorem torn_get (was now : UInt8) (cut : Int) (k : Nat) (hk : k < 256) : (cellsOf ((ofSec now now).take (clampN cut) ++ (ofSec was was).drop (clampN cut)))[k]? = some (if (k : Int) < cut then bv now else bv was) := by
  have hc := clampN_le cut
  have hkc : k < clampN cut ↔ (k : Int) < cut := by unfold clampN; repeat' split
                                                    all_goals omega
  rw [cellsOf_get, ofSec_same, ofSec_same, List.take_replicate, List.drop_replicate, List.getElem?_append, List.length_replicate]
  have e : min (clampN cut) 256 = clampN cut := by omega
  rw [e]
  by_cases h : k < clampN cut
  · rw [if_pos h, if_pos (hkc.1 h), List.getElem?_replicate, if_pos h]; rfl
  · rw [if_neg h, if_neg (fun x => h (hkc.2 x)), List.getElem?_replicate, if_pos (by omega)]; rfl

set_option maxRecDepth 100000 in
set_option maxHeartbeats 2000000 in
theorem diskTorn_calls (was now : UInt8) (cut : Int) (w : World) :
    Calls Try.prog 6 #[bv was, bv now, .int .i64 cut] w fun e w' => e = .returned (.bool true) ∧ Below w.heap.size w w' := by
  have n0 := noN_0
  show Calls Try.prog 6 #[.int .u8 (was.toNat : Int), .int .u8 (now.toNat : Int), .int .i64 cut] w _
  go_enter Try.func6, Try.ntmps6
  go_wp2_with fail
  refine (new_any 2 (by decide) (by decide) _).mono ?_
  rintro e w1 ⟨b, L, M, rfl, d1, b1, g1, g2, g3⟩
  go_wp2_with fail
  refine (no_any _ _).mono ?_
  rintro e w' ⟨rfl, rfl⟩
  go_wp2_with fail
  refine (of_made was was _).mono ?_
  rintro e w2 ⟨g, rfl, hg, b2, eg⟩
  have d2 := d1.below b2
  have hgb : g ≠ b := by have := d1.ltb; omega
  clear eg
  have B2 := b1.trans (b2.mono b1.size)
  go_wp2_with fail
  refine (show Calls Try.prog 25 _ w2 (Wrote w2 b L M 1 0 (tm1 (ofSec was was))) from write_any d2 (by decide) 1 (some ⟨g, 0, none⟩) 256 256 _ (ofSec_length _ _) (fun _ => ⟨g, 0, rfl, hgb, range_of_bytes hg⟩)).mono ?_
  rintro e w3 ⟨rfl, d3, o3⟩
  have B3 := Below.then_only B2 o3 B2.size (by simpa using ⟨g1, g3⟩)
  go_wp2_with fail
  refine (no_any _ _).mono ?_
  rintro e w' ⟨rfl, rfl⟩
  go_wp2_with fail
  refine (show Calls Try.prog 23 _ w3 (Flushed w3 b L M 1 0 (tm2 (ofSec was was))) from flush_any d3).mono ?_
  rintro e w4 ⟨rfl, d4, o4⟩
  have B4 := Below.then_only B3 o4 B3.size (by simpa using ⟨g1, g2, g3⟩)
  go_wp2_with fail
  refine (no_any _ _).mono ?_
  rintro e w' ⟨rfl, rfl⟩
  go_wp2_with fail
  refine (of_made now now _).mono ?_
  rintro e w5 ⟨g5, rfl, hg5, b5, eg5⟩
  have d5 := d4.below b5
  have hgb5 : g5 ≠ b := by have := d4.ltb; omega
  clear eg5
  have B5 := B4.trans (b5.mono B4.size)
  go_wp2_with fail
  refine (show Calls Try.prog 25 _ w5 (Wrote w5 b L M 2 0 (tm3 (ofSec was was) (ofSec now now))) from write_any d5 (by decide) 1 (some ⟨g5, 0, none⟩) 256 256 _ (ofSec_length _ _) (fun _ => ⟨g5, 0, rfl, hgb5, range_of_bytes hg5⟩)).mono ?_
  rintro e w6 ⟨rfl, d6, o6⟩
  have B6 := Below.then_only B5 o6 B5.size (by simpa using ⟨g1, g3⟩)
  go_wp2_with fail
  refine (no_any _ _).mono ?_
  rintro e w' ⟨rfl, rfl⟩
  go_wp2_with fail
  refine (show Calls Try.prog 24 _ w6 (MadeDisk w6 (tm4 (ofSec was was) (ofSec now now) cut)) from crash_any d6 1 cut fits_1 none 0 [] (.inl rfl) (by simp) (by decide)).mono ?_
  rintro e w7 ⟨bA, LA, MA, rfl, dA, b7, gA1, gA2, gA3⟩
  have B7 := B6.trans (b7.mono B6.size)
  go_wp2_with fail
  have hB := read_ok dA 1 (tm4_n _ _ _)
  rw [tm4_now] at hB
  refine hB.mono ?_
  rintro e w8 ⟨gR, rfl, hR, b8, gR1⟩
  have B8 := B7.trans (b8.mono B7.size)
  go_wp2_with fail
  refine (no_any _ _).mono ?_
  rintro e w' ⟨rfl, rfl⟩
  have hcell : ∀ k : Nat, k < 256 → w8.cell? ⟨gR, k, none⟩ = some (if (k : Int) < cut then .int .u8 (now.toNat : Int) else .int .u8 (was.toNat : Int)) := fun k hk => by
    rw [cell_of_row w8 gR k _ _ _ hR]; exact torn_get was now cut k hk
  have HC := Lib.hid hcell
  clear hcell
  go_wp2
  go_loop [60] (fun i => ∃ k : Nat, k ≤ 256 ∧ i = .int .i64 k) (fun i => 256 - (intOf i).toNat)
  case atStart => exact ⟨0, Nat.zero_le _, rfl⟩
  case round =>
    obtain ⟨k, hk, rfl⟩ := hrel
    by_cases hlt : k < 256
    · have hc := HC.out k hlt
      by_cases hcut : (k : Int) < cut
      · rw [if_pos hcut] at hc
        have e1 : decide ((k : Int) < cut) = true := by simpa using hcut
        have e2 : decide (cut ≤ (k : Int)) = false := by simpa using hcut
        clear hcut
        go_wp2
        go_round
        case rel => exact ⟨k + 1, by omega, by go_num⟩
        case measure => simp [intOf]; omega
      · rw [if_neg hcut] at hc
        have e1 : decide ((k : Int) < cut) = false := by simpa using hcut
        have e2 : decide (cut ≤ (k : Int)) = true := by simpa using hcut
        clear hcut
        go_wp2
        go_round
        case rel => exact ⟨k + 1, by omega, by go_num⟩
        case measure => simp [intOf]; omega
    · go_wp2_with (go_at_call 12; refine (alive_any _).mono ?_; rintro e w9 ⟨rfl, hb⟩)
      go_ret
      exact ⟨rfl, B8.trans (hb.mono B8.size)⟩

theorem diskTorn_walk (a0 : Int) (w0 : (Lit.int .u8 a0).wf = true) (a1 : Int) (w1 : (Lit.int .u8 a1).wf = true) (a2 : Int) (_w2 : (Lit.int .i64 a2).wf = true) (w : World) :
    Calls Try.prog 6 #[.int .u8 a0, .int .u8 a1, .int .i64 a2] w fun e w' => e = .returned (.bool true) ∧ Below w.heap.size w w' := by
  obtain ⟨u, rfl⟩ := byte_of_wf w0
  obtain ⟨v, rfl⟩ := byte_of_wf w1
  exact diskTorn_calls u v a2 w

end Go.Proofs.Ytelmpaodpnpfbaa
