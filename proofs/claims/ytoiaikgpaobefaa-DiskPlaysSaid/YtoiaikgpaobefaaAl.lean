/- alive: the chapter's example. -/
import Derived.Test.YtoiaikgpaobefaaWr
import Derived.Test.YtoiaikgpaobefaaCr
import Derived.Test.YtoiaikgpaobefaaFl
import Derived.Test.YtoiaikgpaobefaaDi
import Derived.Test.YtoiaikgpaobefaaOf
import Derived.Outline
import Derived.Deep.RegionWith
namespace Go.Proofs.Ytoiaikgpaobefaa
open Go.RowKit Go.Extern.Stop Go.Stop Go.Extern Go.Maps

/-- x all over. -/
def xs : Sec := ofSec 120 120
theorem of_xs (w : World) : Calls Try.prog 26 #[bv 120, bv 120] w fun en w' => en = .returned (.slice (some ⟨w.heap.size, 0, none⟩) 256 256) ∧ w' = w.alloc (.cells (cellsOf xs) 5) := of_any 120 120 w
theorem noN_0 : noN 0 = 0 := rfl
theorem noN_9 : noN 9 = 9 := rfl

/-- The example's disk behind its Write. -/
def dm1 : DM := (DM.made 3).write 1 256 xs
theorem dm1_eq : dm1 = ⟨List.replicate 3 zeroSec, put (fun _ => none) 1 xs, -1, false⟩ := rfl
theorem dm1_writeN : (DM.made 3).writeN 1 256 = 0 := rfl
theorem dm1_dirty : dm1.dirty = [1] := rfl

/-- The example's disk behind the first crash, and behind the second one. -/
def dmA : DM := dm1.crash 1 2 []
def dmB : DM := dm1.crash 0 0 [1]
theorem dmA_now : dmA.now 1 = xs.take 2 ++ zeroSec.drop 2 := rfl
theorem dmB_now : dmB.now 1 = xs := by
  have e : dmB.now 1 = xs.take 256 ++ zeroSec.drop 256 := rfl
  have h : xs.length = 256 := ofSec_length _ _
  rw [e, List.take_of_length_le (by omega), List.drop_eq_nil_of_le (by rw [zeroSec_length]; exact Nat.le_refl _), List.append_nil]
theorem fits_0 : Fits 0 := ⟨by decide, by decide⟩
theorem fits_1 : Fits 1 := ⟨by decide, by decide⟩
/-- Noughts. -/
def zeros254 : List UInt8 := List.replicate 254 0
theorem xx_zeros : [120, 120] ++ zeros254 = xs.take 2 ++ zeroSec.drop 2 := rfl
theorem int1_range {w : World} {g : Nat} {t : TypeId} {x : Int} (h : w.heap[g]? = some (.cells #[.int .i64 x] t (0, 0))) : IntsIn w (some ⟨g, 0, none⟩) [x] :=
  .inr ⟨g, 0, rfl, fun j v hv => by rw [cell_of_row _ _ _ _ _ _ h, Nat.zero_add]; simpa using hv, (Array.getElem?_eq_some_iff.1 h).1⟩

set_option maxRecDepth 100000 in
set_option maxHeartbeats 8000000 in
theorem alive_any (w : World) : Calls Try.prog 12 #[] w fun e w' => e = .returned (.bool true) ∧ Below w.heap.size w w' := by
  go_enter Try.func12, Try.ntmps12
  go_wp2_with fail
  refine (new_any 3 (by decide) (by decide) _).mono ?_
  rintro e w1 ⟨b, L, M, rfl, d1, b1, g1, g2, g3⟩
  go_wp2_with fail
  refine (no_any _ _).mono ?_
  rw [noN_0]
  rintro e w' ⟨rfl, rfl⟩
  go_wp2_with fail
  refine (of_made 120 120 _).mono ?_
  rintro e w2 ⟨g, rfl, hg, b2, eg⟩
  have d2 := d1.below b2
  have hgb : g ≠ b := by have := d1.ltb; omega
  have Hg := Lib.hid eg
  clear eg
  have B2 := b1.trans (b2.mono b1.size)
  go_wp2_with fail
  refine (show Calls Try.prog 25 _ w2 (Wrote w2 b L M 1 0 dm1) from write_any d2 (by decide) 1 (some ⟨g, 0, none⟩) 256 256 xs (ofSec_length _ _) (fun _ => ⟨g, 0, rfl, hgb, range_of_bytes hg⟩)).mono ?_
  rintro e w3 ⟨rfl, d3, o3⟩
  have B3 := Below.then_only B2 o3 (B2.size) (by simpa using ⟨g1, g3⟩)
  go_wp2_with fail
  refine (no_any _ _).mono ?_
  rw [noN_0]
  rintro e w' ⟨rfl, rfl⟩
  go_wp2_with fail
  refine (dirty_any d3 (by decide)).mono ?_
  rw [dm1_dirty]
  rintro e w4 ⟨ka, ca, rfl, i4, b4⟩
  have d4 := d3.below b4
  have B4 := B3.trans (b4.mono B3.size)
  go_wp2_with fail
  have i5 : IntsIn (w4.alloc (.cells #[.int .i64 1] 3)) ka [1] := i4.keep ((Only.refl [] _).alloc _) (by simp)
  have j5 : IntsIn (w4.alloc (.cells #[.int .i64 1] 3)) (some ⟨w4.heap.size, 0, none⟩) [1] := int1_range (heap_alloc_last w4 _)
  refine (ints_any ka _ ca 1 [1] [1] i5 j5 (by decide) (by decide)).mono ?_
  rintro e w5 ⟨rfl, n5, hw5⟩
  have o5 : Only [] w4 w5 := by rw [hw5]; exact ((Only.refl _ _).alloc _).drewN _
  clear hw5 i5 j5 i4
  have d5 := d4.keep o5 (by simp) (by simp) (by simp)
  have B5 := Below.then_only B4 o5 B4.size (by simp)
  go_wp2_with fail
  refine (show Calls Try.prog 24 _ w5 (MadeDisk w5 dmA) from crash_any d5 1 2 fits_1 none 0 [] (.inl rfl) (by simp) (by decide)).mono ?_
  rintro e w6 ⟨bA, LA, MA, rfl, dA, b6, gA1, gA2, gA3⟩
  have d6 := d5.below b6
  have B6 := B5.trans (b6.mono B5.size)
  go_wp2_with fail
  refine (show Calls Try.prog 20 _ w6 (MadeSec w6 (xs.take 2 ++ zeroSec.drop 2)) from read_ok dA 1 rfl).mono ?_
  rintro e w7 ⟨gR, rfl, hR, b7, gR1⟩
  have d7 := d6.below b7
  have B7 := B6.trans (b7.mono B6.size)
  go_wp2_with fail
  have a8 : Only [] w7 (w7.alloc (.cells #[.int .i64 1] 3)) := (Only.refl _ _).alloc _
  have i8 : IntsIn (w7.alloc (.cells #[.int .i64 1] 3)) (some ⟨w7.heap.size, 0, none⟩) [1] := int1_range (heap_alloc_last w7 _)
  have d8 := d7.keep a8 (by simp) (by simp) (by simp)
  refine (show Calls Try.prog 24 _ _ (MadeDisk _ dmB) from crash_any d8 0 0 fits_0 (some ⟨w7.heap.size, 0, none⟩) 1 [1] i8 (by simpa using fits_1) (by decide)).mono ?_
  rintro e w9 ⟨bB, LB, MB, rfl, dB, b9, gB1, gB2, gB3⟩
  have o9 : Only [] w7 w9 := a8.trans (Below.only b9)
  have d9 := d7.keep o9 (by simp) (by simp) (by simp)
  have B9 := Below.then_only B7 o9 B7.size (by simp)
  go_wp2_with fail
  have hB := read_ok dB 1 rfl
  rw [dmB_now] at hB
  refine hB.mono ?_
  rintro e w10 ⟨gS, rfl, hS, b10, gS1⟩
  have d10 := d9.below b10
  have B10 := B9.trans (b10.mono B9.size)
  go_wp2_with fail
  refine (limit_any d10 0 fits_0).mono ?_
  rintro e w11 ⟨rfl, d11, o11⟩
  go_wp2_with fail
  have c11 : DCells w11 b L M 3 0 false := d11.cells
  have hR11 : w11.heap[gR]? = some (.cells (cellsOf (xs.take 2 ++ zeroSec.drop 2)) 79 (0, 0)) := by
    refine o11.keep ((Below.only (S := []) b10).keep (o9.keep hR (by simp)) (by simp)) ?_
    have h1 := d6.ltb
    simp; omega
  have hS11 : w11.heap[gS]? = some (.cells (cellsOf xs) 79 (0, 0)) := by
    refine o11.keep hS ?_
    have h1 := d9.ltb
    simp; omega
  have B11 := Below.then_only B10 o11 B10.size (by simpa using g1)
  have lR := (Array.getElem?_eq_some_iff.1 hR11).1
  have lS := (Array.getElem?_eq_some_iff.1 hS11).1
  have lb := d11.ltb
  have hlen1 : (xs.take 2 ++ zeroSec.drop 2).length = 256 := rfl
  have hlen2 : xs.length = 256 := ofSec_length _ _
  -- what the region's operations come to
  have k1 : ∀ o, (convert 47 9 (.slice (some ⟨gR, 0, none⟩) 256 256)).run Try.prog (w11.alloc o).drew = .ok (.string (strOf (xs.take 2 ++ zeroSec.drop 2))) (w11.alloc o).drew := fun o => conv_bytes 256 256 hlen1 ((heap_alloc_old _ _ lR).trans hR11)
  have k0 : (convert 47 9 (.slice (some ⟨gR, 0, none⟩) 256 256)).run Try.prog w11.drew = .ok (.string (strOf (xs.take 2 ++ zeroSec.drop 2))) w11.drew := conv_bytes 256 256 hlen1 hR11
  have m0 : ∀ wx, (Instr.makeSlice 47 (.int .i64 254) (.int .i64 254)).run Try.prog wx = .ok (.slice (some ⟨wx.heap.size, 0, none⟩) 254 254) (wx.alloc (.cells (cellsOf zeros254) 5)) := fun wx => mk_bytes_n 254 (by decide) wx
  have z0 : (convert 47 9 (.slice (some ⟨w11.heap.size, 0, none⟩) 254 254)).run Try.prog (w11.alloc (.cells (cellsOf zeros254) 5)).drew = .ok (.string (strOf zeros254)) (w11.alloc (.cells (cellsOf zeros254) 5)).drew := conv_bytes 254 254 rfl (heap_alloc_last w11 _)
  have hcat : (ByteArray.mk #[120, 120]) ++ strOf zeros254 = strOf (xs.take 2 ++ zeroSec.drop 2) := by rw [← xx_zeros]; exact ByteArray.mk_append_mk _ _
  have hsz : (strOf zeros254).size = 254 := rfl
  have s0 : (convert 47 9 (.slice (some ⟨gS, 0, none⟩) 256 256)).run Try.prog (w11.alloc (.cells (cellsOf zeros254) 5)).drew = .ok (.string (strOf xs)) (w11.alloc (.cells (cellsOf zeros254) 5)).drew := conv_bytes 256 256 hlen2 ((heap_alloc_old _ _ lS).trans hS11)
  have s1 : ∀ o, (convert 47 9 (.slice (some ⟨gS, 0, none⟩) 256 256)).run Try.prog ((w11.alloc (.cells (cellsOf zeros254) 5)).alloc o).drew = .ok (.string (strOf xs)) ((w11.alloc (.cells (cellsOf zeros254) 5)).alloc o).drew := fun o => conv_bytes 256 256 hlen2 ((heap_alloc_old _ _ (by simp; omega)).trans ((heap_alloc_old _ _ lS).trans hS11))
  have t0 : (convert 47 9 (.slice (some ⟨w11.heap.size + 1, 0, none⟩) 256 256)).run Try.prog ((w11.alloc (.cells (cellsOf zeros254) 5)).alloc (.cells (cellsOf xs) 5)).drew = .ok (.string (strOf xs)) ((w11.alloc (.cells (cellsOf zeros254) 5)).alloc (.cells (cellsOf xs) 5)).drew := by
    have hh := heap_alloc_last (w11.alloc (.cells (cellsOf zeros254) 5)) (.cells (cellsOf xs) 5)
    simp only [World.size_alloc] at hh
    exact conv_bytes 256 256 hlen2 hh
  have n0 := noN_0
  have n9 := noN_9
  have BE : Below w.heap.size w (((w11.setCell ⟨b, 3, none⟩ (.bool true)).alloc (.cells (cellsOf zeros254) 5)).alloc (.cells (cellsOf xs) 5)).drew :=
    (((B11.setCell (p := ⟨b, 3, none⟩) g1 _).alloc (by have := B11.size; simpa using this) _).alloc (by have := B11.size; simp; omega) _).drew
  generalize strOf (xs.take 2 ++ zeroSec.drop 2) = S1 at *
  generalize strOf zeros254 = Z1 at *
  generalize strOf xs = S2 at *
  go_region_with (first
    | (go_at_call 11; refine (no_any _ _).mono ?_; rintro e w' ⟨rfl, rfl⟩)
    | (go_at_call 26; refine (of_xs _).mono ?_; rintro e w' ⟨rfl, rfl⟩)
    | (go_at_call 23; refine (flush_power_cells (b := b) (L := L) (M := M) (n := 3) ?_ (by decide)).mono ?_; exact (c11.keep (((Only.refl [] w11).alloc _).alloc _) (by simp) : _); rintro e w' ⟨rfl, rfl⟩)
    | (go_at_call 15; refine (off_cells (b := b) (L := L) (M := M) (n := 3) (left := 0) (off := true) ?_ (by decide)).mono ?_; exact ((c11.set3 true).keep ((((Only.refl [] _).alloc _).alloc _).drew) (by simp)); rintro e w' ⟨rfl, rfl⟩))
  all_goals (go_wp2; go_ret)
  all_goals exact ⟨rfl, BE⟩

end Go.Proofs.Ytoiaikgpaobefaa
