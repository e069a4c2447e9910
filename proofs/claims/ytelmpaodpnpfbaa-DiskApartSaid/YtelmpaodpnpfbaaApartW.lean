/- DiskApart: the walk. -/
import Derived.Test.YtelmpaodpnpfbaaAl
import Derived.Test.YtelmpaodpnpfbaaPl
import Derived.Test.YtelmpaodpnpfbaaRd0
namespace Go.Proofs.Ytelmpaodpnpfbaa
open Go.RowKit Go.Extern.Stop Go.Stop Go.Extern Go.Maps

/-- A row of n cells that may be written. -/
def RowIn (w : World) (g n : Nat) : Prop := ∃ (c : Array Value) (t : TypeId), w.heap[g]? = some (.cells c t (0, 0)) ∧ c.size = n
theorem RowIn.cell {w : World} {g n k : Nat} (h : RowIn w g n) (hk : k < n) : ∃ v, w.cell? ⟨g, k, none⟩ = some v := by
  obtain ⟨c, t, h1, h2⟩ := h
  exact ⟨c[k], by rw [cell_of_row w g k _ _ _ h1]; simp [h2, hk]⟩
theorem RowIn.frozen {w : World} {g n : Nat} (h : RowIn w g n) (k : Nat) : w.frozen? ⟨g, k, none⟩ = false := by
  obtain ⟨c, t, h1, h2⟩ := h
  simp [World.frozen?, h1]
theorem RowIn.lt {w : World} {g n : Nat} (h : RowIn w g n) : g < w.heap.size := by
  obtain ⟨c, t, h1, h2⟩ := h
  exact (Array.getElem?_eq_some_iff.1 h1).1
theorem RowIn.set {w : World} {g n : Nat} (h : RowIn w g n) (k : Nat) (v : Value) : RowIn (w.setCell ⟨g, k, none⟩ v) g n := by
  obtain ⟨c, t, h1, h2⟩ := h
  exact ⟨c.setIfInBounds k v, t, by simp [World.setCell, Array.getElem?_modify, h1], by simpa using h2⟩

theorem crash_off (m : DM) (x y : Int) (ks : List Int) : (m.crash x y ks).off = false := rfl
theorem crash_len {m : DM} (hm : m.ok) (x y : Int) (ks : List Int) : (m.crash x y ks).lasts.length = m.lasts.length :=
  (laidAll_sec hm ks _ (layOne_length _ _ _ _) (layOne_sec hm hm.sec rfl _ _ (clampN_le _))).1
theorem read0_on {m : DM} (hm : m.ok) (hoff : m.off = false) : refN 1 m.lasts.length m.off 0 0 = 0 := by
  have := hm.pos
  unfold refN
  rw [if_neg (by omega), if_neg (by omega), hoff]; rfl

set_option maxRecDepth 100000 in
set_option maxHeartbeats 2000000 in
theorem diskApart_calls (n : Int) {ka : Option Addr} {ms : List AM} (cap : Nat) (a b : UInt8) (w : World) (h : ActsIn w ka ms) :
    Calls Try.prog 7 #[.int .i64 n, .slice ka ms.length cap, .int .u8 (a.toNat : Int), .int .u8 (b.toNat : Int)] w fun e w' => e = .returned (.bool true) ∧ Below w.heap.size w w' := by
  have n0 := noN_0
  go_enter Try.func7, Try.ntmps7
  go_wp2_with fail
  refine (play_any n cap h).mono ?_
  rintro e w1 ⟨B1, rfl | ⟨bd, Ld, Md, m, rfl, d1, hlen, g1, g2, g3⟩⟩
  · go_wp2_with (go_at_call 12; refine (alive_any _).mono ?_; rintro e w9 ⟨rfl, hb⟩)
    go_ret
    exact ⟨rfl, B1.trans (hb.mono B1.size)⟩
  go_wp2_with fail
  refine (show Calls Try.prog 24 _ w1 (MadeDisk w1 (m.crash 0 9 [])) from crash_any d1 0 9 fits_0 none 0 [] (.inl rfl) (by simp) (by decide)).mono ?_
  rintro e w2 ⟨bx, Lx, Mx, rfl, x2, b2, gx1, gx2, gx3⟩
  have d2 := d1.below b2
  have B2 := B1.trans (b2.mono B1.size)
  go_wp2_with fail
  refine (show Calls Try.prog 24 _ w2 (MadeDisk w2 (m.crash 0 9 [])) from crash_any d2 0 9 fits_0 none 0 [] (.inl rfl) (by simp) (by decide)).mono ?_
  rintro e w3 ⟨bY, Ly, My, rfl, y3, b3, gy1, gy2, gy3⟩
  have d3 := d2.below b3
  have x3 := x2.below b3
  have B3 := B2.trans (b3.mono B2.size)
  have F := Lib.hid (And.intro (And.intro d1.ltb (And.intro d1.ltL d1.ltM)) (And.intro (And.intro x2.ltb (And.intro x2.ltL x2.ltM)) (And.intro y3.ltb (And.intro y3.ltL y3.ltM))))
  have G := Lib.hid (And.intro (And.intro g1 g3) (And.intro (And.intro gx1 (And.intro gx2 gx3)) (And.intro gy1 (And.intro gy2 gy3))))
  have Z := Lib.hid (And.intro B1.size (And.intro b2.size b3.size))
  clear d1 d2 x2 b2 b3 B1 B2 g1 g2 g3 gx1 gx2 gx3 gy1 gy2 gy3
  have hy0 := read0_on y3.ok rfl
  go_wp2_with fail
  refine (read_ok y3 0 hy0).mono ?_
  rintro e w4 ⟨gW, rfl, hW, b4, gW1⟩
  have d4 := d3.below b4
  have x4 := x3.below b4
  have y4 := y3.below b4
  have B4 := B3.trans (b4.mono B3.size)
  have Z4 := Lib.hid (And.intro b4.size gW1)
  have ltW := Lib.hid (Array.getElem?_eq_some_iff.1 hW).1
  clear d3 x3 y3 b4 B3 gW1
  generalize hcw : (m.crash 0 9 []).now 0 = cw at hW
  have HW := Lib.hid hW
  clear hW
  go_wp2_with fail
  refine (of_made a b _).mono ?_
  rintro e w5 ⟨g5, rfl, hg5, b5, eg5⟩
  have d5 := d4.below b5
  have x5 := x4.below b5
  have y5 := y4.below b5
  have B5 := B4.trans (b5.mono B4.size)
  have hg5b : g5 ≠ bx := by have := x4.ltb; omega
  have HW5 := Lib.hid ((b5.block gW ltW.out).trans HW.out)
  have Z5 := Lib.hid b5.size
  clear d4 x4 y4 b5 B4 eg5 HW
  go_wp2_with fail
  refine (write_any x5 (by decide) 0 (some ⟨g5, 0, none⟩) 256 256 _ (ofSec_length _ _) (fun _ => ⟨g5, 0, rfl, hg5b, range_of_bytes hg5⟩)).mono ?_
  rintro e w6 ⟨rfl, x6, o6⟩
  have d6 := d5.keep o6 (by have := F.out; have := G.out; simp; omega) (by have := F.out; have := G.out; simp; omega) (by have := F.out; have := G.out; simp; omega)
  have y6 := y5.keep o6 (by have := F.out; have := G.out; simp; omega) (by have := F.out; have := G.out; simp; omega) (by have := F.out; have := G.out; simp; omega)
  have B6 := Below.then_only B5 o6 B5.size (by have := G.out; have := Z.out; simp; omega)
  have HW6 := Lib.hid (o6.keep HW5.out (by have := F.out; have := G.out; have := Z.out; have := Z4.out; simp; omega))
  have Z6 := Lib.hid o6.size
  clear d5 y5 x5 B5 HW5 hg5 hg5b
  go_wp2_with fail
  refine (flush_any x6).mono ?_
  rintro e w7 ⟨rfl, x7, o7⟩
  have d7 := d6.keep o7 (by have := F.out; have := G.out; simp; omega) (by have := F.out; have := G.out; simp; omega) (by have := F.out; have := G.out; simp; omega)
  have y7 := y6.keep o7 (by have := F.out; have := G.out; simp; omega) (by have := F.out; have := G.out; simp; omega) (by have := F.out; have := G.out; simp; omega)
  have B7 := Below.then_only B6 o7 B6.size (by have := G.out; have := Z.out; simp; omega)
  have HW7 := Lib.hid (o7.keep HW6.out (by have := F.out; have := G.out; have := Z.out; have := Z4.out; simp; omega))
  have Z7 := Lib.hid o7.size
  clear d6 y6 x6 x7 B6 HW6 o6 o7
  go_wp2_with fail
  refine (of_made b a _).mono ?_
  rintro e w8 ⟨g8, rfl, hg8, b8, eg8⟩
  have d8 := d7.below b8
  have y8 := y7.below b8
  have B8 := B7.trans (b8.mono B7.size)
  have hg8b : g8 ≠ bd := by have := d7.ltb; omega
  have lt7 : gW < w7.heap.size := (Array.getElem?_eq_some_iff.1 HW7.out).1
  have HW8 := Lib.hid ((b8.block gW lt7).trans HW7.out)
  clear d7 y7 b8 B7 eg8 HW7 lt7
  go_wp2_with fail
  refine (write_any d8 (by decide) 0 (some ⟨g8, 0, none⟩) 256 256 _ (ofSec_length _ _) (fun _ => ⟨g8, 0, rfl, hg8b, range_of_bytes hg8⟩)).mono ?_
  rintro e w9 ⟨rfl, d9, o9⟩
  have y9 := y8.keep o9 (by have := F.out; have := G.out; have := Z.out; simp; omega) (by have := F.out; have := G.out; have := Z.out; simp; omega) (by have := F.out; have := G.out; have := Z.out; simp; omega)
  have B9 := Below.then_only B8 o9 B8.size (by have := G.out; simp; omega)
  have HW9 := Lib.hid (o9.keep HW8.out (by have := F.out; have := G.out; have := Z.out; have := Z4.out; simp; omega))
  clear d8 y8 d9 o9 B8 HW8 hg8 hg8b
  go_wp2_with fail
  refine (read_ok y9 0 hy0).mono ?_
  rw [hcw]
  rintro e w10 ⟨gN, rfl, hN, b10, gN1⟩
  have y10 := y9.below b10
  have B10 := B9.trans (b10.mono B9.size)
  have lt9 : gW < w9.heap.size := (Array.getElem?_eq_some_iff.1 HW9.out).1
  have lty := Lib.hid (And.intro y9.ltb (And.intro y9.ltL y9.ltM))
  have HW10 := (b10.block gW lt9).trans HW9.out
  have gNW : gW ≠ gN := by omega
  have gNw : w.heap.size ≤ gN := by have := B9.size; omega
  have hcl : cw.length = 256 := by rw [← hcw]; exact now_length y10.ok 0 y10.ok.pos
  clear y9 b10 B9 HW9 lt9
  have kW := conv_bytes 256 256 hcl HW10
  have kN := conv_bytes 256 256 hcl hN
  have rN : RowIn w10 gN 256 := ⟨_, _, hN, by rw [size_cellsOf, hcl]⟩
  have HW11 := Lib.hid HW10
  have Hcl := Lib.hid hcl
  have Hgn := Lib.hid gN1
  have Hcw := Lib.hid hcw
  have GNW := Lib.hid gNW
  clear hN HW10 hcl gN1 hcw gNW
  generalize hS : strOf cw = S at kW kN
  have HS := Lib.hid hS
  clear hS
  go_wp2_with (go_at_call 11; refine (no_any _ _).mono ?_; rintro e w' ⟨rfl, rfl⟩)
  clear kW kN
  go_loopw [16, 63] (fun _ i wr => ∃ k : Nat, k ≤ 256 ∧ i = .int .i64 k ∧ Only [gN] w10 wr ∧ RowIn wr gN 256) (fun _ i _ => 256 - (intOf i).toNat)
  case atStart => exact ⟨0, Nat.zero_le _, rfl, Only.refl _ _, rN⟩
  case round =>
    obtain ⟨k, hk, rfl, ho, hr⟩ := hrel
    by_cases hlt : k < 256
    · obtain ⟨v, hv⟩ := hr.cell hlt
      have hf := hr.frozen k
      go_wp2
      go_roundw
      case rel => exact ⟨k + 1, by omega, by go_num, ho.setCell (by simp) _, hr.set _ _⟩
      case measure => simp [intOf]; omega
    · have y11 := y10.keep ho (by have := lty.out; have := Hgn.out; simp; omega) (by have := lty.out; have := Hgn.out; simp; omega) (by have := lty.out; have := Hgn.out; simp; omega)
      have hW11 := ho.keep HW11.out (by have := GNW.out; simpa using this)
      have B11 := Below.then_only B10 ho B10.size (by simpa using gNw)
      go_wp2_with fail
      refine (read_ok y11 0 hy0).mono ?_
      rw [Hcw.out]
      rintro e w12 ⟨gA, rfl, hA, b12, gA1⟩
      have ltw := (Array.getElem?_eq_some_iff.1 hW11).1
      have kW := conv_bytes 256 256 Hcl.out ((b12.block gW ltw).trans hW11)
      have kA := conv_bytes 256 256 Hcl.out hA
      have B12 := B11.trans (b12.mono B11.size)
      rw [HS.out] at kW kA
      clear y11 hW11 hA b12 ltw hr ho
      go_wp2_with (go_at_call 12; refine (alive_any _).mono ?_; rintro e w13 ⟨rfl, hb⟩)
      go_ret
      exact ⟨rfl, B12.trans (hb.mono B12.size)⟩

theorem diskApart_walk {W : World} (a0 : Int) (_w0 : (Lit.int .i64 a0).wf = true) (a1 : Option Addr) (c1 : Nat) (ms1 : List AM) (w1 : ActsIn W a1 ms1) (a2 : Int) (w2 : (Lit.int .u8 a2).wf = true) (a3 : Int) (w3 : (Lit.int .u8 a3).wf = true) :
    Calls Try.prog 7 #[.int .i64 a0, .slice a1 ms1.length c1, .int .u8 a2, .int .u8 a3] W fun e w' => e = .returned (.bool true) ∧ Below W.heap.size W w' := by
  obtain ⟨u, rfl⟩ := byte_of_wf w2
  obtain ⟨v, rfl⟩ := byte_of_wf w3
  exact diskApart_calls a0 c1 u v W w1

end Go.Proofs.Ytelmpaodpnpfbaa
