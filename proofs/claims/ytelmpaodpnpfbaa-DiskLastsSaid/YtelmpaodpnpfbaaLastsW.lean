/- DiskLasts: the walk. -/
import Derived.Test.YtelmpaodpnpfbaaAl
import Derived.Test.YtelmpaodpnpfbaaPl
import Derived.Test.YtelmpaodpnpfbaaCm
import Derived.Test.YtelmpaodpnpfbaaWm
import Derived.Test.YtelmpaodpnpfbaaSet
import Derived.Test.YtelmpaodpnpfbaaRd0
namespace Go.Proofs.Ytelmpaodpnpfbaa
open Go.RowKit Go.Extern.Stop Go.Stop Go.Extern Go.Maps

/-- The writing loop under way: j writes; nothing that lasts has turned; what is dirty is said so. -/
structure LaInv (w5 : World) (b L M K j : Nat) (m1 : DM) (wr : World) (m : DM) (f : Int → Bool) : Prop where
  disk : DiskIn wr b L M (80 + j) m
  lasts : m.lasts = m1.lasts
  set : SetIs wr K j f
  says : ∀ k, (m.fresh k).isSome = true → f k = true
  only : Only [b, M, K] w5 wr

/-- The sector that the statement writes. -/
theorem of_nat (j : Nat) (hj : j < 256) (w : World) : ∃ c : UInt8, Calls Try.prog 26 #[.int .u8 (j : Int), .int .u8 119] w fun en w' => ∃ g, en = .returned (.slice (some ⟨g, 0, none⟩) 256 256) ∧ w'.heap[g]? = some (.cells (cellsOf (ofSec c 119)) 5 (0, 0)) ∧ Below w.heap.size w w' ∧ g = w.heap.size := by
  refine ⟨UInt8.ofNat j, ?_⟩
  have h := of_made (UInt8.ofNat j) 119 w
  have e : bv (UInt8.ofNat j) = .int .u8 (j : Int) := by
    unfold bv
    rw [UInt8.toNat_ofNat', Nat.mod_eq_of_lt (by simpa using hj)]
  rw [e] at h
  exact h

set_option maxRecDepth 100000 in
set_option maxHeartbeats 2000000 in
theorem diskLasts_calls (n : Int) {ka : Option Addr} {ms : List AM} (cap : Nat) (w : World) (h : ActsIn w ka ms) (ga : Option Addr) (gc : Nat) (again : List Int) (hga : IntsIn w ga again) (hgf : ∀ k ∈ again, Fits k)
    (torn cut : Int) (htorn : Fits torn) (pa : Option Addr) (pc : Nat) (kept : List Int) (hpa : IntsIn w pa kept) (hpf : ∀ k ∈ kept, Fits k) :
    Calls Try.prog 4 #[.int .i64 n, .slice ka ms.length cap, .slice ga again.length gc, .int .i64 torn, .int .i64 cut, .slice pa kept.length pc] w fun e w' => e = .returned (.bool true) ∧ Below w.heap.size w w' := by
  have n0 := noN_0
  have hlong : 30 < again.length ∨ (again.length ≤ 30 ∧ 200 < kept.length) ∨ (again.length ≤ 30 ∧ kept.length ≤ 200) := by omega
  have HG := Lib.hid (And.intro hga (And.intro hgf (And.intro hpa hpf)))
  have HL := Lib.hid hlong
  clear hlong hga hgf hpa hpf
  go_enter Try.func4, Try.ntmps4
  go_wp2_with fail
  refine (play_any n cap h).mono ?_
  rintro e w1 ⟨B1, rfl | ⟨b, L, M, m, rfl, d1, hlen, g1, g2, g3⟩⟩
  · go_wp2_with (go_at_call 12; refine (alive_any _).mono ?_; rintro e w9 ⟨rfl, hb⟩)
    go_ret
    exact ⟨rfl, B1.trans (hb.mono B1.size)⟩
  rcases HL.out with hl | ⟨hl, hl2⟩ | ⟨hl1, hl2⟩
  · have hl' : (30 : Int) < (again.length : Int) := by omega
    go_wp2_with (go_at_call 12; refine (alive_any _).mono ?_; rintro e w9 ⟨rfl, hb⟩)
    go_ret
    exact ⟨rfl, B1.trans (hb.mono B1.size)⟩
  · have hl' : (again.length : Int) ≤ 30 := by omega
    have hl3 : (200 : Int) < (kept.length : Int) := by omega
    go_wp2_with (go_at_call 12; refine (alive_any _).mono ?_; rintro e w9 ⟨rfl, hb⟩)
    go_ret
    exact ⟨rfl, B1.trans (hb.mono B1.size)⟩
  have hl' : (again.length : Int) ≤ 30 := by omega
  have hl3 : (kept.length : Int) ≤ 200 := by omega
  by_cases hfl : m.flushN = 0
  · go_wp2_with fail
    refine (flush_any d1).mono ?_
    rw [hfl]
    rintro e w2 ⟨rfl, d2, o2⟩
    have F := Lib.hid (And.intro d1.ltb (And.intro d1.ltL d1.ltM))
    have G := Lib.hid (And.intro g1 (And.intro g2 g3))
    have B2 := Below.then_only B1 o2 B1.size (by simpa using ⟨g1, g2, g3⟩)
    have HF := Lib.hid (m.flush_fresh hfl)
    have hlen1 : m.flush.lasts.length = m.lasts.length := DM.did_len d1.ok ⟨2, 0, 0, 0, none, 0, []⟩
    rw [← hlen1] at hlen
    clear hlen1 d1 o2 g1 g2 g3 hfl B1
    generalize m.flush = m1 at d2 HF hlen
    clear m
    go_wp2_with (go_at_call 11; refine (no_any _ _).mono ?_; rintro e w' ⟨rfl, rfl⟩)
    refine (crash_any d2 (-1) 0 ⟨by decide, by decide⟩ none 0 [] (.inl rfl) (by simp) (by decide)).mono ?_
    rintro e w3 ⟨bW, LW, MW, rfl, x3, b3, gw1, gw2, gw3⟩
    have d3 := d2.below b3
    have B3 := B2.trans (b3.mono B2.size)
    have s23 := b3.size
    have s01 := B2.size
    have hnw : ∀ k : Nat, k < m1.lasts.length → (m1.crash (-1) 0 []).now k = m1.lasts.getD k zeroSec := fun k hk => crash_clean d2.ok _ _ _ k hk (HF.out k)
    have HN := Lib.hid hnw
    have ok1 := Lib.hid d2.ok
    have l2 := Lib.hid (And.intro d2.ltb (And.intro d2.ltL d2.ltM))
    clear d2 b3 hnw
    have o4 : Only [] w3 (w3.alloc (.map #[] 0)) := (Only.refl _ _).alloc _
    have k4 := SetIs.made w3
    have d4 := d3.keep o4 (by simp) (by simp) (by simp)
    have x4 := x3.keep o4 (by simp) (by simp) (by simp)
    have B4 : Below w.heap.size w (w3.alloc (.map #[] 0)) := B3.alloc B3.size _
    have l3 := Lib.hid (And.intro d3.ltb (And.intro d3.ltL d3.ltM))
    have lx := Lib.hid (And.intro x3.ltb (And.intro x3.ltL x3.ltM))
    have nx : bW ≠ b ∧ bW ≠ M ∧ LW ≠ b ∧ LW ≠ M ∧ MW ≠ b ∧ MW ≠ M := by have := l2.out; omega
    have NX := Lib.hid nx
    have hK : w.heap.size ≤ w3.heap.size := by omega
    have hga : IntsIn (w3.alloc (.map #[] 0)) ga again := (HG.out.1.keep (Below.only (S := []) B4) (by simp))
    have hpa : IntsIn (w3.alloc (.map #[] 0)) pa kept := (HG.out.2.2.1.keep (Below.only (S := []) B4) (by simp))
    have HA := Lib.hid (And.intro hga hpa)
    clear d3 x3 B3 gw1 gw2 gw3 nx hga hpa s23 s01 B2
    have hmm := @run_makeMap Try.prog
    go_wp2
    clear hmm
    generalize hw4 : w3.alloc (.map #[] 0) = w4 at *
    generalize hKK : w3.heap.size = K at *
    go_loopw [54] (fun i wr => ∃ (j : Nat) (m : DM) (f : Int → Bool), j ≤ again.length ∧ i = .int .i64 j ∧ LaInv w4 b L M K j m1 wr m f) (fun i _ => 30 - (intOf i).toNat)
    case atStart => exact ⟨0, m1, _, Nat.zero_le _, rfl, d4, rfl, k4, (fun k hk => by rw [HF.out k] at hk; cases hk), Only.refl _ _⟩
    case round =>
      obtain ⟨j, m, f, hj, rfl, inv⟩ := hrel
      by_cases hlt : j < again.length
      · have Bw : Below w.heap.size w wr := Below.then_only B4 inv.only B4.size (by have := G.out; simp; omega)
        obtain ⟨a, i1, i2⟩ := run_index_ints (cap := gc) (HG.out.1.keep (Below.only (S := []) Bw) (by simp)) hlt
        have hat := HG.out.2.1 _ (List.getElem_mem hlt)
        generalize again[j] = at_ at i2 hat
        have hltI : (j : Int) < (again.length : Int) := by omega
        have hj30 : j < 30 := by omega
        have Hlt := Lib.hid hlt
        have Hat := Lib.hid hat
        obtain ⟨c, hc⟩ := of_nat j (by omega) wr
        have HC := Lib.hid hc
        clear hc
        clear hlt hat Bw
        go_wp2_with fail
        refine HC.out.mono ?_
        rintro e w6 ⟨g6, rfl, hg6, b6, eg6⟩
        have d6 := inv.disk.below b6
        have k6 := inv.set.keep (Below.only (S := []) b6) (by simp)
        have o6 : Only [b, M, K] w4 w6 := inv.only.trans ((Below.only (S := []) b6).mono (by simp))
        have hg6b : g6 ≠ b := by have := inv.disk.ltb; omega
        have Hg6 := Lib.hid hg6
        have Says := Lib.hid inv.says
        have Lasts := Lib.hid inv.lasts
        have neK : K ∉ [b, M] := by have := l3.out; simp; omega
        have NK := Lib.hid neK
        clear hg6 eg6 b6 inv neK HC
        go_wp2_with fail
        refine (write_any d6 (show 80 + j < maxLen from Nat.lt_of_lt_of_le (show 80 + j < 200 by omega) (by decide)) at_ (some ⟨g6, 0, none⟩) 256 256 _ (ofSec_length _ _) (fun _ => ⟨g6, 0, rfl, hg6b, range_of_bytes Hg6.out⟩)).mono ?_
        rintro e w7 ⟨rfl, d7, o7⟩
        have k7 := k6.keep o7 NK.out
        have o7' := o6.trans (o7.mono (by simp))
        clear d6 k6 o6 o7
        by_cases hz : m.writeN at_ 256 = 0
        · have hz2 : noN (m.writeN at_ 256) = 0 := by rw [hz]; rfl
          obtain ⟨w8, hrun, k8, ht⟩ := k7.store Hat.out (show j < maxLen from Nat.lt_of_lt_of_le (show j < 30 by omega) (by decide)) true
          have o8 : Only [K] w7 w8 := (Only.refl _ _).mapTurned ht (by simp)
          have d8 := d7.keep o8 (by have := l3.out; simp; omega) (by have := l3.out; simp; omega) (by have := l3.out; simp; omega)
          have inv2 : LaInv w4 b L M K (j + 1) m1 w8 _ _ := ⟨d8, (DM.write_lasts _ _ _ _).trans Lasts.out, k8, fun k hk => by
            have hw := DM.write_done m at_ 256 (ofSec c 119) hz
            have hk : (put m.fresh at_ (ofSec c 119) k).isSome = true := by rw [← hw]; exact hk
            by_cases e : k = at_
            · rw [if_pos e]
            · rw [if_neg e]; unfold put at hk; rw [if_neg e] at hk; exact Says.out k hk, o7'.trans (o8.mono (by simp))⟩
          have Inv := Lib.hid inv2
          clear d7 k7 o7' k8 ht o8 d8 inv2 hz
          go_wp2_with (go_at_call 11; refine (no_any _ _).mono ?_; rw [hz2]; rintro e w' ⟨rfl, rfl⟩)
          go_roundw
          case rel => exact ⟨j + 1, _, _, by have := Hlt.out; omega, by go_num, Inv.out⟩
          case measure => simp [intOf]; omega
        · have hz2 : noN (m.writeN at_ 256) = m.writeN at_ 256 := noN_of (m.writeN_bd _ _)
          have hz3 : (m.writeN at_ 256 == 0) = false := by simpa using hz
          have inv2 : LaInv w4 b L M K (j + 1) m1 w7 _ _ := ⟨d7, (DM.write_lasts _ _ _ _).trans Lasts.out, k7.mono (Nat.le_succ _), fun k hk => by
            have hw := DM.write_not m at_ 256 (ofSec c 119) hz
            exact Says.out k (by rw [← hw]; exact hk), o7'⟩
          have Inv := Lib.hid inv2
          clear d7 k7 o7' inv2 hz
          go_wp2_with (go_at_call 11; refine (no_any _ _).mono ?_; rw [hz2]; rintro e w' ⟨rfl, rfl⟩)
          go_roundw
          case rel => exact ⟨j + 1, _, _, by have := Hlt.out; omega, by go_num, Inv.out⟩
          case measure => simp [intOf]; omega
      · have Bw : Below w.heap.size w wr := Below.then_only B4 inv.only B4.size (by have := G.out; simp; omega)
        have x5 := x4.keep inv.only (by have := NX.out; have := lx.out; simp; omega) (by have := NX.out; have := lx.out; simp; omega) (by have := NX.out; have := lx.out; simp; omega)
        have hpi := HG.out.2.2.1.keep (Below.only (S := []) Bw) (by simp)
        have d5 := inv.disk
        have k5 := inv.set
        have Says := Lib.hid inv.says
        have Lasts := Lib.hid inv.lasts
        have ltk := Lib.hid inv.set.lt
        clear inv d4 x4 k4 B4 o4
        go_wp2_with fail
        refine (crash_any d5 torn cut htorn pa pc kept hpi HG.out.2.2.2 (by omega)).mono ?_
        rintro e w9 ⟨bO, LO, MO, rfl, x9, b9, go1, go2, go3⟩
        have w5' := x5.below b9
        have k9 := k5.keep (Below.only (S := []) b9) (by simp)
        have B9 := Bw.trans (b9.mono Bw.size)
        have OK := Lib.hid d5.ok
        clear d5 x5 k5 Bw b9 hpi go1 go2 go3
        have hml : m.lasts.length = m1.lasts.length := by rw [Lasts.out]
        subst hlen
        go_wp2
        go_loopw [19] (fun i wr => ∃ k : Nat, k ≤ 30 ∧ k ≤ m1.lasts.length ∧ i = .int .i64 k ∧ Below w9.heap.size w9 wr) (fun i _ => 30 - (intOf i).toNat)
        case atStart => exact ⟨0, by omega, Nat.zero_le _, rfl, Below.refl _ _⟩
        case round =>
          obtain ⟨k, h30, hk, rfl, hb⟩ := hrel
          by_cases hlt : k < m1.lasts.length
          · by_cases hl30 : k < 30
            · have hlt' : (k : Int) < (m1.lasts.length : Int) := by omega
              have hl30' : (k : Int) < 30 := by omega
              have hfew := ok1.out.few
              have hfk : Fits (k : Int) := ⟨by omega, by omega⟩
              have x10 := w5'.below hb
              have o10 := x9.below hb
              have k10 := k9.keep (Below.only (S := []) hb) (by simp)
              have hrw := read_crashed ok1.out (-1) 0 [] hlt
              have hro := read_crashed OK.out torn cut kept (show k < m.lasts.length by omega)
              have hnw := HN.out k hlt
              have hsl : (m1.lasts.getD k zeroSec).length = 256 := by
                rw [List.getD_eq_getElem?_getD, List.getElem?_eq_getElem hlt]
                exact ok1.out.sec _ (List.getElem_mem hlt)
              have Hlt := Lib.hid hlt
              have Hl30 := Lib.hid hl30
              have Hb := Lib.hid hb
              have Hnw := Lib.hid hnw
              have Hfk := Lib.hid hfk
              clear hlt hl30 hb hnw hfew hfk
              go_wp2_with fail
              refine (read_ok x10 k hrw).mono ?_
              rw [Hnw.out]
              rintro e w11 ⟨gA, rfl, hA, b11, gA1⟩
              have o11 := o10.below b11
              have k11 := k10.keep (Below.only (S := []) b11) (by simp)
              have HA1 := Lib.hid hA
              have bb11 := Hb.out.trans (b11.mono Hb.out.size)
              clear x10 o10 k10 b11 gA1 hA Hb
              go_wp2_with fail
              refine (read_ok o11 k hro).mono ?_
              rintro e w12 ⟨gB, rfl, hB, b12, gB1⟩
              have k12 := k11.keep (Below.only (S := []) b12) (by simp)
              have ltA := (Array.getElem?_eq_some_iff.1 HA1.out).1
              have hA2 := (b12.block gA ltA).trans HA1.out
              have bb12 := Lib.hid (bb11.trans (b12.mono bb11.size))
              have hlook := k12.look Hfk.out
              clear o11 k11 b12 ltA gB1 bb11 k12
              cases hf : f k
              · have hfn : m.fresh k = none := by
                  cases hh : m.fresh k with
                  | none => rfl
                  | some s => rw [Says.out k (by rw [hh]; rfl)] at hf; cases hf
                rw [crash_clean OK.out torn cut kept k (by have := Hlt.out; omega) hfn, Lasts.out] at hB
                have kA := conv_bytes 256 256 hsl hA2
                have kB := conv_bytes 256 256 hsl hB
                rw [hf] at hlook
                clear hA2 hB hf hfn
                generalize strOf (m1.lasts.getD k zeroSec) = S at kA kB
                go_wp2_with (go_at_call 11; refine (no_any _ _).mono ?_; rintro e w' ⟨rfl, rfl⟩)
                go_roundw
                case rel => exact ⟨k + 1, by have := Hl30.out; omega, by have := Hlt.out; omega, by go_num, bb12.out⟩
                case measure => simp [intOf]; omega
              · rw [hf] at hlook
                clear hA2 hB hf
                go_wp2_with (go_at_call 11; refine (no_any _ _).mono ?_; rintro e w' ⟨rfl, rfl⟩)
                go_roundw
                case rel => exact ⟨k + 1, by have := Hl30.out; omega, by have := Hlt.out; omega, by go_num, bb12.out⟩
                case measure => simp [intOf]; omega
            · go_wp2_with (go_at_call 12; refine (alive_any _).mono ?_; rintro e w9 ⟨rfl, hb9⟩)
              go_ret
              exact ⟨rfl, (B9.trans (hb.mono B9.size)).trans (hb9.mono (B9.trans (hb.mono B9.size)).size)⟩
          · go_wp2_with (go_at_call 12; refine (alive_any _).mono ?_; rintro e w9 ⟨rfl, hb9⟩)
            go_ret
            exact ⟨rfl, (B9.trans (hb.mono B9.size)).trans (hb9.mono (B9.trans (hb.mono B9.size)).size)⟩
  · have hbd := m.flushN_bd
    have hno : noN m.flushN = m.flushN := noN_of hbd
    have hne : (m.flushN != 0) = true := by simpa using hfl
    have hoff := m.flush_off_of hfl
    have hb0 : ¬ m.flushN = 0 := hfl
    clear hbd
    go_wp2_with fail
    refine (flush_any d1).mono ?_
    rintro e w2 ⟨rfl, d2, o2⟩
    have B2 := Below.then_only B1 o2 B1.size (by simpa using ⟨g1, g2, g3⟩)
    generalize m.flushN = x at *
    go_wp2_with (first
      | (go_at_call 11; refine (no_any _ _).mono ?_; rw [hno]; rintro e w' ⟨rfl, rfl⟩)
      | (go_at_call 15; refine (off_cells d2.cells d2.ok.pos).mono ?_; rw [hoff]; rintro e w' ⟨rfl, rfl⟩)
      | (go_at_call 12; refine (alive_any _).mono ?_; rintro e w9 ⟨rfl, hb⟩))
    go_ret
    exact ⟨rfl, B2.trans (hb.mono B2.size)⟩

theorem diskLasts_walk {W : World} (a0 : Int) (_w0 : (Lit.int .i64 a0).wf = true) (a1 : Option Addr) (c1 : Nat) (ms1 : List AM) (w1 : ActsIn W a1 ms1)
    (a2 : Option Addr) (len2 cap2 : Nat) (z2 : List Int) (w2 : IsRow .i64 W a2 len2 cap2 z2) (a3 : Int) (w3 : (Lit.int .i64 a3).wf = true) (a4 : Int) (_w4 : (Lit.int .i64 a4).wf = true)
    (a5 : Option Addr) (len5 cap5 : Nat) (z5 : List Int) (w5 : IsRow .i64 W a5 len5 cap5 z5) :
    Calls Try.prog 4 #[.int .i64 a0, .slice a1 ms1.length c1, .slice a2 len2 cap2, .int .i64 a3, .int .i64 a4, .slice a5 len5 cap5] W fun e w' => e = .returned (.bool true) ∧ Below W.heap.size W w' := by
  obtain ⟨e2, i2, f2, _⟩ := w2.ints
  obtain ⟨e5, i5, f5, _⟩ := w5.ints
  have h := diskLasts_calls a0 c1 W w1 a2 cap2 _ i2 f2 a3 a4 (Fits.of_wf w3) a5 cap5 _ i5 f5
  rw [e2, e5] at h
  exact h

end Go.Proofs.Ytelmpaodpnpfbaa
