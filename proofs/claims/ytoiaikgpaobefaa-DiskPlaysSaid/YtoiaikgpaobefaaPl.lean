/- play: a disk behind some calls. -/
import Derived.Test.YtoiaikgpaobefaaAc
import Derived.Test.YtoiaikgpaobefaaWr
import Derived.Test.YtoiaikgpaobefaaCr
import Derived.Test.YtoiaikgpaobefaaFl
import Derived.Outline
import Derived.Deep.RegionWith
namespace Go.Proofs.Ytoiaikgpaobefaa
open Go.RowKit Go.Extern.Stop Go.Stop Go.Extern Go.Maps

theorem AM.bytes_sec (a : AM) : (if a.bytes.length = 256 then a.bytes else zeroSec).length = 256 := by
  split
  · assumption
  · exact zeroSec_length
/-- An act's sector, if it has one. -/
def AM.sec (a : AM) : Sec := if a.bytes.length = 256 then a.bytes else zeroSec

/-- A disk behind an act. -/
def DM.did (m : DM) (a : AM) : DM :=
  if a.kind = 0 then m.write a.at_ a.bytes.length a.sec
  else if a.kind = 2 then m.flush
  else if a.kind = 3 then { m with left := a.n }
  else if a.kind = 4 then m.crash a.at_ a.n a.kept
  else m

theorem DM.acted_len (m : DM) : m.acted.lasts.length = m.lasts.length := by rw [DM.acted_lasts]
theorem DM.did_len {m : DM} (hm : m.ok) (a : AM) : (m.did a).lasts.length = m.lasts.length := by
  unfold DM.did
  split
  · unfold DM.write
    repeat' split
    all_goals simp [DM.acted_len]
  split
  · unfold DM.flush
    repeat' split
    · rfl
    · exact DM.acted_len m
    · unfold DM.flushed
      rw [lastsOf_length, DM.acted_len]
  split
  · rfl
  split
  · show (m.crashed a.at_ a.n a.kept).length = _
    exact (laidAll_sec hm a.kept _ (layOne_length _ _ _ _) (layOne_sec hm hm.sec rfl _ _ (clampN_le _))).1
  · rfl

/-- What play answers: nil, or a disk of n sectors that is new, and a map of few entries. -/
def Played (n : Int) (w : World) (e : Ending) (w' : World) : Prop :=
  Below w.heap.size w w' ∧ (e = .returned (.pointer none) ∨
  ∃ b L M m, e = .returned (.pointer (some ⟨b, 0, none⟩)) ∧ DiskIn w' b L M 80 m ∧ (m.lasts.length : Int) = n ∧ w.heap.size ≤ b ∧ w.heap.size ≤ L ∧ w.heap.size ≤ M)

/-- play's loop under way. -/
structure PlInv (w : World) (n j b L M : Nat) (m : DM) (wr : World) : Prop where
  disk : DiskIn wr b L M j m
  len : m.lasts.length = n
  below : Below w.heap.size w wr
  gb : w.heap.size ≤ b
  gL : w.heap.size ≤ L
  gM : w.heap.size ≤ M

theorem PlInv.next {w wr w' : World} {n j b L M : Nat} {m m' : DM} (inv : PlInv w n j b L M m wr) (ho : Only [b, L, M] wr w') (hd : DiskIn w' b L M (j + 1) m') (hl : m'.lasts.length = m.lasts.length) : PlInv w n (j + 1) b L M m' w' :=
  ⟨hd, hl.trans inv.len, Below.then_only inv.below ho inv.below.size (by simpa using ⟨inv.gb, inv.gL, inv.gM⟩), inv.gb, inv.gL, inv.gM⟩
theorem PlInv.other {w wr w' : World} {n j b L M b' L' M' : Nat} {m m' : DM} (inv : PlInv w n j b L M m wr) (hb : Only [] wr w') (hd : DiskIn w' b' L' M' 0 m') (hl : m'.lasts.length = m.lasts.length)
    (g1 : wr.heap.size ≤ b') (g2 : wr.heap.size ≤ L') (g3 : wr.heap.size ≤ M') : PlInv w n (j + 1) b' L' M' m' w' := by
  have := inv.below.size
  exact ⟨hd.mono (Nat.zero_le _), hl.trans inv.len, Below.then_only inv.below hb inv.below.size (by simp), by omega, by omega, by omega⟩

set_option maxRecDepth 100000 in
set_option maxHeartbeats 1000000 in
theorem play_any {w : World} (n : Int) {ka : Option Addr} {ms : List AM} (cap : Nat) (h : ActsIn w ka ms) :
    Calls Try.prog 22 #[.int .i64 n, .slice ka ms.length cap] w (Played n w) := by
  by_cases hn : n < 1 ∨ 8192 < n
  · go_enter Try.func22, Try.ntmps22
    have n2 : noN 2 = 2 := rfl
    have HN := Lib.hid hn
    clear hn
    go_wp2_with (first | (go_at_call 9; refine (new_refused n HN.out _).mono ?_; rintro e w' ⟨rfl, rfl⟩) | (go_at_call 11; refine (no_any _ _).mono ?_; rintro e w' ⟨rfl, rfl⟩))
    go_ret
    exact ⟨Below.refl _ _, .inl rfl⟩
  · obtain ⟨N, rfl⟩ : ∃ N : Nat, n = (N : Int) := ⟨n.toNat, by omega⟩
    have n0 : noN 0 = 0 := rfl
    have HN : Hid (0 < N ∧ N ≤ 8192) := Lib.hid (by omega)
    clear hn
    go_enter Try.func22, Try.ntmps22
    go_wp2_with fail
    refine (new_any N HN.out.1 HN.out.2 _).mono ?_
    rintro e w1 ⟨b, L, M, rfl, d1, b1, g1, g2, g3⟩
    go_wp2_with fail
    refine (no_any _ _).mono ?_
    rintro e w' ⟨rfl, rfl⟩
    have h1 : ActsIn w1 ka ms := h.keep (Below.only (S := []) b1) (by simp)
    go_wp2_with fail
    refine (few_any cap h1).mono ?_
    rintro e w' ⟨rfl, r, rfl, hr⟩
    cases r
    · clear hr
      go_wp2
      go_ret
      exact ⟨b1, .inl rfl⟩
    · have h80 := Lib.hid (hr rfl).1
      have h400 := Lib.hid (hr rfl).2
      clear hr
      go_wp2
      go_loopw [5, 24] (fun d i wr => ∃ (j b L M : Nat) (m : DM), j ≤ ms.length ∧ i = .int .i64 j ∧ d = .pointer (some ⟨b, 0, none⟩) ∧ PlInv w N j b L M m wr) (fun _ i _ => ms.length - (intOf i).toNat)
      case atStart => exact ⟨0, b, L, M, DM.made N, Nat.zero_le _, rfl, rfl, d1, by simp [DM.made], b1, g1, g2, g3⟩
      case round =>
        obtain ⟨j, b, L, M, m, hj, rfl, rfl, inv⟩ := hrel
        by_cases hlt : j < ms.length
        · obtain ⟨g, o, hi, hg, hr⟩ := run_index_acts (cap := cap) (h.keep (Below.only (S := []) inv.below) (by simp)) hlt
          have hin := h.each _ (List.getElem_mem hlt)
          have hkm := h400.out _ (List.getElem_mem hlt)
          generalize ms[j] = act at hr hin hkm
          obtain ⟨q0, q1, q2, q3, q4⟩ := AM.cell hr
          obtain ⟨kind, at_, an, u, ka2, kc2, kept⟩ := act
          dsimp only at q0 q1 q2 q3 q4 hkm
          have Hin := Lib.hid hin
          have Hlen := Lib.hid hlt
          have hll : (j : Int) < (ms.length : Int) := by omega
          have hj80 : j < 80 := by have := h80.out; omega
          clear hin hlt hr h1 d1 b1 g1 g2 g3
          by_cases k0 : kind = 0
          · subst k0
            go_wp2
            have hrow := heap_alloc_last wr (.cells #[.int .i64 0, .int .i64 at_, .int .i64 an, .int .u8 (u.toNat : Int), .slice ka2 kept.length kc2] 39)
            have o1 : Only [] wr (wr.alloc (.cells #[.int .i64 0, .int .i64 at_, .int .i64 an, .int .u8 (u.toNat : Int), .slice ka2 kept.length kc2] 39)).drew := ((Only.refl _ _).alloc _).drew
            have d1 := inv.disk.keep o1 (by simp) (by simp) (by simp)
            have Hrow := Lib.hid hrow
            clear hrow
            have hjm : j < maxLen := Nat.lt_of_lt_of_le (by have := Hlen.out; have := h80.out; omega : j < 80) (by decide)
            go_region_with (first
              | (go_at_call 30; refine (bytes_any ⟨0, at_, an, u, ka2, kc2, kept⟩).mono ?_; rintro e w2 ⟨gb, rfl, hgb, b2, ge⟩; have d2 := d1.below b2; have hne := Lib.hid (show gb ≠ b by have := d1.ltb; omega); have o2 := o1.trans (Below.only b2); have c2 : w2.cell? ⟨wr.heap.size, 1, none⟩ = some (.int .i64 at_) := by
                  rw [cell_of_row w2 _ 1 _ _ _ ((b2.block wr.heap.size (by simp)).trans Hrow.out)]; rfl)
              | (go_at_call 25; refine (write_any d2 hjm at_ (some ⟨gb, 0, none⟩) _ _ (AM.sec ⟨0, at_, an, u, ka2, kc2, kept⟩) (AM.bytes_sec _) (fun hl => ⟨gb, 0, rfl, hne.out, by rw [AM.sec, if_pos hl]; exact range_of_bytes hgb⟩)).mono ?_; rintro e w3 ⟨rfl, d3, o3⟩))
            all_goals
              have inv2 := Lib.hid (inv.next ((o2.mono (by simp)).trans (o3.mono (by simp))) d3 (DM.did_len inv.disk.ok ⟨0, at_, an, u, ka2, kc2, kept⟩))
              clear d2 d3 o2 o3 d1 o1 hgb b2 ge c2 inv hi q0 q1 q2 q3 q4
              go_wp2
              go_roundw
              case rel => exact ⟨j + 1, b, L, M, _, by omega, by go_num, rfl, inv2.out⟩
              case measure => simp [intOf]; omega
          by_cases k2 : kind = 2
          · subst k2
            have d1 := inv.disk.keep ((Only.refl [] _).alloc (.cells #[.int .i64 2, .int .i64 at_, .int .i64 an, .int .u8 (u.toNat : Int), .slice ka2 kept.length kc2] 39)) (by simp) (by simp) (by simp)
            go_wp2_with (go_at_call 23; refine (flush_any d1).mono ?_; rintro e w3 ⟨rfl, d3, o3⟩; have inv2 := Lib.hid (inv.next ((Only.refl _ _).alloc _ |>.trans o3) (d3.mono (Nat.le_succ _)) (DM.did_len inv.disk.ok ⟨2, at_, an, u, ka2, kc2, kept⟩)))
            go_roundw
            case rel => exact ⟨j + 1, b, L, M, _, by omega, by go_num, rfl, inv2.out⟩
            case measure => simp [intOf]; omega
          by_cases k3 : kind = 3
          · subst k3
            have d1 := inv.disk.keep ((Only.refl [] _).alloc (.cells #[.int .i64 3, .int .i64 at_, .int .i64 an, .int .u8 (u.toNat : Int), .slice ka2 kept.length kc2] 39)) (by simp) (by simp) (by simp)
            go_wp2_with (go_at_call 27; refine (limit_any d1 an Hin.out.fn).mono ?_; rintro e w3 ⟨rfl, d3, o3⟩; have inv2 := Lib.hid (inv.next ((Only.refl _ _).alloc _ |>.trans (o3.mono (by simp))) (d3.mono (Nat.le_succ _)) rfl))
            go_roundw
            case rel => exact ⟨j + 1, b, L, M, _, by omega, by go_num, rfl, inv2.out⟩
            case measure => simp [intOf]; omega
          by_cases k4 : kind = 4
          · subst k4
            have o1 : Only [] wr (wr.alloc (.cells #[.int .i64 4, .int .i64 at_, .int .i64 an, .int .u8 (u.toNat : Int), .slice ka2 kept.length kc2] 39)) := (Only.refl [] _).alloc _
            have d1 := inv.disk.keep o1 (by simp) (by simp) (by simp)
            have hk1 : IntsIn _ ka2 kept := (Hin.out.kin.keep (Below.only (S := []) inv.below) (by simp)).keep o1 (by simp)
            have hkl : kept.length < 9223372036854775807 := by omega
            go_wp2_with fail
            refine (crash_any d1 at_ an Hin.out.fa ka2 kc2 kept hk1 Hin.out.kf hkl).mono ?_
            rintro e w3 ⟨b2, L2, M2, rfl, d3, b3, g1, g2, g3⟩
            have inv2 := Lib.hid (inv.other (o1.trans (Below.only b3)) d3 (DM.did_len inv.disk.ok ⟨4, at_, an, u, ka2, kc2, kept⟩) (by have := o1.size; omega) (by have := o1.size; omega) (by have := o1.size; omega))
            clear d1 o1 hk1 d3 b3 g1 g2 g3 hkl
            go_wp2
            go_roundw
            case rel => exact ⟨j + 1, b2, L2, M2, _, by omega, by go_num, rfl, inv2.out⟩
            case measure => simp [intOf]; omega
          · have k0' : (kind == 0) = false := by simpa using k0
            have k2' : (kind == 2) = false := by simpa using k2
            have k3' : (kind == 3) = false := by simpa using k3
            have k4' : (kind == 4) = false := by simpa using k4
            have o1 : Only [] wr (wr.alloc (.cells #[.int .i64 kind, .int .i64 at_, .int .i64 an, .int .u8 (u.toNat : Int), .slice ka2 kept.length kc2] 39)) := (Only.refl [] _).alloc _
            have inv2 := Lib.hid (inv.next (o1.mono (by simp)) ((inv.disk.keep o1 (by simp) (by simp) (by simp)).mono (Nat.le_succ _)) rfl)
            clear k0 k2 k3 k4 o1
            go_wp2
            go_roundw
            case rel => exact ⟨j + 1, b, L, M, _, by omega, by go_num, rfl, inv2.out⟩
            case measure => simp [intOf]; omega
        · go_wp2
          go_ret
          exact ⟨inv.below, .inr ⟨b, L, M, m, rfl, inv.disk.mono (by have := h80.out; omega), by rw [inv.len], inv.gb, inv.gL, inv.gM⟩⟩

end Go.Proofs.Ytoiaikgpaobefaa
