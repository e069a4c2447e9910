/- Write. -/
import Derived.Test.YtoiaikgpaobefaaDm
import Derived.Outline
namespace Go.Proofs.Ytoiaikgpaobefaa
open Go.RowKit Go.Extern.Stop Go.Stop Go.Extern Go.Maps

/-- What Write answers. -/
def DM.writeN (m : DM) (k len : Int) : Int := if refN 0 m.lasts.length m.off k len = 0 then m.actN else refN 0 m.lasts.length m.off k len
/-- A disk behind a Write. -/
def DM.write (m : DM) (k len : Int) (s : Sec) : DM :=
  if refN 0 m.lasts.length m.off k len = 0 then (if m.left = 0 then m.acted else { m.acted with fresh := put m.fresh k s }) else m

/-- What a Write leaves. -/
def Wrote (w : World) (b L M N : Nat) (n : Int) (m : DM) (e : Ending) (w' : World) : Prop :=
  e = .returned (errV n) ∧ DiskIn w' b L M N m ∧ Only [b, M] w w'

theorem write_refused {w : World} {b L M N : Nat} {m : DM} (h : DiskIn w b L M N m) (k : Int) (sa : Option Addr) (len cap : Nat) (hr : 1 ≤ refN 0 m.lasts.length m.off k len) :
    Calls Try.prog 25 #[.pointer (some ⟨b, 0, none⟩), .int .i64 k, .slice sa len cap] w fun e w' => e = .returned (errV (refN 0 m.lasts.length m.off k len)) ∧ w = w' := by
  rw [errV_pos hr]
  go_enter Try.func25, Try.ntmps25
  go_wp2_with (go_at_call 39; refine (refusal_write h.cells h.ok.pos k len).mono ?_; rw [errV_pos hr]; rintro e w' ⟨rfl, rfl⟩)
  go_ret
  exact ⟨rfl, rfl⟩

theorem write_power {w : World} {b L M N : Nat} {m : DM} (h : DiskIn w b L M N m) (k : Int) (sa : Option Addr) (len cap : Nat) (hr : refN 0 m.lasts.length m.off k len = 0) (hl : m.left = 0) :
    Calls Try.prog 25 #[.pointer (some ⟨b, 0, none⟩), .int .i64 k, .slice sa len cap] w (Wrote w b L M N 9 m.acted) := by
  have hn : m.actN = 9 := by simp [DM.actN, hl]
  have ha := act_any h
  rw [hn] at ha
  have Ha := Lib.hid ha
  clear ha hn hl
  go_enter Try.func25, Try.ntmps25
  go_wp2_with (first | (go_at_call 39; refine (refusal_write h.cells h.ok.pos k len).mono ?_; rw [hr, errV_0]; rintro e w' ⟨rfl, rfl⟩) | (go_at_call 40; refine Ha.out.mono ?_; rw [errV_pos (by decide)]; rintro e w1 ⟨rfl, hd, ho⟩))
  go_ret
  exact ⟨rfl, hd, ho.mono (by simp)⟩

set_option maxRecDepth 100000 in
theorem write_done {w : World} {b L M N : Nat} {m : DM} (h : DiskIn w b L M N m) (hN : N < maxLen) (k : Int) (hk : 0 ≤ k) (hkn : k < m.lasts.length) (g of cap : Nat) (s : Sec) (hs : s.length = 256) (hg : g ≠ b) (hsrc : w.rangeAt g of (s.map bv))
    (hr : refN 0 m.lasts.length m.off k 256 = 0) (hl : m.left ≠ 0) :
    Calls Try.prog 25 #[.pointer (some ⟨b, 0, none⟩), .int .i64 k, .slice (some ⟨g, of, none⟩) 256 cap] w (Wrote w b L M (N + 1) 0 { m.acted with fresh := put m.fresh k s }) := by
  have hn : m.actN = 0 := by simp [DM.actN, hl]
  have ha := act_any h
  rw [hn] at ha
  have Ha := Lib.hid ha
  have hfew := h.ok.few
  have hfit : Fits k := ⟨by omega, by omega⟩
  have hz := zeroSecA
  have HK := Lib.hid hkn
  clear ha hn hkn
  go_enter Try.func25, Try.ntmps25
  go_wp2_with (first | (go_at_call 39; refine (refusal_write h.cells h.ok.pos k 256).mono ?_; rw [hr, errV_0]; rintro e w' ⟨rfl, rfl⟩) | (go_at_call 40; refine Ha.out.mono ?_; rw [errV_0]; rintro e w1 ⟨rfl, hd, ho⟩; have c1 := hd.cells.c1; have hlb := hd.ltb) | (refine wpList_copy_sec rfl (.tmp 23) (.tmp 24) rfl (t := 79) (z := zeroSec) (s := s) (g := g) (of := of) (cap := cap) rfl rfl zeroSec_length hs (ho.range hsrc (by simpa using hg)) ?_))
  go_frame
  refine region_tail 6 (by kernel_rfl) (by kernel_rfl) ?_
  simp only [List.take_succ_cons, List.take_zero, List.drop_succ_cons, List.drop_zero]
  iterate 5 still_step
  refine still_load_row rfl 79 (.tmp 9) rfl w1.heap.size rfl 79 (cellsOf s) (0, 0) _ (heap_alloc_last w1 _) Try.underlying79 rfl (sizeSec hs) ?_
  refine wpStill_nil ?_
  have hfr : MapIs (w1.alloc (.cells (cellsOf s) 79)).drew M N m.acted.fresh := hd.fresh.keep (((Only.refl [] _).alloc _).drew) (by simp)
  refine wpList_put rfl (.tmp 29) (.tmp 30) (.tmp 31) rfl hfr rfl rfl rfl hfit hN hs (fun w2 h1 h2 => ?_)
  go_wp2
  go_ret
  have ho2 : Only [M] w1 w2 := (((Only.refl _ _).alloc _).drew).mapTurned h2 (by simp)
  have hk2 := HK.out
  refine ⟨rfl, ⟨ho2.keep hd.cells (by simpa using hd.neb.symm), ho2.keep hd.lasts (by simpa using hd.neL.symm), by rw [m.acted_fresh] at h1; exact h1, hd.ne, ?_⟩, ?_⟩
  · have := hd.ok.put (k := k) (s := s) hk (by rw [m.acted_lasts]; exact hk2) hs
    rw [m.acted_fresh] at this
    exact this
  · exact (ho.mono (by simp)).trans_new (ho2.mono (T := [b, M]) (by simp)) (by simp)

/-- Write. -/
theorem write_any {w : World} {b L M N : Nat} {m : DM} (h : DiskIn w b L M N m) (hN : N < maxLen) (k : Int) (sa : Option Addr) (len cap : Nat) (s : Sec) (hs : s.length = 256)
    (hsrc : len = 256 → ∃ g of, sa = some ⟨g, of, none⟩ ∧ g ≠ b ∧ w.rangeAt g of (s.map bv)) :
    Calls Try.prog 25 #[.pointer (some ⟨b, 0, none⟩), .int .i64 k, .slice sa len cap] w (Wrote w b L M (N + 1) (m.writeN k len) (m.write k len s)) := by
  unfold DM.writeN DM.write
  by_cases hr : refN 0 m.lasts.length m.off k len = 0
  · rw [if_pos hr, if_pos hr]
    by_cases hl : m.left = 0
    · rw [if_pos hl, show m.actN = 9 by simp [DM.actN, hl]]
      exact (write_power h k sa len cap hr hl).mono fun e w' ⟨h1, h2, h3⟩ => ⟨h1, h2.mono (Nat.le_succ _), h3⟩
    · rw [if_neg hl, show m.actN = 0 by simp [DM.actN, hl]]
      have hlen : len = 256 := by
        unfold refN at hr
        by_cases e : len = 256
        · exact e
        · rw [if_pos ⟨rfl, by omega⟩] at hr; omega
      subst hlen
      obtain ⟨g, of, rfl, hg, hsr⟩ := hsrc rfl
      have hk : 0 ≤ k ∧ k < m.lasts.length := by
        unfold refN at hr
        rw [if_neg (by simp)] at hr
        by_cases e : k < 0 ∨ (m.lasts.length : Int) ≤ k
        · rw [if_pos ⟨by decide, e⟩] at hr; omega
        · omega
      exact write_done h hN k hk.1 hk.2 g of cap s hs hg hsr hr hl
  · rw [if_neg hr, if_neg hr]
    have := refN_bd 0 m.lasts.length m.off k len
    refine (write_refused h k sa len cap (by omega)).mono ?_
    rintro e w' ⟨rfl, rfl⟩
    exact ⟨rfl, h.mono (Nat.le_succ _), Only.refl _ _⟩

theorem write_nil (k : Int) (sa : Option Addr) (len cap : Nat) (w : World) : Calls Try.prog 25 #[.pointer none, .int .i64 k, .slice sa len cap] w fun e w' => e = .returned (errV 1) ∧ w = w' := by
  go_enter Try.func25, Try.ntmps25
  go_wp2_with (go_at_call 39; refine (refusal_nil _ _ _ _).mono ?_; rw [errV_pos (by decide)]; rintro e w' ⟨rfl, rfl⟩)
  go_ret
  exact ⟨rfl, rfl⟩

end Go.Proofs.Ytoiaikgpaobefaa
