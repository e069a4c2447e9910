/- Scan, walked: the program's. -/
import Derived.Test.YtmongcpaphifaaaDoorFf
import Derived.Test.YtmongcpaphifaaaDoorCo
namespace Go.Proofs.YtmongcpaphifaaaDoor
open Go.RowKit
set_option linter.unusedVariables false
set_option linter.unusedSimpArgs false

set_option maxRecDepth 100000 in
theorem clone_calls (s : ByteArray) (hs : s.size ≤ 281474976710656) (w : World) :
    Calls Tryd.prog 30 #[.string s] w fun e w' => e = .returned (.string s) ∧ Below w.heap.size w w' := by
  go_enter Tryd.func30, Tryd.ntmps30
  go_wp2_with (go_at_call 39; refine (Tryd.stringslite_Clone s _ hs).mono ?_; rintro e w1 ⟨rfl, b1⟩)
  go_ret
  exact ⟨rfl, b1⟩

/-- What Scan answers. -/
def Scanned (s : List UInt8) (w : World) (e : Ending) (w' : World) : Prop :=
  ∃ (a : Option Addr) (cap : Nat) (l : List ByteArray) (rest : List UInt8), e = .returned (.tuple #[.slice a l.length cap, iv (frames l).length]) ∧ IsScan s l rest ∧ StrsIn w' a l ∧ Below w.heap.size w w' ∧ l.length ≤ cap

theorem frames_count (l : List ByteArray) : 7 * l.length ≤ (frames l).length := by
  induction l with
  | nil => simp
  | cons s l ih =>
    have e : frames (s :: l) = frm (bts s) ++ frames l := by simp [frames]
    rw [e, List.length_append, frm_length, List.length_cons]; omega

set_option maxRecDepth 100000 in
set_option maxHeartbeats 2000000 in
theorem scan_calls (x : Addr) (s : ByteArray) (hs : s.size ≤ 1000000) (w : World) (hx : Laid x w) :
    Calls Tryd.prog 16 #[.string s] w (Scanned (bts s) w) := by
  go_enter Tryd.func16, Tryd.ntmps16
  go_wp2_with fail
  go_loopw [4, 5] (fun v i wr => ∃ (l : List ByteArray) (at_ : Nat), at_ ≤ s.size ∧ i = iv at_ ∧ StrOwn w.heap.size v l wr ∧ Hid (at_ = (frames l).length) ∧ bts s = frames l ++ (bts s).drop at_ ∧ fits l ∧ Below w.heap.size w wr) (fun _ i _ => s.size - (intOf i).toNat)
  case atStart => exact ⟨[], 0, Nat.zero_le _, rfl, StrOwn.nil _ _, Lib.hid rfl, by simp [frames], fun t ht => by simp at ht, Below.refl _ _⟩
  case round =>
    obtain ⟨l, at_, hat, rfl, hown, hlen, hall, hfit, bb⟩ := hrel
    have hall2 := Lib.hid hall
    clear hall
    have ed : bts (s.extract at_ s.size) = (bts s).drop at_ := by
      rw [bts_extract, ← bts_length]
      exact List.take_of_length_le (by rw [List.length_drop]; exact Nat.le_refl _)
    have zd := size_extract s at_ s.size (Nat.le_refl _)
    have sz := bb.size
    have hxr := hx.below bb
    have hcount := frames_count l
    rw [← hlen.out] at hcount
    by_cases hw : Whole ((bts s).drop at_)
    · obtain ⟨n, hd⟩ := whole_head hw
      obtain ⟨hfr, hrl⟩ := hd.frame
      have hfl : 7 + n ≤ s.size - at_ := by have := hd.fit; rw [List.length_drop, bts_length] at this; exact this
      have hmost := hd.most
      have hf := first_yes (s.extract at_ s.size) n (by rw [ed]; exact hd) (by omega) wr
      rw [ed] at hf
      generalize hR : (((bts s).drop at_).drop 7).take n = R at *
      have zR : (strOf R).size = n := by rw [strOf_size, hrl]
      have zR' : (strOf R).size ≤ 30000 := by omega
      have hxn : Laid x wr := hxr
      clear hw hd zd ed
      go_wp2_with fail
      refine hf.mono ?_; rintro e w1 ⟨rfl, b1⟩
      have x1 : w1.cell? ⟨0, 0, none⟩ = some (errP x) := hxr.below b1
      have own1 := hown.keep b1
      have s1 := b1.size
      have bb1 := below_then bb b1
      clear hf
      have hfr2 := Lib.hid hfr
      clear hfr
      go_wp2_with (first
        | (go_at_call 29; refine (is_nil x _).mono ?_; rintro e w' ⟨rfl, rfl⟩)
        | (go_at_call 30; refine (clone_calls (strOf R) (by omega) _).mono ?_; rintro e w2 ⟨rfl, b2⟩; have own2 := own1.keep b2; have s2 := b2.size; have lcount : l.length ≤ 1000000 := by omega)
        | (refine wpList_bs_str1 rfl _ rfl rfl ?_)
        | (at_builtin; refine wpList_app_str rfl _ _ rfl w.heap.size u4 l rfl own2 (strOf R) rfl lcount (by omega) ?_))
      have bb2 := below_then bb1 b2
      intro v' w3 own3 hg3 b3
      have bb3 := bb2.trans b3
      have e1 : frames (l ++ [strOf R]) = frames l ++ frm R := by rw [frames_append]; simp [frames, bts_strOf]
      have e2 : at_ + (7 + n) = (frames (l ++ [strOf R])).length := by rw [e1, List.length_append, frm_length, hrl, ← hlen.out]; omega
      have e3 : bts s = frames (l ++ [strOf R]) ++ (bts s).drop (at_ + (7 + n)) := by
        rw [e1, List.append_assoc]
        have h3 := hall2.out
        have h4 := hfr2.out
        rw [List.drop_drop] at h4
        rw [← h4]; exact h3
      have e4 : fits (l ++ [strOf R]) := fun t ht => by
        rcases List.mem_append.1 ht with h | h
        · exact hfit t h
        · rw [List.mem_singleton.1 h]; exact zR'
      have E2 := Lib.hid e2
      have E3 := Lib.hid e3
      have E4 := Lib.hid e4
      clear e1 e2 e3 e4
      go_wp2_with fail
      go_roundw
      case rel => exact ⟨l ++ [strOf R], at_ + (7 + n), by omega, by go_num, own3, E2, E3.out, E4.out, bb3⟩
      case measure => simp [intOf]; omega
    · have hf := first_no (s.extract at_ s.size) (by rw [ed]; exact hw) (by omega) wr
      obtain ⟨a, cap, hv, hin, hcp⟩ := hown.slice
      subst hv
      clear zd ed
      go_wp2_with fail
      refine hf.mono ?_; rintro e w1 ⟨t, rfl, b1⟩
      have x1 : w1.cell? ⟨0, 0, none⟩ = some (errP x) := hxr.below b1
      have i1 := hin.below b1
      clear hf
      go_wp2_with (go_at_call 29; refine (is_flaw x t _ x1).mono ?_; rintro e w' ⟨rfl, rfl⟩)
      go_ret2
      exact ⟨a, cap, l, (bts s).drop at_, by rw [← hlen.out]; rfl, ⟨hall2.out, hfit, hw⟩, i1, below_then bb b1, hcp⟩
end Go.Proofs.YtmongcpaphifaaaDoor
