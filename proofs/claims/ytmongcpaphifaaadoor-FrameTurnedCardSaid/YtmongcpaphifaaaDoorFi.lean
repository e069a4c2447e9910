/- Scan, walked: the document's. -/
import Derived.Test.YtmongcpaphifaaaDoorFh
namespace Go.Proofs.YtmongcpaphifaaaDoor
open Go.RowKit
set_option linter.unusedVariables false
set_option linter.unusedSimpArgs false

theorem cut_at (s : ByteArray) (a n : Nat) : bts (s.extract a (a + n)) = ((bts s).drop a).take n := by rw [bts_extract]; congr 1; omega
theorem cut_at2 (s : ByteArray) (a n k : Nat) : bts (s.extract (a + k) (a + k + n)) = (((bts s).drop a).drop k).take n := by rw [cut_at, List.drop_drop]

set_option maxRecDepth 100000 in
set_option maxHeartbeats 4000000 in
theorem scanR_calls (s : ByteArray) (hs : s.size ≤ 1000000) (w : World) :
    Calls Tryd.prog 17 #[.string s] w (Scanned (bts s) w) := by
  go_enter Tryd.func17, Tryd.ntmps17
  go_wp2_with fail
  go_loopw [4, 5] (fun v i wr => ∃ (l : List ByteArray) (at_ : Nat), at_ ≤ s.size ∧ i = iv at_ ∧ StrOwn w.heap.size v l wr ∧ Hid (at_ = (frames l).length) ∧ Hid (bts s = frames l ++ (bts s).drop at_) ∧ fits l ∧ Below w.heap.size w wr) (fun _ i _ => s.size - (intOf i).toNat)
  case atStart => exact ⟨[], 0, Nat.zero_le _, rfl, StrOwn.nil _ _, Lib.hid rfl, Lib.hid (by simp [frames]), fun t ht => by simp at ht, Below.refl _ _⟩
  case round =>
    obtain ⟨l, at_, hat, rfl, hown, hlen, hall, hfit, bb⟩ := hrel
    have sz := bb.size
    have hcount := frames_count l
    rw [← hlen.out] at hcount
    have zlen : ((bts s).drop at_).length = s.size - at_ := by rw [List.length_drop, bts_length]
    have e3 := cut_at s at_ 3
    by_cases hw : Whole ((bts s).drop at_)
    · obtain ⟨n, hd⟩ := whole_head hw
      obtain ⟨hfr, hrl⟩ := hd.frame
      have hmost := hd.most
      have hfl : at_ + 7 + n ≤ s.size := by have := hd.fit; have := hd.h7; omega
      have z3 := size_extract s at_ (at_ + 3) (by omega)
      have hr := read_calls (s.extract at_ (at_ + 3)) (by omega)
      rw [e3, hd.size] at hr
      have er : s.extract (at_ + 7) (at_ + 7 + n) = strOf ((((bts s).drop at_).drop 7).take n) := ba_ext (by rw [cut_at2, bts_strOf])
      have ef : s.extract at_ (at_ + 7 + n) = strOf (frm ((((bts s).drop at_).drop 7).take n)) := ba_ext (by
        rw [show at_ + 7 + n = at_ + (7 + n) by omega, cut_at, bts_strOf]
        conv => lhs; rw [hfr]
        exact List.take_left' (by rw [frm_length, hrl]; omega))
      generalize hR : (((bts s).drop at_).drop 7).take n = R at *
      have zR : (s.extract (at_ + 7) (at_ + 7 + n)).size ≤ 30000 := by rw [er, strOf_size]; omega
      have hfd := frameR_calls (s.extract (at_ + 7) (at_ + 7 + n)) zR
      rw [er, bts_strOf, ← er] at hfd
      have hq : ((s.extract at_ (at_ + 7 + n)).toList == (strOf (frm R)).toList) = true := by rw [ef]; exact beq_self_eq_true _
      have e1 : frames (l ++ [s.extract (at_ + 7) (at_ + 7 + n)]) = frames l ++ frm R := by rw [frames_append, er]; simp [frames, bts_strOf]
      have e2 : at_ + 7 + n = (frames (l ++ [s.extract (at_ + 7) (at_ + 7 + n)])).length := by rw [e1, List.length_append, frm_length, hrl, ← hlen.out]; omega
      have e4 : bts s = frames (l ++ [s.extract (at_ + 7) (at_ + 7 + n)]) ++ (bts s).drop (at_ + 7 + n) := by
        rw [e1, List.append_assoc]
        have h3 := hall.out
        have h4 := hfr
        rw [List.drop_drop, show at_ + (7 + n) = at_ + 7 + n by omega] at h4
        rw [← h4]; exact h3
      have e5 : fits (l ++ [s.extract (at_ + 7) (at_ + 7 + n)]) := fun t ht => by
        rcases List.mem_append.1 ht with h | h
        · exact hfit t h
        · rw [List.mem_singleton.1 h]; exact zR
      have E2 := Lib.hid e2
      have E4 := Lib.hid e4
      have E5 := Lib.hid e5
      have lcount : l.length ≤ 1000000 := by omega
      have q1 := sl_str s at_ (at_ + 3) at_ (at_ + 3) rfl rfl (by omega) (by omega)
      have q2 := sl_str s (at_ + 7) (at_ + 7 + n) (at_ + 7) (at_ + 7 + n) rfl rfl (by omega) (by omega)
      have q3 := sl_str s at_ (at_ + 7 + n) at_ (at_ + 7 + n) rfl rfl (by omega) (by omega)
      clear hw hd e1 e2 e3 e4 e5 er ef hfr hrl hR z3 zlen hfit
      go_wp2_with (go_at_call 31; refine (hr _).mono ?_; rintro e w' ⟨rfl, rfl⟩)
      (refine region_past (by kernel_rfl) (by kernel_rfl) ?_; (repeat (first | go_big_quiet_skip | (go_big_quiet_want; go_big_quiet_op; first | go_big_quiet_on | (apply Exists.intro; refine ⟨fun k => ?_, ?_⟩; (focus (first | (go_at_call 27; refine Past.calls (hfd _)))); go_big_quiet_on)))); refine wpQuiet_nil ?_; intro k)
      have own1 := hown.keep k.below
      have s1 := k.below.size
      have bb1 := below_then bb k.below
      obtain ⟨w1, b1⟩ := k
      dsimp only at own1 s1 bb1 ⊢
      go_wp2_with (first
        | (refine wpList_bs_str1 rfl _ rfl rfl ?_)
        | (at_builtin; refine wpList_app_str rfl _ _ rfl w.heap.size u4 l rfl own1 (s.extract (at_ + 7) (at_ + 7 + n)) rfl lcount (by omega) ?_))
      intro v' w3 own3 hg3 b3
      have bb3 := bb1.trans b3
      go_wp2_with fail
      go_roundw
      case rel => exact ⟨l ++ [s.extract (at_ + 7) (at_ + 7 + n)], at_ + 7 + n, by omega, by go_num, own3, E2, E4, E5.out, bb3⟩
      case measure => simp [intOf]; omega
    · obtain ⟨a, cap, hv, hin, hcp⟩ := hown.slice
      subst hv
      have fin : ∀ w1, Below wr.heap.size wr w1 → Scanned (bts s) w (.returned (.tuple #[.slice a l.length cap, iv at_])) w1 := fun w1 b1 =>
        ⟨a, cap, l, (bts s).drop at_, by rw [← hlen.out], ⟨hall.out, hfit, hw⟩, hin.below b1, below_then bb b1, hcp⟩
      by_cases h7 : at_ + 7 ≤ s.size
      · have z3 := size_extract s at_ (at_ + 3) (by omega)
        have hr := read_calls (s.extract at_ (at_ + 3)) (by omega)
        have hb := rdB_lt (((bts s).drop at_).take 3)
        rw [show (((bts s).drop at_).take 3).length = 3 by rw [List.length_take, zlen]; omega, p24] at hb
        rw [e3] at hr
        have q1 := sl_str s at_ (at_ + 3) at_ (at_ + 3) rfl rfl (by omega) (by omega)
        generalize hN : rdB (((bts s).drop at_).take 3) = N at *
        by_cases hN0 : N = 0
        · subst hN0
          have F := Lib.hid fin
          clear hw e3 z3 zlen hN hown hlen hall hfit fin
          go_wp2_with (go_at_call 31; refine (hr _).mono ?_; rintro e w' ⟨rfl, rfl⟩)
          go_ret2
          exact F.out _ (Below.refl _ _)
        · obtain ⟨n, rfl⟩ : ∃ n, N = n + 1 := ⟨N - 1, by omega⟩
          by_cases hm : n ≤ 30000
          · by_cases hf : at_ + 7 + n ≤ s.size
            · have zR : (s.extract (at_ + 7) (at_ + 7 + n)).size ≤ 30000 := by rw [size_extract _ _ _ hf]; omega
              have hfd := frameR_calls (s.extract (at_ + 7) (at_ + 7 + n)) zR
              have hne : s.extract at_ (at_ + 7 + n) ≠ strOf (frm (bts (s.extract (at_ + 7) (at_ + 7 + n)))) := fun hc => hw (by
                have h := congrArg bts hc
                rw [show at_ + 7 + n = at_ + (7 + n) by omega, cut_at, bts_strOf, show at_ + (7 + n) = at_ + 7 + n by omega, cut_at2] at h
                refine ⟨(((bts s).drop at_).drop 7).take n, ((bts s).drop at_).drop (7 + n), ?_, ?_⟩
                · rw [List.length_take]; omega
                · rw [← h, List.take_append_drop])
              have hq := toList_beq_ne hne
              have q2 := sl_str s (at_ + 7) (at_ + 7 + n) (at_ + 7) (at_ + 7 + n) rfl rfl (by omega) (by omega)
              have q3 := sl_str s at_ (at_ + 7 + n) at_ (at_ + 7 + n) rfl rfl (by omega) (by omega)
              have F := Lib.hid fin
              clear hw e3 z3 zlen hN hown hlen hall hfit fin hne
              go_wp2_with (go_at_call 31; refine (hr _).mono ?_; rintro e w' ⟨rfl, rfl⟩)
              (refine region_past (by kernel_rfl) (by kernel_rfl) ?_; (repeat (first | go_big_quiet_skip | (go_big_quiet_want; go_big_quiet_op; first | go_big_quiet_on | (apply Exists.intro; refine ⟨fun k => ?_, ?_⟩; (focus (first | (go_at_call 27; refine Past.calls (hfd _)))); go_big_quiet_on)))); refine wpQuiet_nil ?_; intro k)
              obtain ⟨w1, b1⟩ := k
              go_wp2_with fail
              go_ret2
              exact F.out _ b1
            · have hf' : s.size < at_ + 7 + n := by omega
              have F := Lib.hid fin
              clear hw e3 z3 zlen hN hown hlen hall hfit fin hf
              go_wp2_with (go_at_call 31; refine (hr _).mono ?_; rintro e w' ⟨rfl, rfl⟩)
              go_ret2
              exact F.out _ (Below.refl _ _)
          · have hm' : 30000 < n := by omega
            have F := Lib.hid fin
            clear hw e3 z3 zlen hN hown hlen hall hfit fin hm
            go_wp2_with (go_at_call 31; refine (hr _).mono ?_; rintro e w' ⟨rfl, rfl⟩)
            go_ret2
            exact F.out _ (Below.refl _ _)
      · have h7' : s.size < at_ + 7 := by omega
        have F := Lib.hid fin
        clear hw e3 zlen hown hlen hall hfit fin h7
        go_wp2_with fail
        go_ret2
        exact F.out _ (Below.refl _ _)
end Go.Proofs.YtmongcpaphifaaaDoor
