/- FrameBack: the walk. -/
import Derived.Test.YtmongcpaphifaaaDoorJoinsW
namespace Go.Proofs.YtmongcpaphifaaaDoor
open Go.RowKit
set_option linter.unusedVariables false
set_option linter.unusedSimpArgs false

theorem frames_cons (s : ByteArray) (l : List ByteArray) : frames (s :: l) = frm (bts s) ++ frames l := by simp [frames]
/-- Any bytes begin with some records. -/
theorem scan_ex : ∀ (n : Nat) (s : List UInt8), s.length ≤ n → ∃ l rest, IsScan s l rest
  | 0, s, h => ⟨[], s, by simp [frames], fun t ht => by simp at ht, by
      have e : s = [] := List.eq_nil_of_length_eq_zero (by omega)
      rw [e]; exact not_whole_nil⟩
  | n + 1, s, h => by
    by_cases hw : Whole s
    · obtain ⟨r, t, hr, rfl⟩ := hw
      rw [List.length_append, frm_length] at h
      obtain ⟨l, rest, hs⟩ := scan_ex n t (by omega)
      refine ⟨strOf r :: l, rest, ?_, fun s hm => ?_, hs.stop⟩
      · have e : frames (strOf r :: l) = frm r ++ frames l := by simp [frames, bts_strOf]
        rw [e, List.append_assoc, ← hs.all]
      · rcases List.mem_cons.1 hm with rfl | hm
        · rw [strOf_size]; exact hr
        · exact hs.fits s hm
    · exact ⟨[], s, by simp [frames], fun t ht => by simp at ht, hw⟩
/-- Behind records others may be told, but these are. -/
theorem scan_front {l m : List ByteArray} {t rest : List UInt8} (hf : fits l) (h : IsScan (frames l ++ t) m rest) : l.length ≤ m.length ∧ m.take l.length = l ∧ (frames l).length ≤ (frames m).length := by
  obtain ⟨m', rest', h'⟩ := scan_ex _ t (Nat.le_refl _)
  have hc : IsScan (frames l ++ t) (l ++ m') rest' := ⟨by rw [frames_append, List.append_assoc, ← h'.all], fun s hs => by
    rcases List.mem_append.1 hs with h1 | h1
    · exact hf s h1
    · exact h'.fits s h1, h'.stop⟩
  obtain ⟨rfl, _⟩ := scan_unique h hc
  refine ⟨by rw [List.length_append]; omega, List.take_left' rfl, by rw [frames_append, List.length_append]; omega⟩
/-- A beginning has the records whose frames are whole in it. -/
theorem scan_cut {l : List ByteArray} {c k : Nat} (hf : fits l) (hc : c ≤ (frames l).length) (hk : k ≤ l.length) (h1 : (frames (l.take k)).length ≤ c) (h2 : ∀ h : k < l.length, c < (frames (l.take (k + 1))).length) :
    IsScan ((frames l).take c) (l.take k) ((frames (l.drop k)).take (c - (frames (l.take k)).length)) := by
  refine ⟨?_, fits_take hf k, ?_⟩
  · have e : frames l = frames (l.take k) ++ frames (l.drop k) := by rw [← frames_append, List.take_append_drop]
    conv => lhs; rw [e]
    rw [List.take_append, List.take_of_length_le h1]
  · rintro ⟨r, t, hr, e⟩
    by_cases hkl : k < l.length
    · have h3 := h2 hkl
      rw [frames_take l k hkl, List.length_append, frm_length] at h3
      have e2 : frames (l.drop k) = frm (bts l[k]) ++ frames (l.drop (k + 1)) := by
        rw [List.drop_eq_getElem_cons hkl]; exact frames_cons _ _
      have e3 : frm r ++ (t ++ (frames (l.drop k)).drop (c - (frames (l.take k)).length)) = frm (bts l[k]) ++ frames (l.drop (k + 1)) := by
        rw [← e2, ← List.append_assoc, ← e, List.take_append_drop]
      obtain ⟨er, _⟩ := frm_inj hr (by rw [bts_length]; exact fits_get hf k hkl) e3
      have h4 := congrArg List.length e
      rw [List.length_take, List.length_append, frm_length, er] at h4
      omega
    · have e0 : l.drop k = [] := List.drop_eq_nil_of_le (by omega)
      rw [e0] at e
      have h4 := congrArg List.length e
      rw [List.length_take, List.length_append, frm_length] at h4
      have h5 : (frames []).length = 0 := rfl
      omega

set_option maxRecDepth 100000 in
set_option maxHeartbeats 4000000 in
theorem frameBack_walk (x : Addr) (a : Option Addr) (cap : Nat) (l : List ByteArray) (s : ByteArray) (n : Int) (w : World) (hx : Laid x w) (hl : StrsIn w a l) (hs : Small l) (hc : l.length ≤ cap) (hz : s.size ≤ maxLen) :
    Calls Tryd.prog 5 #[.slice a l.length cap, .string s, iv n] w fun e w' => e = .returned (.bool true) ∧ Below w.heap.size w w' := by
  unfold maxLen at hz
  have hf := few_calls a cap l 5000 w hl hs
  by_cases hb : fewB l 5000 = true
  · rw [hb] at hf
    obtain ⟨h1, h2, h3⟩ := fits_few hb (by omega)
    by_cases hs3 : 500 < s.size
    · have hs3' : 500 < (s.size : Int) := by omega
      go_enter Tryd.func5, Tryd.ntmps5
      go_wp2_with fail
      refine (hf).mono ?_; rintro e w' ⟨rfl, rfl⟩
      go_wp2_with fail
      refine (alive_calls x _ hx).mono ?_; rintro e w1 ⟨rfl, b1⟩
      go_wp2_with fail
      go_ret
      exact ⟨rfl, b1⟩
    · have hs3' : (s.size : Int) ≤ 500 := by omega
      have hfl := frames_flat l
      generalize hF : frames l = F at *
      have zF : (strOf F).size = F.length := strOf_size F
      have p1 := pack_calls a cap l w hl (by omega)
      rw [show packV l = .tuple #[.string (strOf (frames l)), .nilIface] from if_pos h2, hF] at p1
      obtain ⟨t1, t2⟩ := tmod_in n ((strOf F).size + 1) (by omega)
      obtain ⟨c, hk⟩ : ∃ k : Nat, (n.tmod (((strOf F).size : Int) + 1) + ((strOf F).size : Int) + 1) % (((strOf F).size : Int) + 1) = (k : Int) := ⟨((n.tmod (((strOf F).size : Int) + 1) + ((strOf F).size : Int) + 1) % (((strOf F).size : Int) + 1)).toNat, by
        have := Int.emod_nonneg (n.tmod (((strOf F).size : Int) + 1) + ((strOf F).size : Int) + 1) (show ((strOf F).size : Int) + 1 ≠ 0 by omega); omega⟩
      have hk2 : c ≤ (strOf F).size := by
        have := Int.emod_lt_of_pos (n.tmod (((strOf F).size : Int) + 1) + ((strOf F).size : Int) + 1) (show (0 : Int) < ((strOf F).size : Int) + 1 by omega); omega
      have zF2 : (strOf F).size ≤ 5700 := by omega
      have s1 := fun (w : World) (hx : Laid x w) => scan_calls x (strOf F) (by omega) w hx
      have eA : bts (strOf F ++ s) = F ++ bts s := by rw [bts_append, bts_strOf]
      have zA : (strOf F ++ s).size ≤ 1000000 := by rw [← bts_length, eA, List.length_append, bts_length]; omega
      have s2 := fun (w : World) (hx : Laid x w) => scan_calls x (strOf F ++ s) zA w hx
      have eC : bts ((strOf F).extract 0 c) = F.take c := by rw [bts_extract, bts_strOf]; simp
      have s3 := fun (w : World) (hx : Laid x w) => scan_calls x ((strOf F).extract 0 c) (by rw [size_extract _ _ _ hk2]; omega) w hx
      have hsc : IsScan (bts (strOf F)) l [] := by rw [bts_strOf, ← hF]; exact scan_frames l h2
      rw [bts_strOf] at s1 hsc
      rw [eA] at s2
      rw [eC] at s3
      have h1' : (l.length : Int) ≤ 100 := by omega
      have LN : Hid (((frames l).length : Int) = ((strOf F).size : Int)) := Lib.hid (by rw [zF, hF])
      have zF' : (strOf F).size ≤ F.length := by omega
      have zF'' : F.length ≤ (strOf F).size := by omega
      have FE := Lib.hid hF
      clear hb eA eC zA zF hF
      go_enter Tryd.func5, Tryd.ntmps5
      go_wp2_with fail
      refine (hf).mono ?_; rintro e w' ⟨rfl, rfl⟩
      go_wp2_with fail
      refine (p1).mono ?_; rintro e w1 ⟨rfl, b1⟩
      have l1 := hl.below b1
      have x1 := hx.below b1
      go_wp2_with fail
      refine (s1 _ x1).mono ?_; rintro e w2 ⟨a2, c2, m2, t2', rfl, hs2, in2, b2, cp2⟩
      obtain ⟨rfl, rfl⟩ := scan_unique hs2 hsc
      have l2 := l1.below b2
      have x2 := x1.below b2
      rw [LN.out]
      clear hs2
      go_wp2_with fail
      refine (s2 _ x2).mono ?_; rintro e w3 ⟨a3, c3, m3, t3, rfl, hs3, in3, b3, cp3⟩
      have l3 := l2.below b3
      have x3 := x2.below b3
      have in2' := in2.below b3
      rw [← FE.out] at hs3
      obtain ⟨f1, f2, f3⟩ := scan_front h2 hs3
      rw [FE.out] at f3
      have f1' : (m2.length : Int) ≤ (m3.length : Int) := by omega
      have f3' : ((strOf F).size : Int) ≤ ((frames m3).length : Int) := by omega
      have sm1 := same_calls a2 a c2 cap m2 m2 w3 in2' l3 hs.1 hs.1
      rw [same_self] at sm1
      have f4 : (m3.take m2.length).length = m2.length := by rw [f2]
      have sm2 := fun w (h1 : StrsIn w a3 m3) (h2 : StrsIn w a m2) => same_calls a3 a c3 cap (m3.take m2.length) m2 w (h1.take _) h2 (by rw [f4]; exact hs.1) hs.1
      rw [f4, f2, same_self] at sm2
      have q1 := sl_to a3 m3.length c3 m2.length m2.length rfl (by omega)
      clear f2 f4 hs3
      go_wp2_with fail
      refine (no_nil _).mono ?_; rintro e w' ⟨rfl, rfl⟩
      go_wp2_with fail
      refine (sm1).mono ?_; rintro e w4 ⟨rfl, b4⟩
      have l4 := l3.below b4
      have x4 := x3.below b4
      go_wp2_with fail
      refine (sm2 _ (in3.below b4) l4).mono ?_; rintro e w5 ⟨rfl, b5⟩
      have l5 := l4.below b5
      have x5 := x4.below b5
      have b05 : Below w.heap.size w w5 := below_then b1 (below_then b2 (below_then b3 (below_then b4 b5)))
      clear sm1 sm2 q1
      go_wp2_with fail
      refine (s3 _ x5).mono ?_; rintro e w6 ⟨a6, c6, m6, t6, rfl, hs6, in6, b6, cp6⟩
      have l6 := l5.below b6
      have x6 := x5.below b6
      have b06 := below_then b05 b6
      clear b1 b2 b3 b4 b5 b6 l1 l2 l3 l4 l5 x1 x2 x3 x4 x5 in2 in3 in2'
      go_wp2_with fail
      go_loop [15] (fun v => ∃ k : Nat, k ≤ m2.length ∧ v = iv k ∧ (frames (m2.take k)).length ≤ c) (fun v => m2.length - (intOf v).toNat)
      case atStart => exact ⟨0, Nat.zero_le _, rfl, by simp [frames]⟩
      case round =>
        obtain ⟨k, hk1, rfl, hk3⟩ := hrel
        have hcF : c ≤ (frames m2).length := by rw [FE.out]; omega
        by_cases hlt : k < m2.length
        · have hlt' : (k : Int) < (m2.length : Int) := by omega
          have tl2 : (m2.take (k + 1)).length = k + 1 := by rw [List.length_take]; omega
          have z := size_calls a cap (m2.take (k + 1)) w6 (l6.take _) (by omega)
          rw [show sizeI (m2.take (k + 1)) = (frames (m2.take (k + 1))).length from if_pos (fits_take h2 (k + 1)), tl2] at z
          have q := sl_to a m2.length cap (k + 1) (k + 1) rfl (by omega)
          by_cases hle : (frames (m2.take (k + 1))).length ≤ c
          · have hle' : ((frames (m2.take (k + 1))).length : Int) ≤ (c : Int) := by omega
            have LE := Lib.hid hle
            clear hle hs6
            go_wp2_with fail
            refine z.mono ?_; rintro e w' ⟨rfl, rfl⟩
            go_wp2_with fail
            go_round
            case rel => exact ⟨k + 1, by omega, by go_num, LE.out⟩
            case measure => simp [intOf]; omega
          · have hle' : (c : Int) < ((frames (m2.take (k + 1))).length : Int) := by omega
            have hcut := scan_cut (c := c) h2 hcF hk1 hk3 (fun _ => by omega)
            rw [FE.out] at hcut
            obtain ⟨rfl, rfl⟩ := scan_unique hs6 hcut
            have tl : (m2.take k).length = k := by rw [List.length_take]; omega
            have hm1 : (m2.take k).length ≤ 9223372036854775807 := by omega
            have sm := fun w (h1 : StrsIn w a6 (m2.take k)) (h2 : StrsIn w a m2) => same_calls a6 a c6 cap (m2.take k) (m2.take k) w h1 (h2.take k) hm1 hm1
            rw [same_self, tl] at sm
            have zz := fun w (h2 : StrsIn w a m2) => size_calls a cap (m2.take k) w (h2.take k) (by omega)
            rw [show sizeI (m2.take k) = (frames (m2.take k)).length from if_pos (fits_take h2 k), tl] at zz
            have q1 := sl_to a m2.length cap k k rfl (by omega)
            rw [tl]
            clear hs6 hcut hm1
            go_wp2_with fail
            refine z.mono ?_; rintro e w' ⟨rfl, rfl⟩
            go_wp2_with fail
            refine (sm _ in6 l6).mono ?_; rintro e w7 ⟨rfl, b7⟩
            have l7 := l6.below b7
            have x7 := x6.below b7
            go_wp2_with fail
            refine (zz _ l7).mono ?_; rintro e w' ⟨rfl, rfl⟩
            go_wp2_with fail
            refine (alive_calls x _ x7).mono ?_; rintro e w8 ⟨rfl, b8⟩
            go_wp2_with fail
            go_ret
            exact ⟨rfl, below_then b06 (below_then b7 b8)⟩
        · obtain rfl : k = m2.length := by omega
          have hcut := scan_cut (c := c) h2 hcF hk1 hk3 (fun h => by omega)
          rw [FE.out] at hcut
          generalize hkk : m2.length = k at *
          obtain ⟨rfl, rfl⟩ := scan_unique hs6 hcut
          have tl : (m2.take k).length = k := by rw [List.length_take]; omega
          have hm1 : (m2.take k).length ≤ 9223372036854775807 := by omega
          have sm := fun w (h1 : StrsIn w a6 (m2.take k)) (h2 : StrsIn w a m2) => same_calls a6 a c6 cap (m2.take k) (m2.take k) w h1 (h2.take k) hm1 hm1
          rw [same_self, tl] at sm
          have zz := fun w (h2 : StrsIn w a m2) => size_calls a cap (m2.take k) w (h2.take k) (by omega)
          rw [show sizeI (m2.take k) = (frames (m2.take k)).length from if_pos (fits_take h2 k), tl] at zz
          have q1 := sl_to a m2.length cap k k rfl (by omega)
          rw [tl]
          clear hs6 hcut hm1
          go_wp2_with fail
          refine (sm _ in6 l6).mono ?_; rintro e w7 ⟨rfl, b7⟩
          have l7 := l6.below b7
          have x7 := x6.below b7
          go_wp2_with fail
          refine (zz _ l7).mono ?_; rintro e w' ⟨rfl, rfl⟩
          go_wp2_with fail
          refine (alive_calls x _ x7).mono ?_; rintro e w8 ⟨rfl, b8⟩
          go_wp2_with fail
          go_ret
          exact ⟨rfl, below_then b06 (below_then b7 b8)⟩
  · rw [Bool.not_eq_true] at hb
    rw [hb] at hf
    go_enter Tryd.func5, Tryd.ntmps5
    go_wp2_with fail
    refine (hf).mono ?_; rintro e w' ⟨rfl, rfl⟩
    go_wp2_with fail
    refine (alive_calls x _ hx).mono ?_; rintro e w1 ⟨rfl, b1⟩
    go_wp2_with fail
    go_ret
    exact ⟨rfl, b1⟩
end Go.Proofs.YtmongcpaphifaaaDoor
