/- The document's May, Lines and Fold. -/
import Derived.Test.YtddjfeofmihgdaaDoorUf
import Derived.Test.YtddjfeofmihgdaaDoorCq
import Derived.StillTailTactics
import Derived.BigRegion
namespace Go.Proofs.YtddjfeofmihgdaaDoor
open Go.RowKit
set_option linter.unusedVariables false
set_option linter.unusedSimpArgs false

theorem hasEnd_take (s : ByteArray) (k : Nat) (h : k < s.size) : hasEnd ((bts s).take (k + 1)) = (hasEnd ((bts s).take k) || (s[k] == 10 || s[k] == 13)) := by
  rw [bts_take s k h]; unfold hasEnd; simp
theorem hasEnd_hit (s : ByteArray) (k : Nat) (h : k < s.size) (hc : s[k] = 10 ∨ s[k] = 13) : hasEnd (bts s) = true := by
  unfold hasEnd
  rw [List.any_eq_true]
  refine ⟨s[k], ?_, ?_⟩
  · rw [← bts_get s k h]; exact List.getElem_mem _
  · rcases hc with e | e
    · rw [e]; rfl
    · rw [e]; rfl
set_option maxRecDepth 100000 in
set_option maxHeartbeats 1000000 in
theorem mayR_calls (s : ByteArray) (hs : s.size ≤ 1000000) (w : World) :
    Calls Tryd.prog 19 #[.string s] w fun e w' => e = .returned (.int .i64 (mayN (bts s))) ∧ w = w' := by
  by_cases h1 : 5000 < s.size
  · have e1 : (5000 : Int) < (s.size : Int) := by omega
    rw [show mayN (bts s) = 4 by unfold mayN; rw [if_pos (by rw [bts_length]; exact h1)]]
    go_enter Tryd.func19, Tryd.ntmps19
    go_wp2_with fail
    go_ret
    exact ⟨rfl, rfl⟩
  · have e1 : ¬ (5000 : Int) < (s.size : Int) := by omega
    have HM := Lib.hid (show mayN (bts s) = if hasEnd (bts s) = true ∨ bts s = [] ∨ goesOn (bts s) = true then 11 else 0 by unfold mayN; rw [if_neg (by rw [bts_length]; exact h1)])
    clear h1
    go_enter Tryd.func19, Tryd.ntmps19
    go_wp2_with fail
    go_loop [3] (fun i => ∃ k : Nat, k ≤ s.size ∧ i = iv k ∧ Hid (hasEnd ((bts s).take k) = false)) (fun i => s.size - (intOf i).toNat)
    case atStart => exact ⟨0, Nat.zero_le _, rfl, Lib.hid rfl⟩
    case round =>
      obtain ⟨k, hk, rfl, HE⟩ := hrel
      by_cases hlt : k < s.size
      · have HT := Lib.hid (hasEnd_take s k hlt)
        have HH := Lib.hid (hasEnd_hit s k hlt)
        generalize hc : s[k] = c at *
        by_cases h10 : c = 10
        · have HQ := Lib.hid (HH.out (.inl h10))
          clear HH
          subst h10
          go_wp2_with fail
          go_ret
          exact ⟨by rw [HM.out, if_pos (.inl HQ.out)]; rfl, rfl⟩
        · have f10 : ((c.toNat : Int) == 10) = false := u8f (d := 10) h10
          by_cases h13 : c = 13
          · have HQ := Lib.hid (HH.out (.inr h13))
            clear HH
            subst h13
            go_wp2_with fail
            go_ret
            exact ⟨by rw [HM.out, if_pos (.inl HQ.out)]; rfl, rfl⟩
          · have f13 : ((c.toNat : Int) == 13) = false := u8f (d := 13) h13
            have HF : Hid (hasEnd ((bts s).take (k + 1)) = false) := Lib.hid (by rw [HT.out, HE.out]; simp [h10, h13])
            clear h10 h13 HT HH
            go_wp2_with fail
            go_round
            case rel => exact ⟨k + 1, by omega, by go_num, HF⟩
            case measure => simp [intOf]; omega
      · obtain rfl : k = s.size := by omega
        have e : (bts s).take s.size = bts s := List.take_of_length_le (by rw [bts_length]; exact Nat.le_refl _)
        rw [e] at HE
        clear e
        have HM2 : Hid (mayN (bts s) = if bts s = [] ∨ goesOn (bts s) = true then 11 else 0) := Lib.hid (by rw [HM.out, HE.out]; simp)
        clear HM HE
        by_cases h0 : 0 < s.size
        · have hne : bts s ≠ [] := by intro e; have := congrArg List.length e; rw [bts_length, List.length_nil] at this; omega
          have en := isEmpty_no hne
          have hb : bts s = s[0] :: (bts s).drop 1 := by
            have := List.drop_eq_getElem_cons (l := bts s) (i := 0) (by rw [bts_length]; exact h0)
            rw [List.drop_zero] at this; exact this
          have HB := Lib.hid (show mayN (bts s) = if (s[0] == 32 || s[0] == 9) = true then 11 else 0 by
            rw [HM2.out, show goesOn (bts s) = (s[0] == 32 || s[0] == 9) by rw [hb]; rfl]
            simp only [hne, false_or])
          clear hb HM2 hne
          generalize hc : s[0] = c at *
          by_cases h32 : c = 32
          · subst h32
            go_wp2_with fail
            go_ret
            exact ⟨by rw [HB.out]; rfl, rfl⟩
          · have f32 : ((c.toNat : Int) == 32) = false := u8f (d := 32) h32
            by_cases h9 : c = 9
            · subst h9
              go_wp2_with fail
              go_ret
              exact ⟨by rw [HB.out]; rfl, rfl⟩
            · have f9 : ((c.toNat : Int) == 9) = false := u8f (d := 9) h9
              have E := Lib.hid (show (c == 32 || c == 9) = false by simp [h32, h9])
              clear h32 h9
              go_wp2_with fail
              go_ret
              exact ⟨by rw [HB.out, E.out]; rfl, rfl⟩
        · obtain rfl := size_zero (s := s) (by omega)
          go_wp2_with fail
          go_ret
          exact ⟨by rw [HM2.out]; rfl, rfl⟩

set_option maxRecDepth 100000 in
set_option maxHeartbeats 2000000 in
theorem linesR_calls (x : Addr) (m : Int) (s : ByteArray) (hs : s.size ≤ 500000) (w : World) (hg : Glob x m w) :
    Calls Tryd.prog 24 #[.string s] w fun e w' => ∃ v, e = .returned v ∧ StrOwn w.heap.size v ((lines (bts s)).map strOf) w' ∧ Below w.heap.size w w' := by
  have H1 := Lib.hid (strOwn_one w ⟨#[]⟩)
  have HG := Lib.hid hg
  clear hg
  go_enter Tryd.func24, Tryd.ntmps24
  go_wp2_with (refine wpList_bs_str1 rfl _ rfl rfl ?_)
  go_loopg [0, 3] s.size (fun g v0 v3 wr => ∃ (t : ByteArray) (done : List BL) (cur : BL), t.size = g ∧ v0 = .string t ∧ t.size ≤ s.size ∧ cur.length ≤ 75 ∧ done.length + t.size ≤ s.size ∧ Hid (StrOwn w.heap.size v3 ((done ++ [cur]).map strOf) wr ∧ Below w.heap.size w wr ∧ done ++ lns (bts t) cur = lines (bts s)))
  case atStart => exact ⟨s, [], [], rfl, rfl, Nat.le_refl _, by simp, by simp, Lib.hid ⟨H1.out, below_alloc _ _, rfl⟩⟩
  case round =>
    obtain ⟨t, done, cur, htg, rfl, hts, hcur, hdone, HR⟩ := hrel
    clear H1
    cases gk with
    | zero =>
      obtain rfl := size_zero htg
      go_wp2_with fail
      go_ret
      have e := HR.out.2.2
      rw [show bts ⟨#[]⟩ = [] from rfl, lns_nil] at e
      exact ⟨_, rfl, by rw [← e]; exact HR.out.1, HR.out.2.1⟩
    | succ g =>
      have hne := ne_nil_of_size htg
      have en := isEmpty_no hne
      have hwp := wid_pos (bts t)
      have hw4 := wid_4 (bts t)
      have hwl : wid (bts t) ≤ t.size := by rw [← bts_length]; exact wid_le _ hne
      have HT := Lib.hid (bts_to t (wid (bts t)))
      have HFr := Lib.hid (bts_from t (wid (bts t)))
      have HD := Lib.hid (dec_calls t wr hne (HG.out.below HR.out.2.1).tabs)
      have HN := Lib.hid (lns_new (bts t) cur hne)
      have HO := Lib.hid (lns_old (bts t) cur hne)
      have HK := Lib.hid (take_wid_length (bts t) hne)
      clear hne
      generalize wid (bts t) = n at *
      have hl : (bts (t.extract n t.size)).length = t.size - n := by rw [HFr.out, List.length_drop, bts_length]
      rw [bts_length] at hl
      have hsh : ((done ++ [cur]).map strOf).length = done.length + 1 := by simp
      have sz := HR.out.2.1.size
      obtain ⟨g0, cap, rfl, hg0⟩ := HR.out.1.shape (by simp)
      rw [hsh] at HR ⊢
      have hcs : (strOf cur).size = cur.length := strOf_size cur
      have hex : (t.extract 0 n).size = n := by rw [← bts_length, HT.out]; exact HK.out
      have HE := Lib.hid (ba_ext (s := t.extract 0 n) (t := strOf ((bts t).take n)) (by rw [HT.out]; rfl))
      by_cases hw : 75 < cur.length + n
      · have hgt : (75 : Int) < (cur.length : Int) + n := by omega
        have HL := Lib.hid (HN.out hw)
        clear HN HO hw
        go_wp2_with fail
        go_wp2_with fail
        refine (HD.out).mono ?_; rintro e w1 ⟨rfl, b1⟩
        have B1 := Lib.hid (HR.out.2.1.trans (b1.mono sz))
        have O1 := Lib.hid (HR.out.1.keep b1)
        clear b1
        have sz1 := B1.out.size
        obtain ⟨cc, fz⟩ := O1.out.at_ hsh done.length (by rw [hsh]; omega)
        rw [at_last] at cc
        go_wp2_with (first
          | (refine wpList_bs_str1 rfl _ rfl rfl ?_; generalize hv : Value.slice (some ⟨g0, 0, none⟩) (done.length + 1) cap = V)
          | (at_builtin; refine wpList_app_str rfl _ _ rfl w.heap.size V ((done ++ [cur]).map strOf) rfl (by rw [← hv]; exact O1.out) ⟨#[32]⟩ rfl (by rw [hsh]; omega) sz1 ?_))
        intro v' w3 own3 hg3 b3
        have own4 : StrOwn w.heap.size v' (((done ++ [cur]) ++ [[32]]).map strOf) w3 := by
          have e : (((done ++ [cur]) ++ [[32]]).map strOf) = done.map strOf ++ [strOf cur, ⟨#[32]⟩] := by simp; rfl
          rw [e]; exact own3
        clear own3 hg3
        have B3 := Lib.hid (B1.out.trans b3)
        clear b3
        have sz3 := B3.out.size
        have hsh2 : (((done ++ [cur]) ++ [[32]]).map strOf).length = done.length + 2 := by simp
        obtain ⟨g1, cap1, rfl, hg1⟩ := own4.shape (by simp)
        rw [hsh2] at own4 ⊢
        have O3 := Lib.hid own4
        clear own4
        subst hv
        clear cc fz
        have bd : Below w.heap.size w ({ w3 with drawn := w3.drawn + 1 } : World) := below_draws B3.out 1
        have od : StrOwn w.heap.size (.slice (some ⟨g1, 0, none⟩) (done.length + 2) cap1) ((done ++ [cur] ++ [[32]]).map strOf) ({ w3 with drawn := w3.drawn + 1 } : World) := O3.out.keep (below_draws (Below.refl _ w3) 1)
        have szd : w.heap.size ≤ ({ w3 with drawn := w3.drawn + 1 } : World).heap.size := bd.size
        generalize hwd : ({ w3 with drawn := w3.drawn + 1 } : World) = wd at *
        obtain ⟨ccd, fzd⟩ := od.at_ hsh2 (done.length + 1) (by rw [hsh2]; omega)
        have ecd : ((done ++ [cur] ++ [[32]]).map strOf)[done.length + 1]'(by rw [hsh2]; omega) = strOf ([32]) := by simp
        rw [ecd] at ccd
        have ST : Hid (StrOwn w.heap.size (.slice (some ⟨g1, 0, none⟩) (done.length + 2) cap1) ((done ++ [cur] ++ [[32] ++ (bts t).take n]).map strOf) (wd.setCell ⟨g1, done.length + 1, none⟩ (.string (strOf ([32]) ++ t.extract 0 n))) ∧ Below w.heap.size w (wd.setCell ⟨g1, done.length + 1, none⟩ (.string (strOf ([32]) ++ t.extract 0 n)))) := Lib.hid (by
          rw [HE.out, strOf_append]
          obtain ⟨o2, gr⟩ := od.put hsh2 (done.length + 1) (strOf ([32] ++ (bts t).take n))
          have e2 : ((done ++ [cur] ++ [[32]]).map strOf).set (done.length + 1) (strOf ([32] ++ (bts t).take n)) = (done ++ [cur] ++ [[32] ++ (bts t).take n]).map strOf := by
            rw [List.map_append, List.set_append_right _ _ (by simp)]; simp
          rw [e2] at o2
          exact ⟨o2, below_grown bd szd gr (by simp; omega)⟩)
        have zs1 : ¬ 9223372036854775807 < (strOf ([32])).size + n := by rw [strOf_size]; simp; omega
        have zs2 : ¬ 9223372036854775807 < List.length ([32]) + n := by simp; omega
        have hng : (n : Int) ≤ (g : Int) + 1 := by omega
        have lp0 : (0 : Int) ≤ (done.length : Int) + 1 := by omega
        have lp1 : (done.length : Int) < (done.length : Int) + 1 := by omega
        have lp2 : (done.length : Int) + 1 < (done.length : Int) + 2 := by omega
        clear bd od ecd
        go_wp2_with fail
        refine wp_region_still_tail 11 (by kernel_rfl) (by kernel_rfl) ?_
        simp only [List.take_succ_cons, List.take_zero, List.drop_succ_cons, List.drop_zero]
        rw [hwd]
        still_step
        still_step
        still_step
        still_step
        still_step
        still_step
        still_step
        still_step
        still_step
        still_step
        still_step
        refine wpStill_nil ?_
        go_wp2_with fail
        go_roundg (g + 1 - n)
        case measure => omega
        case rel =>
          refine ⟨t.extract n t.size, done ++ [cur], [32] ++ (bts t).take n, by rw [hl]; omega, by rw [htg], by rw [hl]; omega, by rw [List.length_append, HK.out]; first | omega | (simp; omega), by rw [hl]; first | omega | (simp; omega), Lib.hid ⟨ST.out.1, ST.out.2, ?_⟩⟩
          rw [HFr.out, ← HR.out.2.2, HL.out]
          try simp
      · have hgt : ¬ (75 : Int) < (cur.length : Int) + n := by omega
        have HL := Lib.hid (HO.out hw)
        clear HN HO hw
        go_wp2_with fail
        go_wp2_with fail
        refine (HD.out).mono ?_; rintro e w1 ⟨rfl, b1⟩
        have B1 := Lib.hid (HR.out.2.1.trans (b1.mono sz))
        have O1 := Lib.hid (HR.out.1.keep b1)
        clear b1
        have sz1 := B1.out.size
        obtain ⟨cc, fz⟩ := O1.out.at_ hsh done.length (by rw [hsh]; omega)
        rw [at_last] at cc
        have bd : Below w.heap.size w ({ w1 with drawn := w1.drawn + 1 } : World) := below_draws B1.out 1
        have od : StrOwn w.heap.size (.slice (some ⟨g0, 0, none⟩) (done.length + 1) cap) ((done ++ [cur]).map strOf) ({ w1 with drawn := w1.drawn + 1 } : World) := O1.out.keep (below_draws (Below.refl _ w1) 1)
        have szd : w.heap.size ≤ ({ w1 with drawn := w1.drawn + 1 } : World).heap.size := bd.size
        generalize hwd : ({ w1 with drawn := w1.drawn + 1 } : World) = wd at *
        obtain ⟨ccd, fzd⟩ := od.at_ hsh (done.length) (by rw [hsh]; omega)
        have ecd : ((done ++ [cur]).map strOf)[done.length]'(by rw [hsh]; omega) = strOf (cur) := by simp
        rw [ecd] at ccd
        have ST : Hid (StrOwn w.heap.size (.slice (some ⟨g0, 0, none⟩) (done.length + 1) cap) ((done ++ [cur ++ (bts t).take n]).map strOf) (wd.setCell ⟨g0, done.length, none⟩ (.string (strOf (cur) ++ t.extract 0 n))) ∧ Below w.heap.size w (wd.setCell ⟨g0, done.length, none⟩ (.string (strOf (cur) ++ t.extract 0 n)))) := Lib.hid (by
          rw [HE.out, strOf_append]
          obtain ⟨o2, gr⟩ := od.put hsh (done.length) (strOf (cur ++ (bts t).take n))
          have e2 : ((done ++ [cur]).map strOf).set (done.length) (strOf (cur ++ (bts t).take n)) = (done ++ [cur ++ (bts t).take n]).map strOf := by
            rw [List.map_append, List.set_append_right _ _ (by simp)]; simp
          rw [e2] at o2
          exact ⟨o2, below_grown bd szd gr (by simp; omega)⟩)
        have zs1 : ¬ 9223372036854775807 < (strOf (cur)).size + n := by rw [strOf_size]; simp; omega
        have zs2 : ¬ 9223372036854775807 < List.length (cur) + n := by simp; omega
        have hng : (n : Int) ≤ (g : Int) + 1 := by omega
        have lp0 : (0 : Int) ≤ (done.length : Int) + 1 := by omega
        have lp1 : (done.length : Int) < (done.length : Int) + 1 := by omega
        have lp2 : (done.length : Int) + 1 < (done.length : Int) + 2 := by omega
        clear bd od ecd
        go_wp2_with fail
        refine wp_region_still_tail 11 (by kernel_rfl) (by kernel_rfl) ?_
        simp only [List.take_succ_cons, List.take_zero, List.drop_succ_cons, List.drop_zero]
        rw [hwd]
        still_step
        still_step
        still_step
        still_step
        still_step
        still_step
        still_step
        still_step
        still_step
        still_step
        still_step
        refine wpStill_nil ?_
        go_wp2_with fail
        go_roundg (g + 1 - n)
        case measure => omega
        case rel =>
          refine ⟨t.extract n t.size, done, cur ++ (bts t).take n, by rw [hl]; omega, by rw [htg], by rw [hl]; omega, by rw [List.length_append, HK.out]; first | omega | (simp; omega), by rw [hl]; first | omega | (simp; omega), Lib.hid ⟨ST.out.1, ST.out.2, ?_⟩⟩
          rw [HFr.out, ← HR.out.2.2, HL.out]
          try simp

theorem lns_count (s : BL) : ∀ cur : BL, (lns s cur).length ≤ s.length + 1 := by
  refine bl_ind (M := fun s => ∀ cur : BL, (lns s cur).length ≤ s.length + 1) ?_ ?_ s
  · intro cur; rw [lns_nil]; simp
  · intro s he ih cur
    have hp := wid_pos s
    have hl := wid_le s he
    by_cases hw : 75 < cur.length + wid s
    · have := ih (32 :: s.take (wid s))
      rw [lns_new s cur he hw, List.length_cons]
      rw [List.length_drop] at this; omega
    · have := ih (cur ++ s.take (wid s))
      rw [lns_old s cur he hw]
      rw [List.length_drop] at this; omega
theorem ends_take (ls : List BL) (k : Nat) (h : k < ls.length) : ends (ls.take (k + 1)) = ends (ls.take k) ++ (ls[k] ++ [13, 10]) := by
  rw [take_snoc ls k h, ends_append, ends_cons, ends_nil]
theorem ends_take_le (ls : List BL) (k : Nat) : (ends (ls.take k)).length ≤ (ends ls).length := by
  have h := congrArg List.length (ends_append (ls.take k) (ls.drop k))
  rw [List.take_append_drop, List.length_append] at h
  omega
set_option maxRecDepth 100000 in
set_option maxHeartbeats 2000000 in
theorem foldR_calls (x : Addr) (m : Int) (a : Option Addr) (cap : Nat) (l : List ByteArray) (w : World) (hg : Glob x m w) (hin : StrsIn w a l) (hl : l.length ≤ 1000) (hs : ∀ s ∈ l, s.size ≤ 100000) :
    Calls Tryd.prog 12 #[.slice a l.length cap] w fun e w' => e = .returned (.tuple #[.string (strOf (foldV (l.map bts))), .int .i64 (foldN (l.map bts) 1).2, .int .i64 (foldN (l.map bts) 1).1]) ∧ Below w.heap.size w w' := by
  have HG := Lib.hid hg
  have HS := Lib.hid hs
  have HI := Lib.hid hin
  clear hg hs hin
  go_enter Tryd.func12, Tryd.ntmps12
  go_wp2_with fail
  go_loopw [5, 6] (fun v i wr => ∃ k : Nat, k ≤ l.length ∧ i = iv k ∧ v = .string (strOf (foldT ((l.take k).map bts))) ∧ Hid (Below w.heap.size w wr ∧ (foldN ((l.take k).map bts) 1).2 = 0)) (fun _ i _ => l.length - (intOf i).toNat)
  case atStart => exact ⟨0, Nat.zero_le _, rfl, rfl, Lib.hid ⟨Below.refl _ _, rfl⟩⟩
  case round =>
    obtain ⟨k, hk, rfl, rfl, HR⟩ := hrel
    have sz := HR.out.1.size
    by_cases hlt : k < l.length
    · obtain ⟨b, off, rfl, hat⟩ := (HI.out.below HR.out.1).form hlt
      have hc := hat k hlt
      have hz : l[k].size ≤ 100000 := HS.out _ (List.getElem_mem hlt)
      have HT := Lib.hid (foldT_take l k hlt)
      have HD : Hid (l.map bts = (l.take k).map bts ++ bts l[k] :: (l.drop (k + 1)).map bts) := Lib.hid (by
        rw [← List.map_cons, ← List.drop_eq_getElem_cons hlt, ← List.map_append, List.take_append_drop])
      have hK : (foldT ((l.take k).map bts)).length ≤ 4000002 * 1000 := Nat.le_trans (foldT_len (l.take k) (fun s h => Nat.le_trans (HS.out s (List.mem_of_mem_take h)) (by omega))) (Nat.mul_le_mul_left _ (by rw [List.length_take]; omega))
      have HN : Hid ((foldN ((l.take (k + 1)).map bts) 1).2 = if mayN (bts l[k]) = 0 then 0 else mayN (bts l[k])) := Lib.hid (by
        rw [take_snoc l k hlt, List.map_append, foldN_snoc _ _ _ HR.out.2, List.map_cons, List.map_nil, foldN]
        split
        · rfl
        · rfl)
      clear hat
      generalize hsk : l[k] = s at *
      have HM := Lib.hid (fun w => mayR_calls s (by omega) w)
      rcases mayN_range (bts s) with h0 | h4
      · have HLn := Lib.hid (fun w2 (hb : Below w.heap.size w w2) => linesR_calls x m s (by omega) w2 (HG.out.below hb))
        have hE := lines_total (bts s)
        have hC : (lines (bts s)).length ≤ (bts s).length + 1 := lns_count (bts s) []
        rw [bts_length] at hE hC
        rw [h0] at HN HM
        clear hsk h0
        generalize foldT ((l.take k).map bts) = T at *
        have B0 := Lib.hid HR.out.1
        clear HR
        go_wp2_with fail
        go_wp2_with fail
        refine (HM.out _).mono ?_; rintro e w2 ⟨rfl, rfl⟩
        have HL2 := Lib.hid (HLn.out _ B0.out)
        go_wp2_with (go_at_call 24; refine HL2.out.mono ?_)
        rintro e w3 ⟨v, rfl, own, b3⟩
        have B3 := Lib.hid (B0.out.trans (b3.mono sz))
        clear b3
        obtain ⟨la, lc, rfl, hin3, hlc⟩ := own.slice
        have HI3 := Lib.hid hin3
        clear own hin3
        rw [List.length_map]
        go_wp2_with fail
        go_loopw [5, 9] (fun v i wr => ∃ j : Nat, j ≤ (lines (bts s)).length ∧ i = iv j ∧ v = .string (strOf (T ++ ends ((lines (bts s)).take j))) ∧ w3 = wr) (fun _ i _ => (lines (bts s)).length - (intOf i).toNat)
        case atStart => exact ⟨0, Nat.zero_le _, rfl, by simp [ends_nil], rfl⟩
        case round =>
          obtain ⟨j, hj, rfl, rfl, rfl⟩ := hrel
          by_cases hjl : j < (lines (bts s)).length
          · obtain ⟨b2, off2, rfl, hat2⟩ := HI3.out.form (k := j) (by rw [List.length_map]; exact hjl)
            have hc2 := hat2 j (by rw [List.length_map]; exact hjl)
            rw [List.getElem_map] at hc2
            have HE2 := Lib.hid (ends_take (lines (bts s)) j hjl)
            have le := ends_take_le (lines (bts s)) j
            have le2 := ends_take_le (lines (bts s)) (j + 1)
            have hll : ((lines (bts s))[j]).length ≤ 75 := lns_len _ _ (by simp) _ (List.getElem_mem hjl)
            clear hat2
            have z1 : ¬ 9223372036854775807 < (strOf (T ++ ends ((lines (bts s)).take j))).size + (strOf (lines (bts s))[j]).size := by rw [strOf_size, strOf_size, List.length_append]; omega
            have z2 : ¬ 9223372036854775807 < (strOf (T ++ ends ((lines (bts s)).take j)) ++ strOf (lines (bts s))[j]).size + (⟨#[13, 10]⟩ : ByteArray).size := by rw [strOf_append, strOf_size, List.length_append, List.length_append]; show ¬ _ < _ + 2; omega
            have ee : strOf (T ++ ends ((lines (bts s)).take j)) ++ strOf (lines (bts s))[j] ++ ⟨#[13, 10]⟩ = strOf (T ++ ends ((lines (bts s)).take (j + 1))) := by
              rw [HE2.out, show (⟨#[13, 10]⟩ : ByteArray) = strOf [13, 10] from rfl, strOf_append, strOf_append]; simp
            have EE := Lib.hid ee
            clear ee
            go_wp2_with fail
            go_roundw
            case rel => exact ⟨j + 1, by omega, by go_num, by rw [← EE.out], trivial⟩
            case measure => simp [intOf]; omega
          · obtain rfl : j = (lines (bts s)).length := by omega
            have e2 : (lines (bts s)).take (lines (bts s)).length = lines (bts s) := List.take_length
            rw [e2]
            go_wp2_with fail
            go_roundw
            case rel => exact ⟨k + 1, by omega, by go_num, by rw [HT.out], Lib.hid ⟨B3.out, HN.out⟩⟩
            case measure => simp [intOf]; omega
      · have hne : mayN (bts s) ≠ 0 := by omega
        have hnb : (mayN (bts s) != 0) = true := by simpa using hne
        have HV : Hid (foldN (l.map bts) 1 = ((k : Int) + 1, mayN (bts s))) := Lib.hid (by
          rw [HD.out, foldN_snoc _ _ _ HR.out.2, foldN_one _ _ _ hne, List.length_map, List.length_take]
          congr 1; omega)
        clear HN hsk h4 HT HD
        generalize mayN (bts s) = n at *
        have HNE := Lib.hid hne
        clear hne
        go_wp2_with fail
        go_wp2_with fail
        refine (HM.out _).mono ?_; rintro e w2 ⟨rfl, rfl⟩
        go_wp2_with fail
        go_ret3
        refine ⟨?_, HR.out.1⟩
        unfold foldV; rw [HV.out, if_neg HNE.out]; rfl
    · obtain rfl : k = l.length := by omega
      have e : l.take l.length = l := List.take_length
      rw [e] at HR ⊢
      go_wp2_with fail
      go_ret3
      refine ⟨?_, HR.out.1⟩
      have h0 := HR.out.2
      unfold foldV; rw [if_pos h0, h0, foldN_zero _ _ h0]; rfl
end Go.Proofs.YtddjfeofmihgdaaDoor
