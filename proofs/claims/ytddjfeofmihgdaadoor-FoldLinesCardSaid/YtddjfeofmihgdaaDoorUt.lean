/- The document's Split: a text's lines. -/
import Derived.Test.YtddjfeofmihgdaaDoorUz
namespace Go.Proofs.YtddjfeofmihgdaaDoor
open Go.RowKit
set_option linter.unusedVariables false
set_option linter.unusedSimpArgs false

/-- The bytes from a place on up to another one. -/
def seg (s : ByteArray) (a b : Nat) : BL := ((bts s).drop a).take (b - a)
theorem seg_extract (s : ByteArray) (a b : Nat) : bts (s.extract a b) = seg s a b := bts_extract s a b
theorem seg_self (s : ByteArray) (a : Nat) : seg s a a = [] := by unfold seg; simp
theorem seg_snoc (s : ByteArray) (a i : Nat) (h1 : a ≤ i) (h2 : i < s.size) : seg s a (i + 1) = seg s a i ++ [s[i]] := by
  unfold seg
  have hl : (bts s).length = s.size := bts_length s
  have hd : i - a < ((bts s).drop a).length := by rw [List.length_drop]; omega
  rw [show i + 1 - a = (i - a) + 1 by omega, take_snoc _ _ hd]
  congr 2
  rw [List.getElem_drop]
  have e : a + (i - a) = i := by omega
  simp only [e]
  exact bts_get s i h2
theorem seg_nil (s : ByteArray) (a i : Nat) (h2 : i ≤ s.size) : seg s a i = [] ↔ i ≤ a := by
  unfold seg
  have hl : (bts s).length = s.size := bts_length s
  rw [← List.length_eq_zero_iff, List.length_take, List.length_drop]
  omega
theorem trim_hit (s : ByteArray) (a i : Nat) (h1 : a < i) (h2 : i ≤ s.size) (hc : s[i - 1]'(by omega) = 13) : trimCR (seg s a i) = seg s a (i - 1) := by
  obtain ⟨j, rfl⟩ : ∃ j, i = j + 1 := ⟨i - 1, by omega⟩
  rw [seg_snoc s a j (by omega) (by omega)]
  simp only [Nat.add_sub_cancel] at hc
  rw [hc, trimCR_snoc]; rfl
theorem trim_miss (s : ByteArray) (a i : Nat) (h1 : a < i) (h2 : i ≤ s.size) (hc : s[i - 1]'(by omega) ≠ 13) : trimCR (seg s a i) = seg s a i := by
  obtain ⟨j, rfl⟩ : ∃ j, i = j + 1 := ⟨i - 1, by omega⟩
  rw [seg_snoc s a j (by omega) (by omega)]
  simp only [Nat.add_sub_cancel] at hc
  unfold trimCR
  rw [List.getLast?_append, List.getLast?_singleton, if_neg]
  simpa using hc
theorem trimCR_nil : trimCR [] = [] := rfl

set_option maxRecDepth 100000 in
set_option maxHeartbeats 2000000 in
theorem splitR_calls (s : ByteArray) (hs : s.size ≤ 100000) (w : World) :
    Calls Tryd.prog 33 #[.string s] w fun e w' => ∃ v, e = .returned v ∧ StrOwn w.heap.size v ((splitC (bts s) []).map strOf) w' ∧ Below w.heap.size w w' := by
  go_enter Tryd.func33, Tryd.ntmps33
  go_wp2_with fail
  go_loopw [3, 4, 5] (fun v3 v4 v5 wr => ∃ (i a : Nat) (done : List BL), i ≤ s.size ∧ a ≤ i ∧ v4 = iv a ∧ v5 = iv i ∧ done.length ≤ i ∧ Hid (StrOwn w.heap.size v3 (done.map strOf) wr ∧ Below w.heap.size w wr ∧ splitC (bts s) [] = done ++ splitC ((bts s).drop i) (seg s a i))) (fun _ _ v5 _ => s.size - (intOf v5).toNat)
  case atStart => exact ⟨0, 0, [], Nat.zero_le _, Nat.le_refl _, rfl, rfl, Nat.le_refl _, Lib.hid ⟨StrOwn.nil _ _, Below.refl _ _, by rw [List.drop_zero, seg_self]; rfl⟩⟩
  case round =>
    obtain ⟨i, a, done, hi, ha, rfl, rfl, hd, HR⟩ := hrel
    have sz := HR.out.2.1.size
    have hdl : (done.map strOf).length = done.length := List.length_map ..
    by_cases hlt : i < s.size
    · have hdr : (bts s).drop i = s[i] :: (bts s).drop (i + 1) := by
        rw [List.drop_eq_getElem_cons (by rw [bts_length]; exact hlt)]; rfl
      have HS := Lib.hid (seg_snoc s a i ha hlt)
      have HD := Lib.hid hdr
      have hlt' : (i : Int) < (s.size : Int) := by omega
      clear hdr
      by_cases h10 : s[i] = 10
      · have HN : Hid (splitC (bts s) [] = (done ++ [trimCR (seg s a i)]) ++ splitC ((bts s).drop (i + 1)) (seg s (i + 1) (i + 1))) := Lib.hid (by
          rw [HR.out.2.2, HD.out, h10, splitC, if_pos rfl, seg_self]; simp)
        have f10 : ((s[i].toNat : Int) != 10) = false := by rw [h10]; rfl
        have app : ∀ (b : Nat), trimCR (seg s a i) = seg s a b → ∀ v' w3, StrOwn w.heap.size v' (done.map strOf ++ [s.extract a b]) w3 → Below w.heap.size wr w3 → StrOwn w.heap.size v' ((done ++ [trimCR (seg s a i)]).map strOf) w3 ∧ Below w.heap.size w w3 := fun b hb v' w3 ho hbl => by
          refine ⟨?_, HR.out.2.1.trans hbl⟩
          have e : (done ++ [trimCR (seg s a i)]).map strOf = done.map strOf ++ [s.extract a b] := by
            rw [hb, List.map_append, ← seg_extract, List.map_cons, List.map_nil, strOf_bts]
          rw [e]; exact ho
        have APP := Lib.hid app
        clear app h10
        by_cases hai : a < i
        · have hai' : (a : Int) < (i : Int) := by omega
          have him : (i : Int) - 1 < (s.size : Int) := by omega
          have him0 : (0 : Int) ≤ (i : Int) - 1 := by omega
          have hin : ((i : Int) - 1).toNat = i - 1 := by omega
          by_cases h13 : s[i - 1]'(by omega) = 13
          · have AP := Lib.hid (APP.out (i - 1) (trim_hit s a i hai (by omega) h13))
            have q1 := sl_str s a (i - 1) a ((i : Int) - 1) rfl (by omega) (by omega) (by omega)
            have f13 : (((s[i - 1]'(by omega)).toNat : Int) == 13) = true := by rw [h13]; rfl
            clear h13 APP
            go_wp2_with (refine wpList_bs_str1 rfl _ rfl rfl ?_; skip; at_builtin; refine wpList_app_str rfl _ _ rfl w.heap.size u3 (done.map strOf) rfl HR.out.1 (s.extract a (i - 1)) rfl (by rw [hdl]; omega) sz ?_)
            intro v' w3 own3 _ b3
            have HA := Lib.hid (AP.out v' w3 own3 b3)
            clear own3 b3
            go_wp2_with fail
            go_roundw
            case rel => exact ⟨i + 1, i + 1, done ++ [trimCR (seg s a i)], by omega, Nat.le_refl _, by go_num, by go_num, by simp; omega, Lib.hid ⟨HA.out.1, HA.out.2, HN.out⟩⟩
            case measure => simp [intOf]; omega
          · have AP := Lib.hid (APP.out i (trim_miss s a i hai (by omega) h13))
            have q1 := sl_str s a i a i rfl rfl (by omega) (by omega)
            have f13 : (((s[i - 1]'(by omega)).toNat : Int) == 13) = false := u8f (d := 13) h13
            clear h13 APP
            go_wp2_with (refine wpList_bs_str1 rfl _ rfl rfl ?_; skip; at_builtin; refine wpList_app_str rfl _ _ rfl w.heap.size u3 (done.map strOf) rfl HR.out.1 (s.extract a i) rfl (by rw [hdl]; omega) sz ?_)
            intro v' w3 own3 _ b3
            have HA := Lib.hid (AP.out v' w3 own3 b3)
            clear own3 b3
            go_wp2_with fail
            go_roundw
            case rel => exact ⟨i + 1, i + 1, done ++ [trimCR (seg s a i)], by omega, Nat.le_refl _, by go_num, by go_num, by simp; omega, Lib.hid ⟨HA.out.1, HA.out.2, HN.out⟩⟩
            case measure => simp [intOf]; omega
        · have hai' : ¬ (a : Int) < (i : Int) := by omega
          have AP := Lib.hid (APP.out i (by rw [(seg_nil s a i (by omega)).2 (by omega)]; rfl))
          have q1 := sl_str s a i a i rfl rfl (by omega) (by omega)
          clear APP hai
          go_wp2_with (refine wpList_bs_str1 rfl _ rfl rfl ?_; skip; at_builtin; refine wpList_app_str rfl _ _ rfl w.heap.size u3 (done.map strOf) rfl HR.out.1 (s.extract a i) rfl (by rw [hdl]; omega) sz ?_)
          intro v' w3 own3 _ b3
          have HA := Lib.hid (AP.out v' w3 own3 b3)
          clear own3 b3
          go_wp2_with fail
          go_roundw
          case rel => exact ⟨i + 1, i + 1, done ++ [trimCR (seg s a i)], by omega, Nat.le_refl _, by go_num, by go_num, by simp; omega, Lib.hid ⟨HA.out.1, HA.out.2, HN.out⟩⟩
          case measure => simp [intOf]; omega
      · have HN : Hid (splitC (bts s) [] = done ++ splitC ((bts s).drop (i + 1)) (seg s a (i + 1))) := Lib.hid (by
          rw [HR.out.2.2, HD.out, splitC, if_neg h10, HS.out])
        have f10 : ((s[i].toNat : Int) != 10) = true := by have := u8f (d := 10) h10; rw [beq_eq_false_iff_ne] at this; exact bne_iff_ne.2 this
        clear h10
        go_wp2_with fail
        go_roundw
        case rel => exact ⟨i + 1, a, done, by omega, by omega, rfl, by go_num, by omega, Lib.hid ⟨HR.out.1, HR.out.2.1, HN.out⟩⟩
        case measure => simp [intOf]; omega
    · obtain rfl : i = s.size := by omega
      have hdn : (bts s).drop s.size = [] := List.drop_eq_nil_of_le (by rw [bts_length]; exact Nat.le_refl _)
      by_cases hai : a < s.size
      · have HN : Hid (splitC (bts s) [] = done ++ [seg s a s.size]) := Lib.hid (by
          rw [HR.out.2.2, hdn, splitC, if_neg]
          intro e; have := (seg_nil s a s.size (Nat.le_refl _)).1 e; omega)
        have hai' : (a : Int) < (s.size : Int) := by omega
        clear hdn hlt
        go_wp2_with (refine wpList_bs_str1 rfl _ rfl rfl ?_; skip; at_builtin; refine wpList_app_str rfl _ _ rfl w.heap.size u3 (done.map strOf) rfl HR.out.1 (s.extract a s.size) rfl (by rw [hdl]; omega) sz ?_)
        intro v' w3 own3 _ b3
        go_wp2_with fail
        go_ret
        refine ⟨_, rfl, ?_, HR.out.2.1.trans b3⟩
        rw [HN.out, List.map_append, ← seg_extract, List.map_cons, List.map_nil, strOf_bts]
        exact own3
      · obtain rfl : a = s.size := by omega
        have HN : Hid (splitC (bts s) [] = done) := Lib.hid (by
          rw [HR.out.2.2, hdn, splitC, if_pos (seg_self s s.size)]; simp)
        clear hdn hlt hai
        go_wp2_with fail
        go_ret
        exact ⟨_, rfl, by rw [HN.out]; exact HR.out.1, HR.out.2.1⟩
end Go.Proofs.YtddjfeofmihgdaaDoor
