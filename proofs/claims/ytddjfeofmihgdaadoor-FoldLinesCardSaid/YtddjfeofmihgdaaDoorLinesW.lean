/- FoldLines: the walk. -/
import Derived.Test.YtddjfeofmihgdaaDoorShelv
import Derived.Test.YtddjfeofmihgdaaDoorUn
import Derived.Test.YtddjfeofmihgdaaDoorAnyW
namespace Go.Proofs.YtddjfeofmihgdaaDoor
open Go.RowKit
set_option linter.unusedVariables false
set_option linter.unusedSimpArgs false

theorem valid_calls (x : Addr) (m : Int) (s : ByteArray) (w : World) (hg : Glob x m w) (hs : s.size ≤ 1000000) :
    Calls Tryd.prog 18 #[.string s] w fun e w' => e = .returned (.bool (Lib.validD (bts s))) ∧ Below w.heap.size w w' :=
  Any.utf8_ValidString Tryd.lays196 s w (by omega) hg.tabs
def goodN (l : List ByteArray) : Bool := l.all (fun r => Lib.validD (bts r))
theorem goodN_take (l : List ByteArray) (k : Nat) (h : k < l.length) : goodN (l.take (k + 1)) = (goodN (l.take k) && Lib.validD (bts l[k])) := by
  unfold goodN; rw [take_snoc l k h, List.all_append]; simp
theorem line_bytes (V : BL) (f : Nat) (x : BL) (T : List BL) (h : V.drop f = ends (x :: T)) :
    f + x.length + 2 ≤ V.length ∧ (∀ i, f ≤ i → i < f + x.length → ∃ c, c ∈ x ∧ V[i]? = some c) ∧ V[f + x.length]? = some 13 ∧ V[f + x.length + 1]? = some 10 ∧ V.drop (f + x.length + 2) = ends T ∧ (V.drop f).take x.length = x := by
  rw [ends_cons] at h
  have hl := congrArg List.length h
  rw [List.length_drop, List.length_append, List.length_cons, List.length_cons] at hl
  have at_ : ∀ j, V[f + j]? = (x ++ 13 :: 10 :: ends T)[j]? := fun j => by rw [← h, List.getElem?_drop]
  refine ⟨by omega, ?_, ?_, ?_, ?_, ?_⟩
  · intro i h1 h2
    obtain ⟨j, rfl⟩ : ∃ j, i = f + j := ⟨i - f, by omega⟩
    refine ⟨x[j]'(by omega), List.getElem_mem _, ?_⟩
    rw [at_, List.getElem?_append_left (by omega), List.getElem?_eq_getElem]
  · rw [at_, List.getElem?_append_right (Nat.le_refl _), Nat.sub_self]; rfl
  · rw [Nat.add_assoc, at_, List.getElem?_append_right (by omega), Nat.add_sub_cancel_left]; rfl
  · rw [show f + x.length + 2 = f + (x.length + 2) by omega, ← List.drop_drop, h, List.drop_append]
    simp
  · rw [h, List.take_append]; simp
theorem fold_lines (l : List ByteArray) : ∃ T : List BL, foldV (l.map bts) = ends T ∧ ∀ x ∈ T, x ≠ [] ∧ x.length ≤ 75 ∧ (10 : UInt8) ∉ x ∧ (goodN l = true → Lib.validD x = true) := by
  by_cases h0 : (foldN (l.map bts) 1).2 = 0
  · refine ⟨(l.map bts).flatMap lines, ?_, ?_⟩
    · unfold foldV; rw [if_pos h0, foldT_ends]
    · intro x hx
      obtain ⟨r, hr, hx⟩ := List.mem_flatMap.1 hx
      obtain ⟨n0, _, n10, _, _⟩ := mayN_ok (foldN_all _ _ h0 r hr)
      refine ⟨?_, lns_len r [] (by simp) x hx, lines_plain r n10 x hx, fun hg => ?_⟩
      · obtain ⟨c, m, t, e, _, ht, _⟩ := lines_shape r n0
        rw [e] at hx
        rcases List.mem_cons.1 hx with rfl | hx
        · simp
        · obtain ⟨q, rfl⟩ := ht x hx; simp
      · obtain ⟨s, hs, rfl⟩ := List.mem_map.1 hr
        exact lns_valid (bts s) [] (List.all_eq_true.1 hg s hs) rfl x hx
  · exact ⟨[], by unfold foldV; rw [if_neg h0]; rfl, fun x hx => by cases hx⟩

set_option maxRecDepth 100000 in
set_option maxHeartbeats 4000000 in
theorem foldLines_walk (x : Addr) (m : Int) (a : Option Addr) (cap : Nat) (l : List ByteArray) (w : World) (hx : Glob x m w) (hl : StrsIn w a l) (hs : Small l) :
    Calls Tryd.prog 6 #[.slice a l.length cap] w fun e w' => e = .returned (.bool true) ∧ Below w.heap.size w w' := by
  have hf := few_calls a cap l w hl hs
  by_cases hb : fewB l = true
  · rw [hb] at hf
    obtain ⟨h1, h2, h3⟩ := few_spec hb
    have p1 := Lib.hid (fold_calls x m a cap l w hx hl (by omega) (fun s hs => by have := h3 s hs; omega))
    have vl := foldV_le l
    obtain ⟨T0, hT, hP⟩ := fold_lines l
    have HX := Lib.hid hx
    have HL := Lib.hid hl
    have HS := Lib.hid h3
    have HT : Hid ((foldV (l.map bts)).drop 0 = ends T0) := Lib.hid (by rw [List.drop_zero]; exact hT)
    have HP := Lib.hid hP
    have HG : Hid (goodN (l.take l.length) = goodN l) := Lib.hid (by rw [List.take_length])
    clear hb h3 hl hs hx hT hP
    have hVs := strOf_size (foldV (l.map bts))
    have HV : Hid (bts (strOf (foldV (l.map bts))) = foldV (l.map bts)) := Lib.hid (bts_strOf _)
    generalize strOf (foldV (l.map bts)) = S at *
    generalize foldV (l.map bts) = V at *
    have hV := HV.out
    subst hV
    have hS : S.size ≤ 100000 := by omega
    clear HV hVs vl h2
    go_enter Tryd.func6, Tryd.ntmps6
    go_wp2_with fail
    refine (hf).mono ?_; rintro e w' ⟨rfl, rfl⟩
    go_wp2_with fail
    refine (p1.out).mono ?_; rintro e w1 ⟨⟨ve, rfl, ee⟩, b1⟩
    have B1 := Lib.hid b1
    clear b1 ee p1
    go_wp2_with fail
    go_loopw [5, 21] (fun vg vk wr => ∃ k : Nat, k ≤ l.length ∧ vk = iv k ∧ vg = .bool (goodN (l.take k)) ∧ Hid (Below w.heap.size w wr)) (fun _ vk _ => l.length - (intOf vk).toNat)
    case atStart => exact ⟨0, Nat.zero_le _, rfl, rfl, B1⟩
    case round =>
      obtain ⟨k, hk, rfl, rfl, BW⟩ := hrel
      by_cases hlt : k < l.length
      · obtain ⟨b, off, rfl, hat⟩ := (HL.out.below BW.out).form hlt
        have c0 := hat k hlt
        have hz := HS.out _ (List.getElem_mem hlt)
        have E := Lib.hid (goodN_take l k hlt)
        have VC := Lib.hid (valid_calls x m l[k] wr (HX.out.below BW.out) (by omega))
        clear hat
        generalize l[k] = s at *
        by_cases hg : goodN (l.take k) = true
        · rw [hg] at E ⊢
          clear hg
          go_wp2_with fail
          go_wp2_with fail
          refine (VC.out).mono ?_; rintro e w2 ⟨rfl, b2⟩
          have B2 := Lib.hid (below_then BW.out b2)
          clear b2
          go_wp2_with fail
          go_roundw
          case rel => exact ⟨k + 1, by omega, by go_num, by rw [E.out]; simp, B2⟩
          case measure => simp [intOf]; omega
        · rw [Bool.not_eq_true] at hg
          rw [hg] at E ⊢
          clear hg
          go_wp2_with fail
          go_roundw
          case rel => exact ⟨k + 1, by omega, by go_num, by rw [E.out]; simp, BW⟩
          case measure => simp [intOf]; omega
      · obtain rfl : k = l.length := by omega
        rw [HG.out]
        clear HG B1 HL HS
        go_wp2_with fail
        go_loopw [8, 33] (fun vf vi wr => ∃ (f i : Nat) (T : List BL), vf = iv f ∧ vi = iv i ∧ f ≤ i ∧ i ≤ S.size ∧ Hid (Below w.heap.size w wr ∧ (bts S).drop f = ends T ∧ (∀ x ∈ T, x ≠ [] ∧ x.length ≤ 75 ∧ (10 : UInt8) ∉ x ∧ (goodN l = true → Lib.validD x = true)) ∧ ∀ x T', T = x :: T' → i ≤ f + x.length + 1)) (fun _ vi _ => S.size - (intOf vi).toNat)
        case atStart => exact ⟨0, 0, T0, rfl, rfl, Nat.le_refl _, Nat.zero_le _, Lib.hid ⟨BW.out, HT.out, HP.out, fun _ _ _ => by omega⟩⟩
        case round =>
          obtain ⟨f, i, T, rfl, rfl, hfi, hiS, HR⟩ := hrel
          rcases T with _ | ⟨y, T⟩
          · have hd := congrArg List.length HR.out.2.1
            rw [List.length_drop, bts_length, ends_nil, List.length_nil] at hd
            obtain rfl : f = S.size := by omega
            obtain rfl : i = S.size := by omega
            have BQ := Lib.hid HR.out.1
            clear HR
            go_wp2_with fail
            go_wp2_with fail
            refine (alive_calls x m wr (HX.out.below BQ.out)).mono ?_; rintro e w4 ⟨rfl, b4⟩
            have B4 := Lib.hid (below_then BQ.out b4)
            clear b4
            go_wp2_with fail
            go_ret
            exact ⟨rfl, B4.out⟩
          · obtain ⟨q1, q2, q3, q4, q5, q6⟩ := line_bytes (bts S) f y T HR.out.2.1
            rw [bts_length] at q1
            have hle := HR.out.2.2.2 y T rfl
            obtain ⟨y0, y75, y10, yv⟩ := HR.out.2.2.1 y List.mem_cons_self
            have hlt : i < S.size := by omega
            have hgi : (bts S)[i]? = some (S[i]'hlt) := by rw [List.getElem?_eq_getElem (by rw [bts_length]; exact hlt)]; rfl
            obtain ⟨p, hp⟩ : ∃ p, f + y.length = p := ⟨_, rfl⟩
            rw [hp] at q1 q2 q3 q4 q5 hle
            by_cases hend : i = p + 1
            · subst hend
              have hlp : p < S.size := by omega
              have c10 : S[p + 1]'hlt = 10 := by have := hgi.symm.trans q4; injection this
              have c13 : S[p]'hlp = 13 := by
                have h : (bts S)[p]? = some (S[p]'hlp) := by rw [List.getElem?_eq_getElem (by rw [bts_length]; exact hlp)]; rfl
                have := h.symm.trans q3; injection this
              have hEX : S.extract f p = strOf y := by
                rw [bts_mid S f y.length p (by omega), q6]
              have hv : bts (S.extract f p) = y := by rw [hEX, bts_strOf]
              have BQ := Lib.hid HR.out.1
              have vc := valid_calls x m (S.extract f p) wr (HX.out.below BQ.out) (by rw [hEX, strOf_size]; omega)
              rw [hv] at vc
              have y1 : 0 < y.length := List.length_pos_iff.2 y0
              have NX : Hid ((bts S).drop (p + 2) = ends T ∧ (∀ x ∈ T, x ≠ [] ∧ x.length ≤ 75 ∧ (10 : UInt8) ∉ x ∧ (goodN l = true → Lib.validD x = true)) ∧ ∀ x T', T = x :: T' → p + 2 ≤ p + 2 + x.length + 1) :=
                Lib.hid ⟨q5, fun x hx => HR.out.2.2.1 x (List.mem_cons_of_mem _ hx), fun _ _ _ => by omega⟩
              have g1 : ((p : Int) + 1 == 0) = false := by simpa using (show ¬ (p : Int) + 1 = 0 by omega)
              have g2 : ¬ (75 : Int) < (p : Int) - (f : Int) := by omega
              have g3 : ((p : Int) == (f : Int)) = false := by simpa using (show ¬ (p : Int) = (f : Int) by omega)
              have g4 : (f : Int) ≤ (p : Int) := by omega
              have g5 : (p : Int) < (S.size : Int) := by omega
              have g7 : (p : Int) ≤ (S.size : Int) := by omega
              have g6 : (p : Int) + 1 < (S.size : Int) := by omega
              have hfp : f ≤ p := by omega
              clear hgi q2 q3 q4 q5 q6 hle y0 y75 y10 hEX hv HR hfi hp y1
              by_cases hg : goodN l = true
              · rw [yv hg] at vc
                have VC := Lib.hid vc
                rw [hg] at NX ⊢
                clear vc yv hg
                go_wp2_with fail
                go_wp2_with fail
                refine (VC.out).mono ?_; rintro e w2 ⟨rfl, b2⟩
                have B2 := Lib.hid (below_then BQ.out b2)
                clear b2
                go_wp2_with fail
                go_roundw
                case rel => exact ⟨p + 2, p + 2, T, by go_num, by go_num, Nat.le_refl _, by omega, Lib.hid ⟨B2.out, NX.out.1, NX.out.2.1, NX.out.2.2⟩⟩
                case measure => simp [intOf]; omega
              · rw [Bool.not_eq_true] at hg
                clear vc yv
                rw [hg] at NX ⊢
                clear hg
                go_wp2_with fail
                go_roundw
                case rel => exact ⟨p + 2, p + 2, T, by go_num, by go_num, Nat.le_refl _, by omega, Lib.hid ⟨BQ.out, NX.out.1, NX.out.2.1, NX.out.2.2⟩⟩
                case measure => simp [intOf]; omega
            · have hc : S[i] ≠ 10 := by
                by_cases h1 : i = p
                · subst h1
                  rw [q3] at hgi; injection hgi with h; rw [← h]; decide
                · obtain ⟨c, hc1, hc2⟩ := q2 i hfi (by omega)
                  rw [hgi] at hc2; injection hc2 with h; rw [h]; intro e; rw [e] at hc1; exact y10 hc1
              have HR2 : Hid (Below w.heap.size w wr ∧ (bts S).drop f = ends (y :: T) ∧ (∀ x ∈ y :: T, x ≠ [] ∧ x.length ≤ 75 ∧ (10 : UInt8) ∉ x ∧ (goodN l = true → Lib.validD x = true)) ∧ ∀ x T', y :: T = x :: T' → i + 1 ≤ f + x.length + 1) := Lib.hid ⟨HR.out.1, HR.out.2.1, HR.out.2.2.1, fun x T' e => by injection e with e1 e2; subst e1; omega⟩
              clear hgi q1 q2 q3 q4 q5 q6 hle y0 y75 y10 yv hend HR
              generalize hcc : S[i] = c at *
              have f10 : ((c.toNat : Int) == 10) = false := u8f (d := 10) hc
              have f10' : ((c.toNat : Int) != 10) = true := by simpa using f10
              clear hc
              go_wp2_with fail
              go_roundw
              case rel => exact ⟨f, i + 1, y :: T, rfl, by go_num, by omega, by omega, HR2⟩
              case measure => simp [intOf]; omega
  · rw [Bool.not_eq_true] at hb
    rw [hb] at hf
    clear hb
    go_enter Tryd.func6, Tryd.ntmps6
    go_wp2_with fail
    refine (hf).mono ?_; rintro e w' ⟨rfl, rfl⟩
    go_wp2_with fail
    refine (alive_calls x m w hx).mono ?_; rintro e w1 ⟨rfl, b1⟩
    go_wp2_with fail
    go_ret
    exact ⟨rfl, b1⟩
end Go.Proofs.YtddjfeofmihgdaaDoor
