/- FoldAnywhere: the walk. -/
import Derived.Test.YtddjfeofmihgdaaDoorUg
import Derived.Test.YtddjfeofmihgdaaDoorUnfoldsW
import Derived.Test.YtddjfeofmihgdaaDoorJoinsW
namespace Go.Proofs.YtddjfeofmihgdaaDoor
open Go.RowKit
set_option linter.unusedVariables false
set_option linter.unusedSimpArgs false

theorem bts_mid (s : ByteArray) (i e to : Nat) (h : min s.size (i + e) = to) : s.extract i to = strOf (((bts s).drop i).take e) := by
  subst h
  refine ba_ext ?_
  rw [bts_strOf]
  show (s.extract i (min s.size (i + e))).data.toList = _
  rw [ByteArray.data_extract, Array.toList_extract, List.extract_eq_take_drop]
  rw [show s.data.toList = bts s from rfl]
  apply List.ext_getElem?
  intro j
  rw [List.getElem?_take, List.getElem?_take]
  by_cases h1 : j < e
  · rw [if_pos h1]
    split
    · rfl
    · rw [List.getElem?_eq_none]; rw [List.length_drop, bts_length]; omega
  · rw [if_neg h1, if_neg (by omega)]
theorem take_row (l : List ByteArray) (k : Nat) (h : k < l.length) : (∀ r ∈ (l.take (k + 1)).map bts, mayN r = 0) ↔ ((∀ r ∈ (l.take k).map bts, mayN r = 0) ∧ mayN (bts l[k]) = 0) := by
  rw [take_snoc l k h, List.map_append]
  constructor
  · intro H
    exact ⟨fun r hr => H r (List.mem_append_left _ hr), H _ (List.mem_append_right _ (by simp))⟩
  · rintro ⟨H1, H2⟩ r hr
    rcases List.mem_append.1 hr with hr | hr
    · exact H1 r hr
    · simp at hr; rw [hr]; exact H2

set_option maxRecDepth 100000 in
set_option maxHeartbeats 6000000 in
theorem foldAnywhere_walk (x : Addr) (m : Int) (a : Option Addr) (cap : Nat) (l : List ByteArray) (n : Int) (w : World) (hx : Glob x m w) (hl : StrsIn w a l) (hs : Small l) :
    Calls Tryd.prog 7 #[.slice a l.length cap, iv n] w fun e w' => e = .returned (.bool true) ∧ Below w.heap.size w w' := by
  obtain ⟨hs1, hs2⟩ := hs
  obtain ⟨t1, t2⟩ := tmod_in n 99 (by omega)
  obtain ⟨e, he⟩ : ∃ e : Nat, 1 + n.tmod 99 % 99 = (e : Int) := ⟨(1 + n.tmod 99 % 99).toNat, by omega⟩
  have he1 : 1 ≤ e := by omega
  have he2 : e ≤ 99 := by omega
  go_enter Tryd.func7, Tryd.ntmps7
  go_wp2_with fail
  go_loop [5, 6] (fun n i => ∃ k : Nat, k ≤ l.length ∧ k ≤ 41 ∧ i = iv k ∧ n = iv (lens (l.take k))) (fun _ i => (41 - intOf i).toNat)
  case atStart => exact ⟨0, Nat.zero_le _, by omega, rfl, by simp [lens]⟩
  case round =>
    obtain ⟨k, hk, hk2, rfl, rfl⟩ := hrel
    have hb := lens_bound (l.take k)
    have hbl : (l.take k).length = k := by rw [List.length_take]; omega
    rw [hbl] at hb
    by_cases hlt : k < l.length ∧ k ≤ 40
    · obtain ⟨h1, h2⟩ := hlt
      have h1' : (k : Int) < (l.length : Int) := by omega
      have h2' : (k : Int) ≤ 40 := by omega
      obtain ⟨b, off, rfl, hlw⟩ := hl.form h1
      have c0 := hlw k h1
      have hz := hs2 _ (List.getElem_mem h1)
      have E := Lib.hid (lens_take l k h1)
      clear hl hbl
      go_wp2_with fail
      go_round
      case rel => exact ⟨k + 1, by omega, by omega, by go_num, by rw [E.out]; congr 1; omega⟩
      case measure => simp [intOf]; omega
    · by_cases h1 : k < l.length
      · have h2 : k = 41 := by omega
        subst h2
        have h1' : ((41 : Nat) : Int) < (l.length : Int) := by omega
        have h3 : (40 : Int) < (l.length : Int) := by omega
        go_wp2_with fail
        go_wp2_with fail
        refine (alive_calls x m w hx).mono ?_; rintro e w1 ⟨rfl, b1⟩
        go_wp2_with fail
        go_ret
        exact ⟨rfl, b1⟩
      · obtain rfl : k = l.length := by omega
        rw [List.take_length] at hb ⊢
        by_cases h3 : l.length ≤ 40
        · have h3' : (l.length : Int) ≤ 40 := by omega
          have h3'' : ¬ (40 : Int) < (l.length : Int) := by omega
          by_cases h4 : lens l ≤ 3000
          · have h4' : ¬ (3000 : Int) < (lens l : Int) := by omega
            obtain ⟨hS1, hS2⟩ := lens_flat l 3000 (by omega) h4
            have HS := Lib.hid hS1
            have la := anyT_len [10] 9 e he1 (by decide) l
            have lb := anyT_len [13, 10] 32 e he1 (by decide) l
            have HX := Lib.hid hx
            have HL := Lib.hid hl
            have UA := Lib.hid (fun h => unfold_lf e he1 (l.map bts) h (by rw [List.length_map]; omega))
            have UB := Lib.hid (fun h => unfold_crlf e he1 (l.map bts) h (by rw [List.length_map]; omega))
            have A0 : Hid (anyT [10] 9 e ((l.drop 0).map bts) = anyT [10] 9 e (l.map bts)) := Lib.hid (by rw [List.drop_zero])
            have B0 : Hid (anyT [13, 10] 32 e ((l.drop 0).map bts) = anyT [13, 10] 32 e (l.map bts)) := Lib.hid (by rw [List.drop_zero])
            have NL := numE_length e (l.map bts) 1
            rw [List.length_map] at NL
            have NA := Lib.hid (numE_at e (l.map bts) 1)
            clear hS1 hs1 hs2 hx hl hlt h1 hk2 hb hbl hk
            generalize anyT [10] 9 e (l.map bts) = PA at *
            generalize anyT [13, 10] 32 e (l.map bts) = PB at *
            generalize numE e 1 (l.map bts) = NE at *
            go_wp2_with fail
            go_loop [7, 8, 50] (fun va vb vk => ∃ (k : Nat) (sa sb : BL), k ≤ l.length ∧ vk = iv k ∧ va = .string (strOf sa) ∧ vb = .string (strOf sb) ∧ sa.length ≤ PA.length ∧ sb.length ≤ PB.length ∧ Hid (sa ++ anyT [10] 9 e ((l.drop k).map bts) = PA ∧ sb ++ anyT [13, 10] 32 e ((l.drop k).map bts) = PB ∧ ∀ r ∈ (l.take k).map bts, mayN r = 0)) (fun _ _ vk => l.length - (intOf vk).toNat)
            case atStart => exact ⟨0, [], [], Nat.zero_le _, rfl, rfl, rfl, Nat.zero_le _, Nat.zero_le _, Lib.hid ⟨A0.out, B0.out, by simp⟩⟩
            case round =>
              obtain ⟨k, sa, sb, hk, rfl, rfl, rfl, hla, hlb, HR⟩ := hrel
              clear A0 B0
              by_cases hlt : k < l.length
              · obtain ⟨b, off, rfl, hlw⟩ := HL.out.form hlt
                have c0 := hlw k hlt
                have hz := HS.out _ (List.getElem_mem hlt)
                have hD : (l.drop k).map bts = bts l[k] :: (l.drop (k + 1)).map bts := by rw [List.drop_eq_getElem_cons hlt, List.map_cons]
                have HT := Lib.hid (take_row l k hlt)
                have HM := Lib.hid (fun w => mayR_calls l[k] (by omega) w)
                have HA := HR.out.1
                have HB := HR.out.2.1
                have HO := Lib.hid HR.out.2.2
                rw [hD, anyT_cons] at HA HB
                clear hlw HR hD
                generalize l[k] = s at *
                by_cases h0 : mayN (bts s) = 0
                · have hne := (mayN_ok h0).1
                  have hsz : 0 < s.size := by rw [← bts_length]; exact List.length_pos_iff.2 hne
                  have HO2 := Lib.hid (HT.out.2 ⟨HO.out, h0⟩)
                  rw [h0] at HM
                  have lA := congrArg List.length HA
                  have lB := congrArg List.length HB
                  rw [← List.append_assoc] at HA HB
                  simp only [List.length_append] at lA lB
                  have A1 : Hid (sa ++ rem [10] 9 e (bts s) 0 = sa ++ rem [10] 9 e (bts s) 0) := Lib.hid rfl
                  have B1 : Hid (sb ++ rem [13, 10] 32 e (bts s) 0 = sb ++ rem [13, 10] 32 e (bts s) 0) := Lib.hid rfl
                  have lA1 : (sa ++ rem [10] 9 e (bts s) 0).length ≤ PA.length := by rw [List.length_append]; omega
                  have lB1 : (sb ++ rem [13, 10] 32 e (bts s) 0).length ≤ PB.length := by rw [List.length_append]; omega
                  have lA2 : (sa ++ rem [10] 9 e (bts s) 0).length + 1 ≤ PA.length := by rw [List.length_append]; simp at lA; omega
                  have lB2 : (sb ++ rem [13, 10] 32 e (bts s) 0).length + 2 ≤ PB.length := by rw [List.length_append]; simp at lB; omega
                  have HA' := Lib.hid HA
                  have HB' := Lib.hid HB
                  clear HT HO h0 hne lA lB HA HB
                  go_wp2_with fail
                  go_wp2_with fail
                  refine (HM.out _).mono ?_; rintro e w2 ⟨rfl, rfl⟩
                  generalize hGA : sa ++ rem [10] 9 e (bts s) 0 = GA at *
                  generalize hGB : sb ++ rem [13, 10] 32 e (bts s) 0 = GB at *
                  go_wp2_with fail
                  go_loop [7, 8, 11] (fun va vb vi => ∃ (i : Nat) (ta tb : BL), i ≤ s.size + 99 ∧ vi = iv i ∧ va = .string (strOf ta) ∧ vb = .string (strOf tb) ∧ ta.length ≤ GA.length ∧ tb.length ≤ GB.length ∧ Hid (ta ++ rem [10] 9 e (bts s) i = GA ∧ tb ++ rem [13, 10] 32 e (bts s) i = GB)) (fun _ _ vi => s.size + 99 - (intOf vi).toNat)
                  case atStart => exact ⟨0, sa, sb, by omega, rfl, rfl, rfl, by rw [← hGA, List.length_append]; omega, by rw [← hGB, List.length_append]; omega, Lib.hid ⟨hGA, hGB⟩⟩
                  case round =>
                    obtain ⟨i, ta, tb, hi, rfl, rfl, rfl, hta, htb, HQ⟩ := hrel
                    clear hGA hGB A1 B1
                    by_cases hil : i < s.size
                    · have hil' : (i : Int) < (s.size : Int) := by omega
                      obtain ⟨to, hto⟩ : ∃ to : Nat, min s.size (i + e) = to := ⟨_, rfl⟩
                      have hto' : min (s.size : Int) ((i : Int) + (e : Int)) = (to : Int) := by omega
                      have hit : i ≤ to := by omega
                      have hts : to ≤ s.size := by omega
                      have EX := Lib.hid (bts_mid s i e to hto)
                      have hex : (s.extract i to).size = to - i := by rw [ByteArray.size_extract]; omega
                      have zA : (strOf ta).size = ta.length := strOf_size ta
                      have zB : (strOf tb).size = tb.length := strOf_size tb
                      have RA : Hid (∀ u : BL, u ++ rem [10] 9 e (bts s) (i + e) = GA → u.length ≤ GA.length) := Lib.hid (fun u h1 => by rw [← h1, List.length_append]; omega)
                      have RB : Hid (∀ v : BL, v ++ rem [13, 10] 32 e (bts s) (i + e) = GB → v.length ≤ GB.length) := Lib.hid (fun u h1 => by rw [← h1, List.length_append]; omega)
                      by_cases hi0 : i = 0
                      · have hto0 : min (s.size : Int) (e : Int) = (to : Int) := by omega
                        subst hi0
                        have hex0 : (s.extract 0 to).size = to := by rw [hex]; omega
                        clear hex hto'
                        have QA := HQ.out.1
                        have QB := HQ.out.2
                        rw [rem_first _ _ _ he1, ← List.append_assoc] at QA QB
                        have HQ2 := Lib.hid (And.intro QA QB)
                        clear QA QB HQ
                        go_wp2_with fail
                        go_round
                        case rel =>
                          refine ⟨e, ta ++ (bts s).take e, tb ++ (bts s).take e, by omega, by go_num, ?_, ?_, RA.out _ ?_, RB.out _ ?_, Lib.hid ?_⟩
                          all_goals (try (rw [← strOf_append, EX.out, List.drop_zero]))
                          all_goals (try rw [Nat.zero_add])
                          all_goals first | exact HQ2.out | exact HQ2.out.1 | exact HQ2.out.2
                        case measure => simp [intOf]; omega
                      · have hi1 : (0 : Int) < (i : Int) := by omega
                        have QA := HQ.out.1
                        have QB := HQ.out.2
                        rw [rem_more _ _ _ he1 _ i (by omega) (by rw [bts_length]; exact hil), ← List.append_assoc, ← List.append_assoc] at QA QB
                        have HQ2 := Lib.hid (And.intro QA QB)
                        clear QA QB HQ
                        go_wp2_with fail
                        go_round
                        case rel =>
                          refine ⟨i + e, ta ++ ([10] ++ [9]) ++ ((bts s).drop i).take e, tb ++ ([13, 10] ++ [32]) ++ ((bts s).drop i).take e, by omega, by go_num, ?_, ?_, RA.out _ ?_, RB.out _ ?_, Lib.hid ?_⟩
                          all_goals (try (rw [EX.out, ← strOf_append, ← strOf_append]; rfl))
                          all_goals first | exact HQ2.out | exact HQ2.out.1 | exact HQ2.out.2
                        case measure => simp [intOf]; omega
                    · have hil' : ¬ (i : Int) < (s.size : Int) := by omega
                      have QA := HQ.out.1
                      have QB := HQ.out.2
                      rw [rem_end _ _ _ _ i (by omega) (by rw [bts_length]; omega), List.append_nil] at QA QB
                      subst QA QB
                      have zA : (strOf ta).size = ta.length := strOf_size ta
                      have zB : (strOf tb).size = tb.length := strOf_size tb
                      clear HQ
                      go_wp2_with fail
                      go_round
                      case rel =>
                        refine ⟨k + 1, ta ++ [10], tb ++ [13, 10], by omega, by go_num, ?_, ?_, by simp; omega, by simp; omega, Lib.hid ⟨?_, ?_, HO2.out⟩⟩
                        · rw [← strOf_append]; rfl
                        · rw [← strOf_append]; rfl
                        · rw [← HA'.out, List.append_assoc]
                        · rw [← HB'.out, List.append_assoc]
                      case measure => simp [intOf]; omega
                · have hnb : (mayN (bts s) != 0) = true := by simpa using h0
                  clear HT h0
                  generalize mayN (bts s) = q at *
                  go_wp2_with fail
                  go_wp2_with fail
                  refine (HM.out _).mono ?_; rintro e w2 ⟨rfl, rfl⟩
                  go_wp2_with fail
                  refine (alive_calls x m w HX.out).mono ?_; rintro e w1 ⟨rfl, b1⟩
                  go_wp2_with fail
                  go_ret
                  exact ⟨rfl, b1⟩
              · obtain rfl : k = l.length := by omega
                have e1 := HR.out.1
                have e2 := HR.out.2.1
                have e3 := HR.out.2.2
                rw [List.drop_length, List.map_nil, show anyT [10] 9 e [] = [] from rfl, List.append_nil] at e1
                rw [List.drop_length, List.map_nil, show anyT [13, 10] 32 e [] = [] from rfl, List.append_nil] at e2
                rw [List.take_length] at e3
                subst e1 e2
                have p1 := Lib.hid (unfold_calls x m (strOf sa) w HX.out (by rw [strOf_size]; omega))
                have p2 := Lib.hid (fun w' (b : Below w.heap.size w w') => unfold_calls x m (strOf sb) w' (HX.out.below b) (by rw [strOf_size]; omega))
                rw [bts_strOf, UA.out e3] at p1
                rw [bts_strOf, UB.out e3] at p2
                dsimp only at p1 p2
                clear e3 HR UA UB la lb hla hlb hS2 h4 h4'
                go_wp2_with fail
                go_wp2_with fail
                refine (p1.out).mono ?_; rintro e w1 ⟨⟨v1, ev1, rfl, ro, e1⟩, b1⟩
                obtain rfl := ErrIs.none (by simpa using e1)
                obtain ⟨ra, rc, rfl, rin, _, _⟩ := ro.slice
                have B1 := Lib.hid b1
                have R1 := Lib.hid rin
                clear b1 e1 ro rin
                go_wp2_with fail
                refine (p2.out w1 B1.out).mono ?_; rintro e w2 ⟨⟨v2, ev2, rfl, ro, e2⟩, b2⟩
                obtain rfl := ErrIs.none (by simpa using e2)
                obtain ⟨qa, qc, rfl, rin, _, _⟩ := ro.slice
                have B2 := Lib.hid (below_then B1.out b2)
                have RA := Lib.hid (R1.out.below b2)
                have RB := Lib.hid rin
                clear b2 e2 ro rin R1
                go_wp2_with fail
                refine (no_nil _).mono ?_; rintro e w' ⟨rfl, rfl⟩
                go_wp2_with fail
                refine (no_nil _).mono ?_; rintro e w' ⟨rfl, rfl⟩
                have sc := same_calls ra qa rc qc NE NE w2 RA.out RB.out (by rw [NL]; omega) (by rw [NL]; omega)
                rw [NL, sameRows_self] at sc
                have SC := Lib.hid sc
                clear sc
                go_wp2_with fail
                refine (SC.out).mono ?_; rintro e w3 ⟨rfl, b3⟩
                have RI := Lib.hid (RA.out.below b3)
                have B3 := Lib.hid (below_then B2.out b3)
                clear b3 RA RB
                go_wp2_with fail
                go_loopw [129] (fun i wr => ∃ j : Nat, j ≤ l.length ∧ i = iv j ∧ Hid (Below w3.heap.size w3 wr)) (fun i _ => l.length - (intOf i).toNat)
                case atStart => exact ⟨0, Nat.zero_le _, rfl, Lib.hid (Below.refl _ _)⟩
                case round =>
                  obtain ⟨j, hj, rfl, BW⟩ := hrel
                  by_cases hlt : j < l.length
                  · obtain ⟨b1, o1, rfl, hr⟩ := (RI.out.below BW.out).form (k := j) (by rw [NL]; exact hlt)
                    obtain ⟨b2, o2, rfl, hw⟩ := (HL.out.below (below_then B3.out BW.out)).form hlt
                    have c0 := hw j hlt
                    obtain ⟨-, c2⟩ := hr j (by rw [NL]; exact hlt)
                    have na := NA.out j (by rw [List.length_map]; exact hlt) (by rw [NL]; exact hlt)
                    rw [List.getElem_map] at na
                    rw [na, strOf_bts] at c2
                    rw [show o1 + (2 * j + 1) = o1 + 2 * j + 1 by omega, Nat.mul_comm 2 j] at c2
                    have hlt' : (j : Int) < (l.length : Int) := by omega
                    have C0 := fun k : Past wr => Past.cell c0 k
                    have C2 := fun k : Past wr => Past.cell c2 k
                    clear na hr hw c0 c2
                    generalize l[j] = s0 at *
                    go_wp2_with fail
                    (refine region_past (by kernel_rfl) (by kernel_rfl) ?_; (repeat (first | go_big_quiet_skip | (go_big_quiet_want; go_big_quiet_op; first | go_big_quiet_on | (apply Exists.intro; refine ⟨fun k => ?_, ?_⟩; (focus (first | fail)); go_big_quiet_on)))); refine wpQuiet_nil ?_; intro k)
                    have K := Lib.hid (BW.out.trans (k.below.mono BW.out.size))
                    go_wp2_with fail
                    go_roundw
                    case rel => exact ⟨j + 1, by omega, by go_num, K⟩
                    case measure => simp [intOf]; omega
                  · obtain rfl : j = l.length := by omega
                    have B4 := Lib.hid (below_then B3.out BW.out)
                    go_wp2_with fail
                    go_wp2_with fail
                    refine (alive_calls x m wr (HX.out.below B4.out)).mono ?_; rintro e w4 ⟨rfl, b4⟩
                    have B5 := Lib.hid (below_then B4.out b4)
                    clear b4
                    go_wp2_with fail
                    go_ret
                    exact ⟨rfl, B5.out⟩
          · have h4' : (3000 : Int) < (lens l : Int) := by omega
            go_wp2_with fail
            go_wp2_with fail
            refine (alive_calls x m w hx).mono ?_; rintro e w1 ⟨rfl, b1⟩
            go_wp2_with fail
            go_ret
            exact ⟨rfl, b1⟩
        · have h3' : (40 : Int) < (l.length : Int) := by omega
          go_wp2_with fail
          go_wp2_with fail
          refine (alive_calls x m w hx).mono ?_; rintro e w1 ⟨rfl, b1⟩
          go_wp2_with fail
          go_ret
          exact ⟨rfl, b1⟩
end Go.Proofs.YtddjfeofmihgdaaDoor
