/- A text cut at a sign: the document's. -/
import Derived.Test.YtgmmnbojelekbaaDoorTh
import Derived.StillTailTactics
import Derived.BigRegion
namespace Go.Proofs.YtgmmnbojelekbaaDoor
open Go.RowKit
set_option linter.unusedVariables false
set_option linter.unusedSimpArgs false

/-- How far a cut is, with what has been read of the last part. -/
def PosAt (g : UInt8) (L : List UInt8) (ps : List (List UInt8)) (cur : List UInt8) (k : Nat) : Prop := cut g L = ps ++ putA cur (cut g (L.drop k))
theorem PosAt.start (g : UInt8) (L : List UInt8) : PosAt g L [] [] 0 := by
  unfold PosAt
  rw [List.drop_zero, putA_nil _ (cut_ne g L)]; rfl
theorem PosAt.sign {g : UInt8} {L cur : List UInt8} {ps : List (List UInt8)} {k : Nat} (h : PosAt g L ps cur k) (hk : k < L.length) (hg : L[k] = g) : PosAt g L (ps ++ [cur]) [] (k + 1) := by
  unfold PosAt at *
  rw [h, List.drop_eq_getElem_cons hk, hg, cut_g, putA_nil _ (cut_ne g _)]
  simp [putA]
theorem PosAt.plain {g : UInt8} {L cur : List UInt8} {ps : List (List UInt8)} {k : Nat} (h : PosAt g L ps cur k) (hk : k < L.length) (hg : L[k] ≠ g) (h92 : L[k] ≠ 92) : PosAt g L ps (cur ++ [L[k]]) (k + 1) := by
  unfold PosAt at *
  rw [h, List.drop_eq_getElem_cons hk, cut_plain _ hg h92, putA_putA _ _ _ (cut_ne g _)]
theorem PosAt.two {g : UInt8} {L cur : List UInt8} {ps : List (List UInt8)} {k : Nat} (h : PosAt g L ps cur k) (hg : g ≠ 92) (h2 : k + 1 < L.length) (h92 : L[k]'(by omega) = 92) : PosAt g L ps (cur ++ [92, L[k + 1]]) (k + 2) := by
  unfold PosAt at *
  rw [h, List.drop_eq_getElem_cons (show k < L.length by omega), h92, List.drop_eq_getElem_cons h2, cut_sign _ hg, putA_putA _ _ _ (cut_ne g _)]
theorem PosAt.last {g : UInt8} {L cur : List UInt8} {ps : List (List UInt8)} {k : Nat} (h : PosAt g L ps cur k) (hg : g ≠ 92) (h2 : k + 1 = L.length) (h92 : L[k]'(by omega) = 92) : PosAt g L ps (cur ++ [92]) (k + 1) := by
  unfold PosAt at *
  rw [h, List.drop_eq_getElem_cons (show k < L.length by omega), h92, List.drop_eq_nil_of_le (show L.length ≤ k + 1 by omega), cut_last hg]
  simp [putA, cut]
theorem PosAt.stop {g : UInt8} {L cur : List UInt8} {ps : List (List UInt8)} {k : Nat} (h : PosAt g L ps cur k) (hk : L.length ≤ k) : cut g L = ps ++ [cur] := by
  unfold PosAt at h
  rw [h, List.drop_eq_nil_of_le hk]
  simp [putA, cut]
theorem own_one (w : World) (s : ByteArray) : StrOwn w.heap.size (.slice (some ⟨w.heap.size, 0, none⟩) 1 1) [s] (w.alloc (.cells #[.string s] 9)) :=
  World.ownsRow_lit (base := w.heap.size) (e := 9) (size := 1) w #[.string s] 1 (Nat.le_refl _) (by unfold maxLen; omega) rfl
theorem set_last (ps : List (List UInt8)) (cur cur' : List UInt8) : ((ps ++ [cur]).map strOf).set ps.length (strOf cur') = (ps ++ [cur']).map strOf := by
  rw [List.map_append, List.set_append_right _ _ (by simp)]; simp
theorem get_last (ps : List (List UInt8)) (cur : List UInt8) (h) : ((ps ++ [cur]).map strOf)[ps.length]'h = strOf cur := by simp

set_option maxRecDepth 100000 in
set_option maxHeartbeats 1000000 in
theorem cutR_calls (g : UInt8) (hg : g ≠ 92) (s : ByteArray) (hs : s.size ≤ 100000) (w : World) :
    Calls Tryd.prog 35 #[.string s, .int .u8 (g.toNat : Int)] w fun e w' => ∃ v, e = .returned v ∧ StrOwn w.heap.size v ((cut g (bts s)).map strOf) w' ∧ Below w.heap.size w w' := by
  have hG := Lib.hid hg
  clear hg
  have H1 := own_one w ⟨#[]⟩
  go_enter Tryd.func35, Tryd.ntmps35
  go_wp2_with (refine wpList_bs_str1 rfl _ rfl rfl ?_)
  go_loopw [5, 6] (fun v i wr => ∃ (ps : List (List UInt8)) (cur : List UInt8) (k : Nat), k ≤ s.size ∧ i = iv k ∧ cur.length ≤ k ∧ ps.length ≤ k ∧ Hid (PosAt g (bts s) ps cur k) ∧ StrOwn w.heap.size v ((ps ++ [cur]).map strOf) wr ∧ Below w.heap.size w wr) (fun _ i _ => s.size - (intOf i).toNat)
  case atStart => exact ⟨[], [], 0, Nat.zero_le _, rfl, Nat.le_refl _, Nat.le_refl _, Lib.hid (PosAt.start _ _), H1, below_alloc _ _⟩
  case round =>
    obtain ⟨ps, cur, k, hk, rfl, hcu, hps, hpos, hown, bb⟩ := hrel
    clear H1
    have bs := bb.size
    have BB := Lib.hid bb
    obtain ⟨g0, cap, rfl, hg0⟩ := hown.form (by simp)
    have hn : ((ps ++ [cur]).map strOf).length = ps.length + 1 := by simp
    rw [hn] at hown ⊢
    have HO := Lib.hid hown
    clear bb hown
    by_cases hlt : k < s.size
    · have hkl : k < (bts s).length := by rw [bts_length]; exact hlt
      obtain ⟨cc, fz⟩ := HO.out.cell hn ps.length (by rw [hn]; omega)
      rw [get_last] at cc
      have zc : (strOf cur).size ≤ 100000 := by rw [strOf_size]; omega
      have bd : Below w.heap.size w ({ wr with drawn := wr.drawn + 1 } : World) := below_draws BB.out 1
      have od : StrOwn w.heap.size (.slice (some ⟨g0, 0, none⟩) (ps.length + 1) cap) ((ps ++ [cur]).map strOf) ({ wr with drawn := wr.drawn + 1 } : World) := HO.out.keep (below_draws (Below.refl _ wr) 1)
      have ccd : ({ wr with drawn := wr.drawn + 1 } : World).cell? ⟨g0, ps.length, none⟩ = some (.string (strOf cur)) := cc
      have fzd : ({ wr with drawn := wr.drawn + 1 } : World).frozen? ⟨g0, ps.length, none⟩ = false := fz
      have bsd : w.heap.size ≤ ({ wr with drawn := wr.drawn + 1 } : World).heap.size := bs
      generalize hwd : ({ wr with drawn := wr.drawn + 1 } : World) = wd at *
      have st : ∀ (cur' : List UInt8) (k' : Nat), k' ≤ s.size → cur'.length ≤ k' → ps.length ≤ k' → PosAt g (bts s) ps cur' k' → ∃ (ps2 : List (List UInt8)) (cur2 : List UInt8) (k2 : Nat), k2 ≤ s.size ∧ iv k' = iv k2 ∧ cur2.length ≤ k2 ∧ ps2.length ≤ k2 ∧ Hid (PosAt g (bts s) ps2 cur2 k2) ∧ StrOwn w.heap.size (.slice (some ⟨g0, 0, none⟩) (ps.length + 1) cap) ((ps2 ++ [cur2]).map strOf) (wd.setCell ⟨g0, ps.length, none⟩ (.string (strOf cur'))) ∧ Below w.heap.size w (wd.setCell ⟨g0, ps.length, none⟩ (.string (strOf cur'))) := fun cur' k' h1 h2 h3 h4 => by
        obtain ⟨own2, gr⟩ := od.set hn ps.length (strOf cur')
        rw [set_last] at own2
        exact ⟨ps, cur', k', h1, rfl, h2, h3, Lib.hid h4, own2, below_grown bd bsd gr (by simp; omega)⟩
      have ST := Lib.hid st
      clear st
      by_cases hcg : s[k] = g
      · have C := Lib.hid (hpos.out.sign hkl hcg)
        have fcc : ((s[k].toNat : Int) == (g.toNat : Int)) = true := by rw [hcg]; simp
        clear ST cc fz ccd fzd od bd bsd hwd
        go_wp2_with (first
          | (refine wpList_bs_str1 rfl _ rfl rfl ?_; generalize hv : Value.slice (some ⟨g0, 0, none⟩) (ps.length + 1) cap = V)
          | (at_builtin; refine wpList_app_str rfl _ _ rfl w.heap.size V ((ps ++ [cur]).map strOf) rfl (by rw [← hv]; exact HO.out) ⟨#[]⟩ rfl (by rw [hn]; omega) (by omega) ?_))
        intro v' w3 own3 hg3 b3
        have own4 : StrOwn w.heap.size v' (((ps ++ [cur]) ++ [[]]).map strOf) w3 := by
          have e : ((ps ++ [cur]) ++ [[]]).map strOf = ps.map strOf ++ [strOf cur, ⟨#[]⟩] := by simp; rfl
          rw [e]; simpa using own3
        clear own3
        subst hv
        go_wp2_with fail
        go_roundw
        case rel => exact ⟨ps ++ [cur], [], k + 1, by omega, by go_num, Nat.zero_le _, by simp; omega, C, own4, BB.out.trans b3⟩
        case measure => simp [intOf]; omega
      · have fcg : ((s[k].toNat : Int) == (g.toNat : Int)) = false := u8f hcg
        by_cases h92 : s[k] = 92
        · by_cases hk1 : k + 1 < s.size
          · have f92 : ((s[k].toNat : Int) == 92) = true := by rw [h92]; rfl
            have hk1l : k + 1 < (bts s).length := by rw [bts_length]; exact hk1
            have P := hpos.out.two hG.out hk1l h92
            have q1 := sl_str s k (k + 2) k (k + 2) rfl rfl (by omega) (by omega)
            have ec : s.extract k (k + 2) = strOf [92, (bts s)[k + 1]] := ba_ext (by
              rw [bts_extract, bts_strOf, List.drop_eq_getElem_cons hkl, List.drop_eq_getElem_cons hk1l, show k + 2 - k = 2 by omega]
              show [s[k], _] = _
              rw [h92])
            have zc2 : (s.extract k (k + 2)).size ≤ 2 := by rw [ec, strOf_size]; simp
            have fin := ST.out (cur ++ [92, (bts s)[k + 1]]) (k + 1 + 1) (by omega) (by simp; omega) (by omega) P
            rw [← strOf_append, ← ec] at fin
            have FIN := Lib.hid fin
            have hk1' : (k : Int) + 1 < (s.size : Int) := by omega
            clear fin ec P ST hcg h92 hk1l
            go_wp2_with fail
            have wk : IntKind.i64.wrap ((k : Int) + 2) = (k : Int) + 2 := by simp [IntKind.wrap, IntKind.bits, IntKind.signed]; omega
            have zs : ¬ 9223372036854775807 < (strOf cur).size + (min (k + 2) s.size - k) := by omega
            have lps : (ps.length : Int) < (ps.length : Int) + 1 := by omega
            clear cc fz bd od
            refine wp_region_still_tail 13 (by kernel_rfl) (by kernel_rfl) ?_
            simp only [List.take_succ_cons, List.take_zero, List.drop_succ_cons, List.drop_zero]
            rw [hwd]
            still_step
            still_step
            still_step
            still_step
            still_step
            still_step
            still_step
            still_step
            still_step
            still_step
            still_step
            still_step
            still_step
            refine wpStill_nil ?_
            go_wp2_with fail
            go_roundw
            case rel => exact FIN.out
            case measure => simp [intOf]; omega
          · have f92 : ((s[k].toNat : Int) == 92) = true := by rw [h92]; rfl
            have hks : k + 1 = s.size := by omega
            have P := hpos.out.last hG.out (by rw [bts_length]; exact hks) h92
            have q1 := sl_str s k (k + 1) k (k + 1) rfl rfl (by omega) (by omega)
            have ec := cut_one s k hlt
            rw [h92] at ec
            have zc2 : (s.extract k (k + 1)).size ≤ 1 := by rw [ec, strOf_size]; simp
            have fin := ST.out (cur ++ [92]) (k + 1) (by omega) (by simp; omega) (by omega) P
            rw [← strOf_append, ← ec] at fin
            have FIN := Lib.hid fin
            have hk1' : (s.size : Int) ≤ (k : Int) + 1 := by omega
            clear fin ec P ST hcg h92 hks
            go_wp2_with fail
            have wk : IntKind.i64.wrap ((k : Int) + 1) = (k : Int) + 1 := by simp [IntKind.wrap, IntKind.bits, IntKind.signed]; omega
            have zs : ¬ 9223372036854775807 < (strOf cur).size + (min (k + 1) s.size - k) := by omega
            have lps : (ps.length : Int) < (ps.length : Int) + 1 := by omega
            clear cc fz bd od
            refine wp_region_still_tail 13 (by kernel_rfl) (by kernel_rfl) ?_
            simp only [List.take_succ_cons, List.take_zero, List.drop_succ_cons, List.drop_zero]
            rw [hwd]
            still_step
            still_step
            still_step
            still_step
            still_step
            still_step
            still_step
            still_step
            still_step
            still_step
            still_step
            still_step
            still_step
            refine wpStill_nil ?_
            go_wp2_with fail
            go_roundw
            case rel => exact FIN.out
            case measure => simp [intOf]; omega
        · have f92 : ((s[k].toNat : Int) == 92) = false := u8f (d := 92) h92
          have P := hpos.out.plain hkl hcg h92
          have q1 := sl_str s k (k + 1) k (k + 1) rfl rfl (by omega) (by omega)
          have ec := cut_one s k hlt
          have zc2 : (s.extract k (k + 1)).size ≤ 1 := by rw [ec, strOf_size]; simp
          have fin := ST.out (cur ++ [s[k]]) (k + 1) (by omega) (by simp; omega) (by omega) P
          rw [← strOf_append, ← ec] at fin
          have FIN := Lib.hid fin
          clear fin ec P ST hcg h92
          go_wp2_with fail
          have wk : IntKind.i64.wrap ((k : Int) + 1) = (k : Int) + 1 := by simp [IntKind.wrap, IntKind.bits, IntKind.signed]; omega
          have zs : ¬ 9223372036854775807 < (strOf cur).size + (min (k + 1) s.size - k) := by omega
          have lps : (ps.length : Int) < (ps.length : Int) + 1 := by omega
          clear cc fz bd od
          refine wp_region_still_tail 13 (by kernel_rfl) (by kernel_rfl) ?_
          simp only [List.take_succ_cons, List.take_zero, List.drop_succ_cons, List.drop_zero]
          rw [hwd]
          still_step
          still_step
          still_step
          still_step
          still_step
          still_step
          still_step
          still_step
          still_step
          still_step
          still_step
          still_step
          still_step
          refine wpStill_nil ?_
          go_wp2_with fail
          go_roundw
          case rel => exact FIN.out
          case measure => simp [intOf]; omega
    · obtain rfl : k = s.size := by omega
      have C := hpos.out.stop (by rw [bts_length]; exact Nat.le_refl _)
      have own2 := HO.out
      rw [← C] at own2
      clear C
      go_wp2_with fail
      go_ret
      exact ⟨_, rfl, own2, BB.out⟩
end Go.Proofs.YtgmmnbojelekbaaDoor
