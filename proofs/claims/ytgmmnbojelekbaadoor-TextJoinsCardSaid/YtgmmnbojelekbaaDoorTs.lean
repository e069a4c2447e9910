/- A text cut at a sign: the program's. -/
import Derived.Test.YtgmmnbojelekbaaDoorTr
namespace Go.Proofs.YtgmmnbojelekbaaDoor
open Go.RowKit
set_option linter.unusedVariables false
set_option linter.unusedSimpArgs false

/-- What lies from f on, ahead of k. -/
def curL (L : List UInt8) (f k : Nat) : List UInt8 := (L.drop f).take (k - f)
theorem curL_one (L : List UInt8) (f k : Nat) (hf : f ≤ k) (hk : k < L.length) : curL L f (k + 1) = curL L f k ++ [L[k]] := by
  unfold curL
  have e : k + 1 - f = (k - f) + 1 := by omega
  rw [e, take_snoc _ _ (by rw [List.length_drop]; omega), List.getElem_drop]
  congr 3; omega
theorem curL_self (L : List UInt8) (f : Nat) : curL L f f = [] := by unfold curL; simp
theorem curL_end (L : List UInt8) (f k : Nat) (hf : f ≤ k) (hk : L.length ≤ k) : curL L f k = L.drop f := by
  unfold curL
  exact List.take_of_length_le (by rw [List.length_drop]; omega)
/-- How far a cut is. -/
def CutAt (g : UInt8) (L : List UInt8) (ps : List (List UInt8)) (f k : Nat) : Prop := cut g L = ps ++ putA (curL L f k) (cut g (L.drop k))
theorem CutAt.start (g : UInt8) (L : List UInt8) : CutAt g L [] 0 0 := by
  unfold CutAt
  rw [curL_self, List.drop_zero, putA_nil _ (cut_ne g L)]; rfl
theorem CutAt.sign {g : UInt8} {L : List UInt8} {ps : List (List UInt8)} {f k : Nat} (h : CutAt g L ps f k) (hk : k < L.length) (hg : L[k] = g) : CutAt g L (ps ++ [curL L f k]) (k + 1) (k + 1) := by
  unfold CutAt at *
  rw [h, List.drop_eq_getElem_cons hk, hg, cut_g, curL_self, putA_nil _ (cut_ne g _)]
  simp [putA]
theorem CutAt.plain {g : UInt8} {L : List UInt8} {ps : List (List UInt8)} {f k : Nat} (h : CutAt g L ps f k) (hf : f ≤ k) (hk : k < L.length) (hg : L[k] ≠ g) (h92 : L[k] ≠ 92) : CutAt g L ps f (k + 1) := by
  unfold CutAt at *
  rw [h, List.drop_eq_getElem_cons hk, cut_plain _ hg h92, putA_putA _ _ _ (cut_ne g _), curL_one L f k hf hk]
theorem CutAt.two {g : UInt8} {L : List UInt8} {ps : List (List UInt8)} {f k : Nat} (h : CutAt g L ps f k) (hf : f ≤ k) (hk : k < L.length) (hg : g ≠ 92) (h92 : L[k] = 92) : CutAt g L ps f (k + 2) := by
  unfold CutAt at *
  rw [h, List.drop_eq_getElem_cons hk, h92]
  by_cases h2 : k + 1 < L.length
  · rw [List.drop_eq_getElem_cons h2, cut_sign _ hg, putA_putA _ _ _ (cut_ne g _), curL_one L f (k + 1) (by omega) h2, curL_one L f k hf hk, h92]
    simp
  · rw [List.drop_eq_nil_of_le (show L.length ≤ k + 1 by omega), List.drop_eq_nil_of_le (show L.length ≤ k + 2 by omega), cut_last hg]
    have e1 := curL_end L f (k + 2) (by omega) (by omega)
    have e2 := curL_end L f (k + 1) (by omega) (by omega)
    rw [e1, ← e2, curL_one L f k hf hk, h92]
    simp [putA, cut]
theorem CutAt.stop {g : UInt8} {L : List UInt8} {ps : List (List UInt8)} {f k : Nat} (h : CutAt g L ps f k) (hf : f ≤ k) (hk : L.length ≤ k) : cut g L = ps ++ [L.drop f] := by
  unfold CutAt at h
  rw [h, List.drop_eq_nil_of_le hk, curL_end L f k hf hk]
  simp [putA, cut]

set_option maxRecDepth 100000 in
set_option maxHeartbeats 1000000 in
theorem split_calls (g : UInt8) (hg : g ≠ 92) (s : ByteArray) (hs : s.size ≤ 200000) (w : World) :
    Calls Tryd.prog 37 #[.string s, .int .u8 (g.toNat : Int)] w fun e w' => ∃ v, e = .returned v ∧ StrOwn w.heap.size v ((cut g (bts s)).map strOf) w' ∧ Below w.heap.size w w' := by
  have hG := Lib.hid hg
  clear hg
  go_enter Tryd.func37, Tryd.ntmps37
  go_wp2_with fail
  go_loopw [5, 6, 7] (fun v f i wr => ∃ (ps : List (List UInt8)) (at_ k : Nat), k ≤ s.size + 1 ∧ i = iv k ∧ at_ ≤ s.size ∧ at_ ≤ k ∧ f = iv at_ ∧ ps.length ≤ at_ ∧ Hid (CutAt g (bts s) ps at_ k) ∧ StrOwn w.heap.size v (ps.map strOf) wr ∧ Below w.heap.size w wr) (fun _ _ i _ => s.size + 1 - (intOf i).toNat)
  case atStart => exact ⟨[], 0, 0, Nat.zero_le _, rfl, Nat.zero_le _, Nat.zero_le _, rfl, Nat.zero_le _, Lib.hid (CutAt.start _ _), StrOwn.nil _ _, Below.refl _ _⟩
  case round =>
    obtain ⟨ps, at_, k, hk, rfl, ha, hak, rfl, hps, hcut, hown, bb⟩ := hrel
    have bs := bb.size
    have BB := Lib.hid bb
    have HO := Lib.hid hown
    clear bb hown
    by_cases hlt : k < s.size
    · have hkl : k < (bts s).length := by rw [bts_length]; exact hlt
      have SG := fun (h : s[k] = g) => Lib.hid (hcut.out.sign hkl h)
      have PL := fun (h1 : s[k] ≠ g) (h2 : s[k] ≠ 92) => Lib.hid (hcut.out.plain hak hkl h1 h2)
      have TW := fun (h2 : s[k] = 92) => Lib.hid (hcut.out.two hak hkl hG.out h2)
      generalize hc : s[k] = c at *
      by_cases h92 : c = 92
      · have C := TW h92
        clear SG PL TW
        subst h92
        go_wp2_with fail
        go_roundw
        case rel => exact ⟨ps, at_, k + 2, by omega, by go_num, ha, by omega, rfl, hps, C, HO.out, BB.out⟩
        case measure => simp [intOf]; omega
      · have f92 : ((c.toNat : Int) == 92) = false := u8f (d := 92) h92
        by_cases hcg : c = g
        · have C := SG hcg
          clear SG PL TW h92
          subst hcg
          have q1 := sl_str s at_ k at_ k rfl rfl hak (by omega)
          have fcc : ((c.toNat : Int) == (c.toNat : Int)) = true := by simp
          go_wp2_with (first
            | (refine wpList_bs_str1 rfl _ rfl rfl ?_)
            | (at_builtin; refine wpList_app_str rfl _ _ rfl w.heap.size u5 (ps.map strOf) rfl HO.out (s.extract at_ k) rfl (by rw [List.length_map]; omega) (by omega) ?_))
          intro v' w3 own3 hg3 b3
          have e3 : ps.map strOf ++ [s.extract at_ k] = (ps ++ [curL (bts s) at_ k]).map strOf := by
            rw [List.map_append, List.map_cons, List.map_nil]
            congr 2
            exact ba_ext (by rw [bts_extract]; rfl)
          rw [e3] at own3
          go_wp2_with fail
          go_roundw
          case rel => exact ⟨_, k + 1, k + 1, by omega, by go_num, by omega, by omega, by go_num, by simp; omega, C, own3, BB.out.trans b3⟩
          case measure => simp [intOf]; omega
        · have C := PL hcg h92
          have fcg : ((c.toNat : Int) == (g.toNat : Int)) = false := u8f hcg
          clear SG PL TW h92 hcg
          go_wp2_with fail
          go_roundw
          case rel => exact ⟨ps, at_, k + 1, by omega, by go_num, ha, by omega, rfl, hps, C, HO.out, BB.out⟩
          case measure => simp [intOf]; omega
    · have hkl : (bts s).length ≤ k := by rw [bts_length]; omega
      have C := Lib.hid (hcut.out.stop hak hkl)
      have q1 := sl_str_from s at_ at_ rfl ha
      have glt : (s.size : Int) ≤ k := by omega
      clear hcut hkl
      go_wp2_with (first
        | (refine wpList_bs_str1 rfl _ rfl rfl ?_)
        | (at_builtin; refine wpList_app_str rfl _ _ rfl w.heap.size u5 (ps.map strOf) rfl HO.out (s.extract at_ s.size) rfl (by rw [List.length_map]; omega) (by omega) ?_))
      intro v' w3 own3 hg3 b3
      have e3 : ps.map strOf ++ [s.extract at_ s.size] = (cut g (bts s)).map strOf := by
        rw [C.out, List.map_append, List.map_cons, List.map_nil]
        congr 2
        exact ba_ext (by rw [bts_extract, List.take_of_length_le (by rw [List.length_drop, bts_length]; omega)]; rfl)
      rw [e3] at own3
      go_wp2_with fail
      go_ret
      exact ⟨_, rfl, own3, BB.out.trans b3⟩
end Go.Proofs.YtgmmnbojelekbaaDoor
