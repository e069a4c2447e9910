/- The document's Read, act, Limit. -/
import Derived.Test.YtoiaikgpaobefaaRf
import Derived.Test.YtoiaikgpaobefaaWm
namespace Go.Proofs.Ytoiaikgpaobefaa
open Go.RowKit Go.Maps

/-- What the document's Read answers. -/
def readV (m : DM) (k : Int) : Value := .tuple #[strV (if refN 1 m.lasts.length m.off k 0 = 0 then m.now k else []), .int .i64 (refN 1 m.lasts.length m.off k 0)]

theorem readV_bad {m : DM} {k n : Int} (h : refN 1 m.lasts.length m.off k 0 = n) (hn : n ≠ 0) : readV m k = .tuple #[strV [], .int .i64 n] := by
  unfold readV; rw [h, if_neg hn]
theorem readV_ok {m : DM} {k : Int} (h : refN 1 m.lasts.length m.off k 0 = 0) : readV m k = .tuple #[strV (m.now k), .int .i64 0] := by
  unfold readV; rw [h, if_pos rfl]
theorem refN_out {n : Nat} {off : Bool} {k : Int} (h : k < 0 ∨ (n : Int) ≤ k) : refN 1 n off k 0 = 3 := by
  unfold refN; rw [if_neg (by omega), if_pos ⟨by omega, h⟩]

set_option maxRecDepth 100000 in
theorem read_ref {w : World} {r : Nat} {S : List Nat} {m : DM} {K : Nat} (h : RefIn w r S m K) (hm : m.ok) (hK : K ≤ 1099511627776) (k : Int) :
    Calls Try.prog 21 #[.pointer (some ⟨r, 0, none⟩), .int .i64 k] w fun e w' => e = .returned (readV m k) ∧ w = w' := by
  have hnow := now_ref h hK k
  obtain ⟨la, lc, aa, ac, fa, fc, log, hmem, hlog⟩ := h
  have c0 := hmem.cells.c0
  have c4 := hmem.cells.c4
  have HM := Lib.hid hmem
  clear hmem
  have hfew := hm.few
  by_cases h1 : k < 0
  · rw [readV_bad (refN_out (.inl h1)) (by decide)]
    clear hnow
    go_enter Try.func21, Try.ntmps21
    go_wp2
    go_ret2
    exact ⟨rfl, rfl⟩
  by_cases h2 : (m.lasts.length : Int) ≤ k
  · rw [readV_bad (refN_out (.inr h2)) (by decide)]
    clear hnow
    go_enter Try.func21, Try.ntmps21
    go_wp2
    go_ret2
    exact ⟨rfl, rfl⟩
  cases hoff : m.off
  · rw [hoff] at c4
    obtain ⟨n, rfl⟩ := Int.eq_ofNat_of_zero_le (Int.not_lt.1 h1)
    have hn : n < m.lasts.length := by omega
    obtain ⟨g, _, i1, i2, _⟩ := run_index_row Try.underlying41 sizeStr HM.out.lasts hn
    rw [List.getElem_map] at i2
    have Hn := Lib.hid hn
    cases hf : m.fresh (n : Int) with
    | none =>
      rw [hf] at hnow
      have e : m.now (n : Int) = m.lasts[n] := by
        unfold DM.now
        rw [hf, Option.getD_none, Int.toNat_natCast, List.getD_eq_getElem?_getD, List.getElem?_eq_getElem hn]; rfl
      rw [readV_ok (by rw [read_n hn, hoff]; rfl)]
      generalize m.lasts[n] = s0 at i2 e
      rw [e]
      clear hf e hn
      go_enter Try.func21, Try.ntmps21
      go_wp2_with (go_at_call 38; refine hnow.mono ?_; rintro e w' ⟨rfl, rfl⟩)
      go_ret2
      exact ⟨rfl, rfl⟩
    | some s =>
      rw [hf] at hnow
      have e : m.now (n : Int) = s := by unfold DM.now; rw [hf]; rfl
      rw [readV_ok (by rw [read_n hn, hoff]; rfl), e]
      generalize m.lasts[n] = s0 at i2
      clear hf e hn
      go_enter Try.func21, Try.ntmps21
      go_wp2_with (go_at_call 38; refine hnow.mono ?_; rintro e w' ⟨rfl, rfl⟩)
      go_ret2
      exact ⟨rfl, rfl⟩
  · rw [hoff] at c4
    obtain ⟨n, rfl⟩ := Int.eq_ofNat_of_zero_le (Int.not_lt.1 h1)
    rw [readV_bad (n := 9) (by rw [read_n (by omega), hoff]; rfl) (by decide)]
    clear hnow
    go_enter Try.func21, Try.ntmps21
    go_wp2
    go_ret2
    exact ⟨rfl, rfl⟩

end Go.Proofs.Ytoiaikgpaobefaa
