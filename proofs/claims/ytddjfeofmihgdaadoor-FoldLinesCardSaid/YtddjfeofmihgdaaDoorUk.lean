/- strings.ContainsAny of a CR and a LF, of any text. -/
import Derived.Test.YtddjfeofmihgdaaDoorUj
import Derived.Test.YtddjfeofmihgdaaDoorCf
import Derived.Lib.MapLaws
import Derived.Lib.OthersKept
namespace Go.Proofs.YtddjfeofmihgdaaDoor
open Go.RowKit
set_option linter.unusedVariables false
set_option linter.unusedSimpArgs false

theorem below_iterAt {B k : Nat} {a w : World} {s : ByteArray} {p : Nat} (h : Below B a w) (hk : B ≤ k) : Below B a (w.iterAt k s p) :=
  ⟨h.os, h.tape, h.output, by rw [Lib.iterAt_size]; exact h.size, fun i hi => by rw [Lib.iterAt_other _ _ _ _ _ (by omega)]; exact h.block i hi⟩
/-- A rune that begins with a byte beyond ASCII. -/
theorem dec_big (s : ByteArray) (i : Nat) (hi : i < s.size) (x : UInt8) (hx : (bts s)[i]? = some x) (h : 128 ≤ x.toNat) :
    128 ≤ (Utf8.decode s i).1 ∧ Lib.validRune ((Utf8.decode s i).1 : Int) = true ∧ 1 ≤ (Utf8.decode s i).2 ∧ i + (Utf8.decode s i).2 ≤ s.size ∧ ∀ j y, i ≤ j → j < i + (Utf8.decode s i).2 → (bts s)[j]? = some y → 128 ≤ y.toNat := by
  have hl : (bts s).length = s.size := bts_length s
  have e0 : (bts s).getD i 0 = x := by rw [List.getD_eq_getElem?_getD, hx]; rfl
  have G : ∀ k (y : UInt8), (bts s)[k]? = some y → (bts s).getD k 0 = y := fun k y hy => by rw [List.getD_eq_getElem?_getD, hy]; rfl
  have one : ∀ j y, i ≤ j → j < i + 1 → (bts s)[j]? = some y → 128 ≤ y.toNat := fun j y h1 h2 hy => by
    obtain rfl : j = i := by omega
    rw [hx] at hy; cases hy; exact h
  rw [Lib.decode_N]
  show 128 ≤ (Lib.decodeN ((bts s).length - i) ((bts s).getD i 0).toNat ((bts s).getD (i + 1) 0).toNat ((bts s).getD (i + 2) 0).toNat ((bts s).getD (i + 3) 0).toNat).1 ∧ _
  rw [e0]
  rcases Lib.decodeN_shape ((bts s).length - i) x.toNat ((bts s).getD (i + 1) 0).toNat ((bts s).getD (i + 2) 0).toNat ((bts s).getD (i + 3) 0).toNat with ⟨c, e⟩ | ⟨c1, c2, c3, cv, e⟩ | ⟨c1, c2, c3, c4, cv, cs, e⟩ | ⟨c1, c2, c3, c4, c5, cv, cw, e⟩ | e
  · omega
  · rw [e]
    refine ⟨cv, ?_, by simp, by simp only; omega, ?_⟩
    · unfold Lib.validRune; simp only; exact decide_eq_true (by omega)
    · intro j y h1 h2 hy
      simp only at h2
      by_cases h3 : j < i + 1
      · exact one j y h1 h3 hy
      · obtain rfl : j = i + 1 := by omega
        rw [G _ _ hy] at c3; omega
  · rw [e]
    refine ⟨by simp only; omega, ?_, by simp, by simp only; omega, ?_⟩
    · unfold Lib.validRune; simp only; exact decide_eq_true (by omega)
    · intro j y h1 h2 hy
      simp only at h2
      by_cases h3 : j < i + 1
      · exact one j y h1 h3 hy
      · by_cases h4 : j = i + 1
        · subst h4; rw [G _ _ hy] at c3; omega
        · obtain rfl : j = i + 2 := by omega
          rw [G _ _ hy] at c4; omega
  · rw [e]
    refine ⟨by simp only; omega, ?_, by simp, by simp only; omega, ?_⟩
    · unfold Lib.validRune; simp only; exact decide_eq_true (by omega)
    · intro j y h1 h2 hy
      simp only at h2
      by_cases h3 : j < i + 1
      · exact one j y h1 h3 hy
      · by_cases h4 : j = i + 1
        · subst h4; rw [G _ _ hy] at c3; omega
        · by_cases h5 : j = i + 2
          · subst h5; rw [G _ _ hy] at c4; omega
          · obtain rfl : j = i + 3 := by omega
            rw [G _ _ hy] at c5; omega
  · rw [e]
    exact ⟨by decide, by decide, by decide, by simp only; omega, one⟩
theorem NoAny_skip {s chars : List UInt8} {i n : Nat} (h : Lib.NoAny s chars i) (hn : ∀ j y, i ≤ j → j < i + n → s[j]? = some y → chars.contains y = false) : Lib.NoAny s chars (i + n) := fun j b hj hb => by
  by_cases e : j < i
  · exact h j b e hb
  · exact hn j b (by omega) hj hb
theorem big_not (y : UInt8) (h : 128 ≤ y.toNat) : ([13, 10] : List UInt8).contains y = false := by
  have a : y ≠ 13 := fun e => by rw [e] at h; exact absurd h (by decide)
  have b : y ≠ 10 := fun e => by rw [e] at h; exact absurd h (by decide)
  simp [a, b]

theorem crlf_ascii (x : UInt8) (w : World) (h : x.toNat < 128) :
    Calls Tryd.prog 54 #[.string ⟨#[13, 10]⟩, .int .i32 (x.toNat : Int)] w fun e w' => e = .returned (.int .i64 (Lib.indexByte [13, 10] x)) ∧ w = w' :=
  (Tryd.strings_IndexRune_ascii ⟨#[13, 10]⟩ (x.toNat : Int) w (by omega) (by omega)).mono fun e w' ⟨he, hw⟩ => ⟨by
    have hback : ((x.toNat : Int)).toNat.toUInt8 = x := by simp
    rw [he, hback], hw.symm⟩
theorem should_calls (n : Nat) (w : World) (h : n ≤ 8) : Calls Tryd.prog 55 #[.int .i64 (n : Int)] w fun e w' => e = .returned (.bool false) ∧ w = w' :=
  (Tryd.strings_shouldUseASCIISet (n : Int) w).mono fun e w' ⟨he, hw⟩ => ⟨by rw [he, show decide ((8 : Int) < (n : Int)) = false from decide_eq_false (by omega)], hw.symm⟩

set_option maxRecDepth 100000 in
set_option maxHeartbeats 2000000 in
theorem any_short (s : ByteArray) (w : World) (h8 : s.size ≤ 8) :
    Calls Tryd.prog 47 #[.string s, .string ⟨#[13, 10]⟩] w fun e w' => e = .returned (.int .i64 (Lib.indexAny (bts s) [13, 10])) ∧ Below w.heap.size w w' := by
  have HS := Lib.hid (should_calls s.size w h8)
  go_enter Tryd.func47, Tryd.ntmps47
  go_wp2_with fail
  refine (HS.out).mono ?_; rintro e w1 ⟨rfl, rfl⟩
  go_wp2_with fail
  go_loopg [9, 10] s.size (fun g _ _ wx => ∃ i : Nat, i + g = s.size ∧ Hid (Below w.heap.size w wx ∧ wx.heap[w.heap.size]? = some (.stringIter s i) ∧ Lib.NoAny (bts s) [13, 10] i))
  case atStart => exact ⟨0, by omega, Lib.hid ⟨(Below.refl _ w).alloc (Nat.le_refl _) _, World.iter_heap w s 0, Lib.NoAny.zero _ _⟩⟩
  case round =>
    obtain ⟨i, hig, HR⟩ := hrel
    cases gk with
    | zero =>
      obtain rfl : i = s.size := by omega
      have hnx := fun ty => Lib.run_next_end_at (P := Tryd.prog) wr w.heap.size s s.size ty HR.out.2.1 (by omega)
      go_wp2
      go_ret
      exact ⟨by rw [Lib.indexAny_none (by rw [bts_length]; exact HR.out.2.2)]; rfl, HR.out.1⟩
    | succ g =>
      have hi : i < s.size := by omega
      obtain ⟨x, hx⟩ : ∃ x : UInt8, (bts s)[i]? = some x := ⟨_, List.getElem?_eq_getElem (by rw [bts_length]; exact hi)⟩
      have hnx := fun ty => Lib.run_next_any_at (P := Tryd.prog) wr w.heap.size s i ty HR.out.2.1 hi
      have HI := Lib.hid (And.intro (below_iterAt (s := s) (p := i + (Utf8.decode s i).2) HR.out.1 (Nat.le_refl _)) (Lib.iterAt_heap wr w.heap.size s i (i + (Utf8.decode s i).2) HR.out.2.1))
      by_cases hx128 : x.toNat < 128
      · have hd : Utf8.decode s i = (x.toNat, 1) := by
          rw [Lib.decode_N]
          show Lib.decodeN ((bts s).length - i) ((bts s).getD i 0).toNat ((bts s).getD (i + 1) 0).toNat ((bts s).getD (i + 2) 0).toNat ((bts s).getD (i + 3) 0).toNat = _
          rw [show (bts s).getD i 0 = x by rw [List.getD_eq_getElem?_getD, hx]; rfl, Lib.decodeN, if_pos hx128]
        rw [hd] at hnx HI
        simp only at hnx
        have hcon := Lib.contains_iff_indexByte [13, 10] x
        have Hx := Lib.hid hx
        have HC := Lib.hid (fun w => crlf_ascii x w hx128)
        have HN := Lib.hid HR.out.2.2
        clear hx hd
        generalize hw2 : wr.iterAt w.heap.size s (i + 1) = w2 at *
        clear hw2 HR
        cases hin : ([13, 10] : List UInt8).contains x
        · rw [hin] at hcon
          have hlt : ¬ ((0 : Int) ≤ Lib.indexByte [13, 10] x) := of_decide_eq_false hcon.symm
          clear hcon
          go_wp2_with (go_at_call 54; refine (HC.out _).mono ?_; rintro e w' ⟨rfl, rfl⟩)
          go_roundg g
          case measure => omega
          case rel => exact ⟨i + 1, by omega, Lib.hid ⟨HI.out.1, HI.out.2, HN.out.succ Hx.out hin⟩⟩
        · rw [hin] at hcon
          have hge : (0 : Int) ≤ Lib.indexByte [13, 10] x := of_decide_eq_true hcon.symm
          clear hcon
          go_wp2_with (go_at_call 54; refine (HC.out _).mono ?_; rintro e w' ⟨rfl, rfl⟩)
          go_ret
          exact ⟨by rw [Lib.indexAny_hit HN.out Hx.out hin]; rfl, HI.out.1⟩
      · obtain ⟨r1, r2, r3, r4, r5⟩ := dec_big s i hi x hx (by omega)
        have HC := Lib.hid (fun w => crlf_calls ((Utf8.decode s i).1 : Int) w (by omega) r2)
        have HN := Lib.hid (NoAny_skip (n := (Utf8.decode s i).2) HR.out.2.2 (fun j y h1 h2 h3 => big_not y (r5 j y h1 h2 h3)))
        clear r1 r2 r5 hx
        generalize Utf8.decode s i = d at *
        obtain ⟨r, n⟩ := d
        simp only at *
        generalize hw2 : wr.iterAt w.heap.size s (i + n) = w2 at *
        clear hw2 HR
        go_wp2_with (go_at_call 54; refine (HC.out _).mono ?_)
        rintro e w3 ⟨rfl, b3⟩
        have HB := Lib.hid b3
        clear b3
        go_wp2_with fail
        go_roundg (g + 1 - n)
        case measure => omega
        case rel => exact ⟨i + n, by omega, Lib.hid ⟨HI.out.1.trans (HB.out.mono HI.out.1.size), (HB.out.block _ (blk_lt HI.out.2)).trans HI.out.2, HN.out⟩⟩

theorem any_any (s : ByteArray) (w : World) (hs : s.size < 4294967281) :
    Calls Tryd.prog 47 #[.string s, .string ⟨#[13, 10]⟩] w fun e w' => e = .returned (.int .i64 (Lib.indexAny (bts s) [13, 10])) ∧ Below w.heap.size w w' := by
  by_cases h8 : s.size ≤ 8
  · exact any_short s w h8
  · refine (Tryd.strings_IndexAny_long (fun w => by kernel_rfl) s ⟨#[13, 10]⟩ w (by decide) (by omega) hs (by decide) (fun j b hb => ?_)).mono fun e w' ⟨he, hw⟩ => ⟨he, ?_⟩
    · match j, hb with
      | 0, hb => cases hb; decide
      | 1, hb => cases hb; decide
      | j + 2, hb => exact absurd hb (by simp)
    · subst hw
      exact ((Below.refl _ w).alloc (Nat.le_refl _) _).alloc (by simp) _
/-- Has a text a CR or a LF? -/
def hasEnd (l : List UInt8) : Bool := l.any (fun c => c == 10 || c == 13)
theorem hasEnd_indexAny : ∀ l : List UInt8, decide ((0 : Int) ≤ Lib.indexAny l [13, 10]) = hasEnd l
  | [] => rfl
  | b :: l => by
    have ih := hasEnd_indexAny l
    have hg := Lib.indexAny_ge [13, 10] l
    unfold hasEnd at *
    rw [List.any_cons, ← ih, Lib.indexAny]
    have hc : ([13, 10] : List UInt8).contains b = (b == 10 || b == 13) := by
      rw [List.contains_cons, List.contains_cons, List.contains_nil, Bool.or_false, Bool.or_comm]
    rw [hc]
    rcases hb : (b == 10 || b == 13) with _ | _
    · rw [if_neg (by simp), Bool.false_or]
      by_cases h1 : Lib.indexAny l [13, 10] = -1
      · rw [if_pos (by simp [h1]), h1]
      · rw [if_neg (by simp [h1])]
        have : decide ((0 : Int) ≤ Lib.indexAny l [13, 10]) = true := decide_eq_true (by omega)
        rw [this]; exact decide_eq_true (by omega)
    · rw [if_pos rfl, Bool.true_or]; rfl
theorem contains_calls (s : ByteArray) (w : World) (hs : s.size < 4294967281) :
    Calls Tryd.prog 35 #[.string s, .string ⟨#[13, 10]⟩] w fun e w' => e = .returned (.bool (hasEnd (bts s))) ∧ Below w.heap.size w w' := by
  have HA := Lib.hid (any_any s w hs)
  have HE := Lib.hid (hasEnd_indexAny (bts s))
  generalize Lib.indexAny (bts s) [13, 10] = n at *
  go_enter Tryd.func35, Tryd.ntmps35
  go_wp2_with fail
  refine (HA.out).mono ?_; rintro e w1 ⟨rfl, b1⟩
  go_wp2_with fail
  go_ret
  exact ⟨by rw [← HE.out]; rfl, b1⟩

/-- Why a row may not be, by its number. -/
def mayN (s : List UInt8) : Int := if 5000 < s.length then 4 else if hasEnd s = true ∨ s = [] ∨ goesOn s = true then 11 else 0
set_option maxRecDepth 100000 in
theorem flaw_calls (s : ByteArray) (w : World) (hs : s.size < 4294967281) :
    Calls Tryd.prog 20 #[.string s] w fun e w' => e = .returned (errK (mayN (bts s))) ∧ Below w.heap.size w w' := by
  have B0 := Lib.hid (Below.refl w.heap.size w)
  by_cases h1 : 5000 < s.size
  · have e1 : (5000 : Int) < (s.size : Int) := by omega
    rw [show mayN (bts s) = 4 by unfold mayN; rw [if_pos (by rw [bts_length]; exact h1)]]
    go_enter Tryd.func20, Tryd.ntmps20
    go_wp2_with fail
    go_ret
    exact ⟨rfl, B0.out⟩
  · have e1 : ¬ (5000 : Int) < (s.size : Int) := by omega
    by_cases h0 : bts s = []
    · obtain rfl : s = ⟨#[]⟩ := ba_ext h0
      clear h0 h1
      go_enter Tryd.func20, Tryd.ntmps20
      go_wp2_with fail
      go_ret
      exact ⟨rfl, B0.out⟩
    · have en := isEmpty_no h0
      have HM := Lib.hid (show mayN (bts s) = if hasEnd (bts s) = true ∨ goesOn (bts s) = true then 11 else 0 by
        unfold mayN; rw [if_neg (by rw [bts_length]; exact h1)]; simp only [h0, false_or])
      have HG := Lib.hid (fun w => goesOn_calls s w (by omega))
      have HC := Lib.hid (fun w => contains_calls s w hs)
      clear h0 h1
      generalize goesOn (bts s) = g at *
      generalize hasEnd (bts s) = c at *
      rcases g with _ | _
      · rcases c with _ | _
        · go_enter Tryd.func20, Tryd.ntmps20
          go_wp2_with fail
          refine (HG.out _).mono ?_; rintro e w1 ⟨rfl, rfl⟩
          go_wp2_with fail
          refine (HC.out _).mono ?_; rintro e w2 ⟨rfl, b2⟩
          go_wp2_with fail
          go_ret
          exact ⟨by rw [HM.out]; rfl, b2⟩
        · go_enter Tryd.func20, Tryd.ntmps20
          go_wp2_with fail
          refine (HG.out _).mono ?_; rintro e w1 ⟨rfl, rfl⟩
          go_wp2_with fail
          refine (HC.out _).mono ?_; rintro e w2 ⟨rfl, b2⟩
          go_wp2_with fail
          go_ret
          exact ⟨by rw [HM.out]; rfl, b2⟩
      · go_enter Tryd.func20, Tryd.ntmps20
        go_wp2_with fail
        refine (HG.out _).mono ?_; rintro e w1 ⟨rfl, rfl⟩
        go_wp2_with fail
        go_ret
        exact ⟨by rw [HM.out]; cases c <;> rfl, B0.out⟩

set_option maxRecDepth 100000 in
/-- An error at a place. -/
theorem place_calls (k n : Int) (w : World) (hg : ErrTy w) :
    Calls Tryd.prog 21 #[.int .i64 k, errNo n] w fun e w' => (∃ b, e = .returned (errF b) ∧ FaultIn b k n w') ∧ Below w.heap.size w w' := by
  have HA := Lib.hid (as_errno n w hg)
  clear hg
  go_enter Tryd.func21, Tryd.ntmps21
  go_wp2_with (go_at_call 26; refine HA.out.mono ?_)
  rintro e w2 ⟨rfl, b2, c2⟩
  have B2 := Lib.hid b2
  clear b2
  go_wp2
  go_ret
  refine ⟨⟨_, rfl, ?_, ?_⟩, B2.out.trans ((below_alloc _ _).mono B2.out.size)⟩
  · simp
  · simp
end Go.Proofs.YtddjfeofmihgdaaDoor
