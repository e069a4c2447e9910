/- fold.write: a row's lines, each with its end. -/
import Derived.Test.YtddjfeofmihgdaaDoorUk
import Derived.Test.YtddjfeofmihgdaaDoorCw1
namespace Go.Proofs.YtddjfeofmihgdaaDoor
open Go.RowKit
set_option linter.unusedVariables false
set_option linter.unusedSimpArgs false

/-- What the package-level variables hold. -/
structure Glob (x : Addr) (m : Int) (w : World) : Prop where
  laid : Laid x w
  tabs : Lib.Utf8Tabs 1 2 w
  ty : ErrTy w
  most : w.cell? ⟨4, 0, none⟩ = some (.int .i64 m)
theorem Glob.keep {x : Addr} {m : Int} {B : Nat} {w w' : World} (h : Glob x m w) (hb : Below B w w') (hB : 5 ≤ B) : Glob x m w' :=
  ⟨by unfold Laid; rw [hb.cell (p := ⟨0, 0, none⟩) (Nat.lt_of_lt_of_le (by decide) hB)]; exact h.laid,
   ⟨fun c hc => by rw [hb.cell (p := ⟨1, c, none⟩) (Nat.lt_of_lt_of_le (by show (1 : Nat) < 5; decide) hB)]; exact h.tabs.1 c hc,
    fun i hi => ⟨by rw [hb.cell (p := ⟨2, 2 * i, none⟩) (Nat.lt_of_lt_of_le (by show (2 : Nat) < 5; decide) hB)]; exact (h.tabs.2 i hi).1, by rw [hb.cell (p := ⟨2, 2 * i + 1, none⟩) (Nat.lt_of_lt_of_le (by show (2 : Nat) < 5; decide) hB)]; exact (h.tabs.2 i hi).2⟩⟩,
   by unfold ErrTy; rw [hb.cell (p := ⟨3, 0, none⟩) (Nat.lt_of_lt_of_le (by decide) hB)]; exact h.ty,
   by rw [hb.cell (p := ⟨4, 0, none⟩) (Nat.lt_of_lt_of_le (by decide) hB)]; exact h.most⟩
theorem Glob.big {x : Addr} {m : Int} {w : World} (h : Glob x m w) : 5 ≤ w.heap.size := by
  have := World.block_lt_of_cell? w _ h.most
  exact this
theorem Glob.below {x : Addr} {m : Int} {w w' : World} (h : Glob x m w) (hb : Below w.heap.size w w') : Glob x m w' := h.keep hb h.big

theorem decGo_wid (s : ByteArray) (h : bts s ≠ []) : (Lib.decodeGo s).2 = wid (bts s) := by
  have h0 : s.size ≠ 0 := by
    intro e
    apply h
    exact List.eq_nil_of_length_eq_zero (by rw [bts_length]; exact e)
  unfold Lib.decodeGo wid Lib.decodeL
  rw [if_neg h0]
theorem dec_calls (s : ByteArray) (w : World) (hs : bts s ≠ []) (hT : Lib.Utf8Tabs 1 2 w) :
    Calls Tryd.prog 36 #[.string s] w fun e w' => e = .returned (.tuple #[.int .i32 (Lib.decodeGo s).1, .int .i64 (wid (bts s))]) ∧ Below w.heap.size w w' :=
  (Tryd.utf8_DecodeRuneInString s w hT).mono fun e w' ⟨he, hb⟩ => ⟨by rw [he, decGo_wid s hs], hb⟩
theorem bts_to (t : ByteArray) (n : Nat) : bts (t.extract 0 n) = (bts t).take n := by rw [bts_extract]; simp
theorem bts_from (t : ByteArray) (n : Nat) : bts (t.extract n t.size) = (bts t).drop n := by
  rw [bts_extract, List.take_of_length_le]
  rw [List.length_drop, bts_length]; exact Nat.le_refl _
theorem ne_nil_of_size {t : ByteArray} {g : Nat} (h : t.size = g + 1) : bts t ≠ [] := by
  intro e
  have := congrArg List.length e
  rw [bts_length, List.length_nil] at this; omega

set_option maxRecDepth 100000 in
set_option maxHeartbeats 2000000 in
theorem write_calls (x : Addr) (m : Int) (B b : Nat) (l : List UInt8) (s : ByteArray) (w : World) (hg : Glob x m w) (hGB : 5 ≤ B) (h : Bld B b l w) (hlen : l.length + 4 * s.size + 4 ≤ 140737488355328) (hBw : B ≤ w.heap.size) :
    Calls Tryd.prog 22 #[.pointer (some ⟨b, 0, none⟩), .string s] w fun e w' => e = .returned (.tuple #[]) ∧ Bld B b (l ++ ends (lines (bts s))) w' ∧ Wrote B b w w' := by
  have HG := Lib.hid hg
  have HL := Lib.hid hlen
  have HW := Lib.hid h
  clear hg hlen h
  go_enter Tryd.func22, Tryd.ntmps22
  go_wp2_with fail
  go_loopg [1, 4] s.size (fun g v1 v4 wr => ∃ (t : ByteArray) (done : List BL) (cur : BL), t.size = g ∧ v1 = .string t ∧ v4 = .int .i64 (75 - cur.length) ∧ cur.length ≤ 75 ∧ Hid (Bld B b (l ++ (ends done ++ cur)) wr ∧ Wrote B b w wr ∧ done ++ lns (bts t) cur = lines (bts s) ∧ (ends done ++ cur).length + 4 * t.size ≤ 4 * s.size))
  case atStart => exact ⟨s, [], [], rfl, rfl, rfl, by simp, Lib.hid ⟨by simpa [ends_nil] using HW.out, Wrote.refl _ _ _, rfl, by simp [ends]⟩⟩
  case round =>
    obtain ⟨t, done, cur, htg, rfl, rfl, hcur, HR⟩ := hrel
    have hsz := Nat.le_trans hBw HR.out.2.1.below.size
    cases gk with
    | zero =>
      obtain rfl := size_zero htg
      have HC := Lib.hid (writeString_calls B b (l ++ (ends done ++ cur)) ⟨#[13, 10]⟩ wr HR.out.1 (by have h1 := HR.out.2.2.2; have h2 := HL.out; rw [List.length_append]; show _ + 2 ≤ _; omega) hsz)
      go_wp2_with fail
      go_wp2_with (go_at_call 32; refine HC.out.mono ?_)
      rintro e w2 ⟨rfl, h2, k2⟩
      have H2 := Lib.hid (And.intro h2 k2)
      clear h2 k2
      go_wp2_with fail
      go_end0
      refine ⟨rfl, ?_, HR.out.2.1.trans H2.out.2⟩
      have e := HR.out.2.2.1
      rw [show bts ⟨#[]⟩ = [] from rfl, lns_nil] at e
      rw [← e, ends_append, ends_cons, ends_nil]
      have := H2.out.1
      simpa using this
    | succ g =>
      have hne := ne_nil_of_size htg
      have en := isEmpty_no hne
      have hwp := wid_pos (bts t)
      have hw4 := wid_4 (bts t)
      have hwl : wid (bts t) ≤ t.size := by rw [← bts_length]; exact wid_le _ hne
      have HT := Lib.hid (bts_to t (wid (bts t)))
      have HF := Lib.hid (bts_from t (wid (bts t)))
      have HD := Lib.hid (dec_calls t wr hne (HG.out.keep HR.out.2.1.below hGB).tabs)
      have HN := Lib.hid (lns_new (bts t) cur hne)
      have HO := Lib.hid (lns_old (bts t) cur hne)
      have HK := Lib.hid (take_wid_length (bts t) hne)
      clear hne
      generalize wid (bts t) = n at *
      by_cases hw : 75 < cur.length + n
      · have hgt : (75 : Int) - cur.length < n := by omega
        have HE := Lib.hid (HN.out hw)
        clear HN HO
        go_wp2_with fail
        go_wp2_with fail
        refine (HD.out).mono ?_; rintro e w1 ⟨rfl, b1⟩
        have HW1 := Lib.hid (Bld.keep HR.out.1 b1)
        have K1 := Lib.hid (HR.out.2.1.trans (Wrote.of_below b1 hsz))
        clear b1
        have hz1 := Nat.le_trans hBw K1.out.below.size
        have HC := Lib.hid (writeString_calls B b (l ++ (ends done ++ cur)) ⟨#[13, 10]⟩ w1 HW1.out (by have h1 := HR.out.2.2.2; have h2 := HL.out; rw [List.length_append]; show _ + 2 ≤ _; omega) hz1)
        go_wp2_with (go_at_call 32; refine HC.out.mono ?_)
        rintro e w2 ⟨rfl, h2, k2⟩
        have HW2 := Lib.hid h2
        have K2 := Lib.hid (K1.out.trans k2)
        clear h2 k2
        have hz2 := Nat.le_trans hBw K2.out.below.size
        have HC2 := Lib.hid (writeByte_n B b (l ++ (ends done ++ cur) ++ bts ⟨#[13, 10]⟩) 32 32 rfl w2 HW2.out (by have h1 := HR.out.2.2.2; have h2 := HL.out; rw [List.length_append, List.length_append]; show _ + 2 + 1 ≤ _; omega) hz2)
        go_wp2_with (go_at_call 37; refine HC2.out.mono ?_)
        rintro e w3 ⟨rfl, h3, k3⟩
        have HW3 := Lib.hid h3
        have K3 := Lib.hid (K2.out.trans k3)
        clear h3 k3
        have hz3 := Nat.le_trans hBw K3.out.below.size
        have HC3 := Lib.hid (writeString_calls B b (l ++ (ends done ++ cur) ++ bts ⟨#[13, 10]⟩ ++ [32]) (t.extract 0 n) w3 HW3.out (by
          have h1 := HR.out.2.2.2; have h2 := HL.out
          have h3 : (t.extract 0 n).size = n := by rw [← bts_length, HT.out]; exact HK.out
          rw [List.length_append, List.length_append, List.length_append, h3]; show _ + 2 + 1 + _ ≤ _; omega) hz3)
        go_wp2_with (go_at_call 32; refine HC3.out.mono ?_)
        rintro e w4 ⟨rfl, h4, k4⟩
        have H4 := Lib.hid (And.intro h4 k4)
        clear h4 k4
        go_wp2_with fail
        go_roundg (g + 1 - n)
        case measure => omega
        case rel =>
          have hl : (bts (t.extract n t.size)).length = t.size - n := by rw [HF.out, List.length_drop, bts_length]
          refine ⟨t.extract n t.size, done ++ [cur], 32 :: (bts t).take n, by rw [← bts_length, hl]; omega, by rw [htg], ?_, by rw [List.length_cons, HK.out]; omega, Lib.hid ⟨?_, K3.out.trans H4.out.2, ?_, ?_⟩⟩
          · rw [List.length_cons, HK.out]; congr 1; omega
          · have h := H4.out.1
            rw [HT.out] at h
            rw [ends_append, ends_cons, ends_nil]
            rw [show bts ⟨#[13, 10]⟩ = [13, 10] from rfl] at h
            simpa using h
          · rw [HF.out, List.append_assoc, List.singleton_append, ← HE.out]; exact HR.out.2.2.1
          · rw [← bts_length, hl, ends_append, ends_cons, ends_nil]
            have h1 := HR.out.2.2.2
            have h2 := HK.out
            simp only [List.length_append, List.length_cons, List.length_nil] at *
            omega
      · have hgt : ¬ (75 : Int) - cur.length < n := by omega
        have HE := Lib.hid (HO.out hw)
        clear HN HO
        go_wp2_with fail
        go_wp2_with fail
        refine (HD.out).mono ?_; rintro e w1 ⟨rfl, b1⟩
        have HW1 := Lib.hid (Bld.keep HR.out.1 b1)
        have K1 := Lib.hid (HR.out.2.1.trans (Wrote.of_below b1 hsz))
        clear b1
        have hz1 := Nat.le_trans hBw K1.out.below.size
        have HC3 := Lib.hid (writeString_calls B b (l ++ (ends done ++ cur)) (t.extract 0 n) w1 HW1.out (by
          have h1 := HR.out.2.2.2; have h2 := HL.out
          have h3 : (t.extract 0 n).size = n := by rw [← bts_length, HT.out]; exact HK.out
          rw [List.length_append, h3]; omega) hz1)
        go_wp2_with (go_at_call 32; refine HC3.out.mono ?_)
        rintro e w4 ⟨rfl, h4, k4⟩
        have H4 := Lib.hid (And.intro h4 k4)
        clear h4 k4
        go_wp2_with fail
        go_roundg (g + 1 - n)
        case measure => omega
        case rel =>
          have hl : (bts (t.extract n t.size)).length = t.size - n := by rw [HF.out, List.length_drop, bts_length]
          refine ⟨t.extract n t.size, done, cur ++ (bts t).take n, by rw [← bts_length, hl]; omega, by rw [htg], ?_, by rw [List.length_append, HK.out]; omega, Lib.hid ⟨?_, K1.out.trans H4.out.2, ?_, ?_⟩⟩
          · rw [List.length_append, HK.out]; congr 1; omega
          · have h := H4.out.1
            rw [HT.out] at h
            simpa using h
          · rw [HF.out, ← HE.out]; exact HR.out.2.2.1
          · rw [← bts_length, hl]
            have h1 := HR.out.2.2.2
            have h2 := HK.out
            simp only [List.length_append, List.length_cons, List.length_nil] at *
            omega
end Go.Proofs.YtddjfeofmihgdaaDoor
