/- Texts read: the program's. -/
import Derived.Test.YtgmmnbojelekbaaDoorTb
namespace Go.Proofs.YtgmmnbojelekbaaDoor
open Go.RowKit
set_option linter.unusedVariables false
set_option linter.unusedSimpArgs false

def meantV (x : Addr) : Option UInt8 → Value
  | some m => .tuple #[.int .u8 (m.toNat : Int), .nilIface]
  | none => .tuple #[.int .u8 0, errP x]
def mean0 : List UInt8 → Option UInt8
  | [] => none
  | d :: _ => mean d

set_option maxRecDepth 100000 in
set_option maxHeartbeats 4000000 in
theorem meant_calls (x : Addr) (s : ByteArray) (hs : s.size ≤ 1000000) (w : World) (hx : Laid x w) :
    Calls Tryd.prog 42 #[.string s] w fun e w' => e = .returned (meantV x (mean0 (bts s))) ∧ Below w.heap.size w w' := by
  have lx := hx
  unfold Laid at lx
  have bb := Below.refl w.heap.size w
  by_cases h0 : 0 < s.size
  · have e0 : s.toList.isEmpty = false := by
      rcases hl : s.toList with _ | ⟨a, l⟩
      · have := toList_beq_ne (s := s) (t := ⟨#[]⟩) (fun e => by subst e; exact absurd h0 (by decide))
        rw [hl, ByteArray.toList_eq] at this; exact absurd this (by decide)
      · rfl
    have HD : Hid (mean0 (bts s) = mean s[0]) := Lib.hid (by
      have := split_at s 0 h0
      rw [this]; rfl)
    generalize hc : s[0] = c at *
    clear hx
    by_cases h110 : c = 110
    · have HM := Lib.hid (show mean c = some 10 by subst h110; decide)
      subst h110
      go_enter Tryd.func42, Tryd.ntmps42
      go_wp2_with fail
      go_ret2
      exact ⟨by rw [HD.out, HM.out]; rfl, bb⟩
    · by_cases h78 : c = 78
      · have HM := Lib.hid (show mean c = some 10 by subst h78; decide)
        subst h78
        go_enter Tryd.func42, Tryd.ntmps42
        go_wp2_with fail
        go_ret2
        exact ⟨by rw [HD.out, HM.out]; rfl, bb⟩
      · by_cases h92 : c = 92
        · have HM := Lib.hid (show mean c = some 92 by subst h92; decide)
          subst h92
          go_enter Tryd.func42, Tryd.ntmps42
          go_wp2_with fail
          go_ret2
          exact ⟨by rw [HD.out, HM.out]; rfl, bb⟩
        · by_cases h59 : c = 59
          · have HM := Lib.hid (show mean c = some 59 by subst h59; decide)
            subst h59
            go_enter Tryd.func42, Tryd.ntmps42
            go_wp2_with fail
            go_ret2
            exact ⟨by rw [HD.out, HM.out]; rfl, bb⟩
          · by_cases h44 : c = 44
            · have HM := Lib.hid (show mean c = some 44 by subst h44; decide)
              subst h44
              go_enter Tryd.func42, Tryd.ntmps42
              go_wp2_with fail
              go_ret2
              exact ⟨by rw [HD.out, HM.out]; rfl, bb⟩
            · have HM := Lib.hid (show mean c = none by unfold mean sign3; simp [h110, h78, h92, h59, h44])
              have f110 : ((c.toNat : Int) == 110) = false := u8f (d := 110) h110
              have f78 : ((c.toNat : Int) == 78) = false := u8f (d := 78) h78
              have f92 : ((c.toNat : Int) == 92) = false := u8f (d := 92) h92
              have f59 : ((c.toNat : Int) == 59) = false := u8f (d := 59) h59
              have f44 : ((c.toNat : Int) == 44) = false := u8f (d := 44) h44
              clear h110 h78 h92 h59 h44
              go_enter Tryd.func42, Tryd.ntmps42
              go_wp2_with fail
              go_quiet (fail)
              go_wp2_with fail
              go_ret2
              exact ⟨by rw [HD.out, HM.out]; rfl, below_draws bb nq⟩
  · have hsz : s = ⟨#[]⟩ := ba_ext (by
      have : (bts s).length = 0 := by rw [bts_length]; omega
      rw [List.length_eq_zero_iff.1 this])
    clear hx
    subst hsz
    go_enter Tryd.func42, Tryd.ntmps42
    go_wp2_with fail
    go_quiet (fail)
    go_wp2_with fail
    go_ret2
    exact ⟨rfl, below_draws bb nq⟩

/-- 's[k:]'. -/
theorem sl_str_from (s : ByteArray) (k : Nat) (x : Int) (hx : x = k) (h : k ≤ s.size) (w : World) :
    (Instr.slice 9 (.string s) (some (.int .i64 x)) none none).run Tryd.prog w = .ok (.string (s.extract k s.size)) w := by
  rw [run_slice_string_l w 9 s Tryd.underlying9 .i64 x (by omega) (by omega), hx]
  rfl

theorem unesc_plainL {L acc : List UInt8} {c : UInt8} {l : List UInt8} (h : unesc L = (unesc (c :: l)).map (acc ++ ·)) (hm : may c = true) (h2 : c ≠ 92) :
    unesc L = (unesc l).map ((acc ++ [c]) ++ ·) := by
  rw [h, unesc_cons_plain hm h2]
  rcases unesc l with _ | m <;> simp
theorem unesc_signL {L acc : List UInt8} {d m : UInt8} {l : List UInt8} (h : unesc L = (unesc (92 :: d :: l)).map (acc ++ ·)) (hm : mean d = some m) :
    unesc L = (unesc l).map ((acc ++ [m]) ++ ·) := by
  rw [h, unesc_cons_sign, hm]
  rcases unesc l with _ | m <;> simp
theorem unesc_badL {L acc : List UInt8} {d : UInt8} {l : List UInt8} (h : unesc L = (unesc (92 :: d :: l)).map (acc ++ ·)) (hm : mean d = none) :
    unesc L = none := by
  rw [h, unesc_cons_sign, hm]; rfl
theorem unesc_notL {L acc : List UInt8} {c : UInt8} {l : List UInt8} (h : unesc L = (unesc (c :: l)).map (acc ++ ·)) (hm : may c = false) :
    unesc L = none := by
  rw [h, unesc_not hm]; rfl
theorem drop_split (s : ByteArray) (k : Nat) (h : k < s.size) : (bts s).drop k = s[k] :: (bts s).drop (k + 1) := by
  rw [List.drop_eq_getElem_cons (by rw [bts_length]; exact h)]; rfl

set_option maxRecDepth 100000 in
set_option maxHeartbeats 4000000 in
theorem read_calls (x : Addr) (s : ByteArray) (hs : s.size ≤ 1000000) (w : World) (hx : Laid x w) :
    Calls Tryd.prog 30 #[.string s] w fun e w' => e = .returned (toldV x (unesc (bts s))) ∧ Below w.heap.size w w' := by
  have hfresh := Lib.fresh_isBuilder 66 5 w
  have hfresh' : Bld w.heap.size w.heap.size [] (w.alloc (.cells #[.pointer none, .slice none 0 0] 66)) := hfresh
  clear hfresh
  go_enter Tryd.func30, Tryd.ntmps30
  go_wp2_with fail
  go_loopw [5] (fun i wr => ∃ (k : Nat) (acc : List UInt8), k ≤ s.size ∧ i = iv k ∧ acc.length ≤ k ∧ Bld w.heap.size w.heap.size acc wr ∧ Hid (unesc (bts s) = (unesc ((bts s).drop k)).map (acc ++ ·)) ∧ Below w.heap.size w wr) (fun i _ => s.size - (intOf i).toNat)
  case atStart => exact ⟨0, [], Nat.zero_le _, rfl, Nat.le_refl _, hfresh', Lib.hid (by rcases h : unesc (bts s) <;> simp [h]), below_alloc _ _⟩
  case round =>
    obtain ⟨k, acc, hk, rfl, hal, hbd, hacc, bb⟩ := hrel
    have sz := bb.size
    by_cases hlt : k < s.size
    · have hsn := drop_split s k hlt
      have fin1 : ∀ (w' : World), may s[k] = true → s[k] ≠ 92 → Bld w.heap.size w.heap.size (acc ++ [s[k]]) w' → Below w.heap.size w w' → ∃ (k' : Nat) (acc' : List UInt8), k' ≤ s.size ∧ Value.int .i64 ((k : Int) + 1) = iv k' ∧ acc'.length ≤ k' ∧ Bld w.heap.size w.heap.size acc' w' ∧ Hid (unesc (bts s) = (unesc ((bts s).drop k')).map (acc' ++ ·)) ∧ Below w.heap.size w w' := fun w' h1 h2 h3 h4 =>
        ⟨k + 1, acc ++ [s[k]], by omega, by go_num, by simp; omega, h3, Lib.hid (unesc_plainL (by rw [hacc.out, hsn]) h1 h2), h4⟩
      have FIN1 := Lib.hid fin1
      clear fin1
      by_cases h92 : s[k] = 92
      · have hrest : s.size - (k + 1) = s.size - k - 1 := by omega
        have q1 := sl_str_from s (k + 1) (k + 1) rfl (by omega)
        have zd : (s.extract (k + 1) s.size).size ≤ 1000000 := by rw [ByteArray.size_extract]; omega
        have ed : bts (s.extract (k + 1) s.size) = (bts s).drop (k + 1) := by rw [bts_extract, List.take_of_length_le (by rw [List.length_drop, bts_length]; omega)]
        rcases hm : mean0 ((bts s).drop (k + 1)) with _ | m
        · have HE := Lib.hid (show unesc (bts s) = none by
            rw [hacc.out, hsn, h92]
            rcases hl : (bts s).drop (k + 1) with _ | ⟨d, l⟩
            · rw [unesc_end]; rfl
            · rw [hl] at hm; rw [unesc_cons_sign, show mean d = none from hm]; rfl)
          have HM := Lib.hid (show meantV x (mean0 (bts (s.extract (k + 1) s.size))) = .tuple #[.int .u8 0, errP x] by rw [ed, hm]; rfl)
          have lx := hx.below bb
          clear hm ed hsn hbd
          generalize hc : s[k] = c at *
          subst h92
          go_wp2_with fail
          refine (mayStand_n 92 92 rfl true rfl _).mono ?_; rintro e w' ⟨rfl, rfl⟩
          go_wp2_with fail
          refine (meant_calls x _ zd wr lx).mono ?_; rintro e w1 ⟨rfl, b1⟩
          rw [HM.out]
          go_wp2_with fail
          go_ret2
          exact ⟨by rw [HE.out]; rfl, bb.trans (b1.mono sz)⟩
        · have hk1 : k + 1 < s.size := by
            rcases Nat.lt_or_ge (k + 1) s.size with h | h
            · exact h
            · rw [List.drop_eq_nil_of_le (by rw [bts_length]; exact h)] at hm; simp [mean0] at hm
          have hsn2 := drop_split s (k + 1) hk1
          have fin2 : ∀ (w' : World), Bld w.heap.size w.heap.size (acc ++ [m]) w' → Below w.heap.size w w' → ∃ (k' : Nat) (acc' : List UInt8), k' ≤ s.size ∧ Value.int .i64 ((k : Int) + 1 + 1) = iv k' ∧ acc'.length ≤ k' ∧ Bld w.heap.size w.heap.size acc' w' ∧ Hid (unesc (bts s) = (unesc ((bts s).drop k')).map (acc' ++ ·)) ∧ Below w.heap.size w w' := fun w' h3 h4 =>
            ⟨k + 2, acc ++ [m], by omega, by go_num, by simp; omega, h3, Lib.hid (unesc_signL (d := s[k + 1]) (by rw [hacc.out, hsn, hsn2, h92]) (by rw [hsn2] at hm; exact hm)), h4⟩
          have FIN2 := Lib.hid fin2
          have HM := Lib.hid (show meantV x (mean0 (bts (s.extract (k + 1) s.size))) = .tuple #[.int .u8 (m.toNat : Int), .nilIface] by rw [ed, hm]; rfl)
          have lx := hx.below bb
          clear hm ed hsn hsn2 fin2
          generalize hc : s[k] = c at *
          subst h92
          go_wp2_with fail
          refine (mayStand_n 92 92 rfl true rfl _).mono ?_; rintro e w' ⟨rfl, rfl⟩
          go_wp2_with fail
          refine (meant_calls x _ zd wr lx).mono ?_; rintro e w1 ⟨rfl, b1⟩
          rw [HM.out]
          go_wp2_with fail
          refine (writeByte_calls w.heap.size w.heap.size acc m _ (hbd.keep b1) (by omega) (by have := b1.size; omega)).mono ?_; rintro e w2 ⟨rfl, h2, k2⟩
          go_wp2_with fail
          go_roundw
          case rel => exact FIN2.out w2 h2 ((bb.trans (b1.mono sz)).trans k2.below)
          case measure => simp [intOf]; omega
      · have f92 : ((s[k].toNat : Int) == 92) = false := u8f (d := 92) h92
        rcases hm : may s[k] with _ | _
        · have HE := Lib.hid (show unesc (bts s) = none from unesc_notL (by rw [hacc.out, hsn]) hm)
          have HM := Lib.hid hm
          have lx := hx.below bb
          unfold Laid at lx
          clear hm hsn hbd FIN1
          generalize hc : s[k] = c at *
          go_wp2_with fail
          refine (mayStand_n c _ rfl false HM.out _).mono ?_; rintro e w' ⟨rfl, rfl⟩
          go_wp2_with fail
          go_quiet (fail)
          go_wp2_with fail
          go_ret2
          exact ⟨by rw [HE.out]; rfl, below_draws bb nq⟩
        · have HM := Lib.hid hm
          clear hm hsn
          have H92 := Lib.hid h92
          clear h92
          generalize hc : s[k] = c at *
          go_wp2_with fail
          refine (mayStand_n c _ rfl true HM.out _).mono ?_; rintro e w' ⟨rfl, rfl⟩
          go_wp2_with fail
          refine (writeByte_calls w.heap.size w.heap.size acc c _ hbd (by omega) sz).mono ?_; rintro e w2 ⟨rfl, h2, k2⟩
          go_wp2_with fail
          go_roundw
          case rel => exact FIN1.out w2 HM.out H92.out h2 (bb.trans k2.below)
          case measure => simp [intOf]; omega
    · obtain rfl : k = s.size := by omega
      have e : (bts s).drop s.size = [] := List.drop_eq_nil_of_le (by rw [bts_length]; exact Nat.le_refl _)
      have he := hacc.out
      rw [e] at he
      have HE := Lib.hid (show unesc (bts s) = some acc by rw [he]; simp [unesc])
      clear he e
      go_wp2_with fail
      refine (Tryd.Builder_String_any _ _ _ _ hbd sz).mono ?_; rintro e w1 ⟨rfl, b1⟩
      go_wp2_with fail
      go_ret2
      exact ⟨by rw [HE.out]; rfl, bb.trans b1⟩
end Go.Proofs.YtgmmnbojelekbaaDoor
