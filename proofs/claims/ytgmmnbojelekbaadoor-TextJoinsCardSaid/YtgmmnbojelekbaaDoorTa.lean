/- Texts written: the program's and the document's. -/
import Derived.Test.YtgmmnbojelekbaaDoorTe
import Derived.Test.YtgmmnbojelekbaaDoorTm
import Derived.Test.YtgmmnbojelekbaaDoorCw1
import Derived.Test.YtgmmnbojelekbaaDoorShelf
import Derived.Test.YtgmmnbojelekbaaDoorPast
namespace Go.Proofs.YtgmmnbojelekbaaDoor
open Go.RowKit
set_option linter.unusedVariables false
set_option linter.unusedSimpArgs false

theorem u8f {c d : UInt8} (h : c ≠ d) : ((c.toNat : Int) == (d.toNat : Int)) = false := by
  rw [beq_eq_false_iff_ne]
  intro e
  exact h (UInt8.toNat_inj.1 (by omega))
theorem u8n {c d : UInt8} (h : c ≠ d) : ((c.toNat : Int) != (d.toNat : Int)) = true := by
  unfold bne; rw [u8f h]; rfl

set_option maxRecDepth 100000 in
theorem mayStand_calls (c : UInt8) (w : World) :
    Calls Tryd.prog 40 #[.int .u8 (c.toNat : Int)] w fun e w' => e = .returned (.bool (may c)) ∧ w = w' := by
  by_cases h9 : c = 9
  · subst h9
    go_enter Tryd.func40, Tryd.ntmps40
    go_wp2_with fail
    go_ret
    exact ⟨rfl, rfl⟩
  · have f9 : ((c.toNat : Int) == 9) = false := u8f (d := 9) h9
    have e9 : (c == 9) = false := by simpa using h9
    by_cases h32 : 32 ≤ c.toNat
    · have g32 : (32 : Int) ≤ (c.toNat : Int) := by omega
      by_cases h127 : c = 127
      · subst h127
        go_enter Tryd.func40, Tryd.ntmps40
        go_wp2_with fail
        go_ret
        exact ⟨rfl, rfl⟩
      · have f127 : ((c.toNat : Int) != 127) = true := u8n (d := 127) h127
        have em : may c = true := by unfold may; simp [h32, h127]
        rw [em]
        clear h9 h127 e9 em
        go_enter Tryd.func40, Tryd.ntmps40
        go_wp2_with fail
        go_ret
        exact ⟨rfl, rfl⟩
    · have g32 : (c.toNat : Int) < 32 := by omega
      have em : may c = false := by unfold may; simp [h32, h9]
      rw [em]
      clear h9 e9 em h32
      go_enter Tryd.func40, Tryd.ntmps40
      go_wp2_with fail
      go_ret
      exact ⟨rfl, rfl⟩

theorem mayStand_n (c : UInt8) (n : Int) (hn : (c.toNat : Int) = n) (b : Bool) (hb : may c = b) (w : World) :
    Calls Tryd.prog 40 #[.int .u8 n] w fun e w' => e = .returned (.bool b) ∧ w = w' := by
  subst hn hb; exact mayStand_calls c w
/-- What a call answers that tells a text, or refuses. -/
def toldV (x : Addr) : Option (List UInt8) → Value
  | some a => .tuple #[.string (strOf a), .nilIface]
  | none => .tuple #[.string ⟨#[]⟩, errP x]
theorem esc1_length {c : UInt8} {a : List UInt8} (h : esc1 c = some a) : a.length ≤ 2 := by
  unfold esc1 at h
  split at h
  · injection h with h; subst h; simp
  · split at h
    · split at h <;> (injection h with h; subst h; simp)
    · simp at h
theorem esc_length : ∀ {l a : List UInt8}, esc l = some a → a.length ≤ 2 * l.length
  | [], a, h => by rw [esc] at h; injection h with h; subst h; simp
  | c :: l, a, h => by
    rw [esc] at h
    rcases h1 : esc1 c with _ | b
    · rw [h1] at h; simp at h
    · rcases h2 : esc l with _ | m
      · rw [h1, h2] at h; simp at h
      · rw [h1, h2] at h; simp at h
        subst h
        have := esc1_length h1
        have := esc_length h2
        simp; omega
theorem esc_snoc {l acc : List UInt8} {c : UInt8} {a : List UInt8} (h : esc l = some acc) (h1 : esc1 c = some a) : esc (l ++ [c]) = some (acc ++ a) := by
  rw [esc_append, h, esc, h1]; simp [esc]
theorem esc_stop {l acc : List UInt8} {c : UInt8} {m : List UInt8} (h : esc l = some acc) (h1 : esc1 c = none) : esc (l ++ c :: m) = none := by
  rw [esc_append, h, esc, h1]; rfl

set_option maxRecDepth 100000 in
set_option maxHeartbeats 4000000 in
theorem written_calls (x : Addr) (s : ByteArray) (hs : s.size ≤ 1000000) (w : World) (hx : Laid x w) :
    Calls Tryd.prog 28 #[.string s] w fun e w' => e = .returned (toldV x (esc (bts s))) ∧ Below w.heap.size w w' := by
  have hfresh := Lib.fresh_isBuilder 66 5 w
  have hfresh' : Bld w.heap.size w.heap.size [] (w.alloc (.cells #[.pointer none, .slice none 0 0] 66)) := hfresh
  clear hfresh
  go_enter Tryd.func28, Tryd.ntmps28
  go_wp2_with fail
  go_loopw [9] (fun i wr => ∃ (k : Nat) (acc : List UInt8), k ≤ s.size ∧ i = iv k ∧ Bld w.heap.size w.heap.size acc wr ∧ Hid (esc ((bts s).take k) = some acc) ∧ Below w.heap.size w wr) (fun i _ => s.size - (intOf i).toNat)
  case atStart => exact ⟨0, [], Nat.zero_le _, rfl, hfresh', Lib.hid rfl, below_alloc _ _⟩
  case round =>
    obtain ⟨k, acc, hk, rfl, hbd, hacc, bb⟩ := hrel
    have hal : acc.length ≤ 2 * k := by have := esc_length hacc.out; rw [List.length_take] at this; omega
    have sz := bb.size
    by_cases hlt : k < s.size
    · have hsn := bts_take s k hlt
      have hdr : bts s = (bts s).take k ++ s[k] :: (bts s).drop (k + 1) := by
        have := (List.take_append_drop k (bts s)).symm
        rw [List.drop_eq_getElem_cons (by rw [bts_length]; exact hlt)] at this
        exact this
      have fin : ∀ (a : List UInt8) (w' : World), esc1 s[k] = some a → Bld w.heap.size w.heap.size (acc ++ a) w' → Below w.heap.size w w' → ∃ (k' : Nat) (acc' : List UInt8), k' ≤ s.size ∧ Value.int .i64 ((k : Int) + 1) = iv k' ∧ Bld w.heap.size w.heap.size acc' w' ∧ Hid (esc ((bts s).take k') = some acc') ∧ Below w.heap.size w w' := fun a w' h1 h2 h3 =>
        ⟨k + 1, acc ++ a, by omega, by go_num, h2, Lib.hid (by rw [hsn]; exact esc_snoc hacc.out h1), h3⟩
      have FIN := Lib.hid fin
      have HD := Lib.hid hdr
      have sp : ((s[k].toNat : Int)) = ((s[k].toNat : Nat) : Int) := rfl
      clear fin hdr hsn sp
      generalize hc : s[k] = c at *
      by_cases h10 : c = 10
      · subst h10
        go_wp2_with fail
        refine (writeByte_n w.heap.size w.heap.size acc 92 92 rfl wr hbd (by omega) sz).mono ?_; rintro e w1 ⟨rfl, h1, k1⟩
        have s1 := k1.below.size
        go_wp2_with fail
        refine (mayStand_n 110 110 rfl true rfl _).mono ?_; rintro e w' ⟨rfl, rfl⟩
        go_wp2_with fail
        refine (writeByte_n w.heap.size w.heap.size (acc ++ [92]) 110 110 rfl w1 h1 (by simp; omega) (by omega)).mono ?_; rintro e w2 ⟨rfl, h2, k2⟩
        go_wp2_with fail
        go_roundw
        case rel => exact FIN.out [92, 110] w2 rfl (by simpa using h2) (bb.trans (k1.below.trans k2.below))
        case measure => simp [intOf]; omega
      · by_cases h92 : c = 92
        · subst h92
          go_wp2_with fail
          refine (writeByte_n w.heap.size w.heap.size acc 92 92 rfl wr hbd (by omega) sz).mono ?_; rintro e w1 ⟨rfl, h1, k1⟩
          have s1 := k1.below.size
          go_wp2_with fail
          refine (mayStand_n 92 92 rfl true rfl _).mono ?_; rintro e w' ⟨rfl, rfl⟩
          go_wp2_with fail
          refine (writeByte_n w.heap.size w.heap.size (acc ++ [92]) 92 92 rfl w1 h1 (by simp; omega) (by omega)).mono ?_; rintro e w2 ⟨rfl, h2, k2⟩
          go_wp2_with fail
          go_roundw
          case rel => exact FIN.out [92, 92] w2 rfl (by simpa using h2) (bb.trans (k1.below.trans k2.below))
          case measure => simp [intOf]; omega
        · by_cases h59 : c = 59
          · subst h59
            go_wp2_with fail
            refine (writeByte_n w.heap.size w.heap.size acc 92 92 rfl wr hbd (by omega) sz).mono ?_; rintro e w1 ⟨rfl, h1, k1⟩
            have s1 := k1.below.size
            go_wp2_with fail
            refine (mayStand_n 59 59 rfl true rfl _).mono ?_; rintro e w' ⟨rfl, rfl⟩
            go_wp2_with fail
            refine (writeByte_n w.heap.size w.heap.size (acc ++ [92]) 59 59 rfl w1 h1 (by simp; omega) (by omega)).mono ?_; rintro e w2 ⟨rfl, h2, k2⟩
            go_wp2_with fail
            go_roundw
            case rel => exact FIN.out [92, 59] w2 rfl (by simpa using h2) (bb.trans (k1.below.trans k2.below))
            case measure => simp [intOf]; omega
          · by_cases h44 : c = 44
            · subst h44
              go_wp2_with fail
              refine (writeByte_n w.heap.size w.heap.size acc 92 92 rfl wr hbd (by omega) sz).mono ?_; rintro e w1 ⟨rfl, h1, k1⟩
              have s1 := k1.below.size
              go_wp2_with fail
              refine (mayStand_n 44 44 rfl true rfl _).mono ?_; rintro e w' ⟨rfl, rfl⟩
              go_wp2_with fail
              refine (writeByte_n w.heap.size w.heap.size (acc ++ [92]) 44 44 rfl w1 h1 (by simp; omega) (by omega)).mono ?_; rintro e w2 ⟨rfl, h2, k2⟩
              go_wp2_with fail
              go_roundw
              case rel => exact FIN.out [92, 44] w2 rfl (by simpa using h2) (bb.trans (k1.below.trans k2.below))
              case measure => simp [intOf]; omega
            · have f10 : ((c.toNat : Int) == 10) = false := u8f (d := 10) h10
              have f92 : ((c.toNat : Int) == 92) = false := u8f (d := 92) h92
              have f59 : ((c.toNat : Int) == 59) = false := u8f (d := 59) h59
              have f44 : ((c.toNat : Int) == 44) = false := u8f (d := 44) h44
              have hs3 : sign3 c = false := by unfold sign3; simp [h92, h59, h44]
              rcases hm : may c with _ | _
              · have he : esc (bts s) = none := by
                  rw [HD.out]
                  exact esc_stop hacc.out (by unfold esc1; rw [if_neg h10, if_neg (by rw [hm]; decide)])
                have HE := Lib.hid he
                have lx := hx.below bb
                unfold Laid at lx
                have HM := Lib.hid hm
                clear he h10 h92 h59 h44 hs3 hm hbd
                go_wp2_with fail
                refine (mayStand_n c _ rfl false HM.out _).mono ?_; rintro e w' ⟨rfl, rfl⟩
                go_wp2_with fail
                go_quiet (fail)
                go_wp2_with fail
                go_ret2
                exact ⟨by rw [HE.out]; rfl, below_draws bb nq⟩
              · have h1 : esc1 c = some [c] := by unfold esc1; rw [if_neg h10, if_pos hm, if_neg (by rw [hs3]; decide)]
                have H1 := Lib.hid h1
                have HM := Lib.hid hm
                clear h1 h10 h92 h59 h44 hs3 hm
                go_wp2_with fail
                refine (mayStand_n c _ rfl true HM.out _).mono ?_; rintro e w' ⟨rfl, rfl⟩
                go_wp2_with fail
                refine (writeByte_calls w.heap.size w.heap.size acc c _ hbd (by omega) sz).mono ?_; rintro e w2 ⟨rfl, h2, k2⟩
                go_wp2_with fail
                go_roundw
                case rel => exact FIN.out [c] w2 H1.out h2 (bb.trans k2.below)
                case measure => simp [intOf]; omega
    · obtain rfl : k = s.size := by omega
      have e : (bts s).take s.size = bts s := List.take_of_length_le (by rw [bts_length]; exact Nat.le_refl _)
      have he := hacc.out
      rw [e] at he
      have HE := Lib.hid he
      clear he e
      go_wp2_with fail
      refine (Tryd.Builder_String_any _ _ _ _ hbd sz).mono ?_; rintro e w1 ⟨rfl, b1⟩
      go_wp2_with fail
      go_ret2
      exact ⟨by rw [HE.out]; rfl, bb.trans b1⟩
end Go.Proofs.YtgmmnbojelekbaaDoor
