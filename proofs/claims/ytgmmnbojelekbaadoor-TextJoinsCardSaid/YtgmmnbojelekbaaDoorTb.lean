/- Texts written, and read: the document's. -/
import Derived.Test.YtgmmnbojelekbaaDoorTa
namespace Go.Proofs.YtgmmnbojelekbaaDoor
open Go.RowKit
set_option linter.unusedVariables false
set_option linter.unusedSimpArgs false

def writtenRV : Option (List UInt8) → Value
  | some a => .tuple #[.string (strOf a), .bool true]
  | none => .tuple #[.string ⟨#[]⟩, .bool false]
def toldRV : Option (List UInt8) → Value
  | some a => .tuple #[.string (strOf a), iv 0]
  | none => .tuple #[.string ⟨#[]⟩, iv 11]
theorem cut_one (s : ByteArray) (k : Nat) (h : k < s.size) : s.extract k (k + 1) = strOf [s[k]] := ba_ext (by
  rw [bts_extract, bts_strOf, List.drop_eq_getElem_cons (by rw [bts_length]; exact h)]
  have : k + 1 - k = 1 := by omega
  rw [this]; rfl)
theorem split_at (s : ByteArray) (k : Nat) (h : k < s.size) : bts s = (bts s).take k ++ s[k] :: (bts s).drop (k + 1) := by
  have := (List.take_append_drop k (bts s)).symm
  rw [List.drop_eq_getElem_cons (by rw [bts_length]; exact h)] at this
  exact this
/-- How a byte may stand, or not. -/
theorem may_cases (c : UInt8) : (may c = true ∧ c = 9) ∨ (may c = true ∧ c ≠ 9 ∧ 32 ≤ c.toNat ∧ c ≠ 127) ∨ (may c = false ∧ c ≠ 9 ∧ c.toNat < 32) ∨ (may c = false ∧ c = 127) := by
  by_cases h9 : c = 9
  · exact .inl ⟨by rw [h9]; decide, h9⟩
  · by_cases h127 : c = 127
    · exact .inr (.inr (.inr ⟨by rw [h127]; decide, h127⟩))
    · by_cases h : 32 ≤ c.toNat
      · exact .inr (.inl ⟨by unfold may; simp [h, h127], h9, h, h127⟩)
      · exact .inr (.inr (.inl ⟨by unfold may; simp [h, h9], h9, by omega⟩))

set_option maxRecDepth 100000 in
set_option maxHeartbeats 4000000 in
theorem writtenR_calls (s : ByteArray) (hs : s.size ≤ 1000000) (w : World) :
    Calls Tryd.prog 29 #[.string s] w fun e w' => e = .returned (writtenRV (esc (bts s))) ∧ w = w' := by
  go_enter Tryd.func29, Tryd.ntmps29
  go_wp2_with fail
  go_loop [4, 5] (fun t i => ∃ (k : Nat) (acc : List UInt8), k ≤ s.size ∧ i = iv k ∧ t = .string (strOf acc) ∧ Hid (esc ((bts s).take k) = some acc)) (fun _ i => s.size - (intOf i).toNat)
  case atStart => exact ⟨0, [], Nat.zero_le _, rfl, rfl, Lib.hid rfl⟩
  case round =>
    obtain ⟨k, acc, hk, rfl, rfl, hacc⟩ := hrel
    have hal : acc.length ≤ 2 * k := by have := esc_length hacc.out; rw [List.length_take] at this; omega
    have za : (strOf acc).size ≤ 2000000 := by rw [strOf_size]; omega
    by_cases hlt : k < s.size
    · have hsn := bts_take s k hlt
      have ec := cut_one s k hlt
      have zc : (s.extract k (k + 1)).size ≤ 1 := by rw [ec, strOf_size]; simp
      have HD := Lib.hid (split_at s k hlt)
      have q1 := sl_str s k (k + 1) k (k + 1) rfl rfl (by omega) (by omega)
      have fin : ∀ (a : List UInt8) (t : ByteArray), esc1 s[k] = some a → t = strOf (acc ++ a) → ∃ (k' : Nat) (acc' : List UInt8), k' ≤ s.size ∧ Value.int .i64 ((k : Int) + 1) = iv k' ∧ Value.string t = .string (strOf acc') ∧ Hid (esc ((bts s).take k') = some acc') := fun a t h1 h2 =>
        ⟨k + 1, acc ++ a, by omega, by go_num, by rw [h2], Lib.hid (by rw [hsn]; exact esc_snoc hacc.out h1)⟩
      have FIN := Lib.hid fin
      have two : ∀ c : UInt8, s[k] = c → strOf acc ++ ⟨#[92]⟩ ++ s.extract k (k + 1) = strOf (acc ++ [92, c]) := fun c hc => by
        rw [ec, hc, show (⟨#[92]⟩ : ByteArray) = strOf [92] from rfl, strOf_append, strOf_append]; simp
      have one : ∀ c : UInt8, s[k] = c → strOf acc ++ s.extract k (k + 1) = strOf (acc ++ [c]) := fun c hc => by
        rw [ec, hc, strOf_append]
      have z3 : (strOf acc ++ ⟨#[92]⟩).size ≤ 2000001 := by
        rw [show (⟨#[92]⟩ : ByteArray) = strOf [92] from rfl, strOf_append, strOf_size, List.length_append]; simp; omega
      have TWO := Lib.hid two
      have ONE := Lib.hid one
      clear fin hsn ec two one
      generalize hc : s[k] = c at *
      by_cases h10 : c = 10
      · subst h10
        go_wp2_with fail
        go_round
        case rel => exact FIN.out [92, 110] _ rfl (by rw [← strOf_append]; rfl)
        case measure => simp [intOf]; omega
      · by_cases h92 : c = 92
        · subst h92
          go_wp2_with fail
          go_round
          case rel => exact FIN.out [92, 92] _ rfl (TWO.out _ rfl)
          case measure => simp [intOf]; omega
        · by_cases h59 : c = 59
          · subst h59
            go_wp2_with fail
            go_round
            case rel => exact FIN.out [92, 59] _ rfl (TWO.out _ rfl)
            case measure => simp [intOf]; omega
          · by_cases h44 : c = 44
            · subst h44
              go_wp2_with fail
              go_round
              case rel => exact FIN.out [92, 44] _ rfl (TWO.out _ rfl)
              case measure => simp [intOf]; omega
            · have f10 : ((c.toNat : Int) == 10) = false := u8f (d := 10) h10
              have f92 : ((c.toNat : Int) == 92) = false := u8f (d := 92) h92
              have f59 : ((c.toNat : Int) == 59) = false := u8f (d := 59) h59
              have f44 : ((c.toNat : Int) == 44) = false := u8f (d := 44) h44
              have hs3 : sign3 c = false := by unfold sign3; simp [h92, h59, h44]
              have bad : may c = false → esc (bts s) = none := fun hm => by
                rw [HD.out]
                exact esc_stop hacc.out (by unfold esc1; rw [if_neg h10, if_neg (by rw [hm]; decide)])
              have good : may c = true → esc1 c = some [c] := fun hm => by unfold esc1; rw [if_neg h10, if_pos hm, if_neg (by rw [hs3]; decide)]
              have hmc := may_cases c
              clear h10 h92 h59 h44 hs3 HD
              rcases hmc with ⟨hm, h9⟩ | ⟨hm, h9, h32, h127⟩ | ⟨hm, h9, h32⟩ | ⟨hm, h127⟩
              · have H1 := Lib.hid (good hm)
                clear good bad hm
                subst h9
                go_wp2_with fail
                go_round
                case rel => exact FIN.out [9] _ H1.out (ONE.out _ rfl)
                case measure => simp [intOf]; omega
              · have H1 := Lib.hid (good hm)
                have f9 : ((c.toNat : Int) != 9) = true := u8n (d := 9) h9
                have f127 : ((c.toNat : Int) == 127) = false := u8f (d := 127) h127
                have g32 : (32 : Int) ≤ (c.toNat : Int) := by omega
                clear good bad hm h9 h127 h32
                go_wp2_with fail
                go_round
                case rel => exact FIN.out [c] _ H1.out (ONE.out _ rfl)
                case measure => simp [intOf]; omega
              · have HE := Lib.hid (bad hm)
                have f9 : ((c.toNat : Int) != 9) = true := u8n (d := 9) h9
                have g32 : (c.toNat : Int) < 32 := by omega
                clear good bad hm h9 h32
                go_wp2_with fail
                go_ret2
                exact ⟨by rw [HE.out]; rfl, rfl⟩
              · have HE := Lib.hid (bad hm)
                clear good bad hm
                subst h127
                go_wp2_with fail
                go_ret2
                exact ⟨by rw [HE.out]; rfl, rfl⟩
    · obtain rfl : k = s.size := by omega
      have e : (bts s).take s.size = bts s := List.take_of_length_le (by rw [bts_length]; exact Nat.le_refl _)
      have he := hacc.out
      rw [e] at he
      have HE := Lib.hid he
      clear he e
      go_wp2_with fail
      go_ret2
      exact ⟨by rw [HE.out]; rfl, rfl⟩
end Go.Proofs.YtgmmnbojelekbaaDoor
