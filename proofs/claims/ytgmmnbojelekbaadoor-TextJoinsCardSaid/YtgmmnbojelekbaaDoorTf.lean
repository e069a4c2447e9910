/- Escape and Unescape: the program's and the document's. -/
import Derived.Test.YtgmmnbojelekbaaDoorTd
namespace Go.Proofs.YtgmmnbojelekbaaDoor
open Go.RowKit
set_option linter.unusedVariables false
set_option linter.unusedSimpArgs false

/-- What a call answers, for the caller. -/
def saidV : Option (List UInt8) → Value
  | some a => .tuple #[.string (strOf a), .nilIface]
  | none => .tuple #[.string ⟨#[]⟩, errNo 11]

set_option maxRecDepth 100000 in
theorem toldS_ok (x : Addr) (s : ByteArray) (w : World) (hx : Laid x w) :
    Calls Tryd.prog 27 #[.string s, .nilIface] w fun e w' => e = .returned (.tuple #[.string s, .nilIface]) ∧ w = w' := by
  have lx := hx
  unfold Laid at lx
  clear hx
  go_enter Tryd.func27, Tryd.ntmps27
  go_wp2_with fail
  refine (is_nil x w).mono ?_; rintro e w' ⟨rfl, rfl⟩
  go_wp2_with fail
  go_ret2
  exact ⟨rfl, rfl⟩
set_option maxRecDepth 100000 in
theorem toldS_err (x : Addr) (s : ByteArray) (w : World) (hx : Laid x w) :
    Calls Tryd.prog 27 #[.string s, errP x] w fun e w' => e = .returned (.tuple #[.string ⟨#[]⟩, errNo 11]) ∧ w = w' := by
  have lx := hx
  unfold Laid at lx
  clear hx
  go_enter Tryd.func27, Tryd.ntmps27
  go_wp2_with fail
  refine (is_same x w).mono ?_; rintro e w' ⟨rfl, rfl⟩
  go_wp2_with fail
  go_ret2
  exact ⟨rfl, rfl⟩

set_option maxRecDepth 100000 in
theorem escape_calls (x : Addr) (s : ByteArray) (hs : s.size ≤ 1000000) (w : World) (hx : Laid x w) :
    Calls Tryd.prog 10 #[.string s] w fun e w' => e = .returned (saidV (esc (bts s))) ∧ Below w.heap.size w w' := by
  go_enter Tryd.func10, Tryd.ntmps10
  go_wp2_with fail
  refine (written_calls x s hs w hx).mono ?_; rintro e w1 ⟨rfl, b1⟩
  have x1 := hx.below b1
  rcases he : esc (bts s) with _ | a
  · rw [show toldV x none = .tuple #[.string ⟨#[]⟩, errP x] from rfl]
    go_wp2_with fail
    refine (toldS_err x _ w1 x1).mono ?_; rintro e w' ⟨rfl, rfl⟩
    go_wp2_with fail
    go_ret2
    exact ⟨by rw [he]; rfl, b1⟩
  · rw [show toldV x (some a) = .tuple #[.string (strOf a), .nilIface] from rfl]
    go_wp2_with fail
    refine (toldS_ok x _ w1 x1).mono ?_; rintro e w' ⟨rfl, rfl⟩
    go_wp2_with fail
    go_ret2
    exact ⟨by rw [he]; rfl, b1⟩
set_option maxRecDepth 100000 in
theorem unescape_calls (x : Addr) (s : ByteArray) (hs : s.size ≤ 1000000) (w : World) (hx : Laid x w) :
    Calls Tryd.prog 12 #[.string s] w fun e w' => e = .returned (saidV (unesc (bts s))) ∧ Below w.heap.size w w' := by
  go_enter Tryd.func12, Tryd.ntmps12
  go_wp2_with fail
  refine (read_calls x s hs w hx).mono ?_; rintro e w1 ⟨rfl, b1⟩
  have x1 := hx.below b1
  rcases he : unesc (bts s) with _ | a
  · rw [show toldV x none = .tuple #[.string ⟨#[]⟩, errP x] from rfl]
    go_wp2_with fail
    refine (toldS_err x _ w1 x1).mono ?_; rintro e w' ⟨rfl, rfl⟩
    go_wp2_with fail
    go_ret2
    exact ⟨by rw [he]; rfl, b1⟩
  · rw [show toldV x (some a) = .tuple #[.string (strOf a), .nilIface] from rfl]
    go_wp2_with fail
    refine (toldS_ok x _ w1 x1).mono ?_; rintro e w' ⟨rfl, rfl⟩
    go_wp2_with fail
    go_ret2
    exact ⟨by rw [he]; rfl, b1⟩

set_option maxRecDepth 100000 in
theorem escapeR_calls (s : ByteArray) (hs : s.size ≤ 1000000) (w : World) :
    Calls Tryd.prog 11 #[.string s] w fun e w' => e = .returned (toldRV (esc (bts s))) ∧ w = w' := by
  go_enter Tryd.func11, Tryd.ntmps11
  go_wp2_with fail
  refine (writtenR_calls s hs w).mono ?_; rintro e w' ⟨rfl, rfl⟩
  rcases he : esc (bts s) with _ | a
  · rw [show writtenRV none = .tuple #[.string ⟨#[]⟩, .bool false] from rfl]
    go_wp2_with fail
    go_ret2
    exact ⟨by rw [he]; rfl, rfl⟩
  · rw [show writtenRV (some a) = .tuple #[.string (strOf a), .bool true] from rfl]
    go_wp2_with fail
    go_ret2
    exact ⟨by rw [he]; rfl, rfl⟩

set_option maxRecDepth 100000 in
set_option maxHeartbeats 4000000 in
theorem unescapeR_calls (s : ByteArray) (hs : s.size ≤ 1000000) (w : World) :
    Calls Tryd.prog 13 #[.string s] w fun e w' => e = .returned (toldRV (unesc (bts s))) ∧ w = w' := by
  go_enter Tryd.func13, Tryd.ntmps13
  go_wp2_with fail
  go_loop [4, 5] (fun t i => ∃ (k : Nat) (acc : List UInt8), k ≤ s.size ∧ i = iv k ∧ acc.length ≤ k ∧ t = .string (strOf acc) ∧ Hid (unesc (bts s) = (unesc ((bts s).drop k)).map (acc ++ ·))) (fun _ i => s.size - (intOf i).toNat)
  case atStart => exact ⟨0, [], Nat.zero_le _, rfl, Nat.le_refl _, rfl, Lib.hid (by rcases h : unesc (bts s) <;> simp [h])⟩
  case round =>
    obtain ⟨k, acc, hk, rfl, hal, rfl, hacc⟩ := hrel
    have za : (strOf acc).size ≤ 1000000 := by rw [strOf_size]; omega
    by_cases hlt : k < s.size
    · have hsn := drop_split s k hlt
      have ec := cut_one s k hlt
      have zc : (s.extract k (k + 1)).size ≤ 1 := by rw [ec, strOf_size]; simp
      have fin1 : may s[k] = true → s[k] ≠ 92 → ∃ (k' : Nat) (acc' : List UInt8), k' ≤ s.size ∧ Value.int .i64 ((k : Int) + 1) = iv k' ∧ acc'.length ≤ k' ∧ Value.string (strOf acc ++ s.extract k (k + 1)) = .string (strOf acc') ∧ Hid (unesc (bts s) = (unesc ((bts s).drop k')).map (acc' ++ ·)) := fun h1 h2 =>
        ⟨k + 1, acc ++ [s[k]], by omega, by go_num, by simp; omega, by rw [ec, strOf_append], Lib.hid (unesc_plainL (by rw [hacc.out, hsn]) h1 h2)⟩
      have FIN1 := Lib.hid fin1
      have bad1 : may s[k] = false → unesc (bts s) = none := fun h => unesc_notL (by rw [hacc.out, hsn]) h
      clear fin1
      by_cases h92 : s[k] = 92
      · by_cases hk1 : k + 1 < s.size
        · have hsn2 := drop_split s (k + 1) hk1
          have ec2 := cut_one s (k + 1) hk1
          have zc2 : (s.extract (k + 1) (k + 1 + 1)).size ≤ 1 := by rw [ec2, strOf_size]; simp
          have q1 := sl_str s (k + 1) (k + 1 + 1) (k + 1) (k + 1 + 1) rfl rfl (by omega) (by omega)
          have fin2 : ∀ (m : UInt8) (t : ByteArray), mean s[k + 1] = some m → t = strOf acc ++ strOf [m] → ∃ (k' : Nat) (acc' : List UInt8), k' ≤ s.size ∧ Value.int .i64 ((k : Int) + 1 + 1) = iv k' ∧ acc'.length ≤ k' ∧ Value.string t = .string (strOf acc') ∧ Hid (unesc (bts s) = (unesc ((bts s).drop k')).map (acc' ++ ·)) := fun m t h ht =>
            ⟨k + 2, acc ++ [m], by omega, by go_num, by simp; omega, by rw [ht, strOf_append], Lib.hid (unesc_signL (d := s[k + 1]) (by rw [hacc.out, hsn, hsn2, h92]) h)⟩
          have bad2 : mean s[k + 1] = none → unesc (bts s) = none := fun h => unesc_badL (by rw [hacc.out, hsn, hsn2, h92]) h
          have FIN2 := Lib.hid fin2
          have EC2 := Lib.hid ec2
          clear fin2 hsn hsn2 bad1 FIN1 ec ec2
          generalize hc : s[k] = c at *
          subst h92
          generalize hd : s[k + 1] = d at *
          by_cases h110 : d = 110
          · subst h110
            go_wp2_with fail
            go_round
            case rel => exact FIN2.out 10 _ rfl rfl
            case measure => simp [intOf]; omega
          · by_cases h78 : d = 78
            · subst h78
              go_wp2_with fail
              go_round
              case rel => exact FIN2.out 10 _ (by decide) rfl
              case measure => simp [intOf]; omega
            · by_cases h92 : d = 92
              · subst h92
                go_wp2_with fail
                go_round
                case rel => exact FIN2.out 92 _ (by decide) (by rw [← EC2.out])
                case measure => simp [intOf]; omega
              · by_cases h59 : d = 59
                · subst h59
                  go_wp2_with fail
                  go_round
                  case rel => exact FIN2.out 59 _ (by decide) (by rw [← EC2.out])
                  case measure => simp [intOf]; omega
                · by_cases h44 : d = 44
                  · subst h44
                    go_wp2_with fail
                    go_round
                    case rel => exact FIN2.out 44 _ (by decide) (by rw [← EC2.out])
                    case measure => simp [intOf]; omega
                  · have HE := Lib.hid (bad2 (by unfold mean sign3; simp [h110, h78, h92, h59, h44]))
                    have f110 : ((d.toNat : Int) == 110) = false := u8f (d := 110) h110
                    have f78 : ((d.toNat : Int) == 78) = false := u8f (d := 78) h78
                    have f92 : ((d.toNat : Int) == 92) = false := u8f (d := 92) h92
                    have f59 : ((d.toNat : Int) == 59) = false := u8f (d := 59) h59
                    have f44 : ((d.toNat : Int) == 44) = false := u8f (d := 44) h44
                    clear h110 h78 h92 h59 h44 bad2
                    go_wp2_with fail
                    go_ret2
                    exact ⟨by rw [HE.out]; rfl, rfl⟩
        · have hks : (s.size : Int) = (k : Int) + 1 := by omega
          have HE := Lib.hid (show unesc (bts s) = none by
            rw [hacc.out, hsn, h92, List.drop_eq_nil_of_le (by rw [bts_length]; omega), unesc_end]; rfl)
          clear hsn bad1 FIN1 ec
          generalize hc : s[k] = c at *
          subst h92
          go_wp2_with fail
          go_ret2
          exact ⟨by rw [HE.out]; rfl, rfl⟩
      · have f92 : ((s[k].toNat : Int) != 92) = true := u8n (d := 92) h92
        have q1 := sl_str s k (k + 1) k (k + 1) rfl rfl (by omega) (by omega)
        have hmc := may_cases s[k]
        have H92 := Lib.hid h92
        clear h92 ec hsn
        generalize hc : s[k] = c at *
        rcases hmc with ⟨hm, h9⟩ | ⟨hm, h9, h32, h127⟩ | ⟨hm, h9, h32⟩ | ⟨hm, h127⟩
        · have HM := Lib.hid hm
          clear bad1 hm
          subst h9
          go_wp2_with fail
          go_round
          case rel => exact FIN1.out HM.out H92.out
          case measure => simp [intOf]; omega
        · have HM := Lib.hid hm
          have f9 : ((c.toNat : Int) != 9) = true := u8n (d := 9) h9
          have f127 : ((c.toNat : Int) == 127) = false := u8f (d := 127) h127
          have g32 : (32 : Int) ≤ (c.toNat : Int) := by omega
          clear bad1 hm h9 h127 h32
          go_wp2_with fail
          go_round
          case rel => exact FIN1.out HM.out H92.out
          case measure => simp [intOf]; omega
        · have HE := Lib.hid (bad1 hm)
          have f9 : ((c.toNat : Int) != 9) = true := u8n (d := 9) h9
          have g32 : (c.toNat : Int) < 32 := by omega
          clear bad1 hm h9 h32 FIN1
          go_wp2_with fail
          go_ret2
          exact ⟨by rw [HE.out]; rfl, rfl⟩
        · have HE := Lib.hid (bad1 hm)
          clear bad1 hm FIN1
          subst h127
          go_wp2_with fail
          go_ret2
          exact ⟨by rw [HE.out]; rfl, rfl⟩
    · obtain rfl : k = s.size := by omega
      have e : (bts s).drop s.size = [] := List.drop_eq_nil_of_le (by rw [bts_length]; exact Nat.le_refl _)
      have he := hacc.out
      rw [e] at he
      have HE := Lib.hid (show unesc (bts s) = some acc by rw [he]; simp [unesc])
      clear he e
      go_wp2_with fail
      go_ret2
      exact ⟨by rw [HE.out]; rfl, rfl⟩
end Go.Proofs.YtgmmnbojelekbaaDoor
