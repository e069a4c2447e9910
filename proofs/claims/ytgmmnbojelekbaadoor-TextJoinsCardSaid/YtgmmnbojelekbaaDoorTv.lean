/- A row written: the document's. -/
import Derived.Test.YtgmmnbojelekbaaDoorTu
namespace Go.Proofs.YtgmmnbojelekbaaDoor
open Go.RowKit
set_option linter.unusedVariables false
set_option linter.unusedSimpArgs false

theorem escAll_take_length {l : List ByteArray} {k : Nat} {es : List (List UInt8)} (h : escAll ((l.take k).map bts) = some es) (hk : k ≤ l.length) : es.length = k := by
  rw [escAll_length h, List.length_map, List.length_take]; omega
theorem join_esc_len {l : List ByteArray} {es : List (List UInt8)} (h : escAll (l.map bts) = some es) : (join 44 es).length ≤ l.length + 2 * (flat l).length := by
  have hf := flat_esc h
  have he := escAll_length h
  rw [List.length_map] at he
  rcases es with _ | ⟨e0, es⟩
  · simp [join]
  · have := join_len 44 ((e0 :: es).map strOf) (by simp)
    have e : ((e0 :: es).map strOf).map bts = e0 :: es := by rw [List.map_map]; exact List.map_id'' (fun _ => rfl) _
    rw [e, List.length_map] at this
    omega

set_option maxRecDepth 100000 in
set_option maxHeartbeats 1000000 in
theorem listR_calls (a : Option Addr) (cap : Nat) (l : List ByteArray) (w : World) (hin : StrsIn w a l) (hn : l.length ≤ 5000) (hz : (flat l).length ≤ 100000) :
    Calls Tryd.prog 17 #[.slice a l.length cap] w fun e w' => e = .returned (toldRV (if l = [] then none else rowO (l.map bts))) ∧ w = w' := by
  by_cases h0 : l = []
  · subst h0
    go_enter Tryd.func17, Tryd.ntmps17
    go_wp2_with fail
    go_ret2
    exact ⟨rfl, rfl⟩
  · rw [if_neg h0]
    have h1 : 0 < l.length := List.length_pos_iff.2 h0
    obtain ⟨b, off, rfl, hat⟩ := hin.form h1
    have n0 : ((l.length : Int) == 0) = false := by rw [beq_eq_false_iff_ne]; omega
    clear h0
    go_enter Tryd.func17, Tryd.ntmps17
    go_wp2_with fail
    go_loop [4, 5] (fun t i => ∃ (k : Nat) (es : List (List UInt8)), k ≤ l.length ∧ i = iv k ∧ Hid (escAll ((l.take k).map bts) = some es) ∧ t = .string (strOf (join 44 es))) (fun _ i => l.length - (intOf i).toNat)
    case atStart => exact ⟨0, [], Nat.zero_le _, rfl, Lib.hid rfl, rfl⟩
    case round =>
      obtain ⟨k, es, hk, rfl, he, rfl⟩ := hrel
      have hel := escAll_take_length he.out hk
      have hjl := join_esc_len he.out
      have hfk := flat_take_le l k
      rw [List.length_take] at hjl
      have zt : (strOf (join 44 es)).size ≤ 300000 := by rw [strOf_size]; omega
      by_cases hlt : k < l.length
      · have hgk := flat_get_le l k hlt
        have ck : w.cell? ⟨b, off + k, none⟩ = some (.string l[k]) := hat k hlt
        rcases ha : esc (bts l[k]) with _ | c
        · have HE := Lib.hid (show rowO (l.map bts) = none by unfold rowO; rw [escAll_stop hlt he.out ha]; rfl)
          have W := writtenR_calls l[k] (by omega) w
          rw [ha] at W
          rw [show writtenRV none = .tuple #[.string ⟨#[]⟩, .bool false] from rfl] at W
          clear ha hjl hfk hgk hel
          go_wp2_with fail
          refine (W).mono ?_; rintro e w' ⟨rfl, rfl⟩
          go_wp2_with fail
          go_ret2
          exact ⟨by rw [HE.out]; rfl, rfl⟩
        · have HE := Lib.hid (escAll_snoc hlt he.out ha)
          have hc := esc_length ha
          rw [bts_length] at hc
          have zc : (strOf c).size ≤ 300000 := by rw [strOf_size]; omega
          have W := writtenR_calls l[k] (by omega) w
          rw [ha] at W
          rw [show writtenRV (some c) = .tuple #[.string (strOf c), .bool true] from rfl] at W
          clear ha hjl hfk hgk hc he
          by_cases hk0 : k = 0
          · subst hk0
            have hes : es = [] := List.length_eq_zero_iff.1 hel
            subst hes
            clear hel
            rw [Nat.add_zero] at ck
            go_wp2_with fail
            refine (W).mono ?_; rintro e w' ⟨rfl, rfl⟩
            go_wp2_with fail
            go_round
            case rel => exact ⟨1, _, by omega, by go_num, HE, by rw [strOf_append]; rfl⟩
            case measure => simp [intOf]; omega
          · have kp : (0 : Int) < k := by omega
            have JS := Lib.hid (join_snoc 44 es c (by intro e; subst e; exact hk0 hel.symm))
            have zz : (strOf (join 44 es) ++ ⟨#[44]⟩).size ≤ 300001 := by
              rw [show (⟨#[44]⟩ : ByteArray) = strOf [44] from rfl, strOf_append, strOf_size, List.length_append]; rw [strOf_size] at zt; simp; omega
            clear hel hk0
            go_wp2_with fail
            refine (W).mono ?_; rintro e w' ⟨rfl, rfl⟩
            go_wp2_with fail
            go_round
            case rel => exact ⟨k + 1, _, by omega, by go_num, HE, by rw [JS.out, show (⟨#[44]⟩ : ByteArray) = strOf [44] from rfl, strOf_append, strOf_append]; simp⟩
            case measure => simp [intOf]; omega
      · obtain rfl : k = l.length := by omega
        have e := he.out
        rw [List.take_length] at e
        have HE := Lib.hid (show rowO (l.map bts) = some (join 44 es) by unfold rowO; rw [e]; rfl)
        clear e he hel hjl hfk
        go_wp2_with fail
        go_ret2
        exact ⟨by rw [HE.out]; rfl, rfl⟩
end Go.Proofs.YtgmmnbojelekbaaDoor
