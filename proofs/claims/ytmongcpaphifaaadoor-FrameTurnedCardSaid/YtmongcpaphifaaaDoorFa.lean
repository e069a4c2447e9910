/- Sums, walked. -/
import Derived.Test.YtmongcpaphifaaaDoorCs
import Derived.Test.YtmongcpaphifaaaDoorFm
namespace Go.Proofs.YtmongcpaphifaaaDoor
open Go.RowKit
set_option linter.unusedVariables false
set_option linter.unusedSimpArgs false

abbrev u32 (n : Nat) : Value := .int .u32 (n : Int)

theorem and1 {n : Nat} (h : n < 4294967296) : bits .and .u32 (n : Int) 1 = ((n % 2 : Nat) : Int) := by
  have := u32_and_nat n 1 h (by omega)
  rw [nat_mask1] at this
  exact this
theorem xorK {n : Nat} (h : n < 4294967296) : bits .xor .u32 ((n : Int) / 2) 3988292384 = ((n / 2 ^^^ 3988292384 : Nat) : Int) :=
  u32_xor_nat (n / 2) 3988292384 (by omega) (by omega)
theorem xorF {n : Nat} (h : n < 4294967296) : bits .xor .u32 (n : Int) 4294967295 = ((n ^^^ 4294967295 : Nat) : Int) :=
  u32_xor_nat n 4294967295 h (by omega)

theorem xorM {n : Nat} (h : n < 4294967296) : bits .xor .u32 IntKind.u32.max (n : Int) = ((n ^^^ 4294967295 : Nat) : Int) := by
  rw [Nat.xor_comm]; exact u32_xor_nat 4294967295 n (by omega) h

set_option maxRecDepth 100000 in
set_option maxHeartbeats 1000000 in
theorem mixed_calls (x b : Nat) (hx : x < 4294967296) (hb : b < 256) (w : World) :
    Calls Tryd.prog 21 #[u32 x, .int .u8 (b : Int)] w fun e w' => e = .returned (u32 (mix x b)) ∧ w = w' := by
  have hxb : x ^^^ b < 4294967296 := xor_lt32 hx (by omega)
  go_enter Tryd.func21, Tryd.ntmps21
  go_wp2
  go_loop [0, 10] (fun s i => ∃ k : Nat, k ≤ 8 ∧ i = iv k ∧ s = u32 (stps k (x ^^^ b))) (fun _ i => (8 - intOf i).toNat)
  case atStart => exact ⟨0, by omega, rfl, by rw [u32_xor_nat x b hx (by omega)]; rfl⟩
  case round =>
    obtain ⟨k, hk, rfl, rfl⟩ := hrel
    have hl := stps_lt hxb k
    by_cases hlt : k < 8
    · by_cases ho : stps k (x ^^^ b) % 2 = 1
      · have h1 : (bits BinOp.and IntKind.u32 (↑(stps k (x ^^^ b))) 1 == 1) = true := by rw [and1 hl, ho]; rfl
        have h2 : stps (k + 1) (x ^^^ b) = stps k (x ^^^ b) / 2 ^^^ 3988292384 := by rw [stps, stp, if_pos ho]
        have H2 := Lib.hid h2
        clear h2 ho
        go_wp2
        go_round
        case rel => exact ⟨k + 1, by omega, by go_num, by rw [H2.out, xorK hl]⟩
        case measure => simp [intOf]; omega
      · have h1 : (bits BinOp.and IntKind.u32 (↑(stps k (x ^^^ b))) 1 == 1) = false := by
          rw [and1 hl]; simp; omega
        have h2 : stps (k + 1) (x ^^^ b) = stps k (x ^^^ b) / 2 := by rw [stps, stp, if_neg ho]
        have H2 := Lib.hid h2
        clear h2 ho
        go_wp2
        go_round
        case rel => exact ⟨k + 1, by omega, by go_num, by rw [H2.out]; rfl⟩
        case measure => simp [intOf]; omega
    · obtain rfl : k = 8 := by omega
      go_wp2
      go_ret
      exact ⟨rfl, rfl⟩

set_option maxRecDepth 100000 in
set_option maxHeartbeats 2000000 in
theorem sum_any (a : Option Addr) (cap : Nat) (l : List ByteArray) (w : World) (hl : StrsIn w a l) (hs : Small l) :
    Calls Tryd.prog 12 #[.slice a l.length cap] w fun e w' => e = .returned (u32 (crc (flat l))) ∧ w = w' := by
  obtain ⟨hs1, hs2⟩ := hs
  go_enter Tryd.func12, Tryd.ntmps12
  go_wp2
  go_loop [3, 9] (fun s i => ∃ k : Nat, k ≤ l.length ∧ i = iv k ∧ s = u32 (crcs 4294967295 (flat (l.take k)))) (fun _ i => (l.length - intOf i).toNat)
  case atStart => exact ⟨0, Nat.zero_le _, rfl, rfl⟩
  case round =>
    obtain ⟨k, hk, rfl, rfl⟩ := hrel
    have c32 : crcs 4294967295 (flat (l.take k)) < 4294967296 := crcs_lt (by omega)
    by_cases hlt : k < l.length
    · have hlt' : (k : Int) < (l.length : Int) := by omega
      rcases hl with rfl | ⟨b, off, rfl, hl⟩
      · simp at hlt
      have c0 := hl k hlt
      have hz : l[k].size ≤ 9223372036854775807 := hs2 _ (List.getElem_mem hlt)
      have ht := Lib.hid (flat_take l k hlt)
      go_wp2
      go_loop [3, 15] (fun s i => ∃ j : Nat, j ≤ l[k].size ∧ i = iv j ∧ s = u32 (crcs (crcs 4294967295 (flat (l.take k))) (l[k].data.toList.take j))) (fun _ i => (l[k].size - intOf i).toNat)
      case atStart => exact ⟨0, Nat.zero_le _, rfl, rfl⟩
      case round =>
        obtain ⟨j, hj, rfl, rfl⟩ := hrel
        have d32 : crcs (crcs 4294967295 (flat (l.take k))) (l[k].data.toList.take j) < 4294967296 := crcs_lt c32
        by_cases hlj : j < l[k].size
        · have hb : l[k][j].toNat < 256 := UInt8.toNat_lt _
          have hsn := Lib.hid (crcs_snoc (crcs 4294967295 (flat (l.take k))) (l[k].data.toList.take j) l[k][j])
          have hbt := Lib.hid (bts_take l[k] j hlj)
          go_wp2_with (go_at_call 21; refine (mixed_calls _ _ d32 hb _).mono ?_; rintro e w' ⟨rfl, rfl⟩)
          go_round
          case rel => exact ⟨j + 1, by omega, by go_num, by rw [hbt.out, hsn.out]⟩
          case measure => simp [intOf]; omega
        · obtain rfl : j = l[k].size := by omega
          go_wp2
          go_round
          case rel => exact ⟨k + 1, by omega, by go_num, by rw [ht.out, crcs_append, List.take_of_length_le (l := l[k].data.toList) (by simp)]⟩
          case measure => simp [intOf]; omega
    · obtain rfl : k = l.length := by omega
      go_wp2
      go_ret
      refine ⟨?_, rfl⟩
      have c33 : crcs 4294967295 (flat l) < 4294967296 := crcs_lt (by omega)
      show Ending.returned (.int .u32 (bits .xor .u32 IntKind.u32.max ↑(crcs 4294967295 (flat l)))) = _
      rw [xorM c33]; rfl
end Go.Proofs.YtmongcpaphifaaaDoor
