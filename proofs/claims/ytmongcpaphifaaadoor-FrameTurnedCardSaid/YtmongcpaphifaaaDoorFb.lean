/- Numbers in bytes; the document's sum. -/
import Derived.Test.YtmongcpaphifaaaDoorFa
namespace Go.Proofs.YtmongcpaphifaaaDoor
open Go.RowKit
set_option linter.unusedVariables false
set_option linter.unusedSimpArgs false

set_option maxRecDepth 100000 in
set_option maxHeartbeats 1000000 in
theorem sumR_calls (s : ByteArray) (hs : s.size ≤ 9223372036854775807) (w : World) :
    Calls Tryd.prog 13 #[.string s] w fun e w' => e = .returned (u32 (crc (bts s))) ∧ w = w' := by
  go_enter Tryd.func13, Tryd.ntmps13
  go_wp2
  go_loop [3, 4] (fun t i => ∃ k : Nat, k ≤ s.size ∧ i = iv k ∧ t = u32 (crcs 4294967295 ((bts s).take k))) (fun _ i => (s.size - intOf i).toNat)
  case atStart => exact ⟨0, Nat.zero_le _, rfl, rfl⟩
  case round =>
    obtain ⟨k, hk, rfl, rfl⟩ := hrel
    have c32 : crcs 4294967295 ((bts s).take k) < 4294967296 := crcs_lt (by omega)
    by_cases hlt : k < s.size
    · have hb : s[k].toNat < 256 := UInt8.toNat_lt _
      have hxb : crcs 4294967295 ((bts s).take k) ^^^ s[k].toNat < 4294967296 := xor_lt32 c32 (by omega)
      have hsn := Lib.hid (crcs_snoc 4294967295 ((bts s).take k) s[k])
      have hbt := Lib.hid (bts_take s k hlt)
      have hx := Lib.hid (u32_xor_nat (crcs 4294967295 ((bts s).take k)) s[k].toNat c32 (by omega))
      go_wp2
      go_loop [3, 5] (fun t i => ∃ j : Nat, j ≤ 8 ∧ i = iv j ∧ t = u32 (stps j (crcs 4294967295 ((bts s).take k) ^^^ s[k].toNat))) (fun _ i => (8 - intOf i).toNat)
      case atStart => exact ⟨0, by omega, rfl, by rw [hx.out]; rfl⟩
      case round =>
        obtain ⟨j, hj, rfl, rfl⟩ := hrel
        have hl := stps_lt hxb j
        by_cases hlj : j < 8
        · by_cases ho : stps j (crcs 4294967295 ((bts s).take k) ^^^ s[k].toNat) % 2 = 1
          · have h1 : ((stps j (crcs 4294967295 ((bts s).take k) ^^^ s[k].toNat) : Int) % 2 == 1) = true := by simp; omega
            have h2 : stps (j + 1) (crcs 4294967295 ((bts s).take k) ^^^ s[k].toNat) = stps j (crcs 4294967295 ((bts s).take k) ^^^ s[k].toNat) / 2 ^^^ 3988292384 := by rw [stps, stp, if_pos ho]
            have H2 := Lib.hid h2
            clear h2 ho
            go_wp2
            go_round
            case rel => exact ⟨j + 1, by omega, by go_num, by rw [H2.out, xorK hl]⟩
            case measure => simp [intOf]; omega
          · have h1 : ((stps j (crcs 4294967295 ((bts s).take k) ^^^ s[k].toNat) : Int) % 2 == 1) = false := by simp; omega
            have h2 : stps (j + 1) (crcs 4294967295 ((bts s).take k) ^^^ s[k].toNat) = stps j (crcs 4294967295 ((bts s).take k) ^^^ s[k].toNat) / 2 := by rw [stps, stp, if_neg ho]
            have H2 := Lib.hid h2
            clear h2 ho
            go_wp2
            go_round
            case rel => exact ⟨j + 1, by omega, by go_num, by rw [H2.out]; rfl⟩
            case measure => simp [intOf]; omega
        · obtain rfl : j = 8 := by omega
          go_wp2
          go_round
          case rel => exact ⟨k + 1, by omega, by go_num, by rw [hbt.out, hsn.out]; rfl⟩
          case measure => simp [intOf]; omega
    · obtain rfl : k = s.size := by omega
      go_wp2
      go_ret
      refine ⟨?_, rfl⟩
      have c33 : crcs 4294967295 (bts s) < 4294967296 := crcs_lt (by omega)
      have e : (bts s).take s.size = bts s := List.take_of_length_le (by rw [bts_length]; exact Nat.le_refl _)
      rw [e]
      show Ending.returned (.int .u32 (bits .xor .u32 ↑(crcs 4294967295 (bts s)) 4294967295)) = _
      rw [xorF c33]; rfl

theorem orStep {a b k : Nat} (ha : a < 256 ^ k) (hk : k ≤ 3) (hb : b < 256) :
    bits .or .u32 (a : Int) ((b : Int) * 2 ^ (8 * k) % 4294967296) = ((a + b * 256 ^ k : Nat) : Int) := by
  have h : k = 0 ∨ k = 1 ∨ k = 2 ∨ k = 3 := by omega
  have e : (b : Int) * 2 ^ (8 * k) % 4294967296 = ((b * 256 ^ k : Nat) : Int) := by
    rcases h with rfl | rfl | rfl | rfl <;> simp <;> omega
  have hj : a ||| b * 256 ^ k = a + b * 256 ^ k := by
    rw [Nat.or_comm, Nat.add_comm]
    refine nat_join (8 * k) _ _ ?_ ?_
    · rw [Nat.pow_mul]; exact Nat.mul_mod_left _ _
    · rw [Nat.pow_mul]; exact ha
  rw [e, u32_or_nat _ _ ?_ ?_, hj]
  · rcases h with rfl | rfl | rfl | rfl <;> simp at ha <;> omega
  · rcases h with rfl | rfl | rfl | rfl <;> simp <;> omega
def partLe (n k j : Nat) : List UInt8 := leB n j ++ List.replicate (k - j) 0
theorem partLe_zero (n k : Nat) : partLe n k 0 = List.replicate k 0 := by simp [partLe, leB]
theorem partLe_all (n k : Nat) : partLe n k k = leB n k := by simp [partLe]
theorem partLe_get (n k j : Nat) (h : j < k) : (cellsOf (partLe n k j))[j]? = some (bv 0) := by
  rw [cellsOf_get]; unfold partLe
  rw [List.getElem?_append_right (by rw [leB_length]; exact Nat.le_refl _), leB_length, Nat.sub_self, List.getElem?_replicate, if_pos (by omega)]
  rfl
theorem partLe_set (n k j : Nat) (h : j < k) : (partLe n k j).set j (byteAt n j) = partLe n k (j + 1) := by
  have e : k - j = (k - (j + 1)) + 1 := by omega
  unfold partLe
  rw [List.set_append_right _ _ (by rw [leB_length]; exact Nat.le_refl _), leB_length, Nat.sub_self, e, List.replicate_succ, List.set_cons_zero]
  unfold leB
  rw [List.range_succ, List.map_append, List.append_assoc]
  rfl
theorem partLe_length (n k j : Nat) (h : j ≤ k) : (partLe n k j).length = k := by simp [partLe, leB_length]; omega

theorem byteCell (n j : Nat) : Value.int .u8 ((n : Int) / 2 ^ (8 * j) % 256) = bv (byteAt n j) := by
  have e : (byteAt n j).toNat = n / 256 ^ j % 256 := by unfold byteAt; rw [UInt8.toNat_ofNat']
  unfold bv
  rw [e, Int.pow_mul]
  simp
set_option maxRecDepth 100000 in
theorem laid_calls (n k : Nat) (hn : n < 4294967296) (hk : k ≤ 4) (w : World) :
    Calls Tryd.prog 34 #[u32 n, iv k] w fun e w' => e = .returned (.string (strOf (leB n k))) ∧ Below w.heap.size w w' := by
  have hmk := mk_bytes_n k (by omega)
  go_enter Tryd.func34, Tryd.ntmps34
  go_wp2
  go_loopw [11] (fun i wr => ∃ j : Nat, j ≤ k ∧ i = iv j ∧ wr = w.alloc (.cells (cellsOf (partLe n k j)) 5)) (fun i _ => k - (intOf i).toNat)
  case atStart => exact ⟨0, Nat.zero_le _, rfl, by rw [partLe_zero]⟩
  case round =>
    obtain ⟨j, hj, rfl, rfl⟩ := hrel
    by_cases hlt : j < k
    · have hg := partLe_get n k j hlt
      go_wp2
      go_roundw
      case rel => exact ⟨j + 1, by omega, by go_num, by rw [byteCell, cellsOf_set, partLe_set n k j hlt]⟩
      case measure => simp [intOf]; omega
    · obtain rfl : j = k := by omega
      have hc : (convert 43 9 (.slice (some ⟨w.heap.size, 0, none⟩) j j)).run Tryd.prog (w.alloc (.cells (cellsOf (partLe n j j)) 5)) = .ok (.string (strOf (leB n j))) (w.alloc (.cells (cellsOf (partLe n j j)) 5)) := by
        rw [partLe_all]; exact conv_bytes j j (leB_length n j) (heap_alloc_last w _)
      go_wp2
      go_ret
      exact ⟨rfl, below_alloc _ _⟩
theorem number_calls (s : ByteArray) (hs : s.size ≤ 4) (w : World) :
    Calls Tryd.prog 36 #[.string s] w fun e w' => e = .returned (u32 (rdB (bts s))) ∧ w = w' := by
  go_enter Tryd.func36, Tryd.ntmps36
  go_wp2
  go_loop [3, 7] (fun t i => ∃ k : Nat, k ≤ s.size ∧ i = iv k ∧ t = u32 (rdB ((bts s).take k))) (fun _ i => (s.size - intOf i).toNat)
  case atStart => exact ⟨0, Nat.zero_le _, rfl, rfl⟩
  case round =>
    obtain ⟨k, hk, rfl, rfl⟩ := hrel
    by_cases hlt : k < s.size
    · have hb : s[k].toNat < 256 := UInt8.toNat_lt _
      have hr : rdB ((bts s).take k) < 256 ^ k := by
        have := rdB_lt ((bts s).take k); rw [List.length_take, bts_length, Nat.min_eq_left hk] at this; exact this
      have hl : ((bts s).take k).length = k := by rw [List.length_take, bts_length]; omega
      have e : rdB ((bts s).take (k + 1)) = rdB ((bts s).take k) + s[k].toNat * 256 ^ k := by rw [bts_take s k hlt, rdB_snoc, hl]
      have E := Lib.hid e
      have R := Lib.hid (orStep hr (by omega) hb)
      clear e hl hr
      go_wp2
      go_round
      case rel => exact ⟨k + 1, by omega, by go_num, by rw [E.out, R.out]⟩
      case measure => simp [intOf]; omega
    · obtain rfl : k = s.size := by omega
      go_wp2
      go_ret
      have e : (bts s).take s.size = bts s := List.take_of_length_le (by rw [bts_length]; exact Nat.le_refl _)
      exact ⟨by rw [e]; rfl, rfl⟩

/-- The numbers of the document are bytes, too. -/
theorem byteInt (n : Nat) : Value.int .u8 ((n : Int) % 256) = bv (byteAt n 0) := by
  have := byteCell n 0
  simpa using this

set_option maxRecDepth 100000 in
theorem numberR_calls (n k : Nat) (hn : n < 4294967296) (hk : k ≤ 4) (w : World) :
    Calls Tryd.prog 35 #[iv n, iv k] w fun e w' => e = .returned (.string (strOf (leB n k))) ∧ Below w.heap.size w w' := by
  go_enter Tryd.func35, Tryd.ntmps35
  go_wp2
  go_outline
  go_loopw [0, 5, 6] (fun x t i wr => ∃ j m : Nat, j ≤ k ∧ i = iv j ∧ x = iv m ∧ Hid (m = n / 256 ^ j) ∧ t = .string (strOf (leB n j)) ∧ Below w.heap.size w wr) (fun _ _ i _ => k - (intOf i).toNat)
  case atStart => exact ⟨0, n, Nat.zero_le _, rfl, rfl, Lib.hid (by simp), rfl, Below.refl _ _⟩
  case round =>
    obtain ⟨j, m, hj, rfl, rfl, hm, rfl, bb⟩ := hrel
    have hx : m < 4294967296 := by rw [hm.out]; exact Nat.lt_of_le_of_lt (Nat.div_le_self _ _) hn
    by_cases hlt : j < k
    · have hc : ∀ wr : World, (convert 43 9 (.slice (some ⟨wr.heap.size, 0, none⟩) 1 1)).run Tryd.prog (wr.alloc (.cells #[.int .u8 ((m : Int) % 256)] 5)) = .ok (.string (strOf [byteAt m 0])) (wr.alloc (.cells #[.int .u8 ((m : Int) % 256)] 5)) := fun wr => by
        rw [byteInt]; exact conv_bytes (l := [byteAt m 0]) 1 1 rfl (heap_alloc_last wr _)
      have e1 : m / 256 = n / 256 ^ (j + 1) := by rw [hm.out, Nat.div_div_eq_div_mul, Nat.pow_succ]
      have e2 : strOf (leB n j) ++ strOf [byteAt m 0] = strOf (leB n (j + 1)) := by
        rw [strOf_append]
        unfold leB
        rw [List.range_succ, List.map_append]
        simp [byteAt, hm.out]
      have z1 : (strOf (leB n j)).size ≤ 4 := by rw [strOf_size, leB_length]; omega
      have z2 : (strOf [byteAt m 0]).size ≤ 1 := by rw [strOf_size]; simp
      have E1 := Lib.hid e1
      have E2 := Lib.hid e2
      clear e1 e2
      go_wp2_with (refine wpList_bs_byte rfl _ rfl rfl ?_)
      go_roundw
      case rel => exact ⟨j + 1, m / 256, by omega, by go_num, by go_num, E1, by rw [E2.out], bb.trans ((below_alloc _ _).mono bb.size)⟩
      case measure => simp [intOf]; omega
    · obtain rfl : j = k := by omega
      go_wp2
      go_ret
      exact ⟨rfl, bb⟩
end Go.Proofs.YtmongcpaphifaaaDoor
