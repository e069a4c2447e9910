/- few, join, Same, Read. -/
import Derived.Test.YtmongcpaphifaaaDoorFg
import Derived.Test.YtmongcpaphifaaaDoorPast
namespace Go.Proofs.YtmongcpaphifaaaDoor
open Go.RowKit
set_option linter.unusedVariables false
set_option linter.unusedSimpArgs false

def lens (l : List ByteArray) : Nat := (l.map fun s => min s.size 100000).sum
theorem lens_take (l : List ByteArray) (k : Nat) (h : k < l.length) : lens (l.take (k + 1)) = lens (l.take k) + min l[k].size 100000 := by
  unfold lens; rw [take_snoc l k h, List.map_append, List.sum_append]; simp only [List.map_cons, List.map_nil, List.sum_cons, List.sum_nil, Nat.add_zero]
theorem lens_bound (l : List ByteArray) : lens l ≤ 100000 * l.length := by
  induction l with
  | nil => simp [lens]
  | cons s l ih => simp only [lens, List.map_cons, List.sum_cons, List.length_cons] at *; omega
def fewB (l : List ByteArray) (most : Int) : Bool := decide (l.length ≤ 100) && decide ((lens l : Int) ≤ most)

set_option maxRecDepth 100000 in
set_option maxHeartbeats 1000000 in
theorem few_calls (a : Option Addr) (cap : Nat) (l : List ByteArray) (most : Int) (w : World) (hl : StrsIn w a l) (hs : Small l) :
    Calls Tryd.prog 9 #[.slice a l.length cap, iv most] w fun e w' => e = .returned (.bool (fewB l most)) ∧ w = w' := by
  obtain ⟨hs1, hs2⟩ := hs
  go_enter Tryd.func9, Tryd.ntmps9
  go_wp2_with fail
  go_loop [5, 6] (fun n i => ∃ k : Nat, k ≤ l.length ∧ k ≤ 101 ∧ i = iv k ∧ n = iv (lens (l.take k))) (fun _ i => (101 - intOf i).toNat)
  case atStart => exact ⟨0, Nat.zero_le _, by omega, rfl, by simp [lens]⟩
  case round =>
    obtain ⟨k, hk, hk2, rfl, rfl⟩ := hrel
    have hb := lens_bound (l.take k)
    have hbl : (l.take k).length = k := by rw [List.length_take]; omega
    rw [hbl] at hb
    by_cases hlt : k < l.length ∧ k ≤ 100
    · obtain ⟨h1, h2⟩ := hlt
      have h1' : (k : Int) < (l.length : Int) := by omega
      have h2' : (k : Int) ≤ 100 := by omega
      obtain ⟨b, off, rfl, hlw⟩ := hl.form h1
      have c0 := hlw k h1
      have hz := hs2 _ (List.getElem_mem h1)
      have E := Lib.hid (lens_take l k h1)
      clear hl hbl
      go_wp2_with fail
      go_round
      case rel => exact ⟨k + 1, by omega, by omega, by go_num, by rw [E.out]; congr 1; omega⟩
      case measure => simp [intOf]; omega
    · by_cases h1 : k < l.length
      · have h2 : k = 101 := by omega
        subst h2
        have h1' : ((101 : Nat) : Int) < (l.length : Int) := by omega
        have hf : fewB l most = false := by unfold fewB; simp; omega
        have h3 : (100 : Int) < (l.length : Int) := by omega
        go_wp2_with fail
        go_ret
        exact ⟨rfl, rfl⟩
      · obtain rfl : k = l.length := by omega
        rw [List.take_length] at hb
        by_cases h3 : l.length ≤ 100
        · have h3' : (l.length : Int) ≤ 100 := by omega
          go_wp2_with fail
          go_ret
          exact ⟨by unfold fewB; simp [h3], rfl⟩
        · have h3' : (100 : Int) < (l.length : Int) := by omega
          have hf : fewB l most = false := by unfold fewB; simp; omega
          go_wp2_with fail
          go_ret
          exact ⟨rfl, rfl⟩

theorem few_spec {l : List ByteArray} {most : Int} (h : fewB l most = true) : l.length ≤ 100 ∧ (lens l : Int) ≤ most := by
  unfold fewB at h; simpa using h
theorem lens_flat (l : List ByteArray) (n : Nat) (hn : n < 100000) (h : lens l ≤ n) : (∀ s ∈ l, s.size ≤ n) ∧ (flat l).length ≤ n ∧ (flat l).length = lens l := by
  induction l generalizing n with
  | nil => simp [flat, lens]
  | cons s l ih =>
    have e : lens (s :: l) = min s.size 100000 + lens l := by simp [lens]
    rw [e] at h
    obtain ⟨a, b, c⟩ := ih (n - min s.size 100000) (by omega) (by omega)
    have hm : min s.size 100000 = s.size := by omega
    have ef : (flat (s :: l)).length = s.size + (flat l).length := by simp [flat, bts_length]
    refine ⟨fun t ht => ?_, by omega, by omega⟩
    rcases List.mem_cons.1 ht with rfl | ht
    · omega
    · have := a t ht; omega

set_option maxRecDepth 100000 in
set_option maxHeartbeats 1000000 in
theorem join_calls (a : Option Addr) (cap : Nat) (l : List ByteArray) (w : World) (hl : StrsIn w a l) (hn : l.length ≤ 1000) (hf : (flat l).length ≤ 1000000) :
    Calls Tryd.prog 11 #[.slice a l.length cap] w fun e w' => e = .returned (.string (strOf (flat l))) ∧ w = w' := by
  go_enter Tryd.func11, Tryd.ntmps11
  go_wp2_with fail
  go_loop [3, 8] (fun s i => ∃ k : Nat, k ≤ l.length ∧ i = iv k ∧ s = .string (strOf (flat (l.take k)))) (fun _ i => (l.length - intOf i).toNat)
  case atStart => exact ⟨0, Nat.zero_le _, rfl, rfl⟩
  case round =>
    obtain ⟨k, hk, rfl, rfl⟩ := hrel
    by_cases hlt : k < l.length
    · obtain ⟨b, off, rfl, hlw⟩ := hl.form hlt
      have c0 := hlw k hlt
      have hlt' : (k : Int) < (l.length : Int) := by omega
      have e := flat_take l k hlt
      have hm : (flat (l.take (k + 1))).length ≤ 1000000 := by
        have e2 : flat l = flat (l.take (k + 1)) ++ flat (l.drop (k + 1)) := by rw [← flat_append, List.take_append_drop]
        rw [e2, List.length_append] at hf; omega
      rw [e, List.length_append, bts_length] at hm
      have z1 : (strOf (flat (l.take k))).size + l[k].size ≤ 1000000 := by rw [strOf_size]; exact hm
      have e3 : strOf (flat (l.take k)) ++ l[k] = strOf (flat (l.take (k + 1))) := by rw [e, ← strOf_append]; rfl
      have E := Lib.hid e3
      clear e e3 hm hl
      go_wp2_with fail
      go_round
      case rel => exact ⟨k + 1, by omega, by go_num, by rw [E.out]⟩
      case measure => simp [intOf]; omega
    · obtain rfl : k = l.length := by omega
      go_wp2_with fail
      go_ret
      exact ⟨by simp, rfl⟩

def sameB (l m : List ByteArray) : Bool := decide (l = m)
set_option maxRecDepth 100000 in
set_option maxHeartbeats 1000000 in
theorem same_calls (a b : Option Addr) (c d : Nat) (l m : List ByteArray) (w : World) (hl : StrsIn w a l) (hm : StrsIn w b m) (hs : l.length ≤ 9223372036854775807) (ht : m.length ≤ 9223372036854775807) :
    Calls Tryd.prog 20 #[.slice a l.length c, .slice b m.length d] w fun e w' => e = .returned (.bool (sameB l m)) ∧ Below w.heap.size w w' := by
  by_cases hlen : l.length = m.length
  · have hn1 : (l.length : Int) = (m.length : Int) := by omega
    have hn2 : ((l.length : Int) != (m.length : Int)) = false := by simp [hn1]
    clear hn1
    go_enter Tryd.func20, Tryd.ntmps20
    have HL := Lib.hid hlen
    clear hlen
    go_wp2_with fail
    go_loopw [5] (fun i wr => ∃ k : Nat, k ≤ l.length ∧ i = iv k ∧ l.take k = m.take k ∧ Below w.heap.size w wr) (fun i _ => (l.length - intOf i).toNat)
    case atStart => exact ⟨0, Nat.zero_le _, rfl, rfl, Below.refl _ _⟩
    case round =>
      obtain ⟨k, hk, rfl, heq, bb⟩ := hrel
      have HE := Lib.hid heq
      clear heq
      by_cases hlt : k < l.length
      · have hlt2 : k < m.length := by have := HL.out; omega
        have hlt' : (k : Int) < (l.length : Int) := by omega
        have hlt2' : (k : Int) < (m.length : Int) := by omega
        obtain ⟨b1, o1, rfl, h1⟩ := (hl.below bb).form hlt
        obtain ⟨b2, o2, rfl, h2⟩ := (hm.below bb).form hlt2
        have c1 := h1 k hlt
        have c2 := h2 k hlt2
        by_cases he : l[k] = m[k]
        · have hq : (l[k].toList == m[k].toList) = true := by rw [he]; exact beq_self_eq_true _
          have e : l.take (k + 1) = m.take (k + 1) := by rw [take_snoc l k hlt, take_snoc m k hlt2, HE.out, he]
          have E := Lib.hid e
          clear he e
          go_wp2_with fail
          go_quiet (fail)
          go_wp2_with fail
          go_roundw
          case rel => exact ⟨k + 1, by omega, by go_num, E.out, below_draws bb nq⟩
          case measure => simp [intOf]; omega
        · have hq : (l[k].toList == m[k].toList) = false := toList_beq_ne he
          have e : sameB l m = false := by
            unfold sameB; rw [decide_eq_false]
            intro h; apply he; subst h; rfl
          have E := Lib.hid e
          clear he e
          go_wp2_with fail
          go_quiet (fail)
          go_wp2_with fail
          go_ret
          exact ⟨by rw [E.out]; rfl, below_draws bb nq⟩
      · obtain rfl : k = l.length := by omega
        have e : sameB l m = true := by
          have h := HE.out
          rw [List.take_length, HL.out, List.take_length] at h
          unfold sameB; rw [decide_eq_true h]
        have E := Lib.hid e
        clear e
        go_wp2_with fail
        go_ret
        exact ⟨by rw [E.out]; rfl, bb⟩
  · have e : sameB l m = false := by
      unfold sameB; rw [decide_eq_false]
      intro h; exact hlen (by rw [h])
    rw [e]
    have hn2 : ((l.length : Int) != (m.length : Int)) = true := by simp; omega
    go_enter Tryd.func20, Tryd.ntmps20
    go_wp2_with fail
    go_ret
    exact ⟨rfl, Below.refl _ _⟩

set_option maxRecDepth 100000 in
set_option maxHeartbeats 1000000 in
theorem read_calls (s : ByteArray) (hs : s.size ≤ 3) (w : World) :
    Calls Tryd.prog 31 #[.string s] w fun e w' => e = .returned (iv (rdB (bts s))) ∧ w = w' := by
  go_enter Tryd.func31, Tryd.ntmps31
  go_wp2_with fail
  go_loop [3, 4] (fun x i => ∃ j : Nat, j ≤ s.size ∧ i = .int .i64 ((j : Int) - 1) ∧ x = iv (rdB ((bts s).drop j))) (fun _ i => (intOf i + 1).toNat)
  case atStart => exact ⟨s.size, Nat.le_refl _, rfl, by rw [← bts_length, List.drop_length]; rfl⟩
  case round =>
    obtain ⟨j, hj, rfl, rfl⟩ := hrel
    have hb := rdB_lt ((bts s).drop j)
    have hp : (256 : Nat) ^ ((bts s).drop j).length ≤ 256 ^ 3 := Nat.pow_le_pow_right (by decide) (by rw [List.length_drop, bts_length]; omega)
    rw [p24] at hp
    have hb2 : rdB ((bts s).drop j) < 16777216 := by omega
    clear hb hp
    by_cases h0 : j = 0
    · subst h0
      go_wp2_with fail
      go_ret
      exact ⟨by simp, rfl⟩
    · obtain ⟨k, rfl⟩ : ∃ k, j = k + 1 := ⟨j - 1, by omega⟩
      have hk : k < s.size := by omega
      have hu : s[k].toNat < 256 := UInt8.toNat_lt _
      have e : rdB ((bts s).drop k) = s[k].toNat + 256 * rdB ((bts s).drop (k + 1)) := by
        rw [List.drop_eq_getElem_cons (by rw [bts_length]; exact hk), rdB]; rfl
      have E := Lib.hid e
      clear e h0
      go_wp2_with fail
      go_round
      case rel => exact ⟨k, by omega, by go_num, by rw [E.out]; congr 1; omega⟩
      case measure => simp [intOf]
end Go.Proofs.YtmongcpaphifaaaDoor
