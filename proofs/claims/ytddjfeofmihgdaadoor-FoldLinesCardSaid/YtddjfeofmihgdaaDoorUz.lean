/- few: are rows gone through? -/
import Derived.Test.YtddjfeofmihgdaaDoorUy
namespace Go.Proofs.YtddjfeofmihgdaaDoor
open Go.RowKit
set_option linter.unusedVariables false
set_option linter.unusedSimpArgs false

def lens (l : List ByteArray) : Nat := (l.map fun s => min s.size 100000).sum
theorem lens_take (l : List ByteArray) (k : Nat) (h : k < l.length) : lens (l.take (k + 1)) = lens (l.take k) + min l[k].size 100000 := by
  unfold lens; rw [take_snoc l k h, List.map_append, List.sum_append]; simp only [List.map_cons, List.map_nil, List.sum_cons, List.sum_nil, Nat.add_zero]
theorem lens_bound (l : List ByteArray) : lens l ≤ 100000 * l.length := by
  induction l with
  | nil => simp [lens]
  | cons s l ih => simp only [lens, List.map_cons, List.sum_cons, List.length_cons] at *; omega
def fewB (l : List ByteArray) : Bool := decide (l.length ≤ 40) && decide ((lens l : Int) ≤ 12000)

set_option maxRecDepth 100000 in
set_option maxHeartbeats 1000000 in
theorem few_calls (a : Option Addr) (cap : Nat) (l : List ByteArray) (w : World) (hl : StrsIn w a l) (hs : Small l) :
    Calls Tryd.prog 9 #[.slice a l.length cap] w fun e w' => e = .returned (.bool (fewB l)) ∧ w = w' := by
  obtain ⟨hs1, hs2⟩ := hs
  go_enter Tryd.func9, Tryd.ntmps9
  go_wp2_with fail
  go_loop [3, 4] (fun n i => ∃ k : Nat, k ≤ l.length ∧ k ≤ 41 ∧ i = iv k ∧ n = iv (lens (l.take k))) (fun _ i => (41 - intOf i).toNat)
  case atStart => exact ⟨0, Nat.zero_le _, by omega, rfl, by simp [lens]⟩
  case round =>
    obtain ⟨k, hk, hk2, rfl, rfl⟩ := hrel
    have hb := lens_bound (l.take k)
    have hbl : (l.take k).length = k := by rw [List.length_take]; omega
    rw [hbl] at hb
    by_cases hlt : k < l.length ∧ k ≤ 40
    · obtain ⟨h1, h2⟩ := hlt
      have h1' : (k : Int) < (l.length : Int) := by omega
      have h2' : (k : Int) ≤ 40 := by omega
      obtain ⟨b, off, rfl, hlw⟩ := hl.form h1
      have c0 := hlw k h1
      have hz := hs2 _ (List.getElem_mem h1)
      have E := Lib.hid (lens_take l k h1)
      clear hl hbl
      go_wp2_with fail
      go_round
      case rel => exact ⟨k + 1, by omega, by omega, by go_num, by rw [E.out]; congr 1; omega⟩
      case measure => simp [intOf]; omega
    · by_cases h1 : k < l.length
      · have h2 : k = 41 := by omega
        subst h2
        have h1' : ((41 : Nat) : Int) < (l.length : Int) := by omega
        have hf : fewB l = false := by unfold fewB; simp; omega
        have h3 : (40 : Int) < (l.length : Int) := by omega
        go_wp2_with fail
        go_ret
        exact ⟨rfl, rfl⟩
      · obtain rfl : k = l.length := by omega
        rw [List.take_length] at hb
        by_cases h3 : l.length ≤ 40
        · have h3' : (l.length : Int) ≤ 40 := by omega
          go_wp2_with fail
          go_ret
          exact ⟨by unfold fewB; simp [h3], rfl⟩
        · have h3' : (40 : Int) < (l.length : Int) := by omega
          have hf : fewB l = false := by unfold fewB; simp; omega
          go_wp2_with fail
          go_ret
          exact ⟨rfl, rfl⟩
theorem lens_flat (l : List ByteArray) (n : Nat) (hn : n < 100000) (h : lens l ≤ n) : (∀ s ∈ l, s.size ≤ n) ∧ (flat l).length ≤ n := by
  induction l generalizing n with
  | nil => simp [flat]
  | cons s l ih =>
    have e : lens (s :: l) = min s.size 100000 + lens l := by simp [lens]
    rw [e] at h
    obtain ⟨a, b⟩ := ih (n - min s.size 100000) (by omega) (by omega)
    refine ⟨fun t ht => ?_, ?_⟩
    · rcases List.mem_cons.1 ht with rfl | ht
      · omega
      · have := a t ht; omega
    · rw [show flat (s :: l) = bts s ++ flat l from rfl, List.length_append, bts_length]; omega
theorem few_spec {l : List ByteArray} (h : fewB l = true) : l.length ≤ 40 ∧ (flat l).length ≤ 12000 ∧ ∀ s ∈ l, s.size ≤ 12000 := by
  unfold fewB at h
  simp at h
  obtain ⟨a, b⟩ := lens_flat l 12000 (by omega) (by omega)
  exact ⟨h.1, b, a⟩
end Go.Proofs.YtddjfeofmihgdaaDoor
