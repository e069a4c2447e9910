/- Same: the document's. -/
import Derived.Test.YtgmmnbojelekbaaDoorTv
namespace Go.Proofs.YtgmmnbojelekbaaDoor
open Go.RowKit
set_option linter.unusedVariables false
set_option linter.unusedSimpArgs false

def sameB (l m : List ByteArray) : Bool := decide (l = m)
set_option maxRecDepth 100000 in
set_option maxHeartbeats 1000000 in
theorem same_calls (a b : Option Addr) (c d : Nat) (l m : List ByteArray) (w : World) (hl : StrsIn w a l) (hm : StrsIn w b m) (hs : l.length ≤ 9223372036854775807) (ht : m.length ≤ 9223372036854775807) :
    Calls Tryd.prog 20 #[.slice a l.length c, .slice b m.length d] w fun e w' => e = .returned (.bool (sameB l m)) ∧ Below w.heap.size w w' := by
  by_cases hlen : l.length = m.length
  · have hn1 : (l.length : Int) = (m.length : Int) := by omega
    have hn2 : ((l.length : Int) != (m.length : Int)) = false := by simp [hn1]
    clear hn1
    go_enter Tryd.func20, Tryd.ntmps20
    have HL := Lib.hid hlen
    clear hlen
    go_wp2_with fail
    go_loopw [5] (fun i wr => ∃ k : Nat, k ≤ l.length ∧ i = iv k ∧ l.take k = m.take k ∧ Below w.heap.size w wr) (fun i _ => (l.length - intOf i).toNat)
    case atStart => exact ⟨0, Nat.zero_le _, rfl, rfl, Below.refl _ _⟩
    case round =>
      obtain ⟨k, hk, rfl, heq, bb⟩ := hrel
      have HE := Lib.hid heq
      clear heq
      by_cases hlt : k < l.length
      · have hlt2 : k < m.length := by have := HL.out; omega
        have hlt' : (k : Int) < (l.length : Int) := by omega
        have hlt2' : (k : Int) < (m.length : Int) := by omega
        obtain ⟨b1, o1, rfl, h1⟩ := (hl.below bb).form hlt
        obtain ⟨b2, o2, rfl, h2⟩ := (hm.below bb).form hlt2
        have c1 := h1 k hlt
        have c2 := h2 k hlt2
        by_cases he : l[k] = m[k]
        · have hq : (l[k].toList == m[k].toList) = true := by rw [he]; exact beq_self_eq_true _
          have e : l.take (k + 1) = m.take (k + 1) := by rw [take_snoc l k hlt, take_snoc m k hlt2, HE.out, he]
          have E := Lib.hid e
          clear he e
          go_wp2_with fail
          go_quiet (fail)
          go_wp2_with fail
          go_roundw
          case rel => exact ⟨k + 1, by omega, by go_num, E.out, below_draws bb nq⟩
          case measure => simp [intOf]; omega
        · have hq : (l[k].toList == m[k].toList) = false := toList_beq_ne he
          have e : sameB l m = false := by
            unfold sameB; rw [decide_eq_false]
            intro h; apply he; subst h; rfl
          have E := Lib.hid e
          clear he e
          go_wp2_with fail
          go_quiet (fail)
          go_wp2_with fail
          go_ret
          exact ⟨by rw [E.out]; rfl, below_draws bb nq⟩
      · obtain rfl : k = l.length := by omega
        have e : sameB l m = true := by
          have h := HE.out
          rw [List.take_length, HL.out, List.take_length] at h
          unfold sameB; rw [decide_eq_true h]
        have E := Lib.hid e
        clear e
        go_wp2_with fail
        go_ret
        exact ⟨by rw [E.out]; rfl, bb⟩
  · have e : sameB l m = false := by
      unfold sameB; rw [decide_eq_false]
      intro h; exact hlen (by rw [h])
    rw [e]
    have hn2 : ((l.length : Int) != (m.length : Int)) = true := by simp; omega
    go_enter Tryd.func20, Tryd.ntmps20
    go_wp2_with fail
    go_ret
    exact ⟨rfl, Below.refl _ _⟩
end Go.Proofs.YtgmmnbojelekbaaDoor
