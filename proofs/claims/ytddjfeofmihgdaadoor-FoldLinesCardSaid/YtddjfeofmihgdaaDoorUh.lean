/- Same of two lists of rows. -/
import Derived.Test.YtddjfeofmihgdaaDoorUv
import Derived.Laws.StructEq
namespace Go.Proofs.YtddjfeofmihgdaaDoor
open Go.RowKit
set_option linter.unusedVariables false
set_option linter.unusedSimpArgs false

theorem neRow (a b : Int) (s t : ByteArray) (w : World) : (binOp .neq 40 (.agg #[.int .i64 a, .string s]) (.agg #[.int .i64 b, .string t])).run Tryd.prog w = .ok (.bool (!(a == b && s.toList == t.toList))) w := by
  have u3 := Tryd.underlying3
  have u9 := Tryd.underlying9
  have hS : Tryd.prog.underlying 40 = some (.struct (Tryd.prog.fieldsOf 40)) := by kernel_rfl
  have hp : Tryd.prog.stoodInHeld 40 = false := by kernel_rfl
  rw [run_neq_struct, show (10000 : Nat) = 9999 + 1 from rfl, run_equalIn_agg w 9999 40 _ _ hS hp]
  simp only [Program.fieldsOf, Tryd.underlying40]
  go_simp
  by_cases h1 : a = b <;> by_cases h2 : s.toList = t.toList <;> simp [h1, h2]
def sameRows (l m : List (Nat × BL)) : Bool := decide (l = m)
set_option maxRecDepth 100000 in
set_option maxHeartbeats 1000000 in
theorem same_calls (a b : Option Addr) (c d : Nat) (l m : List (Nat × BL)) (w : World) (hl : RowsIn w a l) (hm : RowsIn w b m) (hs : l.length ≤ 1000000) (ht : m.length ≤ 1000000) :
    Calls Tryd.prog 17 #[.slice a l.length c, .slice b m.length d] w fun e w' => e = .returned (.bool (sameRows l m)) ∧ Below w.heap.size w w' := by
  by_cases hlen : l.length = m.length
  · have hn1 : (l.length : Int) = (m.length : Int) := by omega
    have hn2 : ((l.length : Int) != (m.length : Int)) = false := by simp [hn1]
    clear hn1
    go_enter Tryd.func17, Tryd.ntmps17
    have HL := Lib.hid hlen
    clear hlen
    go_wp2_with fail
    go_loopw [5] (fun i wr => ∃ k : Nat, k ≤ l.length ∧ i = iv k ∧ Hid (l.take k = m.take k ∧ Below w.heap.size w wr)) (fun i _ => (l.length - intOf i).toNat)
    case atStart => exact ⟨0, Nat.zero_le _, rfl, Lib.hid ⟨rfl, Below.refl _ _⟩⟩
    case round =>
      obtain ⟨k, hk, rfl, HE⟩ := hrel
      by_cases hlt : k < l.length
      · have hlt2 : k < m.length := by have := HL.out; omega
        have hlt' : (k : Int) < (l.length : Int) := by omega
        have hlt2' : (k : Int) < (m.length : Int) := by omega
        obtain ⟨b1, o1, rfl, h1⟩ := (hl.below HE.out.2).form hlt
        obtain ⟨b2, o2, rfl, h2⟩ := (hm.below HE.out.2).form hlt2
        obtain ⟨c1, c1'⟩ := h1 k hlt
        obtain ⟨c2, c2'⟩ := h2 k hlt2
        rw [show o1 + (2 * k + 1) = o1 + 2 * k + 1 by omega, Nat.mul_comm 2 k] at c1'
        rw [show o2 + (2 * k + 1) = o2 + 2 * k + 1 by omega, Nat.mul_comm 2 k] at c2'
        rw [Nat.mul_comm 2 k] at c1 c2
        have HT : Hid (l.take (k + 1) = m.take (k + 1) ↔ l[k] = m[k]) := Lib.hid (by
          rw [take_snoc l k hlt, take_snoc m k hlt2, HE.out.1]
          exact ⟨fun h => by have := List.append_cancel_left h; injection this, fun h => by rw [h]⟩)
        have HX : Hid (l[k] ≠ m[k] → sameRows l m = false) := Lib.hid (fun h => by
          unfold sameRows; rw [decide_eq_false]
          intro e; apply h; subst e; rfl)
        have ne := fun w => neRow (l[k].1 : Int) (m[k].1 : Int) (strOf l[k].2) (strOf m[k].2) w
        clear h1 h2 hl hm
        by_cases he : l[k] = m[k]
        · have hq : (!(((l[k].1 : Int) == (m[k].1 : Int)) && (strOf l[k].2).toList == (strOf m[k].2).toList)) = false := by rw [he]; simp
          rw [hq] at ne
          have E := Lib.hid (HT.out.2 he)
          clear he hq HT HX
          generalize l[k] = p at *
          generalize m[k] = q at *
          go_wp2_with fail
          go_quiet (fail)
          go_wp2_with fail
          go_roundw
          case rel => exact ⟨k + 1, by omega, by go_num, Lib.hid ⟨E.out, below_draws HE.out.2 nq⟩⟩
          case measure => simp [intOf]; omega
        · have hq : (!(((l[k].1 : Int) == (m[k].1 : Int)) && (strOf l[k].2).toList == (strOf m[k].2).toList)) = true := by
            rw [Bool.not_eq_true', Bool.and_eq_false_iff]
            by_cases h1 : l[k].1 = m[k].1
            · refine .inr (toList_beq_ne fun e => he ?_)
              exact Prod.ext h1 (strOf_inj e)
            · exact .inl (beq_eq_false_iff_ne.2 (by omega))
          rw [hq] at ne
          have E := Lib.hid (HX.out he)
          clear he hq HT HX
          generalize l[k] = p at *
          generalize m[k] = q at *
          go_wp2_with fail
          go_quiet (fail)
          go_wp2_with fail
          go_ret
          exact ⟨by rw [E.out]; rfl, below_draws HE.out.2 nq⟩
      · obtain rfl : k = l.length := by omega
        have e : sameRows l m = true := by
          have h := HE.out.1
          rw [List.take_length, HL.out, List.take_length] at h
          unfold sameRows; exact decide_eq_true h
        have E := Lib.hid e
        clear e
        go_wp2_with fail
        go_ret
        exact ⟨by rw [E.out]; rfl, HE.out.2⟩
  · have hn2 : ((l.length : Int) != (m.length : Int)) = true := by
      rw [bne_iff_ne]; omega
    have e : sameRows l m = false := by
      unfold sameRows; rw [decide_eq_false]
      intro h; apply hlen; rw [h]
    have E := Lib.hid e
    have B0 := Lib.hid (Below.refl w.heap.size w)
    clear e hlen
    go_enter Tryd.func17, Tryd.ntmps17
    go_wp2_with fail
    go_ret
    exact ⟨by rw [E.out]; rfl, B0.out⟩
end Go.Proofs.YtddjfeofmihgdaaDoor
