/- Ints in slices; the function Ints of the document's answers. -/
import Derived.Test.YtoiaikgpaobefaaMem
import Derived.LoopTactic
import Derived.BigQuiet
import Derived.Deep.QuietTactic
import Derived.Outline
namespace Go.Proofs.Ytoiaikgpaobefaa
open Go.RowKit Go.Maps

/-- Ints in a slice. -/
def IntsIn (w : World) (a : Option Addr) (ks : List Int) : Prop :=
  ks = [] ∨ ∃ g o, a = some ⟨g, o, none⟩ ∧ w.rangeAt g o (ks.map (Value.int .i64)) ∧ g < w.heap.size

/-- An index into ints in a slice. -/
theorem run_index_ints {w : World} {ka : Option Addr} {ks : List Int} {cap : Nat} (h : IntsIn w ka ks) {j : Nat} (hj : j < ks.length) :
    ∃ a, (∀ wx, (Instr.indexAt 37 (.slice ka ks.length cap) (.int .i64 (j : Int))).run Try.prog wx = .ok (.pointer (some a)) wx) ∧ w.cell? a = some (.int .i64 ks[j]) := by
  rcases h with rfl | ⟨g, o, rfl, h2, h3⟩
  · simp at hj
  · refine ⟨⟨g, o + j, none⟩, fun wx => ?_, h2 j _ (by rw [List.getElem?_map, List.getElem?_eq_getElem hj]; rfl)⟩
    obtain ⟨i, hi, hz⟩ := Option.map_eq_some_iff.1 (show (Try.prog.info? 3).map (·.size) = some 1 by kernel_rfl)
    have hlt : ¬ ks.length ≤ j := by omega
    simp [Instr.indexAt, asIntOf, run_underlying Try.underlying37, sizeOf, typeInfo, hi, hz, hlt, Addr.add_mid]

theorem IntsIn.drewN {w : World} {ka : Option Addr} {ks : List Int} (h : IntsIn w ka ks) (n : Nat) : IntsIn (w.drewN n) ka ks := h
theorem IntsIn.keep {w w' : World} {S : List Nat} {ka : Option Addr} {ks : List Int} (h : IntsIn w ka ks) (ho : Only S w w') (hn : ∀ x ∈ S, w.heap.size ≤ x) : IntsIn w' ka ks := by
  rcases h with h | ⟨g, o, h1, h2, h3⟩
  · exact .inl h
  · exact .inr ⟨g, o, h1, ho.range h2 (fun e => by have := hn g e; omega), by have := ho.size; omega⟩

set_option maxRecDepth 100000 in
/-- Ints: whether two lists are the same. -/
theorem ints_any {w : World} (ka kb : Option Addr) (ca cb : Nat) (xs ys : List Int) (ha : IntsIn w ka xs) (hb : IntsIn w kb ys) (hl : xs.length < 9223372036854775807) (hl2 : ys.length < 9223372036854775807) :
    Calls Try.prog 17 #[.slice ka xs.length ca, .slice kb ys.length cb] w fun e w' => e = .returned (.bool (decide (xs = ys))) ∧ ∃ n, w' = w.drewN n := by
  by_cases hlen : xs.length = ys.length
  · have h0 : ((xs.length : Int) != (ys.length : Int)) = false := by simp [hlen]
    have HL := Lib.hid hlen
    clear hlen
    go_enter Try.func17, Try.ntmps17
    go_wp2
    go_loopw [5] (fun i wr => ∃ j n : Nat, j ≤ xs.length ∧ i = .int .i64 j ∧ wr = w.drewN n ∧ xs.take j = ys.take j) (fun i _ => xs.length - (intOf i).toNat)
    case atStart => exact ⟨0, 0, Nat.zero_le _, rfl, rfl, by simp⟩
    case round =>
      obtain ⟨j, n, hj, rfl, rfl, ht⟩ := hrel
      have HT := Lib.hid ht
      clear ht
      by_cases hlt : j < xs.length
      · have hlt2 : j < ys.length := by have := HL.out; omega
        obtain ⟨a, i1, i2⟩ := run_index_ints (cap := ca) ha hlt
        obtain ⟨b, j1, j2⟩ := run_index_ints (cap := cb) hb hlt2
        by_cases hne : xs[j] = ys[j]
        · have hq : (xs[j] != ys[j]) = false := by simp [hne]
          have HN := Lib.hid hne
          clear hne
          go_wp2
          go_quiet (fail)
          go_wp2
          go_roundw
          case rel => exact ⟨j + 1, n + nq, by omega, by go_num, rfl, by rw [List.take_succ_eq_append_getElem hlt, List.take_succ_eq_append_getElem hlt2, HT.out, HN.out]⟩
          case measure => simp [intOf]; omega
        · have hq : (xs[j] != ys[j]) = true := by simp [hne]
          have hd : decide (xs = ys) = false := by
            simp only [decide_eq_false_iff_not]
            intro e; subst e; exact hne rfl
          have HD := Lib.hid hd
          clear hne hd
          go_wp2
          go_quiet (fail)
          go_wp2
          go_ret
          exact ⟨by simpa using HD.out, n + nq, by rw [World.drewN_drewN]⟩
      · obtain rfl : j = xs.length := by omega
        have hd : decide (xs = ys) = true := by
          simp only [decide_eq_true_eq]
          have := HT.out
          rw [List.take_length, HL.out, List.take_length] at this
          exact this
        have HD := Lib.hid hd
        clear hd
        go_wp2
        go_ret
        exact ⟨by simpa using HD.out, n, rfl⟩
  · have h0 : ((xs.length : Int) != (ys.length : Int)) = true := by simp; omega
    have hd : decide (xs = ys) = false := by simp; intro e; rw [e] at hlen; exact hlen rfl
    rw [hd]
    clear hlen hd
    go_enter Try.func17, Try.ntmps17
    go_wp2
    go_ret
    exact ⟨rfl, 0, rfl⟩

end Go.Proofs.Ytoiaikgpaobefaa
