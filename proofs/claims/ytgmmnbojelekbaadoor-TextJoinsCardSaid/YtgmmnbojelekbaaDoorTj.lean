/- strings.Join of a sign. -/
import Derived.Test.YtgmmnbojelekbaaDoorTf
import Derived.Test.YtgmmnbojelekbaaDoorCx
namespace Go.Proofs.YtgmmnbojelekbaaDoor
open Go.RowKit
set_option linter.unusedVariables false
set_option linter.unusedSimpArgs false

def joinB (g : UInt8) (l : List ByteArray) : ByteArray := strOf (join g (l.map bts))
theorem join_len (g : UInt8) : ∀ l : List ByteArray, l ≠ [] → (join g (l.map bts)).length + 1 = l.length + (flat l).length
  | [], h => absurd rfl h
  | [s], _ => by simp [join, flat]; omega
  | s :: t :: l, _ => by
    have := join_len g (t :: l) (by simp)
    rw [List.map_cons, join_cons _ _ _ (by simp), List.length_append, List.length_cons, show flat (s :: t :: l) = bts s ++ flat (t :: l) from rfl, List.length_append, List.length_cons]
    omega
theorem flat_take_le (l : List ByteArray) (k : Nat) : (flat (l.take k)).length ≤ (flat l).length := by
  have := flat_append (l.take k) (l.drop k)
  rw [List.take_append_drop] at this
  rw [this, List.length_append]; omega
theorem flat_get_le (l : List ByteArray) (k : Nat) (h : k < l.length) : (flat (l.take k)).length + l[k].size ≤ (flat l).length := by
  have := flat_take_le l (k + 1)
  rw [flat_take l k h, List.length_append, bts_length] at this
  exact this
theorem join_take (g : UInt8) (l : List ByteArray) (k : Nat) (h : k + 1 < l.length) : join g ((l.take (k + 1 + 1)).map bts) = join g ((l.take (k + 1)).map bts) ++ [g] ++ bts l[k + 1] := by
  rw [take_snoc l (k + 1) h, List.map_append, List.map_cons, List.map_nil, join_snoc]
  · simp
  · have : ((l.take (k + 1)).map bts).length = k + 1 := by rw [List.length_map, List.length_take]; omega
    intro e; rw [e] at this; simp at this

theorem take_ne (l : List ByteArray) (k : Nat) (h : k + 1 ≤ l.length) : l.take (k + 1) ≠ [] := by
  intro e
  have := congrArg List.length e
  rw [List.length_take, List.length_nil] at this
  omega
set_option maxRecDepth 100000 in
set_option maxHeartbeats 1000000 in
theorem join_calls (g : UInt8) (a : Option Addr) (cap : Nat) (l : List ByteArray) (w : World) (hin : StrsIn w a l) (hcap : l.length ≤ cap) (hn : l.length ≤ 5000) (hz : (flat l).length ≤ 1000000) :
    Calls Tryd.prog 36 #[.slice a l.length cap, .string ⟨#[g]⟩] w fun e w' => e = .returned (.string (joinB g l)) ∧ Below w.heap.size w w' := by
  have zg : (⟨#[g]⟩ : ByteArray).size = 1 := rfl
  rcases l with _ | ⟨s0, _ | ⟨s1, m⟩⟩
  · go_enter Tryd.func36, Tryd.ntmps36
    go_wp2_with fail
    go_ret
    exact ⟨rfl, Below.refl _ _⟩
  · obtain ⟨b, off, rfl, hat⟩ := hin.form (k := 0) (by simp)
    have c0 : w.cell? ⟨b, off, none⟩ = some (.string s0) := hat 0 (by simp)
    have E : joinB g [s0] = s0 := rfl
    rw [E]
    clear E
    go_enter Tryd.func36, Tryd.ntmps36
    go_wp2_with fail
    go_ret
    exact ⟨rfl, Below.refl _ _⟩
  · generalize hL : s0 :: s1 :: m = l at *
    have h2 : 2 ≤ l.length := by rw [← hL]; simp
    clear hL
    obtain ⟨b, off, rfl, hat⟩ := hin.form (k := 0) (by omega)
    have c00 : w.cell? ⟨b, off, none⟩ = some (.string l[0]) := hat 0 (by omega)
    have hqa : (5000 : Int) ≤ Int.tdiv 9223372036854775807 ((l.length : Int) - 1) := by
      rw [Int.tdiv_eq_ediv_of_nonneg (by omega)]
      apply Int.le_ediv_of_mul_le (by omega)
      omega
    have hqb : Int.tdiv 9223372036854775807 ((l.length : Int) - 1) ≤ 9223372036854775807 := by
      rw [Int.tdiv_eq_ediv_of_nonneg (by omega)]
      exact Int.ediv_le_self _ (by omega)
    have g2 : (2 : Int) ≤ l.length := by omega
    have g3 : (l.length : Int) ≤ 5000 := by omega
    have n0 : ((l.length : Int) == 0) = false := by rw [beq_eq_false_iff_ne]; omega
    have n1 : ((l.length : Int) == 1) = false := by rw [beq_eq_false_iff_ne]; omega
    have nz : ((l.length : Int) - 1 == 0) = false := by rw [beq_eq_false_iff_ne]; omega
    go_enter Tryd.func36, Tryd.ntmps36
    go_wp2_with fail
    go_loop [5, 41] (fun n i => ∃ k : Nat, k ≤ l.length ∧ i = iv k ∧ n = .int .i64 ((l.length : Int) - 1 + ((flat (l.take k)).length : Nat))) (fun _ i => l.length - (intOf i).toNat)
    case atStart => exact ⟨0, Nat.zero_le _, rfl, by simp [flat]⟩
    case round =>
      obtain ⟨k, hk, rfl, rfl⟩ := hrel
      have hfk := flat_take_le l k
      by_cases hlt : k < l.length
      · have hgk := flat_get_le l k hlt
        have e : (flat (l.take (k + 1))).length = (flat (l.take k)).length + l[k].size := by rw [flat_take l k hlt, List.length_append, bts_length]
        have E := Lib.hid e
        have ck : w.cell? ⟨b, off + k, none⟩ = some (.string l[k]) := hat k hlt
        clear e
        go_wp2_with fail
        go_round
        case rel => exact ⟨k + 1, by omega, by go_num, by rw [E.out]; congr 1; omega⟩
        case measure => simp [intOf]; omega
      · obtain rfl : k = l.length := by omega
        have eN : (l.length : Int) - 1 + ((flat (l.take l.length)).length : Nat) = ((l.length - 1 + (flat l).length : Nat) : Int) := by rw [List.take_length]; omega
        rw [eN]
        generalize hN : l.length - 1 + (flat l).length = N at *
        have zN : N ≤ 2000000 := by omega
        clear eN hfk hqa hqb n0 n1 nz
        go_wp2_with fail
        refine ((Tryd.Builder_Grow_fresh w.heap.size w.heap.size N (w.alloc (.cells #[.pointer none, .slice none 0 0] 66)) (Nat.le_refl _) (heap_alloc_last w _) (by simp) (by omega))).mono ?_; rintro e w1 ⟨rfl, h1, b1⟩
        have h1' : Bld w.heap.size w.heap.size [] w1 := .inr h1
        have bb1 := (below_alloc w (.cells #[.pointer none, .slice none 0 0] 66)).trans b1
        have in1 := hin.below bb1
        have c1 : w1.cell? ⟨b, off, none⟩ = some (.string l[0]) := in1.at_ 0 (by omega)
        have z0 := flat_get_le l 0 (by omega)
        have bs1 := bb1.size
        have qd := sl_from (some ⟨b, off, none⟩) l.length cap 1 1 rfl (by omega)
        have gl : ((l.length - 1 : Nat) : Int) = (l.length : Int) - 1 := by omega
        clear h1 b1 c00
        go_wp2_with fail
        refine (writeString_calls w.heap.size w.heap.size [] l[0] w1 h1' (by simp at z0 ⊢; omega) (by omega)).mono ?_; rintro e w2 ⟨rfl, h2, k2⟩
        have bb2 := bb1.trans k2.below
        clear bb1 c1 k2 h1' in1 bs1
        go_wp2_with fail
        obtain ⟨b', off', ed, hat'⟩ := (hin.dropA hcap 1).form (k := 0) (by rw [List.length_drop]; omega)
        rw [ed]
        clear ed
        go_loopw [65] (fun i wr => ∃ k : Nat, k + 1 ≤ l.length ∧ i = iv k ∧ Bld w.heap.size w.heap.size (join g ((l.take (k + 1)).map bts)) wr ∧ Below w.heap.size w wr) (fun i _ => l.length - (intOf i).toNat)
        case atStart => exact ⟨0, by omega, rfl, by
          rw [take_snoc l 0 (by omega)]
          simpa [join] using h2, bb2⟩
        case round =>
          obtain ⟨k, hk, rfl, hbd, bb⟩ := hrel
          have hjl := join_len g (l.take (k + 1)) (take_ne l k hk)
          have hfk := flat_take_le l (k + 1)
          rw [List.length_take] at hjl
          have bs := bb.size
          by_cases hlt : k + 1 < l.length
          · have hgk := flat_get_le l (k + 1) hlt
            have E := Lib.hid (join_take g l k hlt)
            have ck := (hat'.below bb) k (by rw [List.length_drop]; omega)
            have el : (l.drop 1)[k]'(by rw [List.length_drop]; omega) = l[k + 1] := by rw [List.getElem_drop]; congr 1; omega
            rw [el] at ck
            clear el
            have hj2 : (join g ((l.take (k + 1)).map bts)).length + l[k + 1].size ≤ 1006000 := by omega
            have zk : l[k + 1].size ≤ 1000000 := by omega
            have bb' := bb
            clear hjl hfk hgk bb
            have BB := Lib.hid bb'
            clear bb'
            go_wp2_with fail
            refine (writeString_calls w.heap.size w.heap.size _ ⟨#[g]⟩ wr hbd (by rw [zg]; omega) bs).mono ?_; rintro e w3 ⟨rfl, h3, k3⟩
            have s3 := k3.below.size
            go_wp2_with fail
            refine (writeString_calls w.heap.size w.heap.size _ l[k + 1] w3 h3 (by rw [List.length_append, bts_length, zg]; omega) (by omega)).mono ?_; rintro e w4 ⟨rfl, h4, k4⟩
            go_wp2_with fail
            go_roundw
            case rel => exact ⟨k + 1, hlt, by go_num, by rw [E.out]; exact h4, BB.out.trans (k3.below.trans k4.below)⟩
            case measure => simp [intOf]; omega
          · have hke : k + 1 = l.length := by omega
            have HE := Lib.hid (show strOf (join g ((l.take (k + 1)).map bts)) = joinB g l by rw [hke, List.take_length]; rfl)
            have kk : (k : Int) = (l.length : Int) - 1 := by omega
            have BB := Lib.hid bb
            clear bb hjl hfk hke
            go_wp2_with fail
            refine (Tryd.Builder_String_any _ _ _ _ hbd bs).mono ?_; rintro e w3 ⟨rfl, b3⟩
            go_wp2_with fail
            go_ret
            exact ⟨by rw [← HE.out, List.map_take]; rfl, BB.out.trans b3⟩
end Go.Proofs.YtgmmnbojelekbaaDoor
