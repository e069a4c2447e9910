/- Acts as they come in; whether they are few; an act's bytes. -/
import Derived.Test.YtoiaikgpaobefaaInts
import Derived.Test.YtoiaikgpaobefaaOf
import Derived.LoopTactic
namespace Go.Proofs.Ytoiaikgpaobefaa
open Go.RowKit Go.Extern.Stop Go.Stop Go.Extern Go.Maps

/-- An act. -/
structure AM where
  kind : Int
  at_ : Int
  n : Int
  u : UInt8
  ka : Option Addr
  kc : Nat
  kept : List Int
deriving Inhabited

/-- Its cells. -/
def AM.cells (m : AM) : List Value := [.int .i64 m.kind, .int .i64 m.at_, .int .i64 m.n, .int .u8 (m.u.toNat : Int), .slice m.ka m.kept.length m.kc]

/-- It is an act as it came in. -/
structure AM.In (w : World) (m : AM) : Prop where
  fk : Fits m.kind
  fa : Fits m.at_
  fn : Fits m.n
  kin : IntsIn w m.ka m.kept
  kf : ∀ k ∈ m.kept, Fits k
  kl : m.kept.length ≤ maxLen

/-- Acts in a slice. -/
structure ActsIn (w : World) (a : Option Addr) (ms : List AM) : Prop where
  len : ms.length ≤ maxLen
  each : ∀ m ∈ ms, m.In w
  row : ms = [] ∨ ∃ g o, a = some ⟨g, o, none⟩ ∧ g < w.heap.size ∧ ∀ i (h : i < ms.length), w.rangeAt g (o + i * 5) ms[i].cells

theorem AM.In.keep {w w' : World} {S : List Nat} {m : AM} (h : m.In w) (ho : Only S w w') (hn : ∀ x ∈ S, w.heap.size ≤ x) : m.In w' := ⟨h.fk, h.fa, h.fn, h.kin.keep ho hn, h.kf, h.kl⟩
theorem ActsIn.keep {w w' : World} {S : List Nat} {a : Option Addr} {ms : List AM} (h : ActsIn w a ms) (ho : Only S w w') (hn : ∀ x ∈ S, w.heap.size ≤ x) : ActsIn w' a ms := by
  refine ⟨h.len, fun m hm => (h.each m hm).keep ho hn, ?_⟩
  rcases h.row with h1 | ⟨g, o, rfl, h2, h3⟩
  · exact .inl h1
  · exact .inr ⟨g, o, rfl, by have := ho.size; omega, fun i hi => ho.range (h3 i hi) (fun e => by have := hn g e; omega)⟩

/-- An index into acts. -/
theorem run_index_acts {w : World} {ka : Option Addr} {ms : List AM} {cap : Nat} (h : ActsIn w ka ms) {j : Nat} (hj : j < ms.length) :
    ∃ g o, (∀ wx, (Instr.indexAt 22 (.slice ka ms.length cap) (.int .i64 (j : Int))).run Try.prog wx = .ok (.pointer (some ⟨g, o, none⟩)) wx) ∧ g < w.heap.size ∧ w.rangeAt g o ms[j].cells := by
  rcases h.row with rfl | ⟨g, o, rfl, h2, h3⟩
  · simp at hj
  · refine ⟨g, o + j * 5, fun wx => ?_, h2, h3 j hj⟩
    obtain ⟨i, hi, hz⟩ := Option.map_eq_some_iff.1 (show (Try.prog.info? 39).map (·.size) = some 5 by kernel_rfl)
    have hlt : ¬ ms.length ≤ j := by omega
    simp [Instr.indexAt, asIntOf, run_underlying Try.underlying22, sizeOf, typeInfo, hi, hz, hlt, Addr.add_mid]

theorem AM.cell {w : World} {g o : Nat} {m : AM} (h : w.rangeAt g o m.cells) :
    w.cell? ⟨g, o, none⟩ = some (.int .i64 m.kind) ∧ w.cell? ⟨g, o + 1, none⟩ = some (.int .i64 m.at_) ∧ w.cell? ⟨g, o + 2, none⟩ = some (.int .i64 m.n) ∧ w.cell? ⟨g, o + 3, none⟩ = some (.int .u8 (m.u.toNat : Int)) ∧ w.cell? ⟨g, o + 4, none⟩ = some (.slice m.ka m.kept.length m.kc) :=
  ⟨h 0 _ rfl, h 1 _ rfl, h 2 _ rfl, h 3 _ rfl, h 4 _ rfl⟩

/-- What few answers. -/
def FewSaid (ms : List AM) (w : World) (e : Ending) (w' : World) : Prop := w = w' ∧ ∃ r, e = .returned (.bool r) ∧ (r = true → ms.length ≤ 80 ∧ ∀ m ∈ ms, m.kept.length ≤ 400)

set_option maxRecDepth 100000 in
/-- few. -/
theorem few_any {w : World} {ka : Option Addr} {ms : List AM} (cap : Nat) (h : ActsIn w ka ms) :
    Calls Try.prog 13 #[.slice ka ms.length cap] w (FewSaid ms w) := by
  go_enter Try.func13, Try.ntmps13
  go_wp2
  go_loop [3, 4] (fun n i => ∃ j s : Nat, j ≤ ms.length ∧ j ≤ 81 ∧ i = .int .i64 j ∧ n = .int .i64 s ∧ s ≤ 1000 * j ∧ Hid (∀ i (h : i < ms.length), i < j → min ms[i].kept.length 1000 ≤ s)) (fun _ i => 81 - (intOf i).toNat)
  case atStart => exact ⟨0, 0, Nat.zero_le _, by omega, rfl, rfl, by omega, Lib.hid (fun i h hi => absurd hi (Nat.not_lt_zero _))⟩
  case round =>
    obtain ⟨j, s, hj, h81, rfl, rfl, hs, hall⟩ := hrel
    by_cases hlt : j < ms.length
    · by_cases h80 : j ≤ 80
      · obtain ⟨g, o, hi, hg, hr⟩ := run_index_acts (cap := cap) h hlt
        have hc := (AM.cell hr).2.2.2.2
        clear hr
        go_wp2
        go_round
        case rel => exact ⟨j + 1, s + min ms[j].kept.length 1000, by omega, by omega, by go_num, by congr 1; split <;> omega, by omega, Lib.hid (fun i h hi => by
            by_cases e : i = j
            · subst e; omega
            · have := hall.out i h (by omega); omega)⟩
        case measure => simp [intOf]; omega
      · go_wp2
        all_goals (go_ret; refine ⟨rfl, _, rfl, fun hh => ?_⟩; first | (exfalso; omega) | cases hh | skip)
      all_goals
        have h4 : s ≤ 400 := by simp at hh; omega
        refine ⟨by omega, fun m hm => ?_⟩
        obtain ⟨i, hi, rfl⟩ := List.getElem_of_mem hm
        have := hall.out i hi (by omega)
        omega
    · go_wp2
      all_goals (go_ret; refine ⟨rfl, _, rfl, fun hh => ?_⟩; first | (exfalso; omega) | cases hh | skip)
      all_goals
        have h4 : s ≤ 400 := by simp at hh; omega
        refine ⟨by omega, fun m hm => ?_⟩
        obtain ⟨i, hi, rfl⟩ := List.getElem_of_mem hm
        have := hall.out i hi (by omega)
        omega

/-- An act's bytes. -/
def AM.bytes (m : AM) : List UInt8 := if 0 ≤ m.n then List.replicate (min m.n 300).toNat 0 else ofSec m.u (m.u + 1)

/-- What bytes answers. -/
def BytesMade (w : World) (l : List UInt8) (e : Ending) (w' : World) : Prop :=
  ∃ g, e = .returned (.slice (some ⟨g, 0, none⟩) l.length l.length) ∧ w'.heap[g]? = some (.cells (cellsOf l) 5 (0, 0)) ∧ Below w.heap.size w w' ∧ w.heap.size ≤ g

theorem u8_next (u : UInt8) : ((u.toNat : Int) + 1) % 256 = ((u + 1).toNat : Int) := by
  rw [UInt8.toNat_add]
  have : (1 : UInt8).toNat = 1 := rfl
  omega

set_option maxRecDepth 100000 in
/-- bytes. -/
theorem bytes_any {w : World} (m : AM) :
    Calls Try.prog 30 #[.agg m.cells.toArray] w (BytesMade w m.bytes) := by
  unfold AM.bytes
  by_cases hn : 0 ≤ m.n
  · rw [if_pos hn]
    obtain ⟨l, hl⟩ : ∃ l : Nat, (min m.n 300) = (l : Int) := ⟨(min m.n 300).toNat, by omega⟩
    have hl3 : l ≤ 300 := by omega
    have hmin : (if 300 < m.n then 300 else m.n) = (l : Int) := by split <;> omega
    rw [show (min m.n 300).toNat = l by omega]
    have m0 : ∀ wx, (Instr.makeSlice 47 (.int .i64 l) (.int .i64 l)).run Try.prog wx = .ok (.slice (some ⟨wx.heap.size, 0, none⟩) l l) (wx.alloc (.cells (cellsOf (List.replicate l 0)) 5)) := fun wx => mk_bytes_n l (by omega) wx
    unfold AM.cells
    go_enter Try.func30, Try.ntmps30
    go_wp2
    go_ret
    refine ⟨w.heap.size + 1, by rw [List.length_replicate]; rfl, ?_, ?_, Nat.le_succ _⟩
    · have := heap_alloc_last (w.alloc (.cells #[.int .i64 m.kind, .int .i64 m.at_, .int .i64 m.n, .int .u8 (m.u.toNat : Int), .slice m.ka m.kept.length m.kc] 39)) (.cells (cellsOf (List.replicate l 0)) 5)
      simpa only [World.size_alloc] using this
    · exact ((Below.refl _ _).alloc (Nat.le_refl _) _).alloc (by simp) _
  · rw [if_neg hn]
    unfold AM.cells
    go_enter Try.func30, Try.ntmps30
    have hu := u8_next m.u
    generalize m.u + 1 = v at hu ⊢
    go_wp2_with fail
    refine (of_made m.u v _).mono ?_
    rintro e w2 ⟨g, rfl, hg, b2, eg⟩
    clear hu
    have Hg := Lib.hid hg
    have gg : w.heap.size ≤ g := by rw [eg]; simp
    clear hg eg
    go_wp2
    go_ret
    have hg := Hg.out
    refine ⟨g, by rw [ofSec_length]; rfl, hg, ?_, gg⟩
    · exact (((Below.refl _ _).alloc (Nat.le_refl _) _)).trans (b2.mono (by simp))

end Go.Proofs.Ytoiaikgpaobefaa
