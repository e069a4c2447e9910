/- A slice of acts that came in, opened. -/
import Derived.Test.YtoiaikgpaobefaaAc
import Derived.Test.YtoiaikgpaobefaaRd0
import Derived.Deep.Slices
import Derived.ChangeArms
import Derived.KernelRfl
namespace Go.Proofs.Ytoiaikgpaobefaa
open Go.RowKit Go.Maps Go.Deep Go.ChangeShapes Go.WideShapes

theorem cells_int : Try.prog.cellsOf 3 = 1 := by kernel_rfl
theorem cells_u8 : Try.prog.cellsOf 5 = 1 := by kernel_rfl
theorem cells_ints : Try.prog.cellsOf 37 = 1 := by kernel_rfl
theorem cells_act : Try.prog.cellsOf 39 = 5 := by kernel_rfl

section
variable {H : Type} {enc : TypeId × Value → H} {W : World} {base : Nat} {spare : Nat → Bool} {held : Bool}

theorem row_opened {n : Nat} {v : Value} {y : DataW H × List MemPlace} (h : DataW.trod enc Try.prog W base spare held n 37 [v] = some y) :
    ∃ (a : Option Addr) (len cap : Nat) (zs : List Int), v = .slice a len cap ∧ zs.length = len ∧ IntsIn W a zs ∧ (∀ k ∈ zs, Fits k) ∧ len ≤ maxLen := by
  rcases open_ints Try.underlying37 Try.underlying3 (by kernel_rfl) h with ⟨hcs, _⟩ | ⟨x, l, c, zs, hcs, _, hl, hm, hz, _, hcell, hwz⟩
  · simp at hcs
    exact ⟨none, 0, 0, [], hcs, rfl, .inl rfl, by simp, Nat.zero_le _⟩
  · simp at hcs
    subst hcs
    have hzl : l ≤ zs.length := by rw [hz]; split <;> omega
    by_cases h0 : l = 0
    · subst h0; exact ⟨some x, 0, c, [], rfl, rfl, .inl rfl, by simp, Nat.zero_le _⟩
    · refine ⟨some x, l, c, zs.take l, rfl, by rw [List.length_take]; omega, ?_, fun k hk => Fits.of_wf (hwz k (List.mem_of_mem_take hk)), by omega⟩
      obtain ⟨g, o, sp⟩ := x
      have hc0 := hcell 0 (by omega)
      have hsp : sp = none := by simpa [Addr.add] using World.cell?_spot hc0
      subst hsp
      refine .inr ⟨g, o, rfl, fun j v hv => ?_, World.block_lt_of_cell? W ⟨g, o, none⟩ (by simpa [Addr.add] using hc0)⟩
      rw [List.getElem?_map, List.getElem?_take] at hv
      split at hv
      · have hj : j < zs.length := by omega
        rw [← Addr.add_mid, hcell j hj]
        simp [hj] at hv
        rw [← hv]; simp [hj]
      · simp at hv

theorem list5 {α : Type} {l : List α} (h : l.length = 5) : ∃ a b c d e, l = [a, b, c, d, e] := by
  match l, h with
  | [a, b, c, d, e], _ => exact ⟨a, b, c, d, e, rfl⟩

theorem act_opened {n : Nat} {cs : List Value} {x : DataW H × List MemPlace} (h : DataW.trod enc Try.prog W base spare held n 39 cs = some x) :
    ∃ m : AM, m.In W ∧ cs = m.cells := by
  obtain ⟨xs, n', _, _, hcl, hxl, hf⟩ := DataW.trod_struct Try.underlying39 h
  rw [cells_act] at hcl
  obtain ⟨c0, c1, c2, c3, c4, rfl⟩ := list5 hcl
  obtain ⟨y0, y1, y2, y3, y4, rfl⟩ := list5 (show xs.length = 5 from hxl)
  have k0 := hf 0 _ rfl
  have k1 := hf 1 _ rfl
  have k2 := hf 2 _ rfl
  have k3 := hf 3 _ rfl
  have k4 := hf 4 _ rfl
  simp [cells_int, cells_u8, cells_ints] at k0 k1 k2 k3 k4
  obtain ⟨z0, e0, _, w0⟩ := DataW.trod_int Try.underlying3 k0
  obtain ⟨z1, e1, _, w1⟩ := DataW.trod_int Try.underlying3 k1
  obtain ⟨z2, e2, _, w2⟩ := DataW.trod_int Try.underlying3 k2
  obtain ⟨z3, e3, _, w3⟩ := DataW.trod_int Try.underlying5 k3
  obtain ⟨a, len, cap, zs, rfl, hl, hin, hfz, hm⟩ := row_opened k4
  obtain ⟨u, rfl⟩ := byte_of_wf w3
  simp at e0 e1 e2 e3
  subst e0 e1 e2 e3 hl
  exact ⟨⟨z0, z1, z2, u, a, cap, zs⟩, ⟨Fits.of_wf w0, Fits.of_wf w1, Fits.of_wf w2, hin, hfz, hm⟩, rfl⟩

theorem acts_opened {n : Nat} {cs : List Value} {x : DataW H × List MemPlace} (h : DataW.trod enc Try.prog W base spare held n 22 cs = some x) :
    ∃ (a : Option Addr) (cap : Nat) (ms : List AM), cs = [.slice a ms.length cap] ∧ ActsIn W a ms := by
  rcases open_slice Try.underlying22 h with ⟨rfl, _⟩ | ⟨a, len, cap, m, n', D, Pl, rfl, _, hl, hm, hmm, _, hi⟩
  · exact ⟨none, 0, [], rfl, Nat.zero_le _, by simp, .inl rfl⟩
  · have hlm : len ≤ m := by rw [hmm]; split <;> omega
    have key : ∀ i, i < len → ∃ k : AM, k.In W ∧ ∀ (j : Nat) v, k.cells[j]? = some v → W.cell? (a.add (i * 5 + j)) = some v := fun i hil => by
      obtain ⟨cs', hc, ht⟩ := hi i (by omega)
      rw [cells_act] at hc
      obtain ⟨k, hk, rfl⟩ := act_opened ht
      obtain ⟨_, hcl, hat⟩ := World.cells?_some hc
      refine ⟨k, hk, fun j v hv => ?_⟩
      have hj : j < 5 := by
        have := (List.getElem?_eq_some_iff.1 hv).1
        rw [hcl] at this; exact this
      rw [← add_add, hat j hj, hv]
    obtain ⟨f, hf⟩ := choose_lt key
    by_cases h0 : len = 0
    · subst h0; exact ⟨some a, cap, [], rfl, Nat.zero_le _, by simp, .inl rfl⟩
    · obtain ⟨g, o, sp⟩ := a
      have hc0 := (hf 0 (by omega)).2 0 _ rfl
      have hsp : sp = none := by simpa [Addr.add] using World.cell?_spot hc0
      subst hsp
      refine ⟨some ⟨g, o, none⟩, cap, (List.range len).map f, by simp, by simp; omega, fun k hk => ?_, .inr ⟨g, o, rfl, World.block_lt_of_cell? W ⟨g, o, none⟩ (by simpa [Addr.add] using hc0), fun i hil j v hv => ?_⟩⟩
      · obtain ⟨i, hi2, rfl⟩ := List.mem_map.1 hk
        exact (hf i (List.mem_range.1 hi2)).1
      · have hil2 : i < len := by simpa using hil
        have := (hf i hil2).2 j v (by simpa using hv)
        rw [Addr.add_mid] at this
        rw [Nat.add_assoc]; exact this
end

end Go.Proofs.Ytoiaikgpaobefaa
