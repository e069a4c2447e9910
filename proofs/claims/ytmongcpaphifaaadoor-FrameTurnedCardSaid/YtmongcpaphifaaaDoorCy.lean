/- Slices of bytes that came in; a text as bytes, and back. -/
import Derived.Test.YtmongcpaphifaaaDoorCb
import Derived.WalkKit
import Derived.ProofKit
import Derived.OpenShut
import Derived.ChangeMaps5
namespace Go.Proofs.YtmongcpaphifaaaDoor
open Go.ChangeShapes Go.WideShapes Go.ChangeAt Go.RowKit
set_option linter.unusedVariables false

/-- Bytes behind one another from a place of a block on. -/
def BytesAt (w : World) (b off : Nat) (l : List UInt8) : Prop := ∀ (i : Nat) (h : i < l.length), w.cell? ⟨b, off + i, none⟩ = some (bv l[i])
def BytesIn (w : World) (a : Option Addr) (l : List UInt8) : Prop := l = [] ∨ ∃ b off, a = some ⟨b, off, none⟩ ∧ BytesAt w b off l
theorem BytesAt.below {w w' : World} {b off : Nat} {l : List UInt8} (h : BytesAt w b off l) (hb : Below w.heap.size w w') : BytesAt w' b off l := fun i hi => by
  have c := h i hi
  rw [hb.cell (World.block_lt_of_cell? w _ c)]; exact c
theorem BytesIn.below {w w' : World} {a : Option Addr} {l : List UInt8} (h : BytesIn w a l) (hb : Below w.heap.size w w') : BytesIn w' a l := by
  rcases h with h | ⟨b, off, e, h⟩
  · exact .inl h
  · exact .inr ⟨b, off, e, h.below hb⟩
theorem BytesIn.form {w : World} {a : Option Addr} {l : List UInt8} (h : BytesIn w a l) {k : Nat} (hk : k < l.length) : ∃ b off, a = some ⟨b, off, none⟩ ∧ BytesAt w b off l := by
  rcases h with rfl | h
  · simp at hk
  · exact h
def SmallB (l : List UInt8) : Prop := l.length ≤ 9223372036854775807
theorem u8_ex {a : Int} (h : (Lit.int .u8 a).wf = true) : ∃ u : UInt8, Value.int .u8 a = bv u := by
  simp [Lit.wf, IntKind.min, IntKind.max, IntKind.bits, IntKind.signed] at h
  refine ⟨UInt8.ofNat a.toNat, ?_⟩
  unfold bv
  rw [UInt8.toNat_ofNat']
  congr 1; omega
theorem map_bytes : ∀ (zs : List Int), (∀ n ∈ zs, (Lit.int .u8 n).wf = true) → ∃ l : List UInt8, l.length = zs.length ∧ ∀ (i : Nat) (h : i < zs.length) (h2 : i < l.length), Value.int .u8 zs[i] = bv l[i]
  | [], _ => ⟨[], rfl, fun i h => by simp at h⟩
  | z :: zs, hw => by
    obtain ⟨u, hu⟩ := u8_ex (hw z List.mem_cons_self)
    obtain ⟨l, hl, h⟩ := map_bytes zs (fun n hn => hw n (List.mem_cons_of_mem _ hn))
    refine ⟨u :: l, by simp [hl], fun i h1 h2 => ?_⟩
    match i, h1, h2 with
    | 0, _, _ => exact hu
    | i + 1, h1, h2 => exact h i (by simpa using h1) (by simpa using h2)
theorem open_bytes {H : Type} {enc : TypeId × Value → H} {W : World} {b0 base : Nat} {spare : Nat → Bool} {held : Bool} {r : Reach} {v : Value} {d : DataW H} {p : List MemPlace}
    (hv : Value.okWide Tryd.prog W r b0 43 v) (h : DataW.Trod enc Tryd.prog W base spare held 43 v d p) :
    ∃ (a : Option Addr) (cap : Nat) (l : List UInt8), v = .slice a l.length cap ∧ BytesIn W a l ∧ SmallB l ∧ l.length ≤ cap := by
  obtain ⟨a', len', cap', rfl⟩ := okWide_slice Tryd.underlying43 hv
  obtain ⟨fuel, hf⟩ := h
  rcases open_ints Tryd.underlying43 Tryd.underlying5 (by kernel_rfl) hf with ⟨hcs, _⟩ | ⟨a, len, cap, zs, hcs, _, hl, hm, hlen, _, hcell, hsm⟩
  · simp [Value.cells] at hcs
    obtain ⟨rfl, rfl, rfl⟩ := hcs
    exact ⟨none, 0, [], rfl, .inl rfl, Nat.zero_le _, Nat.zero_le _⟩
  · simp [Value.cells] at hcs
    obtain ⟨rfl, rfl, rfl⟩ := hcs
    have hle : len' ≤ zs.length := by rw [hlen]; split <;> omega
    unfold maxLen at hm
    obtain ⟨l, hll, hb⟩ := map_bytes (zs.take len') (fun n hn => hsm n (List.mem_of_mem_take hn))
    rw [List.length_take, Nat.min_eq_left hle] at hll
    by_cases h0 : len' = 0
    · subst h0; exact ⟨some a, cap', [], rfl, .inl rfl, Nat.zero_le _, Nat.zero_le _⟩
    · obtain ⟨g, o, sp⟩ := a
      have hc0 := hcell 0 (by omega)
      have hsp : sp = none := by simpa [Addr.add] using World.cell?_spot hc0
      subst hsp
      refine ⟨some ⟨g, o, none⟩, cap', l, by rw [hll], .inr ⟨g, o, rfl, fun i hi => ?_⟩, by unfold SmallB; omega, by rw [hll]; exact hl⟩
      have hi2 : i < zs.length := by omega
      have := hcell i hi2
      rw [Addr.add_mid] at this
      have hbi := hb i (by rw [List.length_take]; omega) hi
      rw [List.getElem_take] at hbi
      rw [this, ← hbi]
      simp [hi2]

/-- '[]byte(s)': the bytes, and whatever room behind them. -/
theorem conv_str (s : ByteArray) (w : World) : ∃ (cap : Nat) (zs : List UInt8), s.size ≤ cap ∧
    (convert 9 43 (.string s)).run Tryd.prog w = .ok (.slice (some ⟨w.heap.size, 0, none⟩) s.size cap) (w.drew.alloc (.cells (cellsOf (bts s ++ zs)) 5 ((bts s ++ zs).length, (bts s ++ zs).length + 1))) := by
  refine ⟨grownCap w s.size 0 5, List.replicate (grownCap w s.size 0 5 - s.size) 0, grownCap_ge _ _ _ _, ?_⟩
  rw [run_bytes_of_string w 9 43 5 s Tryd.underlying9 Tryd.underlying43 Tryd.underlying5]
  have e : bytesRow s (grownCap w s.size 0 5) = cellsOf (bts s ++ List.replicate (grownCap w s.size 0 5 - s.size) 0) := by
    unfold bytesRow cellsOf
    apply Array.ext'
    simp [bv]
  rw [e, size_cellsOf]
/-- 'string(b)' of what lies at the head of a row. -/
theorem conv_head {w : World} {g : Nat} {l zs : List UInt8} {t : TypeId} {fr : Nat × Nat} (n cap : Nat) (hn : l.length = n) (h : w.heap[g]? = some (.cells (cellsOf (l ++ zs)) t fr)) :
    (convert 43 9 (.slice (some ⟨g, 0, none⟩) n cap)).run Tryd.prog w = .ok (.string (strOf l)) w := by
  subst hn
  refine run_convert_bytes_back w 43 9 5 ⟨g, 0, none⟩ cap l Tryd.underlying43 Tryd.underlying5 Tryd.underlying9 (fun j hj => ?_)
  rw [Addr.add_mid, Nat.zero_add, cell_of_row w g j _ _ _ h, cellsOf_get, List.getElem?_append_left hj, List.getElem?_eq_getElem hj]
  rfl
/-- A row, some cells of which are frozen. -/
theorem row_set' {w : World} {b i : Nat} {cs : Array Value} {t : TypeId} {fr : Nat × Nat} (v : Value) (h : w.heap[b]? = some (.cells cs t fr)) : (w.setCell ⟨b, i, none⟩ v).heap[b]? = some (.cells (cs.setIfInBounds i v) t fr) := by
  simp [World.setCell, Array.getElem?_modify, h]
theorem row_free {w : World} {b i n m : Nat} {cs : Array Value} {t : TypeId} (h : w.heap[b]? = some (.cells cs t (n, m))) (hi : i < n) : w.frozen? ⟨b, i, none⟩ = false := by
  simp [World.frozen?, h]; omega
end Go.Proofs.YtmongcpaphifaaaDoor
