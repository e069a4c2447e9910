/- The program's disk beside the document's. -/
import Derived.Test.YtoiaikgpaobefaaPl
import Derived.Test.YtoiaikgpaobefaaRd2
import Derived.Test.YtoiaikgpaobefaaRn
import Derived.Test.YtoiaikgpaobefaaRl
import Derived.Test.YtoiaikgpaobefaaAl
namespace Go.Proofs.Ytoiaikgpaobefaa
open Go.RowKit Go.Maps

/-- Both disks, as they lie in memory, behind calls that began in w0. -/
structure Two (w0 w : World) (X b L M r : Nat) (S : List Nat) (j K : Nat) (m : DM) : Prop where
  x : w.heap[X]? = some (.cells #[.pointer (some ⟨b, 0, none⟩), .pointer (some ⟨r, 0, none⟩)] 36 (0, 0))
  disk : DiskIn w b L M j m
  ref : RefIn w r S m K
  ap : ∀ y ∈ S, y ≠ b ∧ y ≠ L ∧ y ≠ M ∧ y ≠ X
  nx : X ≠ b ∧ X ≠ L ∧ X ≠ M
  bel : Below w0.heap.size w0 w
  new : w0.heap.size ≤ X ∧ w0.heap.size ≤ b ∧ w0.heap.size ≤ L ∧ w0.heap.size ≤ M ∧ ∀ y ∈ S, w0.heap.size ≤ y

variable {w0 w w1 w2 : World} {X b L M r : Nat} {S : List Nat} {j K : Nat} {m m' : DM}
theorem Two.below (h : Two w0 w X b L M r S j K m) (hb : Below w.heap.size w w1) : Two w0 w1 X b L M r S j K m := by
  have ho : Only [] w w1 := Below.only hb
  exact ⟨ho.keep h.x (by simp), h.disk.below hb, h.ref.keep ho (by simp), h.ap, h.nx, h.bel.trans (hb.mono h.bel.size), h.new⟩
theorem Two.c0 (h : Two w0 w X b L M r S j K m) : w.cell? ⟨X, 0, none⟩ = some (.pointer (some ⟨b, 0, none⟩)) := by simp [World.cell?, h.x]
theorem Two.c1 (h : Two w0 w X b L M r S j K m) : w.cell? ⟨X, 1, none⟩ = some (.pointer (some ⟨r, 0, none⟩)) := by simp [World.cell?, h.x]
theorem Two.fr (h : Two w0 w X b L M r S j K m) (i : Nat) : w.frozen? ⟨X, i, none⟩ = false := by simp [World.frozen?, h.x]
/-- What lies of the document's disk behind a call of the program's. -/
theorem Two.refOf (h : Two w0 w X b L M r S j K m) {T : List Nat} (ho : Only T w w1) (hT : ∀ y ∈ T, y = b ∨ y = L ∨ y = M) : RefIn w1 r S m K :=
  h.ref.keep ho fun y hy e => by
    obtain ⟨a1, a2, a3, _⟩ := h.ap y hy
    rcases hT y e with e | e | e <;> contradiction
theorem Two.xOf (h : Two w0 w X b L M r S j K m) {T : List Nat} (ho : Only T w w1) (hT : ∀ y ∈ T, y = b ∨ y = L ∨ y = M) : w1.heap[X]? = some (.cells #[.pointer (some ⟨b, 0, none⟩), .pointer (some ⟨r, 0, none⟩)] 36 (0, 0)) :=
  ho.keep h.x fun e => by
    obtain ⟨a1, a2, a3⟩ := h.nx
    rcases hT X e with e | e | e <;> contradiction
/-- Behind a call of the program's disk, and one of the document's. -/
theorem Two.both {j' K' : Nat} (h : Two w0 w X b L M r S j K m) {T : List Nat} (ho : Only T w w1) (hT : ∀ y ∈ T, y = b ∨ y = L ∨ y = M) (hd : DiskIn w1 b L M j' m') {S' : List Nat} (hr : RefIn w2 r S' m' K') (h2 : Only S w1 w2) (hS : ∀ y ∈ S', y ∈ S ∨ w1.heap.size ≤ y) : Two w0 w2 X b L M r S' j' K' m' := by
  have hs := h.bel.size
  have h1s := ho.size
  have lb := h.disk.ltb
  have lL := h.disk.ltL
  have lM := h.disk.ltM
  have lX : X < w.heap.size := (Array.getElem?_eq_some_iff.1 h.x).1
  obtain ⟨n1, n2, n3, n4, n5⟩ := h.new
  have nS : ∀ z, (z = b ∨ z = L ∨ z = M ∨ z = X) → z ∉ S := fun z hz e => by
    obtain ⟨a1, a2, a3, a4⟩ := h.ap z e
    rcases hz with e | e | e | e <;> contradiction
  refine ⟨h2.keep (h.xOf ho hT) (nS X (by simp)), hd.keep h2 (nS b (by simp)) (nS L (by simp)) (nS M (by simp)), hr, fun y hy => ?_, h.nx, ?_, n1, n2, n3, n4, fun y hy => ?_⟩
  · rcases hS y hy with e | e
    · exact h.ap y e
    · exact ⟨by omega, by omega, by omega, by omega⟩
  · refine Below.then_only (Below.then_only h.bel ho hs fun y hy => ?_) h2 (by omega) n5
    rcases hT y hy with e | e | e <;> omega
  · rcases hS y hy with e | e
    · exact n5 y e
    · omega
/-- What do answers. -/
def Done (w0 : World) (X j K : Nat) (m' : DM) (e : Ending) (w' : World) : Prop := e = .returned (.bool true) ∧ ∃ b L M r S, Two w0 w' X b L M r S j K m'
end Go.Proofs.Ytoiaikgpaobefaa
