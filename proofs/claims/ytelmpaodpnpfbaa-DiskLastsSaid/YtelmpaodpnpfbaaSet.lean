/- A map from ints to bools. -/
import Derived.Test.YtelmpaodpnpfbaaMem
namespace Go.Proofs.Ytelmpaodpnpfbaa
open Go.RowKit Go.Maps

/-- How a bool in a map reads. -/
def boolR (v : Value) : Option (DataW Unit × List MemPlace) := match v with | .bool b => some (.lit (.bool b), []) | _ => none
theorem boolR_inv {v : Value} {z : DataW Unit × List MemPlace} (h : boolR v = some z) : ∃ b, v = .bool b ∧ z = (.lit (.bool b), []) := by
  cases v <;> simp [boolR] at h
  exact ⟨_, rfl, h.symm⟩
theorem zeroBool (w : World) : (zeroValue 4).run Try.prog w = .ok (.bool false) w := by kernel_rfl

/-- Block M is a map of at most N entries that says f of each int. -/
def SetIs (w : World) (M N : Nat) (f : Int → Bool) : Prop :=
  ∃ D, w.ownsMap Try.prog 3 boolR M N D ∧ ∀ k, Fits k → D.atKey (.int .i64 k) (.lit (.bool false)) = .lit (.bool (f k))

theorem SetIs.keep {w w' : World} {S : List Nat} {M N : Nat} {f : Int → Bool} (h : SetIs w M N f) (ho : Only S w w') (hn : M ∉ S) : SetIs w' M N f := by
  obtain ⟨D, ⟨es, clock, hb, r⟩, hr⟩ := h
  exact ⟨D, ⟨es, clock, ho.keep hb hn, r⟩, hr⟩
theorem SetIs.lt {w : World} {M N : Nat} {f : Int → Bool} (h : SetIs w M N f) : M < w.heap.size := by
  obtain ⟨D, ho, _⟩ := h
  exact ho.lt
theorem SetIs.mono {w : World} {M N N' : Nat} {f : Int → Bool} (h : SetIs w M N f) (hN : N ≤ N') : SetIs w M N' f := by
  obtain ⟨D, ho, hr⟩ := h
  exact ⟨D, ho.mono hN, hr⟩
theorem SetIs.made (w : World) : SetIs (w.alloc (.map #[] 0)) w.heap.size 0 (fun _ => false) :=
  ⟨.map [], World.ownsMap_made w _ _ _, fun _ _ => rfl⟩

theorem SetIs.look {w : World} {M N : Nat} {f : Int → Bool} (h : SetIs w M N f) {k : Int} (hk : Fits k) :
    (Instr.lookup 56 (.map (some M)) (.int .i64 k) false).run Try.prog w = .ok (.bool (f k)) w := by
  obtain ⟨D, ho, hr⟩ := h
  obtain ⟨v, ps, hrun, hv⟩ := ho.lookup mapLaw Try.underlying56 (zeroBool w) (show boolR (.bool false) = some (.lit (.bool false), []) from rfl) (keyI hk)
  rw [hrun]
  obtain ⟨b, rfl, hz⟩ := boolR_inv hv
  simp only [Prod.mk.injEq] at hz
  have := hz.1
  rw [hr k hk] at this
  simp at this
  rw [this]

theorem SetIs.store {w : World} {M N : Nat} {f : Int → Bool} (h : SetIs w M N f) {k : Int} (hk : Fits k) (hN : N < maxLen) (b : Bool) :
    ∃ w', (Instr.mapUpdate 56 (.map (some M)) (.int .i64 k) (.bool b)).run Try.prog w = .ok () w' ∧ SetIs w' M (N + 1) (fun i => if i = k then b else f i) ∧ w.mapTurned w' M := by
  obtain ⟨D, ho, hr⟩ := h
  obtain ⟨w', hrun, ho', ht⟩ := ho.store mapLaw Try.underlying56 hN (keyI hk) (show boolR (.bool b) = some (.lit (.bool b), []) from rfl)
  refine ⟨w', hrun, ⟨_, ho', fun i hi => ?_⟩, ht⟩
  by_cases e : i = k
  · subst e
    rw [Maps.atKey_put_same ho.isMap (mapLaw.key (keyI hk))]; simp
  · rw [Maps.atKey_put_other (by simpa using e), hr i hi]; simp [e]

end Go.Proofs.Ytelmpaodpnpfbaa
