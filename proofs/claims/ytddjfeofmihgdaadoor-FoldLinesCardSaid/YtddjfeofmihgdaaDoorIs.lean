/- A region that draws its order, walked with a condition that may hang on what has come up already. -/
import Derived.Deep.RegionHeld
namespace Go.Proofs.YtddjfeofmihgdaaDoor
open Go
set_option linter.unusedVariables false
section
variable {P : Program} {ops : Array Oper} {Q : Exit → Act → World → Prop} {md : Region.Mode}

/-- Whatever comes up from here on, D holds of what has come up and of the world behind it. -/
def InStep (P : Program) (md : Region.Mode) (ops : Array Oper) (Q : Exit → Act → World → Prop) (D : Array Bool → World → Prop) : Nat → Array Bool → Act → World → Prop
  | 0, l, a, w => Region.ready md ops l = [] ∧ Q .normal a w
  | n + 1, l, a, w => (Region.ready md ops l = [] → Q .normal a w) ∧ ∀ i ∈ Region.ready md ops l, wpOp P ops Q i (fun a' w' => D (l.setIfInBounds i true) w' ∧ InStep P md ops Q D n (l.setIfInBounds i true) a' w') a w
theorem InStep.any {D : Array Bool → World → Prop} : ∀ (n : Nat) (l : Array Bool) (a : Act) (w : World), InStep P md ops Q D n l a w → wpAny P md ops Q n l a w
  | 0, _, _, _, h => h
  | n + 1, _, _, _, h => ⟨h.1, fun i hi => wpOp_mono (fun a' w' k => InStep.any n _ a' w' k.2) (h.2 i hi)⟩

/-- What may come up may be taken first, if it yields its value in each world that meets S, and D gives S as long as it has not come up (from here on), and does not look whether it has. -/
theorem InStep.first {D : Array Bool → World → Prop} {S : World → Prop} {G : Array Bool → Prop} {i : Nat} {oi : Oper} {v : Value} (hi : ops[i]? = some oi) (hsel : ∀ (j : Nat) (o : Oper) cs b, ops[j]? = some o → o.op ≠ .select cs b)
    (hQ : ∀ c a w, Q (.panic c) (a.put oi.dst v) w → Q (.panic c) a w) (hblind : ∀ l w, D (l.setIfInBounds i true) w ↔ D l w)
    (hG : ∀ l j, G l → j ≠ i → i ∈ Region.ready md ops l → j ∈ Region.ready md ops l → G (l.setIfInBounds j true)) (hS : ∀ l w, G l → D l w → S w) :
    ∀ (n : Nat) (l : Array Bool) (a : Act) (w : World), G l →
      (∀ j oj, ops[j]? = some oj → j ≠ i → l.getD j true = false → (∀ e ∈ oj.after, Region.binds md e = true → e.on ≠ i) → oi.apart ops oj = true) →
      i ∈ Region.ready md ops l → YieldsIf P ops S oi v a → D l w → InStep P md ops Q D n (l.setIfInBounds i true) (a.put oi.dst v) w → InStep P md ops Q D (n + 1) l a w
  | 0, l, a, w, hg, hfree, hr, hy, hd, H => by
    refine ⟨fun e => (by rw [e] at hr; cases hr), fun j hj => ?_⟩
    by_cases e : j = i
    · subst e; exact hy.wpOp hi (hS l w hg hd) ⟨(hblind l w).2 hd, H⟩
    · have k := ready_mono hj e
      rw [H.1] at k; cases k
  | n + 1, l, a, w, hg, hfree, hr, hy, hd, H => by
    refine ⟨fun e => (by rw [e] at hr; cases hr), fun j hj => ?_⟩
    by_cases e : j = i
    · subst e; exact hy.wpOp hi (hS l w hg hd) ⟨(hblind l w).2 hd, H⟩
    · have k := H.2 j (ready_mono hj e)
      obtain ⟨hun, oj, hoj, hall⟩ := mem_ready.1 hj
      have hno : ∀ x ∈ oj.after, Region.binds md x = true → x.on ≠ i := fun x hx hb hxi => by
        have k1 := hall x hx hb
        have k0 := (mem_ready.1 hr).1
        rw [hxi] at k1
        rcases Nat.lt_or_ge i l.size with hl | hl
        · simp [hl] at k0 k1; rw [k0] at k1; cases k1
        · simp [Array.getElem?_eq_none hl] at k1
      have k2 := wpOp_putIf hoj (hfree j oj hoj e hun hno) (fun cs b => hsel i oi cs b hi) (fun cs b => hsel j oj cs b hoj) hQ hy k
      refine wpOp_mono (fun a' w' k3 => ?_) k2
      obtain ⟨y', d', H'⟩ := k3
      rw [Array.setIfInBounds_comm _ _ (Ne.symm e)] at d' H'
      have d2 : D (l.setIfInBounds j true) w' := (hblind _ w').1 d'
      refine ⟨d2, InStep.first hi hsel hQ hblind hG hS n _ a' w' (hG l j hg e hr hj) (fun m om hm hmi hmu hmn => ?_) (ready_mono hr (Ne.symm e)) y' d2 H'⟩
      refine hfree m om hm hmi ?_ hmn
      by_cases hjm : j = m
      · subst hjm; exact hun
      · rwa [getD_set_ne true hjm] at hmu

/-- D where S2 is asked as long as none of T has come up. -/
def Ahead (T : List Nat) (S1 S2 : World → Prop) (l : Array Bool) (w : World) : Prop := S1 w ∧ ((∀ t ∈ T, l.getD t true = false) → S2 w)
theorem Ahead.blind {T : List Nat} {S1 S2 : World → Prop} {i : Nat} (hi : T.contains i = false) (l : Array Bool) (w : World) : Ahead T S1 S2 (l.setIfInBounds i true) w ↔ Ahead T S1 S2 l w := by
  have e : ∀ t ∈ T, (l.setIfInBounds i true).getD t true = l.getD t true := fun t ht => getD_set_ne true (by rintro rfl; rw [List.contains_iff_mem.2 ht] at hi; cases hi)
  unfold Ahead
  constructor
  · rintro ⟨h1, h2⟩; exact ⟨h1, fun h => h2 fun t ht => by rw [e t ht]; exact h t ht⟩
  · rintro ⟨h1, h2⟩; exact ⟨h1, fun h => h2 fun t ht => by rw [← e t ht]; exact h t ht⟩
variable {T : List Nat} {S1 S2 : World → Prop}
theorem ahead_take {i : Nat} {oi : Oper} {v : Value} {n : Nat} {l : Array Bool} {a : Act} {w : World} (hi : ops[i]? = some oi) (hs : Region.noSelect ops = true) (hf : Region.free md ops l i = true) (hr : (Region.ready md ops l).contains i = true) (hT : T.contains i = false)
    (hQ : ∀ c a w, Q (.panic c) (a.put oi.dst v) w → Q (.panic c) a w) (hd : Ahead T S1 S2 l w) (hy : YieldsIf P ops S1 oi v a)
    (h : InStep P md ops Q (Ahead T S1 S2) n (l.setIfInBounds i true) (a.put oi.dst v) w) : InStep P md ops Q (Ahead T S1 S2) (n + 1) l a w :=
  InStep.first (S := S1) (G := fun _ => True) hi (Region.noSelect_spec hs) hQ (Ahead.blind hT) (fun _ _ _ _ _ _ => trivial) (fun _ _ _ h => h.1) n l a w trivial (Region.free_spec hi hf) (by simpa using hr) hy hd h
/-- Does each of T wait for i? -/
def waitB (md : Region.Mode) (ops : Array Oper) (T : List Nat) (i : Nat) : Bool := T.all fun t => match ops[t]? with | some o => o.after.any (fun e => Region.binds md e && e.on == i) | none => true
theorem ahead_takeX {i : Nat} {oi : Oper} {v : Value} {n : Nat} {l : Array Bool} {a : Act} {w : World} (hi : ops[i]? = some oi) (hs : Region.noSelect ops = true) (hf : Region.free md ops l i = true) (hr : (Region.ready md ops l).contains i = true) (hT : T.contains i = false)
    (hw : waitB md ops T i = true) (hl : (T.all fun t => !l.getD t true) = true)
    (hQ : ∀ c a w, Q (.panic c) (a.put oi.dst v) w → Q (.panic c) a w) (hd : Ahead T S1 S2 l w) (hy : YieldsIf P ops (fun w => S1 w ∧ S2 w) oi v a)
    (h : InStep P md ops Q (Ahead T S1 S2) n (l.setIfInBounds i true) (a.put oi.dst v) w) : InStep P md ops Q (Ahead T S1 S2) (n + 1) l a w :=
  InStep.first (S := fun w => S1 w ∧ S2 w) (G := fun l => ∀ t ∈ T, l.getD t true = false) hi (Region.noSelect_spec hs) hQ (Ahead.blind hT)
    (fun l j hg hji hri hrj t ht => by
      by_cases hjt : j = t
      · exfalso
        subst hjt
        obtain ⟨_, oj, hoj, hall⟩ := mem_ready.1 hrj
        have hx := List.all_eq_true.1 hw j ht
        rw [hoj] at hx
        obtain ⟨e, he, hb⟩ := Array.any_eq_true'.1 hx
        simp only [Bool.and_eq_true, beq_iff_eq] at hb
        have k1 := hall e he hb.1
        have k0 := (mem_ready.1 hri).1
        rw [hb.2] at k1
        rcases Nat.lt_or_ge i l.size with hl | hl
        · simp [hl] at k0 k1; rw [k0] at k1; cases k1
        · simp [Array.getElem?_eq_none hl] at k1
      · rw [getD_set_ne true hjt]; exact hg t ht)
    (fun l w hg hd => ⟨hd.1, hd.2 hg⟩) n l a w (fun t ht => by simpa using List.all_eq_true.1 hl t ht) (Region.free_spec hi hf) (by simpa using hr) hy hd h
/-- One that may come up, alone. -/
theorem instep_one {D : Array Bool → World → Prop} {i : Nat} {o : Oper} {n : Nat} {l : Array Bool} {a : Act} {w : World} (hr : Region.ready md ops l = [i]) (ho : ops[i]? = some o)
    (h : ∀ K' : Act → World → Prop, Shut (∀ a w, D (l.setIfInBounds i true) w → (D (l.setIfInBounds i true) w → InStep P md ops Q D n (l.setIfInBounds i true) a w) → K' a w) → if Region.wanted o (yielded ops a.tmps) = true then Oper.wp P o a w K' Q else K' (a.put o.dst undef) w) :
    InStep P md ops Q D (n + 1) l a w :=
  ⟨fun e => (by rw [hr] at e; cases e), fun j hj => by
    rw [hr] at hj
    obtain rfl : j = i := by simpa using hj
    exact wpOp_step ho (fun K' hK => h K' (fun a w hS hW => hK a w ⟨hS, hW hS⟩))⟩
theorem instep_two {D : Array Bool → World → Prop} {i k : Nat} {o o' : Oper} {n : Nat} {l : Array Bool} {a : Act} {w : World} (hr : Region.ready md ops l = [i, k]) (ho : ops[i]? = some o) (ho' : ops[k]? = some o')
    (h : ∀ K' : Act → World → Prop, Shut (∀ a w, D (l.setIfInBounds i true) w → (D (l.setIfInBounds i true) w → InStep P md ops Q D n (l.setIfInBounds i true) a w) → K' a w) → if Region.wanted o (yielded ops a.tmps) = true then Oper.wp P o a w K' Q else K' (a.put o.dst undef) w)
    (h' : ∀ K' : Act → World → Prop, Shut (∀ a w, D (l.setIfInBounds k true) w → (D (l.setIfInBounds k true) w → InStep P md ops Q D n (l.setIfInBounds k true) a w) → K' a w) → if Region.wanted o' (yielded ops a.tmps) = true then Oper.wp P o' a w K' Q else K' (a.put o'.dst undef) w) :
    InStep P md ops Q D (n + 1) l a w :=
  ⟨fun e => (by rw [hr] at e; cases e), fun j hj => by
    rw [hr] at hj
    rcases List.mem_cons.1 hj with rfl | hj
    · exact wpOp_step ho (fun K' hK => h K' (fun a w hS hW => hK a w ⟨hS, hW hS⟩))
    · obtain rfl : j = k := by simpa using hj
      exact wpOp_step ho' (fun K' hK => h' K' (fun a w hS hW => hK a w ⟨hS, hW hS⟩))⟩
theorem instep_done {D : Array Bool → World → Prop} {l : Array Bool} {a : Act} {w : World} (hr : Region.ready md ops l = []) (h : Q .normal a w) : ∀ n, InStep P md ops Q D n l a w
  | 0 => ⟨hr, h⟩
  | _ + 1 => ⟨fun _ => h, by rw [hr]; simp⟩
theorem region_instep {D : Array Bool → World → Prop} {id : Nat} {a : Act} {w : World} (hm : P.follows .mixedOrders = true) (h : InStep P .any ops Q D ops.size (Array.replicate ops.size false) a w.drew) : (Code.region id ops true).wp P Q a w :=
  wp_region_any hm (InStep.any _ _ _ _ h)
end
end Go.Proofs.YtddjfeofmihgdaaDoor
