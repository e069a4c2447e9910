/- Texts as they are written, and read: plain lists. -/
namespace Go.Proofs.YtgmmnbojelekbaaDoor
set_option linter.unusedVariables false

/-- A byte that may stand. -/
def may (c : UInt8) : Bool := c == 9 || (decide (32 ≤ c.toNat) && c != 127)
/-- A sign of texts. -/
def sign3 (c : UInt8) : Bool := c == 92 || c == 59 || c == 44
/-- What is written for a byte. -/
def esc1 (c : UInt8) : Option (List UInt8) := if c = 10 then some [92, 110] else if may c then (if sign3 c then some [92, c] else some [c]) else none
def esc : List UInt8 → Option (List UInt8)
  | [] => some []
  | c :: l => (esc1 c).bind fun a => (esc l).map (a ++ ·)
/-- What a byte behind a \ stands for. -/
def mean (d : UInt8) : Option UInt8 := if d = 110 ∨ d = 78 then some 10 else if sign3 d then some d else none
def unesc : List UInt8 → Option (List UInt8)
  | [] => some []
  | [c] => if may c = true ∧ c ≠ 92 then some [c] else none
  | c :: d :: l => if may c = true then (if c = 92 then (mean d).bind fun m => (unesc l).map (m :: ·) else (unesc (d :: l)).map (c :: ·)) else none

theorem esc_append (l m : List UInt8) : esc (l ++ m) = (esc l).bind fun a => (esc m).map (a ++ ·) := by
  induction l with
  | nil => simp [esc]
  | cons c l ih =>
    rw [List.cons_append, esc, esc, ih]
    cases esc1 c with
    | none => rfl
    | some a =>
      cases esc l with
      | none => rfl
      | some b => cases esc m <;> simp
theorem unesc_cons_plain {c : UInt8} {l : List UInt8} (h : may c = true) (h2 : c ≠ 92) : unesc (c :: l) = (unesc l).map (c :: ·) := by
  cases l with
  | nil => show unesc [c] = some [c]; rw [unesc, if_pos ⟨h, h2⟩]
  | cons d l => rw [unesc, if_pos h, if_neg h2]
theorem unesc_cons_sign {d : UInt8} {l : List UInt8} : unesc (92 :: d :: l) = (mean d).bind fun m => (unesc l).map (m :: ·) := by
  rw [unesc, if_pos (by decide), if_pos rfl]
theorem unesc_not {c : UInt8} {l : List UInt8} (h : may c = false) : unesc (c :: l) = none := by
  cases l with
  | nil => rw [unesc, if_neg (fun hh => by rw [h] at hh; exact absurd hh.1 (by decide))]
  | cons d l => rw [unesc, if_neg (by rw [h]; decide)]
theorem unesc_end : unesc [92] = none := by rw [unesc, if_neg (fun hh => hh.2 rfl)]

/-- What is written is read as it was. -/
theorem esc1_back {c : UInt8} {a : List UInt8} (h : esc1 c = some a) (l : List UInt8) : unesc (a ++ l) = (unesc l).map (c :: ·) := by
  unfold esc1 at h
  split at h
  · rename_i hc
    injection h with h
    subst h hc
    show unesc (92 :: 110 :: l) = _
    rw [unesc_cons_sign]; rfl
  · split at h
    · rename_i hm
      split at h
      · rename_i hs
        injection h with h
        subst h
        show unesc (92 :: c :: l) = _
        rw [unesc_cons_sign]
        have : mean c = some c := by
          unfold mean
          rw [if_neg, if_pos hs]
          rintro (rfl | rfl) <;> exact absurd hs (by decide)
        rw [this]; rfl
      · rename_i hs
        injection h with h
        subst h
        show unesc (c :: l) = _
        exact unesc_cons_plain hm (by rintro rfl; exact hs (by decide))
    · exact absurd h (by simp)
theorem unesc_esc : ∀ {l a : List UInt8}, esc l = some a → unesc a = some l
  | [], a, h => by rw [esc] at h; injection h with h; subst h; rfl
  | c :: l, a, h => by
    rw [esc] at h
    rcases h1 : esc1 c with _ | b
    · rw [h1] at h; simp at h
    · rcases h2 : esc l with _ | m
      · rw [h1, h2] at h; simp at h
      · rw [h1, h2] at h
        simp at h
        subst h
        rw [esc1_back h1, unesc_esc h2]; rfl
theorem mean_may {d m : UInt8} (h : mean d = some m) : (m = 10 ∨ may m = true) := by
  unfold mean at h
  split at h
  · injection h with h; exact .inl h.symm
  · split at h
    · rename_i hs
      injection h with h
      subst h
      right
      unfold sign3 at hs
      simp at hs
      rcases hs with (rfl | rfl) | rfl <;> decide
    · exact absurd h (by simp)
theorem esc1_some {c : UInt8} (h : c = 10 ∨ may c = true) : ∃ a, esc1 c = some a := by
  unfold esc1
  by_cases h1 : c = 10
  · exact ⟨_, if_pos h1⟩
  · rcases h with h | h
    · exact absurd h h1
    · rw [if_neg h1, if_pos h]; split <;> exact ⟨_, rfl⟩
/-- What is read may be written. -/
theorem esc_unesc : ∀ (n : Nat) {s t : List UInt8}, s.length ≤ n → unesc s = some t → ∃ u, esc t = some u
  | _, [], t, _, h => by rw [unesc] at h; injection h with h; subst h; exact ⟨[], rfl⟩
  | 0, c :: l, t, hn, h => by simp at hn
  | n + 1, c :: l, t, hn, h => by
    by_cases hm : may c = true
    · by_cases hc : c = 92
      · subst hc
        match l, hn, h with
        | [], _, h => rw [unesc_end] at h; simp at h
        | d :: l', hn, h =>
          rw [unesc_cons_sign] at h
          rcases h1 : mean d with _ | m
          · rw [h1] at h; simp at h
          · rcases h2 : unesc l' with _ | t'
            · rw [h1, h2] at h; simp at h
            · rw [h1, h2] at h
              simp at h
              subst h
              obtain ⟨u, hu⟩ := esc_unesc n (by simp at hn; omega) h2
              obtain ⟨a, ha⟩ := esc1_some (mean_may h1)
              exact ⟨a ++ u, by rw [esc, ha, hu]; rfl⟩
      · rw [unesc_cons_plain hm hc] at h
        rcases h2 : unesc l with _ | t'
        · rw [h2] at h; simp at h
        · rw [h2] at h
          simp at h
          subst h
          obtain ⟨u, hu⟩ := esc_unesc n (by simp at hn; omega) h2
          obtain ⟨a, ha⟩ := esc1_some (.inr hm)
          exact ⟨a ++ u, by rw [esc, ha, hu]; rfl⟩
    · rw [unesc_not (by simpa using hm)] at h; simp at h

/-! ### parts -/
/-- A sign put ahead of the first part. -/
def putA (c : List UInt8) : List (List UInt8) → List (List UInt8)
  | [] => [c]
  | p :: ps => (c ++ p) :: ps
/-- The parts between the signs that stand for themselves. -/
def cut (g : UInt8) : List UInt8 → List (List UInt8)
  | [] => [[]]
  | [c] => if c = g then [[], []] else [[c]]
  | c :: d :: l => if c = g then [] :: cut g (d :: l) else if c = 92 then putA [92, d] (cut g l) else putA [c] (cut g (d :: l))
def join (g : UInt8) : List (List UInt8) → List UInt8
  | [] => []
  | [p] => p
  | p :: q :: ps => p ++ g :: join g (q :: ps)

theorem putA_putA (a b : List UInt8) (ps : List (List UInt8)) (h : ps ≠ []) : putA a (putA b ps) = putA (a ++ b) ps := by
  match ps, h with
  | p :: ps, _ => simp [putA]
theorem putA_nil (ps : List (List UInt8)) (h : ps ≠ []) : putA [] ps = ps := by
  match ps, h with
  | p :: ps, _ => rfl
theorem putA_ne (a : List UInt8) (ps : List (List UInt8)) : putA a ps ≠ [] := by cases ps <;> simp [putA]
theorem cut_ne (g : UInt8) : ∀ l, cut g l ≠ []
  | [] => by simp [cut]
  | [c] => by rw [cut]; split <;> simp
  | c :: d :: l => by
    rw [cut]
    split
    · simp
    · split
      · exact putA_ne _ _
      · exact putA_ne _ _
theorem cut_g (g : UInt8) (l : List UInt8) : cut g (g :: l) = [] :: cut g l := by
  cases l with
  | nil => show cut g [g] = [[], []]; rw [cut, if_pos rfl]
  | cons d l => rw [cut, if_pos rfl]
theorem cut_plain {g c : UInt8} (l : List UInt8) (h : c ≠ g) (h2 : c ≠ 92) : cut g (c :: l) = putA [c] (cut g l) := by
  cases l with
  | nil => show cut g [c] = [[c]]; rw [cut, if_neg h]
  | cons d l => rw [cut, if_neg h, if_neg h2]
theorem cut_sign {g d : UInt8} (l : List UInt8) (h : g ≠ 92) : cut g (92 :: d :: l) = putA [92, d] (cut g l) := by rw [cut, if_neg (Ne.symm h), if_pos rfl]
theorem cut_last {g : UInt8} (h : g ≠ 92) : cut g [92] = [[92]] := by rw [cut, if_neg (Ne.symm h)]

/-- A text whose signs are all escaped: it is no cut. -/
def Whole1 (g : UInt8) (p : List UInt8) : Prop := ∀ l, cut g (p ++ l) = putA p (cut g l)
theorem Whole1.nil (g : UInt8) : Whole1 g [] := fun l => (putA_nil _ (cut_ne g l)).symm
theorem Whole1.append {g : UInt8} {p q : List UInt8} (h : Whole1 g p) (k : Whole1 g q) : Whole1 g (p ++ q) := fun l => by
  rw [List.append_assoc, h, k, putA_putA _ _ _ (cut_ne g l)]
theorem Whole1.one {g c : UInt8} (h : c ≠ g) (h2 : c ≠ 92) : Whole1 g [c] := fun l => cut_plain l h h2
theorem Whole1.two {g d : UInt8} (h : g ≠ 92) : Whole1 g [92, d] := fun l => cut_sign l h
theorem whole_esc1 {g c : UInt8} {a : List UInt8} (hg : g = 44 ∨ g = 59) (h : esc1 c = some a) : Whole1 g a := by
  have hg2 : g ≠ 92 := by rcases hg with rfl | rfl <;> decide
  unfold esc1 at h
  split at h
  · injection h with h; subst h; exact Whole1.two hg2
  · split at h
    · split at h
      · injection h with h; subst h; exact Whole1.two hg2
      · rename_i hs
        injection h with h; subst h
        exact Whole1.one (by rintro rfl; exact hs (by rcases hg with rfl | rfl <;> decide)) (by rintro rfl; exact hs (by decide))
    · exact absurd h (by simp)
theorem whole_esc {g : UInt8} (hg : g = 44 ∨ g = 59) : ∀ {l a : List UInt8}, esc l = some a → Whole1 g a
  | [], a, h => by rw [esc] at h; injection h with h; subst h; exact Whole1.nil g
  | c :: l, a, h => by
    rw [esc] at h
    rcases h1 : esc1 c with _ | b
    · rw [h1] at h; simp at h
    · rcases h2 : esc l with _ | m
      · rw [h1, h2] at h; simp at h
      · rw [h1, h2] at h
        simp at h
        subst h
        exact (whole_esc1 hg h1).append (whole_esc hg h2)
theorem join_cons (g : UInt8) (p : List UInt8) (ps : List (List UInt8)) (h : ps ≠ []) : join g (p :: ps) = p ++ g :: join g ps := by
  match ps, h with
  | q :: ps, _ => rfl
theorem cut_join {g : UInt8} : ∀ (ps : List (List UInt8)), ps ≠ [] → (∀ p ∈ ps, Whole1 g p) → cut g (join g ps) = ps
  | [], h, _ => absurd rfl h
  | [p], _, hw => by
    have := hw p (by simp) []
    rw [List.append_nil] at this
    rw [join, this, cut]; simp [putA]
  | p :: q :: ps, _, hw => by
    rw [join, hw p (by simp), cut_g, cut_join (q :: ps) (by simp) (fun x hx => hw x (List.mem_cons_of_mem _ hx))]
    simp [putA]
theorem whole_join {g f : UInt8} (hf : f ≠ g) (hf2 : f ≠ 92) : ∀ (ps : List (List UInt8)), (∀ p ∈ ps, Whole1 g p) → Whole1 g (join f ps)
  | [], _ => Whole1.nil g
  | [p], hw => hw p (by simp)
  | p :: q :: ps, hw => by
    rw [join]
    have h := ((hw p (by simp)).append (Whole1.one hf hf2)).append (whole_join hf hf2 (q :: ps) (fun x hx => hw x (List.mem_cons_of_mem _ hx)))
    simpa using h
theorem join_append (g : UInt8) : ∀ (ps qs : List (List UInt8)), ps ≠ [] → qs ≠ [] → join g (ps ++ qs) = join g ps ++ g :: join g qs
  | [], _, h, _ => absurd rfl h
  | [p], qs, _, hq => by rw [List.singleton_append, join_cons g p qs hq]; rfl
  | p :: q :: ps, qs, _, hq => by
    rw [List.cons_append, join_cons g p _ (by simp), join_append g (q :: ps) qs (by simp) hq, join]
    simp
theorem join_snoc (g : UInt8) (ps : List (List UInt8)) (p : List UInt8) (h : ps ≠ []) : join g (ps ++ [p]) = join g ps ++ g :: p := join_append g ps [p] h (by simp)
theorem join_eq_nil {g : UInt8} : ∀ {ps : List (List UInt8)}, join g ps = [] → ps = [] ∨ ps = [[]]
  | [], _ => .inl rfl
  | [p], h => .inr (by rw [join] at h; rw [h])
  | p :: q :: ps, h => by rw [join] at h; simp at h

/-! ### lists and rows -/
def escAll : List (List UInt8) → Option (List (List UInt8))
  | [] => some []
  | p :: ps => (esc p).bind fun a => (escAll ps).map (a :: ·)
def unescAll : List (List UInt8) → Option (List (List UInt8))
  | [] => some []
  | p :: ps => (unesc p).bind fun a => (unescAll ps).map (a :: ·)
theorem escAll_cons {p : List UInt8} {ps es : List (List UInt8)} (h : escAll (p :: ps) = some es) : ∃ a as, esc p = some a ∧ escAll ps = some as ∧ es = a :: as := by
  rw [escAll] at h
  rcases h1 : esc p with _ | a
  · rw [h1] at h; simp at h
  · rcases h2 : escAll ps with _ | as
    · rw [h1, h2] at h; simp at h
    · rw [h1, h2] at h; simp at h
      exact ⟨a, as, rfl, rfl, h.symm⟩
theorem escAll_append (l m : List (List UInt8)) : escAll (l ++ m) = (escAll l).bind fun a => (escAll m).map (a ++ ·) := by
  induction l with
  | nil => simp [escAll]
  | cons c l ih =>
    rw [List.cons_append, escAll, escAll, ih]
    cases esc c with
    | none => rfl
    | some a =>
      cases escAll l with
      | none => rfl
      | some b => cases escAll m <;> simp
theorem escAll_length : ∀ {l es : List (List UInt8)}, escAll l = some es → es.length = l.length
  | [], es, h => by rw [escAll] at h; injection h with h; subst h; rfl
  | p :: ps, es, h => by
    obtain ⟨a, as, _, h2, rfl⟩ := escAll_cons h
    rw [List.length_cons, List.length_cons, escAll_length h2]
theorem whole_escAll {g : UInt8} (hg : g = 44 ∨ g = 59) : ∀ {l es : List (List UInt8)}, escAll l = some es → ∀ p ∈ es, Whole1 g p
  | [], es, h, p, hp => by rw [escAll] at h; injection h with h; subst h; simp at hp
  | q :: ps, es, h, p, hp => by
    obtain ⟨a, as, h1, h2, rfl⟩ := escAll_cons h
    rcases List.mem_cons.1 hp with rfl | hp
    · exact whole_esc hg h1
    · exact whole_escAll hg h2 p hp
theorem unescAll_escAll : ∀ {l es : List (List UInt8)}, escAll l = some es → unescAll es = some l
  | [], es, h => by rw [escAll] at h; injection h with h; subst h; rfl
  | p :: ps, es, h => by
    obtain ⟨a, as, h1, h2, rfl⟩ := escAll_cons h
    rw [unescAll, unesc_esc h1, unescAll_escAll h2]; rfl
theorem escAll_unescAll : ∀ {es l : List (List UInt8)}, unescAll es = some l → ∃ u, escAll l = some u
  | [], l, h => by rw [unescAll] at h; injection h with h; subst h; exact ⟨[], rfl⟩
  | p :: ps, l, h => by
    rw [unescAll] at h
    rcases h1 : unesc p with _ | a
    · rw [h1] at h; simp at h
    · rcases h2 : unescAll ps with _ | as
      · rw [h1, h2] at h; simp at h
      · rw [h1, h2] at h; simp at h
        subst h
        obtain ⟨u, hu⟩ := esc_unesc _ (Nat.le_refl _) h1
        obtain ⟨us, hus⟩ := escAll_unescAll h2
        exact ⟨u :: us, by rw [escAll, hu, hus]; rfl⟩
theorem unescAll_length : ∀ {es l : List (List UInt8)}, unescAll es = some l → es.length = l.length
  | [], l, h => by rw [unescAll] at h; injection h with h; subst h; rfl
  | p :: ps, l, h => by
    rw [unescAll] at h
    rcases h1 : unesc p with _ | a
    · rw [h1] at h; simp at h
    · rcases h2 : unescAll ps with _ | as
      · rw [h1, h2] at h; simp at h
      · rw [h1, h2] at h; simp at h
        subst h
        rw [List.length_cons, List.length_cons, unescAll_length h2]
theorem unesc_nil {p : List UInt8} (h : unesc p = some []) : p = [] := by
  match p, h with
  | [], _ => rfl
  | [c], h => rw [unesc] at h; split at h <;> simp at h
  | c :: d :: l, h =>
    rw [unesc] at h
    split at h
    · split at h
      · rcases h1 : mean d with _ | m
        · rw [h1] at h; simp at h
        · rw [h1] at h
          rcases h2 : unesc l with _ | t
          · rw [h2] at h; simp at h
          · rw [h2] at h; simp at h
      · rcases h2 : unesc (d :: l) with _ | t
        · rw [h2] at h; simp at h
        · rw [h2] at h; simp at h
    · simp at h
theorem join_putA (g : UInt8) (a : List UInt8) (ps : List (List UInt8)) (h : ps ≠ []) : join g (putA a ps) = a ++ join g ps := by
  match ps, h with
  | [p], _ => rfl
  | p :: q :: ps, _ => simp [putA, join]
theorem join_cut {g : UInt8} (hg : g ≠ 92) : ∀ s, join g (cut g s) = s
  | [] => rfl
  | [c] => by
    rw [cut]
    split
    · rename_i h; subst h; rfl
    · rfl
  | c :: d :: l => by
    rw [cut]
    split
    · rename_i h; subst h
      rw [join_cons _ _ _ (cut_ne _ _), join_cut hg (d :: l)]; rfl
    · split
      · rename_i h; subst h
        rw [join_putA _ _ _ (cut_ne _ _), join_cut hg l]; rfl
      · rw [join_putA _ _ _ (cut_ne _ _), join_cut hg (d :: l)]; rfl
/-- List, of at least one part; of none: nothing. -/
def rowO (ps : List (List UInt8)) : Option (List UInt8) := (escAll ps).map (join 44)
def unrowO (s : List UInt8) : Option (List (List UInt8)) := unescAll (cut 44 s)
theorem unrow_row {ps : List (List UInt8)} {s : List UInt8} (hn : ps ≠ []) (h : rowO ps = some s) : unrowO s = some ps := by
  unfold rowO at h
  rcases h1 : escAll ps with _ | es
  · rw [h1] at h; simp at h
  · rw [h1] at h; simp at h
    subst h
    unfold unrowO
    rw [cut_join es (fun e => hn (List.eq_nil_of_length_eq_zero (by rw [← escAll_length h1, e]; rfl))) (whole_escAll (.inl rfl) h1)]
    exact unescAll_escAll h1
def rowsO : List (List (List UInt8)) → Option (List (List UInt8))
  | [] => some []
  | r :: rs => (rowO r).bind fun a => (rowsO rs).map (a :: ·)
def unrow1 (s : List UInt8) : Option (List (List UInt8)) := if s = [] then some [] else unrowO s
def unrowsO : List (List UInt8) → Option (List (List (List UInt8)))
  | [] => some []
  | s :: ss => (unrow1 s).bind fun a => (unrowsO ss).map (a :: ·)
def fieldsO (rs : List (List (List UInt8))) : Option (List UInt8) := (rowsO rs).map (join 59)
def unfieldsO (s : List UInt8) : Option (List (List (List UInt8))) := unrowsO (cut 59 s)
/-- How a row is read back: that of just an empty text as one without any. -/
def bare (r : List (List UInt8)) : List (List UInt8) := if r = [[]] then [] else r
theorem rowsO_cons {r : List (List UInt8)} {rs : List (List (List UInt8))} {es : List (List UInt8)} (h : rowsO (r :: rs) = some es) : ∃ a as, rowO r = some a ∧ rowsO rs = some as ∧ es = a :: as := by
  rw [rowsO] at h
  rcases h1 : rowO r with _ | a
  · rw [h1] at h; simp at h
  · rcases h2 : rowsO rs with _ | as
    · rw [h1, h2] at h; simp at h
    · rw [h1, h2] at h; simp at h
      exact ⟨a, as, rfl, rfl, h.symm⟩
theorem whole_row {r : List (List UInt8)} {s : List UInt8} (h : rowO r = some s) : Whole1 59 s := by
  unfold rowO at h
  rcases h1 : escAll r with _ | es
  · rw [h1] at h; simp at h
  · rw [h1] at h; simp at h
    subst h
    exact whole_join (by decide) (by decide) es (whole_escAll (.inr rfl) h1)
theorem row_empty {r : List (List UInt8)} (h : rowO r = some []) : r = [] ∨ r = [[]] := by
  unfold rowO at h
  rcases h1 : escAll r with _ | es
  · rw [h1] at h; simp at h
  · rw [h1] at h; simp at h
    have hl := escAll_length h1
    rcases join_eq_nil h with rfl | rfl
    · exact .inl (List.eq_nil_of_length_eq_zero hl.symm)
    · right
      match r, hl, h1 with
      | [p], _, h1 =>
        obtain ⟨a, as, h2, _, h3⟩ := escAll_cons h1
        injection h3 with h3 _
        subst h3
        have := unesc_esc h2
        rw [unesc] at this
        injection this with this
        rw [← this]
theorem unrow1_row {r : List (List UInt8)} {s : List UInt8} (h : rowO r = some s) : unrow1 s = some (bare r) := by
  unfold unrow1 bare
  by_cases hs : s = []
  · subst hs
    rw [if_pos rfl]
    rcases row_empty h with rfl | rfl <;> simp
  · rw [if_neg hs]
    have h1 : r ≠ [] := by rintro rfl; apply hs; injection (show some ([] : List UInt8) = some s from h) with h; exact h.symm
    have h2 : r ≠ [[]] := by rintro rfl; apply hs; injection (show some ([] : List UInt8) = some s from h) with h; exact h.symm
    rw [if_neg h2, unrow_row h1 h]
theorem unrows_rows : ∀ {rs : List (List (List UInt8))} {es : List (List UInt8)}, rowsO rs = some es → unrowsO es = some (rs.map bare) ∧ ∀ p ∈ es, Whole1 59 p
  | [], es, h => by rw [rowsO] at h; injection h with h; subst h; exact ⟨rfl, by simp⟩
  | r :: rs, es, h => by
    obtain ⟨a, as, h1, h2, rfl⟩ := rowsO_cons h
    obtain ⟨h3, h4⟩ := unrows_rows h2
    refine ⟨by rw [unrowsO, unrow1_row h1, h3]; rfl, fun p hp => ?_⟩
    rcases List.mem_cons.1 hp with rfl | hp
    · exact whole_row h1
    · exact h4 p hp
theorem unfields_fields {rs : List (List (List UInt8))} {s : List UInt8} (hn : rs ≠ []) (h : fieldsO rs = some s) : unfieldsO s = some (rs.map bare) := by
  unfold fieldsO at h
  rcases h1 : rowsO rs with _ | es
  · rw [h1] at h; simp at h
  · rw [h1] at h; simp at h
    subst h
    obtain ⟨h3, h4⟩ := unrows_rows h1
    have he : es ≠ [] := by
      rintro rfl
      match rs, hn, h1 with
      | r :: rs, _, h1 => obtain ⟨a, as, _, _, h5⟩ := rowsO_cons h1; simp at h5
    unfold unfieldsO
    rw [cut_join es he h4, h3]
/-- What is read may be written, and is no row of just an empty text. -/
theorem unrow1_back {s : List UInt8} {r : List (List UInt8)} (h : unrow1 s = some r) : (∃ u, rowO r = some u) ∧ bare r = r := by
  unfold unrow1 at h
  split at h
  · injection h with h; subst h; exact ⟨⟨[], rfl⟩, rfl⟩
  · rename_i hs
    unfold unrowO at h
    obtain ⟨u, hu⟩ := escAll_unescAll h
    refine ⟨⟨join 44 u, by unfold rowO; rw [hu]; rfl⟩, ?_⟩
    unfold bare
    rw [if_neg]
    rintro rfl
    have hl := unescAll_length h
    have hj := join_cut (g := 44) (by decide) s
    generalize cut 44 s = ps at *
    match ps, hl, h with
    | [p], _, h =>
      rw [unescAll] at h
      rcases h1 : unesc p with _ | a
      · rw [h1] at h; simp at h
      · rw [h1] at h; simp [unescAll] at h
        subst h
        rw [unesc_nil h1] at hj
        exact hs hj.symm
theorem unrows_back : ∀ {ss : List (List UInt8)} {rs : List (List (List UInt8))}, unrowsO ss = some rs → (∃ es, rowsO rs = some es) ∧ rs.map bare = rs ∧ rs.length = ss.length
  | [], rs, h => by rw [unrowsO] at h; injection h with h; subst h; exact ⟨⟨[], rfl⟩, rfl, rfl⟩
  | s :: ss, rs, h => by
    rw [unrowsO] at h
    rcases h1 : unrow1 s with _ | a
    · rw [h1] at h; simp at h
    · rcases h2 : unrowsO ss with _ | as
      · rw [h1, h2] at h; simp at h
      · rw [h1, h2] at h; simp at h
        subst h
        obtain ⟨⟨u, hu⟩, hb⟩ := unrow1_back h1
        obtain ⟨⟨us, hus⟩, hbs, hl⟩ := unrows_back h2
        exact ⟨⟨u :: us, by rw [rowsO, hu, hus]; rfl⟩, by rw [List.map_cons, hb, hbs], by rw [List.length_cons, List.length_cons, hl]⟩
theorem unfields_back {s : List UInt8} {rs : List (List (List UInt8))} (h : unfieldsO s = some rs) : ∃ u, fieldsO rs = some u ∧ unfieldsO u = some rs := by
  obtain ⟨⟨es, he⟩, hb, hl⟩ := unrows_back h
  have hn : rs ≠ [] := by
    rintro rfl
    exact cut_ne 59 s (List.eq_nil_of_length_eq_zero hl.symm)
  have hf : fieldsO rs = some (join 59 es) := by unfold fieldsO; rw [he]; rfl
  exact ⟨_, hf, by rw [unfields_fields hn hf, hb]⟩
end Go.Proofs.YtgmmnbojelekbaaDoor
