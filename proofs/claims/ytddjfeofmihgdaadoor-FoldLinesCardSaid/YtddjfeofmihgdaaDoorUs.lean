/- Rows folded into lines, and unfolded: what it comes to, over lists of bytes. -/
import Derived.Lib.MapLaws
import Derived.Lib.ValidU
namespace Go.Proofs.YtddjfeofmihgdaaDoor
set_option linter.unusedVariables false
set_option linter.unusedSimpArgs false

abbrev BL := List UInt8
/-- How many bytes a text's first letter has. -/
def wid (s : BL) : Nat := (Lib.decodeL s).2
theorem wid_pos (s : BL) : 1 ≤ wid s := Lib.decodeL_width s
theorem wid_le (s : BL) (h : s ≠ []) : wid s ≤ s.length := Lib.decodeL_le s h
theorem decodeN_4 (n b0 b1 b2 b3 : Nat) : (Lib.decodeN n b0 b1 b2 b3).2 ≤ 4 := by
  unfold Lib.decodeN
  repeat' split
  all_goals simp
theorem wid_4 (s : BL) : wid s ≤ 4 := by unfold wid; rw [Lib.decodeL_N]; exact decodeN_4 _ _ _ _ _

/-- A row's lines, without ends: what is still to come, and the line that is open. -/
def lnsF : Nat → BL → BL → List BL
  | 0, _, cur => [cur]
  | f + 1, s, cur => if s = [] then [cur] else if 75 < cur.length + wid s then cur :: lnsF f (s.drop (wid s)) (32 :: s.take (wid s)) else lnsF f (s.drop (wid s)) (cur ++ s.take (wid s))
theorem lnsF_fuel : ∀ (f g : Nat) (s cur : BL), s.length ≤ f → s.length ≤ g → lnsF f s cur = lnsF g s cur
  | 0, 0, _, _, _, _ => rfl
  | 0, g + 1, s, cur, h, _ => by
    have : s = [] := List.eq_nil_of_length_eq_zero (by omega)
    subst this; rfl
  | f + 1, 0, s, cur, _, h => by
    have : s = [] := List.eq_nil_of_length_eq_zero (by omega)
    subst this; rfl
  | f + 1, g + 1, s, cur, h1, h2 => by
    unfold lnsF
    have hw := wid_pos s
    split
    · rfl
    · have hd : (s.drop (wid s)).length ≤ f := by rw [List.length_drop]; omega
      have hd2 : (s.drop (wid s)).length ≤ g := by rw [List.length_drop]; omega
      split
      · rw [lnsF_fuel f g _ _ hd hd2]
      · rw [lnsF_fuel f g _ _ hd hd2]
def lns (s cur : BL) : List BL := lnsF s.length s cur
theorem lns_nil (cur : BL) : lns [] cur = [cur] := rfl
theorem lns_step (s cur : BL) (h : s ≠ []) : lns s cur = if 75 < cur.length + wid s then cur :: lns (s.drop (wid s)) (32 :: s.take (wid s)) else lns (s.drop (wid s)) (cur ++ s.take (wid s)) := by
  have hl : 0 < s.length := List.length_pos_iff.2 h
  have hp := wid_pos s
  obtain ⟨m, hm⟩ : ∃ m, s.length = m + 1 := ⟨s.length - 1, by omega⟩
  have hd : (s.drop (wid s)).length ≤ m := by rw [List.length_drop]; omega
  unfold lns
  rw [hm, lnsF, if_neg h]
  split
  · rw [lnsF_fuel m _ _ _ hd (Nat.le_refl _)]
  · rw [lnsF_fuel m _ _ _ hd (Nat.le_refl _)]
theorem lns_new (s cur : BL) (h : s ≠ []) (hw : 75 < cur.length + wid s) : lns s cur = cur :: lns (s.drop (wid s)) (32 :: s.take (wid s)) := by rw [lns_step s cur h, if_pos hw]
theorem lns_old (s cur : BL) (h : s ≠ []) (hw : ¬ 75 < cur.length + wid s) : lns s cur = lns (s.drop (wid s)) (cur ++ s.take (wid s)) := by rw [lns_step s cur h, if_neg hw]
/-- By what is still to come. -/
theorem bl_ind {M : BL → Prop} (h0 : M []) (h : ∀ s, s ≠ [] → M (s.drop (wid s)) → M s) (s : BL) : M s := by
  have K : ∀ n (s : BL), s.length ≤ n → M s := fun n => by
    induction n with
    | zero => intro s hs; rw [List.eq_nil_of_length_eq_zero (Nat.le_zero.1 hs)]; exact h0
    | succ n ih =>
      intro s hs
      by_cases he : s = []
      · rw [he]; exact h0
      · refine h s he (ih _ ?_)
        have := wid_pos s
        have : 0 < s.length := List.length_pos_iff.2 he
        rw [List.length_drop]; omega
  exact K s.length s (Nat.le_refl _)
theorem take_wid_length (s : BL) (h : s ≠ []) : (s.take (wid s)).length = wid s := by rw [List.length_take]; have := wid_le s h; omega
theorem lns_len (s : BL) : ∀ cur : BL, cur.length ≤ 75 → ∀ l ∈ lns s cur, l.length ≤ 75 := by
  refine bl_ind (M := fun s => ∀ cur : BL, cur.length ≤ 75 → ∀ l ∈ lns s cur, l.length ≤ 75) ?_ ?_ s
  · intro cur hc l hl; rw [lns_nil, List.mem_singleton] at hl; subst hl; exact hc
  · intro s he ih cur hc l hl
    have := wid_4 s
    have tl := take_wid_length s he
    by_cases hw : 75 < cur.length + wid s
    · rw [lns_new s cur he hw] at hl
      rcases List.mem_cons.1 hl with rfl | hl
      · exact hc
      · exact ih _ (by rw [List.length_cons, tl]; omega) l hl
    · rw [lns_old s cur he hw] at hl
      exact ih _ (by rw [List.length_append, tl]; omega) l hl
theorem lns_mem (s : BL) : ∀ cur : BL, ∀ l ∈ lns s cur, ∀ c ∈ l, c ∈ cur ∨ c ∈ s ∨ c = 32 := by
  refine bl_ind (M := fun s => ∀ cur : BL, ∀ l ∈ lns s cur, ∀ c ∈ l, c ∈ cur ∨ c ∈ s ∨ c = 32) ?_ ?_ s
  · intro cur l hl c hc; rw [lns_nil, List.mem_singleton] at hl; subst hl; exact .inl hc
  · intro s he ih cur l hl c hc
    by_cases hw : 75 < cur.length + wid s
    · rw [lns_new s cur he hw] at hl
      rcases List.mem_cons.1 hl with rfl | hl
      · exact .inl hc
      · rcases ih _ l hl c hc with h | h | h
        · rcases List.mem_cons.1 h with h | h
          · exact .inr (.inr h)
          · exact .inr (.inl (List.mem_of_mem_take h))
        · exact .inr (.inl (List.mem_of_mem_drop h))
        · exact .inr (.inr h)
    · rw [lns_old s cur he hw] at hl
      rcases ih _ l hl c hc with h | h | h
      · rcases List.mem_append.1 h with h | h
        · exact .inl h
        · exact .inr (.inl (List.mem_of_mem_take h))
      · exact .inr (.inl (List.mem_of_mem_drop h))
      · exact .inr (.inr h)
/-- The first line goes on what is open; each other one begins with a blank; without these they are the row. -/
theorem lns_shape (s : BL) : ∀ cur : BL, ∃ h t, lns s cur = h :: t ∧ (∃ m, h = cur ++ m) ∧ (∀ l ∈ t, ∃ r, l = 32 :: r) ∧ h ++ t.flatMap (·.drop 1) = cur ++ s := by
  refine bl_ind (M := fun s => ∀ cur : BL, ∃ h t, lns s cur = h :: t ∧ (∃ m, h = cur ++ m) ∧ (∀ l ∈ t, ∃ r, l = 32 :: r) ∧ h ++ t.flatMap (·.drop 1) = cur ++ s) ?_ ?_ s
  · intro cur
    exact ⟨cur, [], lns_nil cur, ⟨[], by simp⟩, by simp, by simp⟩
  · intro s he ih cur
    by_cases hw : 75 < cur.length + wid s
    · obtain ⟨h, t, e, ⟨m, hm⟩, ht, hf⟩ := ih (32 :: s.take (wid s))
      refine ⟨cur, h :: t, by rw [lns_new s cur he hw, e], ⟨[], by simp⟩, ?_, ?_⟩
      · intro l hl
        rcases List.mem_cons.1 hl with rfl | hl
        · exact ⟨s.take (wid s) ++ m, by rw [hm]; rfl⟩
        · exact ht l hl
      · rw [List.flatMap_cons]
        congr 1
        subst hm
        simp only [List.cons_append, List.drop_succ_cons, List.drop_zero, List.cons.injEq, true_and] at hf ⊢
        rw [hf, List.take_append_drop]
    · obtain ⟨h, t, e, ⟨m, hm⟩, ht, hf⟩ := ih (cur ++ s.take (wid s))
      refine ⟨h, t, by rw [lns_old s cur he hw, e], ⟨s.take (wid s) ++ m, by rw [hm, List.append_assoc]⟩, ht, ?_⟩
      rw [hf, List.append_assoc, List.take_append_drop]
/-- A row's lines. -/
def lines (s : BL) : List BL := lns s []
theorem lines_shape (s : BL) (hs : s ≠ []) : ∃ c m t, lines s = (c :: m) :: t ∧ s.head? = some c ∧ (∀ l ∈ t, ∃ r, l = 32 :: r) ∧ (c :: m) ++ t.flatMap (·.drop 1) = s := by
  have e : lines s = lns (s.drop (wid s)) (s.take (wid s)) := by
    unfold lines
    rw [lns_old s [] hs (by have := wid_4 s; simp; omega), List.nil_append]
  obtain ⟨h, t, e2, ⟨m, hm⟩, ht, hf⟩ := lns_shape (s.drop (wid s)) (s.take (wid s))
  rw [List.take_append_drop] at hf
  obtain ⟨c, s', rfl⟩ := List.exists_cons_of_ne_nil hs
  obtain ⟨k, hk⟩ : ∃ k, wid (c :: s') = k + 1 := ⟨wid (c :: s') - 1, by have := wid_pos (c :: s'); omega⟩
  rw [hk, List.take_succ_cons] at hm
  refine ⟨c, s'.take k ++ m, t, by rw [e, e2, hm]; rfl, rfl, ht, ?_⟩
  rw [← hf, hm]; rfl
/-- Lines behind one another, each with its end. -/
def ends (l : List BL) : BL := l.flatMap (fun x => x ++ [13, 10])
theorem ends_nil : ends [] = [] := rfl
theorem ends_cons (x : BL) (l : List BL) : ends (x :: l) = x ++ 13 :: 10 :: ends l := by unfold ends; simp
theorem ends_append (a b : List BL) : ends (a ++ b) = ends a ++ ends b := by unfold ends; simp
/-- The text of rows. -/
def foldT (rows : List BL) : BL := rows.flatMap (fun r => ends (lines r))
theorem foldT_append (a b : List BL) : foldT (a ++ b) = foldT a ++ foldT b := by unfold foldT; simp
theorem foldT_snoc (a : List BL) (r : BL) : foldT (a ++ [r]) = foldT a ++ ends (lines r) := by unfold foldT; simp
theorem foldT_ends (rows : List BL) : foldT rows = ends (rows.flatMap lines) := by
  induction rows with
  | nil => rfl
  | cons r l ih => rw [show r :: l = [r] ++ l from rfl, foldT_append, ih, List.flatMap_append, ends_append]; unfold foldT; simp

/-! ### letters -/
theorem getD_takeApp (s b : BL) (k j : Nat) (hj : j < k) (hk : k ≤ s.length) : (s.take k ++ b).getD j 0 = s.getD j 0 := by
  rw [List.getD_eq_getElem?_getD, List.getD_eq_getElem?_getD, List.getElem?_append_left (by rw [List.length_take]; omega), List.getElem?_take, if_pos hj]
/-- A letter hangs on its own bytes alone. -/
theorem decodeN_own (n m b0 b1 b2 b3 c1 c2 c3 : Nat) (hm : (Lib.decodeN n b0 b1 b2 b3).2 ≤ m) (h1 : 1 < (Lib.decodeN n b0 b1 b2 b3).2 → c1 = b1) (h2 : 2 < (Lib.decodeN n b0 b1 b2 b3).2 → c2 = b2) (h3 : 3 < (Lib.decodeN n b0 b1 b2 b3).2 → c3 = b3)
    (he : ¬ ((Lib.decodeN n b0 b1 b2 b3).1 = 65533 ∧ (Lib.decodeN n b0 b1 b2 b3).2 = 1)) : Lib.decodeN m b0 c1 c2 c3 = Lib.decodeN n b0 b1 b2 b3 := by
  revert hm h1 h2 h3 he
  generalize hr : Lib.decodeN n b0 b1 b2 b3 = r
  intro hm h1 h2 h3 he
  unfold Lib.decodeN at hr
  by_cases a0 : b0 < 128
  · rw [if_pos a0] at hr
    subst hr
    unfold Lib.decodeN
    rw [if_pos a0]
  · rw [if_neg a0] at hr
    by_cases a1 : b0 / 32 = 6 ∧ (1 < n ∧ b1 / 64 = 2)
    · rw [if_pos a1] at hr
      split at hr
      · subst hr
        simp only at hm h1 h2 h3 he
        have := h1 (by omega)
        subst this
        unfold Lib.decodeN
        rw [if_neg a0, if_pos ⟨a1.1, by omega, a1.2.2⟩, if_pos (by assumption)]
      · subst hr; exact absurd ⟨rfl, rfl⟩ he
    · rw [if_neg a1] at hr
      by_cases a2 : b0 / 16 = 14 ∧ (1 < n ∧ b1 / 64 = 2) ∧ (2 < n ∧ b2 / 64 = 2)
      · rw [if_pos a2] at hr
        split at hr
        · subst hr
          simp only at hm h1 h2 h3 he
          have e1 := h1 (by omega)
          have e2 := h2 (by omega)
          subst e1 e2
          unfold Lib.decodeN
          rw [if_neg a0, if_neg (by omega), if_pos ⟨a2.1, ⟨by omega, a2.2.1.2⟩, by omega, a2.2.2.2⟩, if_pos (by assumption)]
        · subst hr; exact absurd ⟨rfl, rfl⟩ he
      · rw [if_neg a2] at hr
        by_cases a3 : b0 / 8 = 30 ∧ (1 < n ∧ b1 / 64 = 2) ∧ (2 < n ∧ b2 / 64 = 2) ∧ (3 < n ∧ b3 / 64 = 2)
        · rw [if_pos a3] at hr
          split at hr
          · subst hr
            simp only at hm h1 h2 h3 he
            have e1 := h1 (by omega)
            have e2 := h2 (by omega)
            have e3 := h3 (by omega)
            subst e1 e2 e3
            unfold Lib.decodeN
            rw [if_neg a0, if_neg (by omega), if_neg (by omega), if_pos ⟨a3.1, ⟨by omega, a3.2.1.2⟩, ⟨by omega, a3.2.2.1.2⟩, by omega, a3.2.2.2.2⟩, if_pos (by assumption)]
          · subst hr; exact absurd ⟨rfl, rfl⟩ he
        · rw [if_neg a3] at hr
          subst hr; exact absurd ⟨rfl, rfl⟩ he
def isBad (s : BL) : Prop := (Lib.decodeL s).1 = 65533 ∧ (Lib.decodeL s).2 = 1
theorem decode_take (s b : BL) (hs : s ≠ []) (he : ¬ isBad s) : Lib.decodeL (s.take (wid s) ++ b) = Lib.decodeL s := by
  have hw := wid_le s hs
  have hp := wid_pos s
  unfold isBad at he
  unfold wid at *
  rw [Lib.decodeL_N s] at *
  rw [Lib.decodeL_N]
  generalize hk : (Lib.decodeN s.length (s.getD 0 0).toNat (s.getD 1 0).toNat (s.getD 2 0).toNat (s.getD 3 0).toNat).2 = k at *
  rw [getD_takeApp s b k 0 (by omega) hw]
  refine decodeN_own _ _ _ _ _ _ _ _ _ ?_ ?_ ?_ ?_ ?_
  · rw [hk, List.length_append, List.length_take]; omega
  · rw [hk]; intro h; rw [getD_takeApp s b k 1 h hw]
  · rw [hk]; intro h; rw [getD_takeApp s b k 2 h hw]
  · rw [hk]; intro h; rw [getD_takeApp s b k 3 h hw]
  · rw [hk]; exact he
theorem validGoD_fuel : ∀ (f g : Nat) (l : BL), l.length ≤ f → l.length ≤ g → Lib.validGoD f l = Lib.validGoD g l
  | 0, 0, _, _, _ => rfl
  | 0, g + 1, l, h, _ => by
    have : l = [] := List.eq_nil_of_length_eq_zero (by omega)
    subst this; rfl
  | f + 1, 0, l, _, h => by
    have : l = [] := List.eq_nil_of_length_eq_zero (by omega)
    subst this; rfl
  | f + 1, g + 1, l, h1, h2 => by
    unfold Lib.validGoD
    have hw := Lib.decodeL_width l
    rw [validGoD_fuel f g _ (by rw [List.length_drop]; omega) (by rw [List.length_drop]; omega)]
theorem validD_step (s : BL) (hs : s ≠ []) : Lib.validD s = true ↔ ¬ isBad s ∧ Lib.validD (s.drop (wid s)) = true := by
  have hl : 0 < s.length := List.length_pos_iff.2 hs
  have hp := wid_pos s
  obtain ⟨m, hm⟩ : ∃ m, s.length = m + 1 := ⟨s.length - 1, by omega⟩
  have hd : (s.drop (wid s)).length ≤ m := by rw [List.length_drop]; omega
  unfold Lib.validD
  rw [hm, Lib.validGoD, if_neg hs]
  unfold isBad
  split
  · rename_i h; simp [h]
  · rename_i h
    rw [show (Lib.decodeL s).2 = wid s from rfl, validGoD_fuel m _ _ hd (Nat.le_refl _)]
    exact ⟨fun x => ⟨h, x⟩, fun x => x.2⟩
theorem validD_letter (s : BL) (hs : s ≠ []) (he : ¬ isBad s) (b : BL) (hb : Lib.validD b = true) : Lib.validD (s.take (wid s) ++ b) = true := by
  have hd := decode_take s b hs he
  have hw : wid (s.take (wid s) ++ b) = wid s := by unfold wid at *; rw [hd]
  have hp := wid_pos s
  have hl := take_wid_length s hs
  have hne : s.take (wid s) ++ b ≠ [] := by
    intro e
    have := congrArg List.length e
    rw [List.length_append, hl, List.length_nil] at this; omega
  rw [validD_step _ hne, hw]
  refine ⟨?_, ?_⟩
  · unfold isBad at *; rw [hd]; exact he
  · rw [List.drop_append_of_le_length (by omega), List.drop_eq_nil_of_le (by omega)]; exact hb
theorem validD_append (a : BL) : ∀ b : BL, Lib.validD a = true → Lib.validD b = true → Lib.validD (a ++ b) = true := by
  refine bl_ind (M := fun a => ∀ b : BL, Lib.validD a = true → Lib.validD b = true → Lib.validD (a ++ b) = true) ?_ ?_ a
  · intro b _ h; exact h
  · intro s hs ih b h1 h2
    obtain ⟨he, h3⟩ := (validD_step s hs).1 h1
    have := validD_letter s hs he (s.drop (wid s) ++ b) (ih b h3 h2)
    rwa [← List.append_assoc, List.take_append_drop] at this
theorem validD_ascii (c : UInt8) (hc : c.toNat < 128) : Lib.validD [c] = true := by
  have hd : Lib.decodeL [c] = (c.toNat, 1) := by
    rw [Lib.decodeL_N]
    unfold Lib.decodeN
    rw [if_pos (by exact hc)]
    rfl
  rw [validD_step [c] (by simp)]
  unfold isBad wid
  rw [hd]
  refine ⟨by simp only; omega, rfl⟩
/-- No letter of a row that is UTF-8 is cut. -/
theorem lns_valid (s : BL) : ∀ cur : BL, Lib.validD s = true → Lib.validD cur = true → ∀ l ∈ lns s cur, Lib.validD l = true := by
  refine bl_ind (M := fun s => ∀ cur : BL, Lib.validD s = true → Lib.validD cur = true → ∀ l ∈ lns s cur, Lib.validD l = true) ?_ ?_ s
  · intro cur _ hc l hl; rw [lns_nil, List.mem_singleton] at hl; subst hl; exact hc
  · intro s he ih cur hs hc l hl
    obtain ⟨hb, hd⟩ := (validD_step s he).1 hs
    have ht : Lib.validD (s.take (wid s)) = true := by
      have := validD_letter s he hb [] rfl
      rwa [List.append_nil] at this
    by_cases hw : 75 < cur.length + wid s
    · rw [lns_new s cur he hw] at hl
      rcases List.mem_cons.1 hl with rfl | hl
      · exact hc
      · exact ih _ hd (validD_append [32] _ (validD_ascii 32 (by decide)) ht) l hl
    · rw [lns_old s cur he hw] at hl
      exact ih _ hd (validD_append _ _ hc ht) l hl

/-! ### a text's lines, and its rows -/
/-- Without a CR at the end. -/
def trimCR (l : BL) : BL := if l.getLast? = some 13 then l.dropLast else l
theorem trimCR_snoc (l : BL) : trimCR (l ++ [13]) = l := by unfold trimCR; simp
theorem trimCR_no (l : BL) (h : (13 : UInt8) ∉ l) : trimCR l = l := by
  unfold trimCR
  rw [if_neg]
  intro e
  exact h (List.mem_of_getLast? e)
/-- A text's lines, without ends: what is to come, and what the line that is open has. -/
def splitC : BL → BL → List BL
  | [], cur => if cur = [] then [] else [cur]
  | c :: r, cur => if c = 10 then trimCR cur :: splitC r [] else splitC r (cur ++ [c])
theorem splitC_plain (l : BL) : ∀ (r cur : BL), (10 : UInt8) ∉ l → splitC (l ++ r) cur = splitC r (cur ++ l) := by
  induction l with
  | nil => intro r cur _; simp
  | cons c l ih =>
    intro r cur h
    rw [List.mem_cons, not_or] at h
    show splitC (c :: (l ++ r)) cur = _
    rw [splitC, if_neg (fun e => h.1 e.symm), ih r _ h.2]
    simp
theorem splitC_end (l r : BL) (h : (10 : UInt8) ∉ l) : splitC (l ++ 10 :: r) [] = trimCR l :: splitC r [] := by
  rw [splitC_plain l _ _ h, splitC, if_pos rfl]; simp
theorem splitC_crlf (l r : BL) (h : (10 : UInt8) ∉ l) : splitC (l ++ 13 :: 10 :: r) [] = l :: splitC r [] := by
  have := splitC_end (l ++ [13]) r (by simp [h])
  rw [List.append_assoc] at this
  rw [show l ++ 13 :: 10 :: r = l ++ ([13] ++ 10 :: r) from rfl, this, trimCR_snoc]
theorem splitC_lf (l r : BL) (h : (10 : UInt8) ∉ l) (h2 : (13 : UInt8) ∉ l) : splitC (l ++ 10 :: r) [] = l :: splitC r [] := by
  rw [splitC_end l r h, trimCR_no l h2]
theorem splitC_last (l : BL) (h : (10 : UInt8) ∉ l) (h0 : l ≠ []) : splitC l [] = [l] := by
  have := splitC_plain l [] [] h
  rw [List.append_nil] at this
  rw [this, splitC, List.nil_append, if_neg h0]
theorem splitC_ends (ls : List BL) : (∀ l ∈ ls, (10 : UInt8) ∉ l) → ∀ r, splitC (ends ls ++ r) [] = ls ++ splitC r [] := by
  induction ls with
  | nil => intro _ r; rfl
  | cons l ls ih =>
    intro h r
    rw [ends_cons, List.append_assoc, List.cons_append, List.cons_append, splitC_crlf l _ (h l List.mem_cons_self), ih (fun x hx => h x (List.mem_cons_of_mem _ hx))]
    rfl

/-- Does a line go on the row ahead of it? -/
def goesOn : BL → Bool
  | [] => false
  | c :: _ => c == 32 || c == 9
/-- The rows of lines, from a number on: those that are done, the one that is open: a number why not, at which line, the rows. -/
def unf : List BL → Nat → List (Nat × BL) → Option (Nat × BL) → Int × Nat × List (Nat × BL)
  | [], _, d, o => (0, 0, d ++ o.toList)
  | l :: ls, k, d, o =>
    if goesOn l then
      match o with
      | none => (11, k, [])
      | some (b, t) => if 5000 < (t ++ l.drop 1).length then (4, k, []) else unf ls (k + 1) d (some (b, t ++ l.drop 1))
    else if 5000 < l.length then (4, k, [])
    else if l ≠ [] ∧ (d ++ o.toList).length = 1000 then (5, k, [])
    else unf ls (k + 1) (d ++ o.toList) (if l = [] then none else some (k, l))
theorem unf_go (l : BL) (ls : List BL) (k : Nat) (d : List (Nat × BL)) (b : Nat) (t : BL) (h : goesOn l = true) (hn : ¬ 5000 < (t ++ l.drop 1).length) : unf (l :: ls) k d (some (b, t)) = unf ls (k + 1) d (some (b, t ++ l.drop 1)) := by
  show (if goesOn l then _ else _) = _
  rw [if_pos h]
  show (if _ then _ else _) = _
  rw [if_neg hn]
theorem unf_long (l : BL) (ls : List BL) (k : Nat) (d : List (Nat × BL)) (b : Nat) (t : BL) (h : goesOn l = true) (hn : 5000 < (t ++ l.drop 1).length) : unf (l :: ls) k d (some (b, t)) = (4, k, []) := by
  show (if goesOn l then _ else _) = _
  rw [if_pos h]
  show (if _ then _ else _) = _
  rw [if_pos hn]
theorem unf_lost (l : BL) (ls : List BL) (k : Nat) (d : List (Nat × BL)) (h : goesOn l = true) : unf (l :: ls) k d none = (11, k, []) := by
  show (if goesOn l then _ else _) = _
  rw [if_pos h]
theorem unf_new (l : BL) (ls : List BL) (k : Nat) (d : List (Nat × BL)) (o : Option (Nat × BL)) (h : goesOn l = false) : unf (l :: ls) k d o = if 5000 < l.length then (4, k, []) else if l ≠ [] ∧ (d ++ o.toList).length = 1000 then (5, k, []) else unf ls (k + 1) (d ++ o.toList) (if l = [] then none else some (k, l)) := by
  show (if goesOn l then _ else _) = _
  rw [if_neg (by rw [h]; simp)]
theorem unf_more (t : List BL) : ∀ (more : List BL) (k : Nat) (d : List (Nat × BL)) (b : Nat) (x : BL), (∀ l ∈ t, goesOn l = true) → (x ++ t.flatMap (·.drop 1)).length ≤ 5000 →
    unf (t ++ more) k d (some (b, x)) = unf more (k + t.length) d (some (b, x ++ t.flatMap (·.drop 1))) := by
  induction t with
  | nil => intro more k d b x _ _; simp
  | cons l t ih =>
    intro more k d b x h hn
    rw [List.flatMap_cons, ← List.append_assoc] at hn
    show unf (l :: (t ++ more)) k d (some (b, x)) = _
    rw [unf_go l _ _ _ _ _ (h l List.mem_cons_self) (by rw [List.length_append] at hn; omega), ih _ _ _ _ _ (fun y hy => h y (List.mem_cons_of_mem _ hy)) hn, List.flatMap_cons, List.append_assoc, List.length_cons]
    congr 1; omega
theorem unf_row (h : BL) (t more : List BL) (k : Nat) (d : List (Nat × BL)) (o : Option (Nat × BL)) (row : BL) (h0 : h ≠ []) (hg : goesOn h = false) (ht : ∀ l ∈ t, goesOn l = true)
    (hr : h ++ t.flatMap (·.drop 1) = row) (hl : row.length ≤ 5000) (hm : (d ++ o.toList).length < 1000) :
    unf (h :: (t ++ more)) k d o = unf more (k + 1 + t.length) (d ++ o.toList) (some (k, row)) := by
  have hh : h.length ≤ 5000 := by rw [← hr, List.length_append] at hl; omega
  rw [unf_new _ _ _ _ _ hg, if_neg (by omega), if_neg (by omega), if_neg h0, unf_more t more _ _ _ _ ht (by rw [hr]; exact hl), hr]
end Go.Proofs.YtddjfeofmihgdaaDoor
