/- Rows folded behind every so many bytes: what their text's rows are. -/
import Derived.Test.YtddjfeofmihgdaaDoorUn
namespace Go.Proofs.YtddjfeofmihgdaaDoor
open Go.RowKit
set_option linter.unusedVariables false
set_option linter.unusedSimpArgs false

def pcsF (e : Nat) : Nat → BL → List BL
  | 0, _ => []
  | f + 1, s => if s = [] then [] else s.take e :: pcsF e f (s.drop e)
theorem pcsF_fuel (e : Nat) (he : 0 < e) : ∀ (f g : Nat) (s : BL), s.length ≤ f → s.length ≤ g → pcsF e f s = pcsF e g s
  | 0, 0, s, _, _ => rfl
  | 0, g + 1, s, h, _ => by
    obtain rfl : s = [] := List.eq_nil_of_length_eq_zero (by omega)
    rfl
  | f + 1, 0, s, _, h => by
    obtain rfl : s = [] := List.eq_nil_of_length_eq_zero (by omega)
    rfl
  | f + 1, g + 1, s, h1, h2 => by
    unfold pcsF
    by_cases h0 : s = []
    · rw [if_pos h0, if_pos h0]
    · rw [if_neg h0, if_neg h0]
      have hl : 0 < s.length := List.length_pos_iff.2 h0
      rw [pcsF_fuel e he f g (s.drop e) (by rw [List.length_drop]; omega) (by rw [List.length_drop]; omega)]
/-- A text's pieces, of e bytes each. -/
def pcs (e : Nat) (s : BL) : List BL := pcsF e s.length s
theorem pcs_nil (e : Nat) : pcs e [] = [] := rfl
theorem pcs_step (e : Nat) (he : 0 < e) (s : BL) (h : s ≠ []) : pcs e s = s.take e :: pcs e (s.drop e) := by
  have hl : 0 < s.length := List.length_pos_iff.2 h
  unfold pcs
  rw [show s.length = (s.length - 1) + 1 by omega, pcsF, if_neg h, pcsF_fuel e he (s.length - 1) (s.drop e).length (s.drop e) (by rw [List.length_drop]; omega) (Nat.le_refl _)]
theorem pcs_ind (e : Nat) (he : 0 < e) {M : BL → Prop} (h0 : M []) (h : ∀ s, s ≠ [] → M (s.drop e) → M s) (s : BL) : M s := by
  generalize hn : s.length = n
  induction n using Nat.strongRecOn generalizing s with
  | _ n ih =>
    by_cases hs : s = []
    · rw [hs]; exact h0
    · have hl : 0 < s.length := List.length_pos_iff.2 hs
      exact h s hs (ih (s.drop e).length (by rw [List.length_drop]; omega) _ rfl)
theorem pcs_flat (e : Nat) (he : 0 < e) (s : BL) : (pcs e s).flatten = s := by
  induction s using pcs_ind e he with
  | h0 => rfl
  | h s hs ih => rw [pcs_step e he s hs, List.flatten_cons, ih, List.take_append_drop]
theorem pcs_mem (e : Nat) (he : 0 < e) (s : BL) (l : BL) (hl : l ∈ pcs e s) (c : UInt8) (hc : c ∈ l) : c ∈ s := by
  rw [← pcs_flat e he s]
  exact List.mem_flatten.2 ⟨l, hl, hc⟩
theorem pcs_count (e : Nat) (he : 0 < e) (s : BL) : (pcs e s).length ≤ s.length := by
  induction s using pcs_ind e he with
  | h0 => exact Nat.le_refl _
  | h s hs ih =>
    have hl : 0 < s.length := List.length_pos_iff.2 hs
    rw [pcs_step e he s hs, List.length_cons]
    rw [List.length_drop] at ih
    omega

/-- What is to come of a row's text, from byte i on. -/
def rem (nl : BL) (c : UInt8) (e : Nat) (r : BL) (i : Nat) : BL :=
  if i = 0 then r.take e ++ (pcs e (r.drop e)).flatMap (nl ++ [c] ++ ·) else (pcs e (r.drop i)).flatMap (nl ++ [c] ++ ·)
theorem rem_first (nl : BL) (c : UInt8) (e : Nat) (he : 0 < e) (r : BL) : rem nl c e r 0 = r.take e ++ rem nl c e r e := by
  unfold rem; rw [if_pos rfl, if_neg (by omega)]
theorem rem_more (nl : BL) (c : UInt8) (e : Nat) (he : 0 < e) (r : BL) (i : Nat) (h0 : 0 < i) (hi : i < r.length) : rem nl c e r i = (nl ++ [c]) ++ ((r.drop i).take e ++ rem nl c e r (i + e)) := by
  unfold rem; rw [if_neg (by omega), if_neg (by omega), pcs_step e he _ (by intro h; have := congrArg List.length h; rw [List.length_drop, List.length_nil] at this; omega), List.flatMap_cons, List.drop_drop, List.append_assoc]
theorem rem_end (nl : BL) (c : UInt8) (e : Nat) (r : BL) (i : Nat) (h0 : 0 < i) (hi : r.length ≤ i) : rem nl c e r i = [] := by
  unfold rem; rw [if_neg (by omega), List.drop_eq_nil_of_le hi, pcs_nil]; rfl
theorem flatMap_len (p : BL) : ∀ l : List BL, (l.flatMap (p ++ ·)).length = p.length * l.length + l.flatten.length
  | [] => by simp
  | x :: l => by
    rw [List.flatMap_cons, List.length_append, flatMap_len p l, List.length_append, List.flatten_cons, List.length_append, List.length_cons, Nat.mul_succ]; omega
def rowT (nl : BL) (c : UInt8) (e : Nat) (r : BL) : BL := rem nl c e r 0 ++ nl
theorem rowT_len (nl : BL) (c : UInt8) (e : Nat) (he : 0 < e) (hn : nl.length ≤ 2) (r : BL) : (rowT nl c e r).length ≤ 4 * r.length + 2 := by
  unfold rowT rem
  rw [if_pos rfl, List.length_append, List.length_append, flatMap_len, pcs_flat e he, List.length_append, List.length_cons, List.length_nil]
  have h1 := pcs_count e he (r.drop e)
  have h2 : (nl.length + (0 + 1)) * (pcs e (r.drop e)).length ≤ 3 * (pcs e (r.drop e)).length := Nat.mul_le_mul_right _ (by omega)
  rw [List.length_drop] at *
  rw [List.length_take]
  omega
def anyT (nl : BL) (c : UInt8) (e : Nat) (rows : List BL) : BL := rows.flatMap (rowT nl c e)
theorem anyT_cons (nl : BL) (c : UInt8) (e : Nat) (r : BL) (rows : List BL) : anyT nl c e (r :: rows) = rem nl c e r 0 ++ (nl ++ anyT nl c e rows) := by
  unfold anyT rowT; rw [List.flatMap_cons, List.append_assoc]
theorem anyT_len (nl : BL) (c : UInt8) (e : Nat) (he : 0 < e) (hn : nl.length ≤ 2) : ∀ l : List ByteArray, (anyT nl c e (l.map bts)).length ≤ 4 * (flat l).length + 2 * l.length
  | [] => by simp [anyT, flat]
  | s :: l => by
    have h := anyT_len nl c e he hn l
    have h2 := rowT_len nl c e he hn (bts s)
    rw [List.map_cons, show anyT nl c e (bts s :: l.map bts) = rowT nl c e (bts s) ++ anyT nl c e (l.map bts) from rfl, List.length_append, show flat (s :: l) = bts s ++ flat l from rfl, List.length_append, List.length_cons]
    omega

/-- A row's lines, so folded. -/
def lnsE (c : UInt8) (e : Nat) (r : BL) : List BL := r.take e :: (pcs e (r.drop e)).map (c :: ·)
theorem lay_lines (nl : BL) (c : UInt8) : ∀ (x : BL) (P : List BL), (x ++ P.flatMap (nl ++ [c] ++ ·)) ++ nl = (x :: P.map (c :: ·)).flatMap (· ++ nl)
  | x, [] => by simp
  | x, p :: P => by
    have := lay_lines nl c (c :: p) P
    rw [List.map_cons]
    show _ = (x ++ nl) ++ ((c :: p) :: P.map (c :: ·)).flatMap (· ++ nl)
    rw [← this, List.flatMap_cons]
    simp
theorem rowT_lines (nl : BL) (c : UInt8) (e : Nat) (r : BL) : rowT nl c e r = (lnsE c e r).flatMap (· ++ nl) := by
  unfold rowT rem lnsE; rw [if_pos rfl, lay_lines]
theorem anyT_lines (nl : BL) (c : UInt8) (e : Nat) (rows : List BL) : anyT nl c e rows = (rows.flatMap (lnsE c e)).flatMap (· ++ nl) := by
  unfold anyT
  rw [List.flatMap_assoc, show rowT nl c e = fun r => (lnsE c e r).flatMap (· ++ nl) from funext (rowT_lines nl c e)]
theorem splitC_nl (nl : BL) (H : ∀ l r : BL, (10 : UInt8) ∉ l → (13 : UInt8) ∉ l → splitC (l ++ (nl ++ r)) [] = l :: splitC r []) :
    ∀ ls : List BL, (∀ l ∈ ls, (10 : UInt8) ∉ l ∧ (13 : UInt8) ∉ l) → splitC (ls.flatMap (· ++ nl)) [] = ls
  | [], _ => rfl
  | l :: ls, h => by
    rw [List.flatMap_cons, List.append_assoc, H l _ (h l List.mem_cons_self).1 (h l List.mem_cons_self).2, splitC_nl nl H ls (fun q hq => h q (List.mem_cons_of_mem _ hq))]
theorem lnsE_plain (c : UInt8) (e : Nat) (he : 0 < e) (r : BL) (d : UInt8) (hd : d ∉ r) (hc : d ≠ c) : ∀ l ∈ lnsE c e r, d ∉ l := fun l hl hm => by
  rcases List.mem_cons.1 hl with rfl | hl
  · exact hd (List.mem_of_mem_take hm)
  · obtain ⟨p, hp, rfl⟩ := List.mem_map.1 hl
    rcases List.mem_cons.1 hm with h | h
    · exact hc h
    · exact hd (List.mem_of_mem_drop (pcs_mem e he _ p hp d h))

def numE (e : Nat) : Nat → List BL → List (Nat × BL)
  | _, [] => []
  | k, r :: l => (k, r) :: numE e (k + ((pcs e (r.drop e)).length + 1)) l
theorem numE_length (e : Nat) : ∀ (l : List BL) (k : Nat), (numE e k l).length = l.length
  | [], _ => rfl
  | r :: l, k => by rw [numE, List.length_cons, numE_length e l, List.length_cons]
theorem numE_at (e : Nat) : ∀ (l : List BL) (k i : Nat) (h : i < l.length) (h2 : i < (numE e k l).length), (numE e k l)[i].2 = l[i]
  | [], _, i, h, _ => by cases h
  | r :: l, k, 0, _, _ => rfl
  | r :: l, k, i + 1, h, h2 => numE_at e l _ i (by simpa using h) (by simpa [numE] using h2)
theorem drops_flat (c : UInt8) : ∀ P : List BL, (P.map (c :: ·)).flatMap (·.drop 1) = P.flatten
  | [] => rfl
  | p :: P => by rw [List.map_cons, List.flatMap_cons, drops_flat c P, List.flatten_cons]; rfl
theorem unf_rowsE (c : UInt8) (hc : ∀ x, goesOn (c :: x) = true) (e : Nat) (he : 0 < e) : ∀ (rows : List BL) (k : Nat) (d : List (Nat × BL)) (o : Option (Nat × BL)), (∀ r ∈ rows, mayN r = 0) → (d ++ o.toList).length + rows.length ≤ 1000 →
    unf (rows.flatMap (lnsE c e)) k d o = (0, 0, d ++ o.toList ++ numE e k rows)
  | [], k, d, o, _, _ => by simp [unf, numE]
  | r :: rows, k, d, o, h, hn => by
    obtain ⟨h0, hg, _, _, h5⟩ := mayN_ok (h r List.mem_cons_self)
    have h1 : r.take e ≠ [] := by
      obtain ⟨c', r', rfl⟩ := List.exists_cons_of_ne_nil h0
      obtain ⟨e', rfl⟩ : ∃ e', e = e' + 1 := ⟨e - 1, by omega⟩
      simp
    have hg1 : goesOn (r.take e) = false := by
      obtain ⟨c', r', rfl⟩ := List.exists_cons_of_ne_nil h0
      obtain ⟨e', rfl⟩ : ∃ e', e = e' + 1 := ⟨e - 1, by omega⟩
      exact hg
    have hr : r.take e ++ ((pcs e (r.drop e)).map (c :: ·)).flatMap (·.drop 1) = r := by rw [drops_flat, pcs_flat e he, List.take_append_drop]
    rw [List.length_cons] at hn
    rw [List.flatMap_cons]
    show unf (r.take e :: ((pcs e (r.drop e)).map (c :: ·) ++ rows.flatMap (lnsE c e))) k d o = _
    rw [unf_row (r.take e) _ _ k d o r h1 hg1 (fun l hl => by obtain ⟨q, _, rfl⟩ := List.mem_map.1 hl; exact hc q) hr h5 (by omega)]
    rw [unf_rowsE c hc e he rows _ _ _ (fun q hq => h q (List.mem_cons_of_mem _ hq)) (by simp only [Option.toList_some, List.length_append, List.length_cons, List.length_nil] at *; omega)]
    rw [numE, List.length_map, show k + 1 + (pcs e (r.drop e)).length = k + ((pcs e (r.drop e)).length + 1) by omega]
    simp
theorem unfold_any (nl : BL) (H : ∀ l r : BL, (10 : UInt8) ∉ l → (13 : UInt8) ∉ l → splitC (l ++ (nl ++ r)) [] = l :: splitC r []) (c : UInt8) (hc : ∀ x, goesOn (c :: x) = true) (h10 : (10 : UInt8) ≠ c) (h13 : (13 : UInt8) ≠ c) (e : Nat) (he : 0 < e)
    (rows : List BL) (h : ∀ r ∈ rows, mayN r = 0) (hn : rows.length ≤ 1000) : unfoldN (anyT nl c e rows) = (0, 0, numE e 1 rows) := by
  unfold unfoldN
  rw [anyT_lines, splitC_nl nl H _ (fun l hl => by
    obtain ⟨r, hr, hl⟩ := List.mem_flatMap.1 hl
    exact ⟨lnsE_plain c e he r 10 (mayN_ok (h r hr)).2.2.1 h10 l hl, lnsE_plain c e he r 13 (mayN_ok (h r hr)).2.2.2.1 h13 l hl⟩)]
  rw [unf_rowsE c hc e he rows 1 [] none h (by simpa using hn)]
  simp
theorem unfold_lf (e : Nat) (he : 0 < e) (rows : List BL) (h : ∀ r ∈ rows, mayN r = 0) (hn : rows.length ≤ 1000) : unfoldN (anyT [10] 9 e rows) = (0, 0, numE e 1 rows) :=
  unfold_any [10] (fun l r h1 h2 => splitC_lf l r h1 h2) 9 (fun _ => rfl) (by decide) (by decide) e he rows h hn
theorem unfold_crlf (e : Nat) (he : 0 < e) (rows : List BL) (h : ∀ r ∈ rows, mayN r = 0) (hn : rows.length ≤ 1000) : unfoldN (anyT [13, 10] 32 e rows) = (0, 0, numE e 1 rows) :=
  unfold_any [13, 10] (fun l r h1 _ => splitC_crlf l r h1) 32 (fun _ => rfl) (by decide) (by decide) e he rows h hn
end Go.Proofs.YtddjfeofmihgdaaDoor
