/- Lists of parts of one length, one behind the other. -/
namespace Go.Proofs.Ytoiaikgpaobefaa

theorem flatten_drop {α : Type} {n : Nat} : ∀ (l : List (List α)) (k : Nat), (∀ s ∈ l, s.length = n) → l.flatten.drop (k * n) = (l.drop k).flatten
  | [], k, _ => by simp
  | s :: l, 0, _ => by simp
  | s :: l, k + 1, h => by
    have hs : s.length = n := h s (by simp)
    rw [List.flatten_cons, List.drop_succ_cons, ← flatten_drop l k (fun x hx => h x (by simp [hx])), List.drop_append, hs]
    rw [List.drop_eq_nil_of_le (by rw [hs, Nat.add_mul]; omega), List.nil_append]
    congr 1
    rw [Nat.add_mul]; omega

theorem flatten_take {α : Type} {n : Nat} : ∀ (l : List (List α)) (k : Nat), (∀ s ∈ l, s.length = n) → l.flatten.take (k * n) = (l.take k).flatten
  | [], k, _ => by simp
  | s :: l, 0, _ => by simp
  | s :: l, k + 1, h => by
    have hs : s.length = n := h s (by simp)
    rw [List.flatten_cons, List.take_succ_cons, List.flatten_cons, ← flatten_take l k (fun x hx => h x (by simp [hx])), List.take_append, hs]
    rw [List.take_of_length_le (by rw [hs, Nat.add_mul]; omega)]
    congr 2
    rw [Nat.add_mul]; omega

theorem flatten_length {α : Type} {n : Nat} : ∀ (l : List (List α)), (∀ s ∈ l, s.length = n) → l.flatten.length = l.length * n
  | [], _ => by simp
  | s :: l, h => by
    rw [List.flatten_cons, List.length_append, h s (by simp), flatten_length l (fun x hx => h x (by simp [hx])), List.length_cons, Nat.add_mul]; omega

/-- The part at k. -/
theorem flatten_part {α : Type} {n : Nat} (l : List (List α)) (k : Nat) (h : ∀ s ∈ l, s.length = n) (hk : k < l.length) : (l.flatten.drop (k * n)).take n = l[k] := by
  rw [flatten_drop l k h, List.drop_eq_getElem_cons hk, List.flatten_cons, List.take_append]
  have hs : (l[k]).length = n := h _ (List.getElem_mem hk)
  rw [List.take_of_length_le (by omega), hs]; simp

/-- The part at k in another's place. -/
theorem flatten_set {α : Type} {n : Nat} (l : List (List α)) (k : Nat) (s : List α) (h : ∀ s ∈ l, s.length = n) (hk : k < l.length) :
    (l.set k s).flatten = l.flatten.take (k * n) ++ s ++ l.flatten.drop (k * n + n) := by
  rw [flatten_take l k h, show k * n + n = (k + 1) * n by rw [Nat.add_mul]; omega, flatten_drop l (k + 1) h]
  rw [List.set_eq_take_append_cons_drop, if_pos hk]
  simp

theorem set_length_all {α : Type} {n : Nat} {l : List (List α)} {k : Nat} {s : List α} (h : ∀ x ∈ l, x.length = n) (hs : s.length = n) : ∀ x ∈ l.set k s, x.length = n := by
  intro x hx
  rcases List.mem_or_eq_of_mem_set hx with h1 | h1
  · exact h x h1
  · rw [h1]; exact hs

end Go.Proofs.Ytoiaikgpaobefaa
