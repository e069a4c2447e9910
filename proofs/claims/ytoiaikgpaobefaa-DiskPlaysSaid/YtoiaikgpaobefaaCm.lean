/- What a crash leaves, sector by sector. -/
import Derived.Test.YtoiaikgpaobefaaCr
import Derived.Test.YtoiaikgpaobefaaFl
import Derived.Test.YtoiaikgpaobefaaDi
namespace Go.Proofs.Ytoiaikgpaobefaa
open Go.RowKit Go.Maps

theorem lay1_get (l : List Sec) (t : Nat) (s : Sec) (c : Nat) (k : Nat) (hk : k < l.length) : (lay1 l t s c)[k]? = if t = k then some (s.take c ++ (l.getD k []).drop c) else l[k]? := by
  unfold lay1
  rw [List.getElem?_set]
  by_cases h : t = k
  · subst h; rw [if_pos rfl, if_pos rfl, if_pos hk]
  · rw [if_neg h, if_neg h]

theorem layOne_get {m : DM} (hm : m.ok) (l : List Sec) (a : Int) (c : Nat) (k : Nat) (hk : k < l.length) :
    (layOne m.fresh l a c)[k]? = if a = k ∧ (m.fresh k).isSome then some (((m.fresh k).getD []).take c ++ (l.getD k []).drop c) else l[k]? := by
  unfold layOne
  cases hf : m.fresh a with
  | none =>
    rw [if_neg]
    rintro ⟨rfl, h⟩
    rw [hf] at h; cases h
  | some s =>
    obtain ⟨h0, h1, h2⟩ := hm.keys a s hf
    rw [lay1_get l _ s c k hk]
    by_cases e : a = (k : Int)
    · subst e
      rw [if_pos (by simp), if_pos ⟨rfl, by rw [hf]; rfl⟩, hf]; rfl
    · rw [if_neg (by omega), if_neg (fun x => e x.1)]

theorem laidAll_get {m : DM} (hm : m.ok) (k : Nat) : ∀ (ks : List Int) (l : List Sec), k < l.length → (∀ x ∈ l, x.length = 256) → l.length = m.lasts.length →
    (laidAll m.fresh l ks)[k]? = if (k : Int) ∈ ks ∧ (m.fresh k).isSome then m.fresh k else l[k]?
  | [], l, _, _, _ => by simp [laidAll]
  | a :: ks, l, hk, hs, hl => by
    have e : laidAll m.fresh l (a :: ks) = laidAll m.fresh (layOne m.fresh l a 256) ks := rfl
    have hl2 := layOne_length m.fresh l a 256
    rw [e, laidAll_get hm k ks _ (by rw [hl2]; exact hk) (layOne_sec hm hs hl a 256 (Nat.le_refl _)) (by rw [hl2]; exact hl), layOne_get hm l a 256 k hk]
    cases hf : m.fresh k with
    | none => simp
    | some s =>
      obtain ⟨_, _, h2⟩ := hm.keys _ s hf
      have hd : (l.getD k []).length = 256 := by
        rw [List.getD_eq_getElem?_getD, List.getElem?_eq_getElem hk]
        exact hs _ (List.getElem_mem hk)
      have ht : s.take 256 ++ (l.getD k []).drop 256 = s := by rw [List.take_of_length_le (by omega), List.drop_eq_nil_of_le (by omega), List.append_nil]
      by_cases h1 : (k : Int) ∈ ks
      · simp [h1]
      · by_cases h3 : a = (k : Int)
        · simp only [Option.getD_some, Option.isSome_some, and_true, h1, h3, if_true, if_false, List.mem_cons, true_or]
          rw [ht]
        · have h4 : ¬ (k : Int) = a := fun x => h3 x.symm
          simp [h1, h3, h4]

/-- What is read behind a crash. -/
theorem crash_now {m : DM} (hm : m.ok) (torn cut : Int) (kept : List Int) (k : Nat) (hk : k < m.lasts.length) :
    (m.crash torn cut kept).now k = if (k : Int) ∈ kept ∧ (m.fresh k).isSome then (m.fresh k).getD zeroSec
      else if torn = k ∧ (m.fresh k).isSome then ((m.fresh k).getD []).take (clampN cut) ++ (m.lasts.getD k []).drop (clampN cut) else m.lasts.getD k zeroSec := by
  have h1 : (m.crash torn cut kept).now k = (m.crashed torn cut kept).getD k zeroSec := rfl
  rw [h1]
  unfold DM.crashed
  rw [List.getD_eq_getElem?_getD, laidAll_get hm k kept _ (by rw [layOne_length]; exact hk) (layOne_sec hm hm.sec rfl torn _ (clampN_le cut)) (layOne_length _ _ _ _), layOne_get hm m.lasts torn _ k hk]
  split
  · rfl
  · split
    · rfl
    · rw [List.getD_eq_getElem?_getD]

/-- A crash that keeps all dirty sectors leaves what is read. -/
theorem crash_all_now {m : DM} (hm : m.ok) (k : Nat) (hk : k < m.lasts.length) : (m.crash (-1) 0 m.dirty).now k = m.now k := by
  rw [crash_now hm (-1) 0 m.dirty k hk, if_neg (c := -1 = (k : Int) ∧ _) (fun x => by have := x.1; omega)]
  unfold DM.now
  cases hf : m.fresh k with
  | none => rw [if_neg (by simp)]; simp
  | some s => rw [if_pos ⟨(mem_dirty hm _).2 (by rw [hf]; rfl), rfl⟩]; rfl

theorem crash_dirty (m : DM) (torn cut : Int) (kept : List Int) : (m.crash torn cut kept).dirty = [] := by
  unfold DM.dirty
  have : (fun i : Nat => ((m.crash torn cut kept).fresh (i : Int)).isSome) = fun _ => false := rfl
  rw [this, List.filter_eq_nil_iff.2 (fun _ _ => by simp)]; rfl

theorem read_n {m : DM} {k : Nat} (hk : k < m.lasts.length) : refN 1 m.lasts.length m.off k 0 = if m.off then 9 else 0 := by
  unfold refN
  rw [if_neg (by omega), if_neg (by omega)]

theorem crash_lasts {m : DM} (hm : m.ok) (x y : Int) (ks : List Int) : (m.crash x y ks).lasts.length = m.lasts.length :=
  (laidAll_sec hm ks _ (layOne_length _ _ _ _) (layOne_sec hm hm.sec rfl _ _ (clampN_le _))).1

theorem dirty_length (m : DM) : m.dirty.length ≤ m.lasts.length := by
  unfold DM.dirty
  rw [List.length_map]
  exact Nat.le_trans (List.length_filter_le _ _) (by simp)

/-- A read behind a crash is never refused. -/
theorem read_crashed {m : DM} (hm : m.ok) (x y : Int) (ks : List Int) {k : Nat} (hk : k < m.lasts.length) : refN 1 (m.crash x y ks).lasts.length (m.crash x y ks).off k 0 = 0 :=
  read_n (by rw [crash_lasts hm]; exact hk)

end Go.Proofs.Ytoiaikgpaobefaa
