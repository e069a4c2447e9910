/- few, rows, the examples. -/
import Derived.Test.YtgmmnbojelekbaaDoorTz
import Derived.Test.YtgmmnbojelekbaaDoorOr
namespace Go.Proofs.YtgmmnbojelekbaaDoor
open Go.RowKit
set_option linter.unusedVariables false
set_option linter.unusedSimpArgs false

def lens (l : List ByteArray) : Nat := (l.map fun s => min s.size 100000).sum
theorem lens_take (l : List ByteArray) (k : Nat) (h : k < l.length) : lens (l.take (k + 1)) = lens (l.take k) + min l[k].size 100000 := by
  unfold lens; rw [take_snoc l k h, List.map_append, List.sum_append]; simp only [List.map_cons, List.map_nil, List.sum_cons, List.sum_nil, Nat.add_zero]
theorem lens_bound (l : List ByteArray) : lens l ≤ 100000 * l.length := by
  induction l with
  | nil => simp [lens]
  | cons s l ih => simp only [lens, List.map_cons, List.sum_cons, List.length_cons] at *; omega
def fewB (l : List ByteArray) : Bool := decide (l.length ≤ 40) && decide ((lens l : Int) ≤ 3000)

set_option maxRecDepth 100000 in
set_option maxHeartbeats 1000000 in
theorem few_calls (a : Option Addr) (cap : Nat) (l : List ByteArray) (w : World) (hl : StrsIn w a l) (hs : Small l) :
    Calls Tryd.prog 15 #[.slice a l.length cap] w fun e w' => e = .returned (.bool (fewB l)) ∧ w = w' := by
  obtain ⟨hs1, hs2⟩ := hs
  go_enter Tryd.func15, Tryd.ntmps15
  go_wp2_with fail
  go_loop [3, 4] (fun n i => ∃ k : Nat, k ≤ l.length ∧ k ≤ 41 ∧ i = iv k ∧ n = iv (lens (l.take k))) (fun _ i => (41 - intOf i).toNat)
  case atStart => exact ⟨0, Nat.zero_le _, by omega, rfl, by simp [lens]⟩
  case round =>
    obtain ⟨k, hk, hk2, rfl, rfl⟩ := hrel
    have hb := lens_bound (l.take k)
    have hbl : (l.take k).length = k := by rw [List.length_take]; omega
    rw [hbl] at hb
    by_cases hlt : k < l.length ∧ k ≤ 40
    · obtain ⟨h1, h2⟩ := hlt
      have h1' : (k : Int) < (l.length : Int) := by omega
      have h2' : (k : Int) ≤ 40 := by omega
      obtain ⟨b, off, rfl, hlw⟩ := hl.form h1
      have c0 := hlw k h1
      have hz := hs2 _ (List.getElem_mem h1)
      have E := Lib.hid (lens_take l k h1)
      clear hl hbl
      go_wp2_with fail
      go_round
      case rel => exact ⟨k + 1, by omega, by omega, by go_num, by rw [E.out]; congr 1; omega⟩
      case measure => simp [intOf]; omega
    · by_cases h1 : k < l.length
      · have h2 : k = 41 := by omega
        subst h2
        have h1' : ((41 : Nat) : Int) < (l.length : Int) := by omega
        have hf : fewB l = false := by unfold fewB; simp; omega
        have h3 : (40 : Int) < (l.length : Int) := by omega
        go_wp2_with fail
        go_ret
        exact ⟨rfl, rfl⟩
      · obtain rfl : k = l.length := by omega
        rw [List.take_length] at hb
        by_cases h3 : l.length ≤ 40
        · have h3' : (l.length : Int) ≤ 40 := by omega
          go_wp2_with fail
          go_ret
          exact ⟨by unfold fewB; simp [h3], rfl⟩
        · have h3' : (40 : Int) < (l.length : Int) := by omega
          have hf : fewB l = false := by unfold fewB; simp; omega
          go_wp2_with fail
          go_ret
          exact ⟨rfl, rfl⟩
theorem lens_flat (l : List ByteArray) (n : Nat) (hn : n < 100000) (h : lens l ≤ n) : (∀ s ∈ l, s.size ≤ n) ∧ (flat l).length ≤ n := by
  induction l generalizing n with
  | nil => simp [flat]
  | cons s l ih =>
    have e : lens (s :: l) = min s.size 100000 + lens l := by simp [lens]
    rw [e] at h
    obtain ⟨a, b⟩ := ih (n - min s.size 100000) (by omega) (by omega)
    refine ⟨fun t ht => ?_, ?_⟩
    · rcases List.mem_cons.1 ht with rfl | ht
      · omega
      · have := a t ht; omega
    · rw [show flat (s :: l) = bts s ++ flat l from rfl, List.length_append, bts_length]; omega
theorem few_spec {l : List ByteArray} (h : fewB l = true) : l.length ≤ 40 ∧ (flat l).length ≤ 3000 ∧ ∀ s ∈ l, s.size ≤ 3000 := by
  unfold fewB at h
  simp at h
  obtain ⟨a, b⟩ := lens_flat l 3000 (by omega) (by omega)
  exact ⟨h.1, b, a⟩

/-- How many texts rows have. -/
def cnt (ls : List (List ByteArray)) : Nat := (ls.map List.length).sum
theorem cnt_take (l : List (List ByteArray)) (k : Nat) (h : k < l.length) : cnt (l.take (k + 1)) = cnt (l.take k) + l[k].length := by
  unfold cnt; rw [take_snoc l k h, List.map_append, List.sum_append]; simp only [List.map_cons, List.map_nil, List.sum_cons, List.sum_nil, Nat.add_zero]
theorem cnt_bound (l : List (List ByteArray)) (h : ∀ r ∈ l, r.length ≤ 40) : cnt l ≤ 40 * l.length := by
  induction l with
  | nil => simp [cnt]
  | cons s l ih =>
    have := ih (fun r hr => h r (List.mem_cons_of_mem _ hr))
    have := h s (by simp)
    simp only [cnt, List.map_cons, List.sum_cons, List.length_cons] at *; omega
def rowsFew (ls : List (List ByteArray)) : Bool := decide (ls.length ≤ 20) && ls.all fewB && decide (cnt ls ≤ 100)
theorem all_take {α : Type} {p : α → Bool} (l : List α) (k : Nat) (h : k < l.length) (h1 : (l.take k).all p = true) (h2 : p l[k] = true) : (l.take (k + 1)).all p = true := by
  rw [take_snoc l k h, List.all_append, h1]; simp [h2]

set_option maxRecDepth 100000 in
set_option maxHeartbeats 1000000 in
theorem rowsFew_calls (a : Option Addr) (cap : Nat) (ls : List (List ByteArray)) (w : World) (hl : RowsIn w a ls) (hs : SmallR ls) :
    Calls Tryd.prog 21 #[.slice a ls.length cap] w fun e w' => e = .returned (.bool (rowsFew ls)) ∧ w = w' := by
  obtain ⟨hs1, hs2⟩ := hs
  have HS := Lib.hid hs2
  clear hs2
  go_enter Tryd.func21, Tryd.ntmps21
  go_wp2_with fail
  go_loop [3, 4] (fun n i => ∃ k : Nat, k ≤ ls.length ∧ k ≤ 21 ∧ i = iv k ∧ n = iv (cnt (ls.take k)) ∧ Hid ((ls.take k).all fewB = true)) (fun _ i => (21 - intOf i).toNat)
  case atStart => exact ⟨0, Nat.zero_le _, by omega, rfl, by simp [cnt], Lib.hid rfl⟩
  case round =>
    obtain ⟨k, hk, hk2, rfl, rfl, hall⟩ := hrel
    have hb := cnt_bound (ls.take k) (fun r hr => (few_spec (List.all_eq_true.1 hall.out r hr)).1)
    have hbl : (ls.take k).length = k := by rw [List.length_take]; omega
    rw [hbl] at hb
    by_cases hlt : k < ls.length ∧ k ≤ 20
    · obtain ⟨h1, h2⟩ := hlt
      have h1' : (k : Int) < (ls.length : Int) := by omega
      have h2' : (k : Int) ≤ 20 := by omega
      obtain ⟨b, off, rfl, hlw⟩ := hl.form h1
      obtain ⟨v, ck, a1, c1, rfl, s1, y1⟩ := hlw k h1
      have hz := (HS.out _ (List.getElem_mem h1)).1
      have F := few_calls a1 c1 ls[k] w s1 (HS.out _ (List.getElem_mem h1))
      have E := Lib.hid (cnt_take ls k h1)
      rcases hf : fewB ls[k] with _ | _
      · rw [hf] at F
        have RF := Lib.hid (show rowsFew ls = false by
          unfold rowsFew
          rw [show ls.all fewB = false from List.all_eq_false.2 ⟨_, List.getElem_mem h1, by rw [hf]; decide⟩]; simp)
        clear hl hbl s1 hf
        go_wp2_with fail
        refine (F).mono ?_; rintro e w' ⟨rfl, rfl⟩
        go_wp2_with fail
        go_ret
        exact ⟨by rw [RF.out]; rfl, rfl⟩
      · rw [hf] at F
        have AL := Lib.hid (all_take ls k h1 hall.out hf)
        have hz2 := (few_spec hf).1
        clear hl hbl s1 hf
        go_wp2_with fail
        refine (F).mono ?_; rintro e w' ⟨rfl, rfl⟩
        go_wp2_with fail
        go_round
        case rel => exact ⟨k + 1, by omega, by omega, by go_num, by rw [E.out]; congr 1, AL⟩
        case measure => simp [intOf]; omega
    · by_cases h1 : k < ls.length
      · have h2 : k = 21 := by omega
        subst h2
        have h1' : ((21 : Nat) : Int) < (ls.length : Int) := by omega
        have h3 : (20 : Int) < (ls.length : Int) := by omega
        have RF := Lib.hid (show rowsFew ls = false by unfold rowsFew; rw [decide_eq_false (by omega)]; rfl)
        go_wp2_with fail
        go_ret
        exact ⟨by rw [RF.out]; rfl, rfl⟩
      · obtain rfl : k = ls.length := by omega
        have hal := hall.out
        rw [List.take_length] at hb hal
        have HA := Lib.hid hal
        clear hal
        by_cases h3 : ls.length ≤ 20
        · have h3' : (ls.length : Int) ≤ 20 := by omega
          have RF := Lib.hid (show rowsFew ls = decide ((cnt ls : Int) ≤ 100) by
            unfold rowsFew; rw [decide_eq_true h3, HA.out]; simp only [Bool.true_and]; congr 1; simp; omega)
          go_wp2_with fail
          go_ret
          exact ⟨by rw [RF.out]; simp, rfl⟩
        · have h3' : (20 : Int) < (ls.length : Int) := by omega
          have RF := Lib.hid (show rowsFew ls = false by unfold rowsFew; rw [decide_eq_false (by omega)]; rfl)
          go_wp2_with fail
          go_ret
          exact ⟨by rw [RF.out]; rfl, rfl⟩
theorem rowsFew_spec {ls : List (List ByteArray)} (h : rowsFew ls = true) : ls.length ≤ 20 ∧ (∀ r ∈ ls, r.length ≤ 40 ∧ (flat r).length ≤ 3000) ∧ wt ls ≤ 60800 := by
  unfold rowsFew at h
  simp only [Bool.and_eq_true, decide_eq_true_eq] at h
  obtain ⟨⟨h1, h2⟩, h3⟩ := h
  have hr : ∀ r ∈ ls, r.length ≤ 40 ∧ (flat r).length ≤ 3000 := fun r hr => by
    have := few_spec (List.all_eq_true.1 h2 r hr)
    exact ⟨this.1, this.2.1⟩
  refine ⟨h1, hr, ?_⟩
  clear h2 h3
  have : ∀ m : List (List ByteArray), (∀ r ∈ m, r.length ≤ 40 ∧ (flat r).length ≤ 3000) → wt m ≤ 3040 * m.length := by
    intro m
    induction m with
    | nil => intro _; simp [wt]
    | cons r m ih =>
      intro hm
      have a := ih (fun r hr => hm r (List.mem_cons_of_mem _ hr))
      have b := hm r (by simp)
      rw [wt_cons, List.length_cons]; omega
  have := this ls hr
  omega

theorem rows3 (w : World) (s s1 s2 : ByteArray) (t t2 : TypeId) :
    RowsIn (((w.alloc (.cells #[.string s] t)).alloc (.cells #[.string s1, .string s2] t)).alloc (.cells #[.slice (some ⟨w.heap.size, 0, none⟩) 1 1, .slice none 0 0, .slice (some ⟨w.heap.size + 1, 0, none⟩) 2 2] t2)) (some ⟨w.heap.size + 2, 0, none⟩) [[s], [], [s1, s2]] := by
  have h1 := (strs1 w s t).below (below_alloc (w.alloc (.cells #[.string s] t)) (.cells #[.string s1, .string s2] t))
  have h1' := h1.below (below_alloc _ (.cells #[.slice (some ⟨w.heap.size, 0, none⟩) 1 1, .slice none 0 0, .slice (some ⟨w.heap.size + 1, 0, none⟩) 2 2] t2))
  have h2 := (strs2 (w.alloc (.cells #[.string s] t)) s1 s2 t).below (below_alloc _ (.cells #[.slice (some ⟨w.heap.size, 0, none⟩) 1 1, .slice none 0 0, .slice (some ⟨w.heap.size + 1, 0, none⟩) 2 2] t2))
  have e : (w.alloc (.cells #[.string s] t)).heap.size = w.heap.size + 1 := by simp
  rw [e] at h2
  have hb := heap_alloc_last ((w.alloc (.cells #[.string s] t)).alloc (.cells #[.string s1, .string s2] t)) (.cells #[.slice (some ⟨w.heap.size, 0, none⟩) 1 1, .slice none 0 0, .slice (some ⟨w.heap.size + 1, 0, none⟩) 2 2] t2)
  have e2 : ((w.alloc (.cells #[.string s] t)).alloc (.cells #[.string s1, .string s2] t)).heap.size = w.heap.size + 2 := by simp
  rw [e2] at hb
  refine .inr ⟨_, _, rfl, fun i hi => ?_⟩
  rw [cell_of_row _ _ _ _ _ _ hb]
  match i, hi with
  | 0, _ => exact ⟨_, rfl, _, _, rfl, h1', by simp⟩
  | 1, _ => exact ⟨_, rfl, _, _, rfl, .inl rfl, by simp⟩
  | 2, _ => exact ⟨_, rfl, _, _, rfl, h2, by simp⟩

theorem ex_esc : esc (bts ⟨#[97, 59, 98, 44, 99]⟩) = some [97, 92, 59, 98, 92, 44, 99] := by decide +kernel
theorem ex_unlist : unrowO (bts ⟨#[97, 92, 44, 98, 44, 99]⟩) = some [[97, 44, 98], [99]] := by decide +kernel
theorem ex_fields : fieldsO (rowsB [[⟨#[120]⟩], [], [⟨#[121]⟩, ⟨#[122]⟩]]) = some [120, 59, 59, 121, 44, 122] := by decide +kernel

set_option maxRecDepth 100000 in
set_option maxHeartbeats 2000000 in
theorem alive_calls (x : Addr) (w : World) (hx : Laid x w) :
    Calls Tryd.prog 9 #[] w fun e w' => e = .returned (.bool true) ∧ Below w.heap.size w w' := by
  have p1 := escape_calls x ⟨#[97, 59, 98, 44, 99]⟩ (by decide) w hx
  rw [ex_esc] at p1
  have p2 := fun (w : World) (hx : Laid x w) => unlist_calls x ⟨#[97, 92, 44, 98, 44, 99]⟩ (by decide) w hx
  rw [ex_unlist] at p2
  have p3 := fun (w : World) (hx : Laid x w) => fields_calls x (some ⟨w.heap.size + 2, 0, none⟩) 3 [[⟨#[120]⟩], [], [⟨#[121]⟩, ⟨#[122]⟩]] (((w.alloc (.cells #[.string ⟨#[120]⟩] 9)).alloc (.cells #[.string ⟨#[121]⟩, .string ⟨#[122]⟩] 9)).alloc (.cells #[.slice (some ⟨w.heap.size, 0, none⟩) 1 1, .slice none 0 0, .slice (some ⟨w.heap.size + 1, 0, none⟩) 2 2] 31)) (((hx.alloc _).alloc _).alloc _) (rows3 _ _ _ _ _ _) (by simp) (by simp) (by decide +kernel)
  rw [if_neg (by simp), ex_fields] at p3
  go_enter Tryd.func9, Tryd.ntmps9
  go_wp2_with fail
  refine (p1).mono ?_; rintro e w1 ⟨rfl, b1⟩
  have x1 := hx.below b1
  rw [show saidV (some [97, 92, 59, 98, 92, 44, 99]) = .tuple #[.string ⟨#[97, 92, 59, 98, 92, 44, 99]⟩, .nilIface] from rfl]
  go_wp2_with fail
  refine (p2 _ x1).mono ?_; rintro e w2 ⟨v2, rfl, own2, b2⟩
  have x2 := x1.below b2
  rw [show errS (some [[97, 44, 98], [99]] : Option (List (List UInt8))) = .nilIface from rfl]
  have in2 := own2.slice
  obtain ⟨a2, c2, rfl, in2, y2⟩ := in2
  clear own2
  go_wp2_with (first
    | (refine wpList_bs_str1 rfl _ rfl rfl ?_)
    | (refine wpList_bs_str2 rfl _ _ rfl rfl rfl ?_)
    | (refine wpList_bs_row3 rfl _ _ _ rfl rfl rfl rfl ?_))
  refine (p3 _ x2).mono ?_; rintro e w3 ⟨rfl, b3⟩
  rw [show saidV (some [120, 59, 59, 121, 44, 122]) = .tuple #[.string ⟨#[120, 59, 59, 121, 44, 122]⟩, .nilIface] from rfl]
  have bb3 := (((below_alloc w2 (.cells #[.string ⟨#[120]⟩] 9)).alloc (by simp) (.cells #[.string ⟨#[121]⟩, .string ⟨#[122]⟩] 9)).alloc (by simp; omega) (.cells #[.slice (some ⟨w2.heap.size, 0, none⟩) 1 1, .slice none 0 0, .slice (some ⟨w2.heap.size + 1, 0, none⟩) 2 2] 31)).trans (b3.mono (by simp; omega))
  have in3 := in2.below bb3
  clear b3
  go_wp2_with (refine wpList_bs_str2 rfl _ _ rfl rfl rfl ?_)
  have in4 := in3.below (below_alloc w3 (.cells #[.string ⟨#[97, 44, 98]⟩, .string ⟨#[99]⟩] 9))
  have sm := same_calls a2 (some ⟨w3.heap.size, 0, none⟩) c2 2 [⟨#[97, 44, 98]⟩, ⟨#[99]⟩] [⟨#[97, 44, 98]⟩, ⟨#[99]⟩] _ in4 (strs2 _ _ _ _) (by simp) (by simp)
  rw [show sameB [⟨#[97, 44, 98]⟩, ⟨#[99]⟩] [⟨#[97, 44, 98]⟩, ⟨#[99]⟩] = true from decide_eq_true rfl] at sm
  refine sm.mono ?_; rintro e w4 ⟨rfl, b4⟩
  go_wp2_with fail
  refine (no_nil _).mono ?_; rintro e w' ⟨rfl, rfl⟩
  go_wp2_with fail
  refine (no_nil _).mono ?_; rintro e w' ⟨rfl, rfl⟩
  go_wp2_with fail
  refine (no_nil _).mono ?_; rintro e w' ⟨rfl, rfl⟩
  go_wp2_with fail
  go_ret
  exact ⟨rfl, below_then b1 (below_then b2 (below_then bb3 (below_front b4)))⟩
end Go.Proofs.YtgmmnbojelekbaaDoor
