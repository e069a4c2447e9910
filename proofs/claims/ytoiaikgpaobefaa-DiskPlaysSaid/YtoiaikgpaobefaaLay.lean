/- lay. -/
import Derived.Test.YtoiaikgpaobefaaRd
import Derived.StillTailTactics
namespace Go.Proofs.Ytoiaikgpaobefaa
open Go.RowKit Go.Extern.Stop Go.Stop Go.Extern Go.Maps

set_option maxRecDepth 100000 in
theorem lay_clean {w : World} {b L M N : Nat} {m : DM} (h : DiskIn w b L M N m) (b2 : Nat) (k x : Int) (hk : Fits k) (hs : m.fresh k = none) :
    Calls Try.prog 41 #[.pointer (some ⟨b, 0, none⟩), .pointer (some ⟨b2, 0, none⟩), .int .i64 k, .int .i64 x] w fun e w' => e = .returned (.tuple #[]) ∧ Below w.heap.size w w' := by
  have c1 := h.cells.c1
  have hl := h.fresh.look hk
  rw [hs] at hl
  simp only [Option.getD_none, Option.isSome_none] at hl
  have hz := zeroSecA
  go_enter Try.func41, Try.ntmps41
  go_wp2_with (refine wpList_store_new rfl 79 (.tmp 8) (.tmp 17) rfl _ _ rfl rfl (sizeSec zeroSec_length) rfl (all_cellsOf _) ?_)
  go_end0
  exact ⟨rfl, (Below.refl _ _).alloc (Nat.le_refl _) _⟩

/-- Sectors, the first c bytes of s laid into the one at k. -/
def lay1 (l : List Sec) (k : Nat) (s : Sec) (c : Nat) : List Sec := l.set k (s.take c ++ (l.getD k []).drop c)

theorem lay1_length (l : List Sec) (k : Nat) (s : Sec) (c : Nat) : (lay1 l k s c).length = l.length := by simp [lay1]
theorem lay1_sec {l : List Sec} {k : Nat} {s : Sec} {c : Nat} (h : ∀ x ∈ l, x.length = 256) (hk : k < l.length) (hs : s.length = 256) (hc : c ≤ 256) : ∀ x ∈ lay1 l k s c, x.length = 256 := by
  refine set_length_all h ?_
  have := h _ (List.getElem_mem hk)
  simp only [List.length_append, List.length_take, List.length_drop, List.getD_eq_getElem?_getD, List.getElem?_eq_getElem hk, Option.getD_some]
  omega

theorem lay1_flatten {l : List Sec} {k : Nat} {s : Sec} {c : Nat} (h : ∀ x ∈ l, x.length = 256) (hk : k < l.length) (hc : c ≤ 256) :
    l.flatten.take (k * 256) ++ (s.take c ++ l.flatten.drop (k * 256 + c)) = (lay1 l k s c).flatten := by
  unfold lay1
  rw [flatten_set l k _ h hk, List.append_assoc, List.append_assoc]
  congr 2
  have hp := flatten_part l k h hk
  rw [List.getD_eq_getElem?_getD, List.getElem?_eq_getElem hk, Option.getD_some, ← hp, List.drop_take, List.drop_drop]
  have e : k * 256 + 256 = (k * 256 + c) + (256 - c) := by omega
  rw [e, ← List.drop_drop (i := 256 - c), List.take_append_drop]

theorem flat_lay {l : List Sec} {k : Nat} {s : Sec} {c : Nat} (h : ∀ x ∈ l, x.length = 256) (hk : k < l.length) (hs : s.length = 256) (hc : c ≤ 256) :
    ((flat l).toList.take (k * 256) ++ ((s.take c).map bv ++ (flat l).toList.drop (k * 256 + ((s.take c).map bv).length))).toArray = flat (lay1 l k s c) := by
  have hl : ((s.take c).map bv).length = c := by simp; omega
  rw [hl]
  unfold flat cellsOf
  rw [← lay1_flatten h hk hc]
  simp only [List.map_append, List.map_take, List.map_drop]

/-- What lay leaves. -/
def Laid (w : World) (L2 : Nat) (l : List Sec) (e : Ending) (w' : World) : Prop :=
  e = .returned (.tuple #[]) ∧ w'.heap[L2]? = some (.cells (flat l) 79 (0, 0)) ∧ Only [L2] w w'

/-- The copy at lay's end. -/
theorem lay_copy {w : World} {L2 k c : Nat} {s : Sec} {l2 : List Sec} {o : Oper} {ops : Array Oper} {a : Act} {Q : Exit → Act → World → Prop} (hgd : o.guard = none)
    (ho : o.op = .call { callee := .builtin .copy, args := #[.tmp 26, .tmp 30], argTypes := #[47, 47] })
    (hd : a.eval (.tmp 26) = .slice (some ⟨L2, k * 256, none⟩) 256 256) (hs : a.eval (.tmp 30) = .slice (some ⟨w.heap.size, 0, none⟩) c 256)
    (hL2 : w.heap[L2]? = some (.cells (flat l2) 79 (0, 0))) (hk : k < l2.length) (hsl : s.length = 256) (hl2 : ∀ x ∈ l2, x.length = 256) (hc : c ≤ 256)
    (h : ∀ w', w'.heap[L2]? = some (.cells (flat (lay1 l2 k s c)) 79 (0, 0)) → Only [L2] w w' → wpList Try.prog ops Q [] (a.put o.dst (goInt c)) w') :
    wpList Try.prog ops Q [o] a (w.alloc (.cells (cellsOf s) 79)).drew := by
  have hlt : L2 < w.heap.size := (Array.getElem?_eq_some_iff.1 hL2).1
  have hg : ((w.alloc (.cells (cellsOf s) 79)).drew).heap[L2]? = some (.cells (flat l2) 79 (0, 0)) := (heap_alloc_old _ _ hlt).trans hL2
  have hlen : ((s.take c).map bv).length = c := by simp; omega
  refine wpList_copy_own hgd (.tmp 26) (.tmp 30) 47 47 ho 5 Try.underlying47 sizeByte L2 (k * 256) 256 256 ⟨w.heap.size, 0, none⟩ c 256 hd hs (flat l2) 79 hg ((s.take c).map bv)
    (by rw [hlen]; show c = min c 256; omega) (fun j v hv => ?_) ?_ (bvs_one _) ?_
  · have hadd : (⟨w.heap.size, 0, none⟩ : Addr).add j = ⟨w.heap.size, j, none⟩ := by unfold Addr.add; split <;> simp_all
    rw [hadd, World.cell?_drew, World.cell?_alloc_new, cellsOf_get]
    rw [List.getElem?_map, List.getElem?_take] at hv
    split at hv
    · exact hv
    · simp at hv
  · rw [hlen]
    have hfl := flatten_length l2 hl2
    have hle : k * 256 + 256 ≤ l2.flatten.length := by rw [hfl, ← Nat.succ_mul]; exact Nat.mul_le_mul_right _ hk
    unfold flat; rw [size_cellsOf]; omega
  · rw [flat_lay hl2 hk hsl hc, hlen]
    refine h _ (setRow_heap _ _ _ _ _ _ hg) ?_
    exact (((Only.refl _ _).alloc _).drew).setRow (by simp) _

set_option maxRecDepth 100000 in
set_option maxHeartbeats 1000000 in
theorem lay_dirty {w : World} {b L M N : Nat} {m : DM} (h : DiskIn w b L M N m) (b2 L2 : Nat) (k : Nat) (x : Int) (s : Sec) (hs : m.fresh k = some s) (l2 : List Sec) (hk : k < l2.length)
    (hc2 : w.cell? ⟨b2, 0, none⟩ = some (.slice (some ⟨L2, 0, none⟩) l2.length l2.length)) (hL2 : w.heap[L2]? = some (.cells (flat l2) 79 (0, 0))) (hf : l2.length ≤ 8192) (hsl : s.length = 256) (hl2 : ∀ x ∈ l2, x.length = 256)
    (c : Nat) (hc : c ≤ 256) (hx : (x < 0 ∧ c = 0) ∨ (0 ≤ x ∧ x ≤ 256 ∧ x = c) ∨ (256 < x ∧ c = 256)) :
    Calls Try.prog 41 #[.pointer (some ⟨b, 0, none⟩), .pointer (some ⟨b2, 0, none⟩), .int .i64 k, .int .i64 x] w (Laid w L2 (lay1 l2 k s c)) := by
  have c1 := h.cells.c1
  have hl := h.fresh.look (k := k) ⟨by omega, by omega⟩
  rw [hs] at hl
  simp only [Option.getD_some, Option.isSome_some] at hl
  have hz := zeroSecA
  have hz0 : (cellsOf zeroSec).size = (cellsOf s).size := by rw [size_cellsOf, size_cellsOf, hsl]; exact zeroSec_length
  have hltb := h.ltb
  have hltb2 : b2 < w.heap.size := block_lt_of_cell hc2
  have hi1 : ((k : Int) * 256).toNat = k * 256 := by omega
  rcases hx with ⟨hx1, rfl⟩ | ⟨hx1, hx2, rfl⟩ | ⟨hx1, rfl⟩
  · go_enter Try.func41, Try.ntmps41
    go_wp2_with (refine wpList_store_new rfl 79 (.tmp 8) (.tmp 17) rfl _ _ rfl rfl (sizeSec hsl) hz0 (all_cellsOf _) ?_)
    refine region_tail 11 (by kernel_rfl) (by kernel_rfl) ?_
    simp only [List.take_succ_cons, List.take_zero, List.drop_succ_cons, List.drop_zero]
    repeat still_step
    try refine wpStill_nil ?_
    refine lay_copy (s := s) (l2 := l2) rfl rfl rfl rfl hL2 hk hsl hl2 hc (fun w' h1 h2 => ?_)
    go_wp2
    go_end0
    exact ⟨rfl, h1, h2⟩
  · go_enter Try.func41, Try.ntmps41
    go_wp2_with (refine wpList_store_new rfl 79 (.tmp 8) (.tmp 17) rfl _ _ rfl rfl (sizeSec hsl) hz0 (all_cellsOf _) ?_)
    have hn1 : ((c : Int) < 0) = False := eq_false (by omega)
    have hn2 : ((256 : Int) < (c : Int)) = False := eq_false (by omega)
    refine region_tail 11 (by kernel_rfl) (by kernel_rfl) ?_
    simp only [List.take_succ_cons, List.take_zero, List.drop_succ_cons, List.drop_zero]
    repeat still_step
    try refine wpStill_nil ?_
    refine lay_copy (s := s) (l2 := l2) rfl rfl rfl rfl hL2 hk hsl hl2 hc (fun w' h1 h2 => ?_)
    go_wp2
    go_end0
    exact ⟨rfl, h1, h2⟩
  · go_enter Try.func41, Try.ntmps41
    go_wp2_with (refine wpList_store_new rfl 79 (.tmp 8) (.tmp 17) rfl _ _ rfl rfl (sizeSec hsl) hz0 (all_cellsOf _) ?_)
    have hn1 : (x < 0) = False := eq_false (by omega)
    refine region_tail 11 (by kernel_rfl) (by kernel_rfl) ?_
    simp only [List.take_succ_cons, List.take_zero, List.drop_succ_cons, List.drop_zero]
    repeat still_step
    try refine wpStill_nil ?_
    refine lay_copy (s := s) (l2 := l2) rfl rfl rfl rfl hL2 hk hsl hl2 hc (fun w' h1 h2 => ?_)
    go_wp2
    go_end0
    exact ⟨rfl, h1, h2⟩

/-- The sectors l, the first c bytes of k's new content, if it has one, laid into the one at k. -/
def layOne (f : Int → Option Sec) (l : List Sec) (k : Int) (c : Nat) : List Sec :=
  match f k with
  | some s => lay1 l k.toNat s c
  | none => l
/-- A number as a number of a sector's bytes. -/
def clampN (x : Int) : Nat := if x < 0 then 0 else if 256 < x then 256 else x.toNat

theorem layOne_length (f : Int → Option Sec) (l : List Sec) (k : Int) (c : Nat) : (layOne f l k c).length = l.length := by
  unfold layOne; split
  · exact lay1_length _ _ _ _
  · rfl
theorem clampN_le (x : Int) : clampN x ≤ 256 := by unfold clampN; repeat' split
                                                   all_goals omega
theorem layOne_sec {m : DM} (hm : m.ok) {l : List Sec} (hl : ∀ x ∈ l, x.length = 256) (hn : l.length = m.lasts.length) (k : Int) (c : Nat) (hc : c ≤ 256) : ∀ x ∈ layOne m.fresh l k c, x.length = 256 := by
  unfold layOne
  cases hf : m.fresh k with
  | none => exact hl
  | some s =>
    obtain ⟨h0, h1, h2⟩ := hm.keys k s hf
    exact lay1_sec hl (by omega) h2 hc

/-- lay. -/
theorem lay_any {w : World} {b L M N : Nat} {m : DM} (h : DiskIn w b L M N m) (b2 L2 : Nat) (k x : Int) (hk : Fits k) (l2 : List Sec) (hn : l2.length = m.lasts.length)
    (hc2 : w.cell? ⟨b2, 0, none⟩ = some (.slice (some ⟨L2, 0, none⟩) l2.length l2.length)) (hL2 : w.heap[L2]? = some (.cells (flat l2) 79 (0, 0))) (hl2 : ∀ x ∈ l2, x.length = 256) :
    Calls Try.prog 41 #[.pointer (some ⟨b, 0, none⟩), .pointer (some ⟨b2, 0, none⟩), .int .i64 k, .int .i64 x] w (Laid w L2 (layOne m.fresh l2 k (clampN x))) := by
  unfold layOne
  cases hf : m.fresh k with
  | none =>
    refine (lay_clean h b2 k x hk hf).mono ?_
    rintro e w' ⟨rfl, hb⟩
    exact ⟨rfl, (Below.only (S := []) hb).keep hL2 (by simp), Below.only hb⟩
  | some s =>
    obtain ⟨h0, h1, h2⟩ := h.ok.keys k s hf
    obtain ⟨n, rfl⟩ := Int.eq_ofNat_of_zero_le h0
    have hfew := h.ok.few
    rw [Int.toNat_natCast]
    refine lay_dirty h b2 L2 n x s hf l2 (by omega) hc2 hL2 (by omega) h2 hl2 (clampN x) (clampN_le x) ?_
    unfold clampN
    repeat' split
    all_goals omega

end Go.Proofs.Ytoiaikgpaobefaa
