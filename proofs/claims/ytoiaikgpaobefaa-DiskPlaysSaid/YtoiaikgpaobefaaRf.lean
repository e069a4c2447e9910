/- The document's disk as it lies in memory. -/
import Derived.Test.YtoiaikgpaobefaaInts
import Derived.Test.YtoiaikgpaobefaaCm
import Derived.Maps.AppendAt
import Derived.LoopTactic
namespace Go.Proofs.Ytoiaikgpaobefaa
open Go.RowKit Go.Maps

/-- A string of a list of bytes, as a value. -/
def strV (s : Sec) : Value := .string (strOf s)
/-- The limit as the document's disk has it. -/
def normLeft (x : Int) : Int := if x < 0 then -1 else x

/-- The five cells of the document's disk. -/
def RCells (w : World) (r : Nat) (vl va vf : Value) (left : Int) (off : Bool) : Prop :=
  w.heap[r]? = some (.cells #[vl, va, vf, .int .i64 left, .bool off] 43 (0, 0))
section
variable {w : World} {r : Nat} {vl va vf : Value} {left : Int} {off : Bool}
theorem RCells.c0 (h : RCells w r vl va vf left off) : w.cell? ⟨r, 0, none⟩ = some vl := by simp [World.cell?, show w.heap[r]? = _ from h]
theorem RCells.c1 (h : RCells w r vl va vf left off) : w.cell? ⟨r, 1, none⟩ = some va := by simp [World.cell?, show w.heap[r]? = _ from h]
theorem RCells.c2 (h : RCells w r vl va vf left off) : w.cell? ⟨r, 2, none⟩ = some vf := by simp [World.cell?, show w.heap[r]? = _ from h]
theorem RCells.c3 (h : RCells w r vl va vf left off) : w.cell? ⟨r, 3, none⟩ = some (.int .i64 left) := by simp [World.cell?, show w.heap[r]? = _ from h]
theorem RCells.c4 (h : RCells w r vl va vf left off) : w.cell? ⟨r, 4, none⟩ = some (.bool off) := by simp [World.cell?, show w.heap[r]? = _ from h]
theorem RCells.fr (h : RCells w r vl va vf left off) (i : Nat) : w.frozen? ⟨r, i, none⟩ = false := by simp [World.frozen?, show w.heap[r]? = _ from h]
theorem RCells.set0 (h : RCells w r vl va vf left off) (x : Value) : RCells (w.setCell ⟨r, 0, none⟩ x) r x va vf left off := by
  have := heap_setCell_same w r 0 _ _ x h
  simpa [RCells] using this
theorem RCells.set1 (h : RCells w r vl va vf left off) (x : Value) : RCells (w.setCell ⟨r, 1, none⟩ x) r vl x vf left off := by
  have := heap_setCell_same w r 1 _ _ x h
  simpa [RCells] using this
theorem RCells.set2 (h : RCells w r vl va vf left off) (x : Value) : RCells (w.setCell ⟨r, 2, none⟩ x) r vl va x left off := by
  have := heap_setCell_same w r 2 _ _ x h
  simpa [RCells] using this
theorem RCells.set3 (h : RCells w r vl va vf left off) (x : Int) : RCells (w.setCell ⟨r, 3, none⟩ (.int .i64 x)) r vl va vf x off := by
  have := heap_setCell_same w r 3 _ _ (.int .i64 x) h
  simpa [RCells] using this
theorem RCells.set4 (h : RCells w r vl va vf left off) (x : Bool) : RCells (w.setCell ⟨r, 4, none⟩ (.bool x)) r vl va vf left x := by
  have := heap_setCell_same w r 4 _ _ (.bool x) h
  simpa [RCells] using this
theorem RCells.keep {w' : World} {S : List Nat} (h : RCells w r vl va vf left off) (ho : Only S w w') (hn : r ∉ S) : RCells w' r vl va vf left off := ho.keep h hn
theorem RCells.lt (h : RCells w r vl va vf left off) : r < w.heap.size := (Array.getElem?_eq_some_iff.1 (show w.heap[r]? = _ from h)).1
end

/-- A slice of cells that is no one else's. -/
def Row (w : World) (e : TypeId) (a : Option Addr) (n cap : Nat) (xs : List Value) : Prop := w.ownsRow 0 e 1 (.slice a n cap) n xs
/-- Its block. -/
def blk (a : Option Addr) : List Nat := match a with | some x => [x.block] | none => []

theorem Row.length {w : World} {e : TypeId} {a : Option Addr} {n cap : Nat} {xs : List Value} (h : Row w e a n cap xs) : xs.length = n := by have := h.1; omega
theorem Row.keep {w w' : World} {S : List Nat} {e : TypeId} {a : Option Addr} {n cap : Nat} {xs : List Value} (h : Row w e a n cap xs) (ho : Only S w w') (hn : ∀ x ∈ blk a, x ∉ S) : Row w' e a n cap xs := by
  refine ⟨h.1, ?_⟩
  rcases h.2 with ⟨h1, h2⟩ | ⟨g, c, cur, h1, h2, h3, h4⟩
  · exact .inl ⟨h1, h2⟩
  · refine .inr ⟨g, c, cur, h1, h2, ho.keep h3 (hn g ?_), h4⟩
    simp only [Value.slice.injEq] at h1
    rw [h1.1]; simp [blk]
theorem Row.lt {w : World} {e : TypeId} {a : Option Addr} {n cap : Nat} {xs : List Value} (h : Row w e a n cap xs) : ∀ x ∈ blk a, x < w.heap.size := by
  intro x hx
  rcases h.2 with ⟨h1, h2⟩ | ⟨g, c, cur, h1, h2, h3, h4⟩
  · simp only [Value.slice.injEq] at h1
    rw [h1.1] at hx; simp [blk] at hx
  · simp only [Value.slice.injEq] at h1
    rw [h1.1] at hx; simp [blk] at hx
    subst hx
    exact (Array.getElem?_eq_some_iff.1 h3).1
theorem Row.nil (w : World) (e : TypeId) : Row w e none 0 0 [] := World.ownsRow_nil w 0 e 1

/-- What is at an index. -/
theorem Row.at {w : World} {e : TypeId} {a : Option Addr} {n cap : Nat} {xs : List Value} (h : Row w e a n cap xs) {j : Nat} (hj : j < n) :
    ∃ g, a = some ⟨g, 0, none⟩ ∧ w.cell? ⟨g, j, none⟩ = some (xs[j]'(by rw [h.length]; exact hj)) ∧ w.frozen? ⟨g, j, none⟩ = false := by
  rcases h.2 with ⟨h1, h2⟩ | ⟨g, c, cur, h1, h2, h3, h4, h5, h6, h7⟩
  · omega
  · simp only [Value.slice.injEq] at h1
    obtain ⟨rfl, -, rfl⟩ := h1
    refine ⟨g, rfl, ?_, by simp [World.frozen?, h3]⟩
    rw [cell_of_row w g j _ _ _ h3]
    have hx : xs[j]? = some (xs[j]'(by rw [h.length]; exact hj)) := List.getElem?_eq_getElem _
    rw [← hx, ← h7, List.getElem?_take, if_pos (by omega)]
    simp
theorem run_index_row {w : World} {t e : TypeId} (ht : Try.prog.underlying t = some (.slice e)) (hz : (Try.prog.info? e).map (·.size) = some 1) {a : Option Addr} {n cap : Nat} {xs : List Value} (h : Row w e a n cap xs) {j : Nat} (hj : j < n) :
    ∃ g, a = some ⟨g, 0, none⟩ ∧ (∀ wx, (Instr.indexAt t (.slice a n cap) (.int .i64 (j : Int))).run Try.prog wx = .ok (.pointer (some ⟨g, j, none⟩)) wx) ∧ w.cell? ⟨g, j, none⟩ = some (xs[j]'(by rw [h.length]; exact hj)) ∧ w.frozen? ⟨g, j, none⟩ = false := by
  obtain ⟨g, rfl, h1, h2⟩ := h.at hj
  refine ⟨g, rfl, fun wx => ?_, h1, h2⟩
  obtain ⟨i, hi, hz'⟩ := Option.map_eq_some_iff.1 hz
  have hlt : ¬ n ≤ j := by omega
  simp [Instr.indexAt, asIntOf, run_underlying ht, sizeOf, typeInfo, hi, hz', hlt, Addr.add_mid]
theorem Row.set {w : World} {e : TypeId} {g n cap : Nat} {xs : List Value} (h : Row w e (some ⟨g, 0, none⟩) n cap xs) (j : Nat) (v : Value) (hj : j < n) : Row (w.setCell ⟨g, j, none⟩ v) e (some ⟨g, 0, none⟩) n cap (xs.set j v) := by
  refine ⟨by rw [List.length_set]; exact h.1, ?_⟩
  rcases h.2 with ⟨h1, h2⟩ | ⟨g', c, cur, h1, h2, h3, h4, h5, h6, h7⟩
  · omega
  · simp only [Value.slice.injEq, Option.some.injEq, Addr.mk.injEq] at h1
    obtain ⟨⟨rfl, -, -⟩, -, rfl⟩ := h1
    refine .inr ⟨g, cap, cur.setIfInBounds j v, rfl, h2, heap_setCell_same w g j _ _ v h3, h4, h5, by simpa using h6, ?_⟩
    rw [← h7, Array.toList_setIfInBounds, List.take_set]

theorem sizeStr : (Try.prog.info? 9).map (·.size) = some 1 := by kernel_rfl
theorem sizeInt : (Try.prog.info? 3).map (·.size) = some 1 := by kernel_rfl

/-- What a log of writes says. -/
def logF (l : List (Int × Sec)) : Int → Option Sec := l.foldl (fun f p => put f p.1 p.2) (fun _ => none)
theorem logF_snoc (l : List (Int × Sec)) (p : Int × Sec) : logF (l ++ [p]) = put (logF l) p.1 p.2 := by unfold logF; rw [List.foldl_append]; rfl
theorem logF_take (l : List (Int × Sec)) (j : Nat) (hj : j < l.length) (k : Int) : logF (l.take (j + 1)) k = if l[j].1 = k then some l[j].2 else logF (l.take j) k := by
  rw [List.take_succ_eq_append_getElem hj, logF_snoc]
  unfold put
  by_cases h : k = l[j].1
  · rw [if_pos h, if_pos h.symm]
  · rw [if_neg h, if_neg (fun x => h x.symm)]

/-- The document's disk in memory: its struct lies in block r, the blocks S are its own. -/
structure RefMem (w : World) (r : Nat) (S : List Nat) (m : DM) (la : Option Addr) (lc : Nat) (aa : Option Addr) (ac : Nat) (fa : Option Addr) (fc : Nat) (log : List (Int × Sec)) : Prop where
  cells : RCells w r (.slice la m.lasts.length lc) (.slice aa log.length ac) (.slice fa log.length fc) (normLeft m.left) m.off
  lasts : Row w 9 la m.lasts.length lc (m.lasts.map strV)
  ats : Row w 3 aa log.length ac (log.map fun p => .int .i64 p.1)
  news : Row w 9 fa log.length fc (log.map fun p => strV p.2)
  own : S = r :: (blk la ++ (blk aa ++ blk fa))
  nodup : S.Nodup
  fresh : ∀ k, m.fresh k = logF log k
  keys : ∀ p ∈ log, 0 ≤ p.1 ∧ p.1 < m.lasts.length ∧ p.2.length = 256

def RefIn (w : World) (r : Nat) (S : List Nat) (m : DM) (K : Nat) : Prop :=
  ∃ la lc aa ac fa fc log, RefMem w r S m la lc aa ac fa fc log ∧ log.length ≤ K

theorem RefMem.keep {w w' : World} {T : List Nat} {r : Nat} {S : List Nat} {m : DM} {la : Option Addr} {lc : Nat} {aa : Option Addr} {ac : Nat} {fa : Option Addr} {fc : Nat} {log : List (Int × Sec)}
    (h : RefMem w r S m la lc aa ac fa fc log) (ho : Only T w w') (hn : ∀ x ∈ S, x ∉ T) : RefMem w' r S m la lc aa ac fa fc log :=
  ⟨h.cells.keep ho (hn r (by rw [h.own]; simp)), h.lasts.keep ho (fun x hx => hn x (by rw [h.own]; simp [hx])), h.ats.keep ho (fun x hx => hn x (by rw [h.own]; simp [hx])),
   h.news.keep ho (fun x hx => hn x (by rw [h.own]; simp [hx])), h.own, h.nodup, h.fresh, h.keys⟩
theorem RefIn.keep {w w' : World} {T : List Nat} {r : Nat} {S : List Nat} {m : DM} {K : Nat} (h : RefIn w r S m K) (ho : Only T w w') (hn : ∀ x ∈ S, x ∉ T) : RefIn w' r S m K := by
  obtain ⟨la, lc, aa, ac, fa, fc, log, h1, h2⟩ := h
  exact ⟨la, lc, aa, ac, fa, fc, log, h1.keep ho hn, h2⟩
theorem RefMem.lt {w : World} {r : Nat} {S : List Nat} {m : DM} {la : Option Addr} {lc : Nat} {aa : Option Addr} {ac : Nat} {fa : Option Addr} {fc : Nat} {log : List (Int × Sec)}
    (h : RefMem w r S m la lc aa ac fa fc log) : ∀ x ∈ S, x < w.heap.size := by
  intro x hx
  rw [h.own] at hx
  simp only [List.mem_cons, List.mem_append] at hx
  rcases hx with rfl | hx | hx | hx
  · exact h.cells.lt
  · exact h.lasts.lt x hx
  · exact h.ats.lt x hx
  · exact h.news.lt x hx
theorem RefIn.lt {w : World} {r : Nat} {S : List Nat} {m : DM} {K : Nat} (h : RefIn w r S m K) : ∀ x ∈ S, x < w.heap.size := by
  obtain ⟨la, lc, aa, ac, fa, fc, log, h1, h2⟩ := h
  exact h1.lt
theorem RefIn.mono {w : World} {r : Nat} {S : List Nat} {m : DM} {K K' : Nat} (h : RefIn w r S m K) (hK : K ≤ K') : RefIn w r S m K' := by
  obtain ⟨la, lc, aa, ac, fa, fc, log, h1, h2⟩ := h
  exact ⟨la, lc, aa, ac, fa, fc, log, h1, by omega⟩

/-- What a call of the document's disk leaves. -/
def Refd (w : World) (r : Nat) (S : List Nat) (m : DM) (K : Nat) (v : Value) (e : Ending) (w' : World) : Prop :=
  e = .returned v ∧ ∃ S', RefIn w' r S' m K ∧ Only S w w' ∧ ∀ x ∈ S', x ∈ S ∨ w.heap.size ≤ x

set_option maxRecDepth 100000 in
/-- Now. -/
theorem now_ref {w : World} {r : Nat} {S : List Nat} {m : DM} {K : Nat} (h : RefIn w r S m K) (hK : K ≤ 1099511627776) (k : Int) :
    Calls Try.prog 38 #[.pointer (some ⟨r, 0, none⟩), .int .i64 k] w fun e w' => e = .returned (.tuple #[strV ((m.fresh k).getD []), .bool (m.fresh k).isSome]) ∧ w = w' := by
  obtain ⟨la, lc, aa, ac, fa, fc, log, hm, hlog⟩ := h
  have c1 := hm.cells.c1
  have c2 := hm.cells.c2
  rw [hm.fresh k]
  have hll : log.length ≤ 1099511627776 := by omega
  have HM := Lib.hid hm
  clear hm
  generalize hR : (Value.tuple #[strV ((logF log k).getD []), .bool (logF log k).isSome]) = R
  have HR := Lib.hid hR
  clear hR
  go_enter Try.func38, Try.ntmps38
  go_wp2
  go_loop [6] (fun i => ∃ j : Nat, j ≤ log.length ∧ i = .int .i64 ((j : Int) - 1) ∧ Hid (logF log k = logF (log.take j) k)) (fun i => (intOf i + 1).toNat)
  case atStart => exact ⟨log.length, Nat.le_refl _, rfl, Lib.hid (by rw [List.take_length])⟩
  case round =>
    obtain ⟨j, hj, rfl, hl⟩ := hrel
    cases j with
    | zero =>
      go_wp2
      go_ret2
      refine ⟨?_, rfl⟩
      rw [← HR.out, hl.out]
      rfl
    | succ j =>
      have e1 : ((j + 1 : Nat) : Int) - 1 = (j : Int) := by omega
      rw [e1]
      have hj' : j < log.length := by omega
      obtain ⟨g, _, i1, i2, _⟩ := run_index_row Try.underlying37 sizeInt HM.out.ats hj'
      obtain ⟨g2, _, i3, i4, _⟩ := run_index_row Try.underlying41 sizeStr HM.out.news hj'
      rw [List.getElem_map] at i2 i4
      have hs := hl.out
      rw [logF_take log j hj'] at hs
      by_cases hk : log[j].1 = k
      · rw [if_pos hk] at hs
        have hq : (log[j].1 == k) = true := by simpa using hk
        have Hs := Lib.hid hs
        have Hk := Lib.hid hk
        clear hk hs hl
        go_wp2
        go_ret2
        refine ⟨?_, rfl⟩
        rw [← HR.out, Hs.out]
        rfl
      · rw [if_neg hk] at hs
        have hq : (log[j].1 == k) = false := by simpa using hk
        have Hs := Lib.hid hs
        clear hk hs hl
        go_wp2
        go_round
        case rel => exact ⟨j, by omega, by go_num, Hs⟩
        case measure => simp [intOf]

end Go.Proofs.Ytoiaikgpaobefaa
