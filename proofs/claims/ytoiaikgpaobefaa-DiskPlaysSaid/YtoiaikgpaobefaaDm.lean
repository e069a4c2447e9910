/- A disk as it lies in memory, and its calls that make it or only look. -/
import Derived.Test.YtoiaikgpaobefaaDsk
import Derived.Test.YtoiaikgpaobefaaMem
import Derived.Deep.WholeRow
namespace Go.Proofs.Ytoiaikgpaobefaa
open Go.RowKit Go.Extern.Stop Go.Stop Go.Extern Go.Maps

/-- What a disk is: its sectors' contents that last, the new ones, the limit, is it off? -/
structure DM where
  lasts : List Sec
  fresh : Int → Option Sec
  left : Int
  off : Bool

/-- A disk of n sectors of noughts. -/
def DM.made (n : Nat) : DM := ⟨List.replicate n zeroSec, fun _ => none, -1, false⟩

/-- What is right of each disk. -/
structure DM.ok (m : DM) : Prop where
  pos : 0 < m.lasts.length
  few : m.lasts.length ≤ 8192
  sec : ∀ s ∈ m.lasts, s.length = 256
  keys : ∀ k s, m.fresh k = some s → 0 ≤ k ∧ k < m.lasts.length ∧ s.length = 256
  left : Fits m.left

/-- The cells of many sectors. -/
def flat (l : List Sec) : Array Value := cellsOf l.flatten

/-- A disk in memory: its struct lies in block b, what lasts in L, the map in M (at most N entries). -/
structure DiskIn (w : World) (b L M N : Nat) (m : DM) : Prop where
  cells : DCells w b L M m.lasts.length m.left m.off
  lasts : w.heap[L]? = some (.cells (flat m.lasts) 79 (0, 0))
  fresh : MapIs w M N m.fresh
  ne : L ≠ b
  ok : m.ok

theorem DCells.keep {w w' : World} {S : List Nat} {b L M n : Nat} {left : Int} {off : Bool} (h : DCells w b L M n left off) (ho : Only S w w') (hn : b ∉ S) : DCells w' b L M n left off := ho.keep h hn
theorem DiskIn.keep {w w' : World} {S : List Nat} {b L M N : Nat} {m : DM} (h : DiskIn w b L M N m) (ho : Only S w w') (h1 : b ∉ S) (h2 : L ∉ S) (h3 : M ∉ S) : DiskIn w' b L M N m :=
  ⟨ho.keep h.cells h1, ho.keep h.lasts h2, h.fresh.keep ho h3, h.ne, h.ok⟩
theorem DiskIn.ltb {w : World} {b L M N : Nat} {m : DM} (h : DiskIn w b L M N m) : b < w.heap.size := (Array.getElem?_eq_some_iff.1 (show w.heap[b]? = _ from h.cells)).1
theorem DiskIn.ltL {w : World} {b L M N : Nat} {m : DM} (h : DiskIn w b L M N m) : L < w.heap.size := (Array.getElem?_eq_some_iff.1 h.lasts).1
theorem DiskIn.ltM {w : World} {b L M N : Nat} {m : DM} (h : DiskIn w b L M N m) : M < w.heap.size := h.fresh.lt
theorem DiskIn.below {w w' : World} {b L M N : Nat} {m : DM} (h : DiskIn w b L M N m) (hb : Below w.heap.size w w') : DiskIn w' b L M N m :=
  h.keep (S := []) (Below.only hb) (by simp) (by simp) (by simp)
theorem MapIs.notCells {w : World} {M N : Nat} {f : Int → Option Sec} (h : MapIs w M N f) {c : Array Value} {t : TypeId} {fr : Nat × Nat} : w.heap[M]? ≠ some (.cells c t fr) := by
  obtain ⟨D, ⟨es, clock, hb, _⟩, _⟩ := h
  rw [hb]; simp
theorem DiskIn.neb {w : World} {b L M N : Nat} {m : DM} (h : DiskIn w b L M N m) : M ≠ b := fun e => h.fresh.notCells (by rw [e]; exact h.cells)
theorem DiskIn.neL {w : World} {b L M N : Nat} {m : DM} (h : DiskIn w b L M N m) : M ≠ L := fun e => h.fresh.notCells (by rw [e]; exact h.lasts)
theorem DiskIn.mono {w : World} {b L M N N' : Nat} {m : DM} (h : DiskIn w b L M N m) (hN : N ≤ N') : DiskIn w b L M N' m := ⟨h.cells, h.lasts, h.fresh.mono hN, h.ne, h.ok⟩

theorem flatten_zero (n : Nat) : (List.replicate n zeroSec).flatten = List.replicate (n * 256) 0 := by
  unfold zeroSec
  exact List.flatten_replicate_replicate

theorem infoSec : (Try.prog.info? 79).map (fun i => (i.zero, i.size, i.bytes)) = some (some (secV zeroSec), 256, 256) := by kernel_rfl

theorem made_same (k n : Nat) (hk : 0 < k) (v : Value) : madeCells (List.replicate k v).toArray n = (List.replicate n v).toArray := by
  apply Array.ext'
  unfold madeCells
  apply List.ext_getElem?
  intro i
  have hm : i % k < k := Nat.mod_lt _ hk
  by_cases hi : i < n
  · simp [hi, hm]
  · simp [hi]

theorem made_zero (n : Nat) : madeCells (secV zeroSec).cells (n * 256) = flat (List.replicate n zeroSec) := by
  unfold flat cellsOf
  rw [flatten_zero, List.map_replicate]
  have hz : (secV zeroSec).cells = (List.replicate 256 (bv 0)).toArray := by
    show cellsOf zeroSec = _
    unfold cellsOf zeroSec
    rw [List.map_replicate]
  rw [hz]
  exact made_same 256 _ (by decide) _

theorem mk_lasts (n : Nat) (h : n ≤ 8192) (w : World) : (Instr.makeSlice 70 (.int .i64 (n : Int)) (.int .i64 (n : Int))).run Try.prog w = .ok (.slice (some ⟨w.heap.size, 0, none⟩) n n) (w.alloc (.cells (flat (List.replicate n zeroSec)) 79)) := by
  obtain ⟨i, hi, hz⟩ := Option.map_eq_some_iff.1 infoSec
  simp only [Prod.mk.injEq] at hz
  have := run_make (P := Try.prog) w 70 79 i (secV zeroSec) Try.underlying70 hi hz.1 .i64 .i64 n n (by omega) (by omega) (by rw [hz.2.2]; omega) (by omega)
  rw [this, hz.2.1]
  simp only [Int.toNat_natCast, made_zero]

/-- What a call answers that makes a disk. -/
def MadeDisk (w : World) (m : DM) (e : Ending) (w' : World) : Prop :=
  ∃ b L M, e = .returned (.pointer (some ⟨b, 0, none⟩)) ∧ DiskIn w' b L M 0 m ∧ Below w.heap.size w w' ∧ w.heap.size ≤ b ∧ w.heap.size ≤ L ∧ w.heap.size ≤ M

theorem ok_made {n : Nat} (h1 : 0 < n) (h : n ≤ 8192) : (DM.made n).ok := by
  refine ⟨by simp [DM.made]; exact h1, by simp [DM.made]; exact h, fun s hs => ?_, fun k s hk => ?_, by simp [DM.made, Fits]⟩
  · simp [DM.made] at hs
    rw [hs.2]; exact zeroSec_length
  · simp [DM.made] at hk

set_option maxRecDepth 100000 in
theorem blank_any (n : Nat) (h1 : 0 < n) (h : n ≤ 8192) (w : World) : Calls Try.prog 28 #[.int .i64 n] w (MadeDisk w (DM.made n)) := by
  have hmk := mk_lasts n h
  have hmm := @run_makeMap Try.prog
  go_enter Try.func28, Try.ntmps28
  go_wp2
  go_ret
  have hl : (DM.made n).lasts.length = n := by simp [DM.made]
  refine ⟨w.heap.size + 1 + 1, w.heap.size, w.heap.size + 1, rfl, ⟨?_, ?_, ?_, by omega, ok_made h1 h⟩, ?_, by omega, by omega, by omega⟩
  · rw [hl]
    have := heap_alloc_last ((w.alloc (.cells (flat (List.replicate n zeroSec)) 79)).alloc (.map #[] 0)) (.cells #[.slice (some ⟨w.heap.size, 0, none⟩) n n, .map (some (w.heap.size + 1)), .int .i64 (-1), .bool false] 73)
    simp only [World.size_alloc] at this
    exact this
  · exact ((Only.refl [] _).alloc _ |>.alloc _).keep (heap_alloc_last w _) (by simp)
  · have := (MapIs.made (w.alloc (.cells (flat (List.replicate n zeroSec)) 79))).keep (((Only.refl [] _)).alloc (.cells #[.slice (some ⟨w.heap.size, 0, none⟩) n n, .map (some (w.heap.size + 1)), .int .i64 (-1), .bool false] 73)) (by simp)
    simp only [World.size_alloc] at this
    exact this
  · exact (((Below.refl _ _).alloc (Nat.le_refl _) _).alloc (by simp) _).alloc (by simp; omega) _

/-- New. -/
theorem new_refused (n : Int) (h : n < 1 ∨ 8192 < n) (w : World) : Calls Try.prog 9 #[.int .i64 n] w fun e w' => e = .returned (.tuple #[.pointer none, errV 2]) ∧ w = w' := by
  rcases h with h | h
  · go_enter Try.func9, Try.ntmps9
    go_wp2
    go_ret2
    exact ⟨rfl, rfl⟩
  · have h1 : decide (n < 1) = false := by simp; omega
    go_enter Try.func9, Try.ntmps9
    go_wp2
    go_ret2
    exact ⟨rfl, rfl⟩

/-- What a call answers that makes a disk, beside an error. -/
def MadeDisk2 (w : World) (m : DM) (e : Ending) (w' : World) : Prop :=
  ∃ b L M, e = .returned (.tuple #[.pointer (some ⟨b, 0, none⟩), errV 0]) ∧ DiskIn w' b L M 0 m ∧ Below w.heap.size w w' ∧ w.heap.size ≤ b ∧ w.heap.size ≤ L ∧ w.heap.size ≤ M

theorem new_any (n : Nat) (h1 : 0 < n) (h : n ≤ 8192) (w : World) : Calls Try.prog 9 #[.int .i64 n] w (MadeDisk2 w (DM.made n)) := by
  have hd1 : decide ((n : Int) < 1) = false := by simp; omega
  have hd2 : decide ((8192 : Int) < (n : Int)) = false := by simp; omega
  go_enter Try.func9, Try.ntmps9
  go_wp2_with (go_at_call 28; refine (blank_any n h1 h _).mono ?_; rintro e w' ⟨b, L, M, rfl, hd, hb, g1, g2, g3⟩)
  go_ret2
  exact ⟨b, L, M, rfl, hd, hb, g1, g2, g3⟩

/-! ### acts -/
/-- A disk behind an act. -/
def DM.acted (m : DM) : DM := if m.left = 0 then { m with off := true } else if 0 < m.left then { m with left := m.left - 1 } else m
/-- What an act answers. -/
def DM.actN (m : DM) : Int := if m.left = 0 then 9 else 0
theorem DM.actN_bd (m : DM) : 0 ≤ m.actN ∧ m.actN ≤ 16 := by unfold DM.actN; split <;> omega

theorem DM.acted_fresh (m : DM) : m.acted.fresh = m.fresh := by
  unfold DM.acted; repeat' split
  all_goals rfl
theorem DM.acted_lasts (m : DM) : m.acted.lasts = m.lasts := by
  unfold DM.acted; repeat' split
  all_goals rfl
/-- With a new content a disk stays right. -/
theorem DM.ok.put {m : DM} (h : m.ok) {k : Int} {s : Sec} (h0 : 0 ≤ k) (hk : k < m.lasts.length) (hs : s.length = 256) : ({ m with fresh := put m.fresh k s } : DM).ok :=
  ⟨h.pos, h.few, h.sec, fun i t ht => by
    by_cases e : i = k
    · subst e
      have : t = s := by simpa [Go.Proofs.Ytoiaikgpaobefaa.put] using ht.symm
      subst this
      exact ⟨h0, hk, hs⟩
    · exact h.keys i t (by simpa [Go.Proofs.Ytoiaikgpaobefaa.put, e] using ht), h.left⟩

theorem DCells.set2 {w : World} {b L M n : Nat} {left : Int} {off : Bool} (h : DCells w b L M n left off) (x : Int) : DCells (w.setCell ⟨b, 2, none⟩ (.int .i64 x)) b L M n x off := by
  have := heap_setCell_same w b 2 _ _ (.int .i64 x) h
  simpa [DCells] using this
theorem DCells.set3 {w : World} {b L M n : Nat} {left : Int} {off : Bool} (h : DCells w b L M n left off) (x : Bool) : DCells (w.setCell ⟨b, 3, none⟩ (.bool x)) b L M n left x := by
  have := heap_setCell_same w b 3 _ _ (.bool x) h
  simpa [DCells] using this

theorem DiskIn.set {w w' : World} {b L M N : Nat} {m : DM} (h : DiskIn w b L M N m) (ho : Only [b] w w') {left : Int} {off : Bool} (hl : Fits left) (hc : DCells w' b L M m.lasts.length left off) :
    DiskIn w' b L M N { m with left := left, off := off } :=
  ⟨hc, ho.keep h.lasts (by simpa using h.ne), h.fresh.keep ho (by simpa using h.neb), h.ne, ⟨h.ok.pos, h.ok.few, h.ok.sec, h.ok.keys, hl⟩⟩

theorem act_any {w : World} {b L M N : Nat} {m : DM} (h : DiskIn w b L M N m) :
    Calls Try.prog 40 #[.pointer (some ⟨b, 0, none⟩)] w fun e w' => e = .returned (errV m.actN) ∧ DiskIn w' b L M N m.acted ∧ Only [b] w w' := by
  have hfit := h.ok.left
  unfold DM.actN DM.acted
  by_cases h0 : m.left = 0
  · rw [if_pos h0, if_pos h0]
    have hc := h.cells
    rw [h0] at hc
    refine (act_off hc).mono ?_
    rintro e w' ⟨rfl, rfl⟩
    have ho : Only [b] w (w.setCell ⟨b, 3, none⟩ (.bool true)) := (Only.refl _ _).setCell (by simp) _
    exact ⟨rfl, h.set (left := m.left) (off := true) ho hfit (h.cells.set3 true), ho⟩
  · rw [if_neg h0, if_neg h0]
    by_cases h1 : 0 < m.left
    · rw [if_pos h1]
      refine (act_down h.cells h1 hfit.2).mono ?_
      rintro e w' ⟨rfl, rfl⟩
      have ho : Only [b] w (w.setCell ⟨b, 2, none⟩ (.int .i64 (m.left - 1))) := (Only.refl _ _).setCell (by simp) _
      exact ⟨rfl, h.set (left := m.left - 1) (off := m.off) ho ⟨by have := hfit.1; omega, by have := hfit.2; omega⟩ (h.cells.set2 _), ho⟩
    · rw [if_neg h1]
      refine (act_free h.cells (by omega)).mono ?_
      rintro e w' ⟨rfl, rfl⟩
      exact ⟨rfl, h, Only.refl _ _⟩

/-- Limit. -/
theorem limit_any {w : World} {b L M N : Nat} {m : DM} (h : DiskIn w b L M N m) (x : Int) (hx : Fits x) :
    Calls Try.prog 27 #[.pointer (some ⟨b, 0, none⟩), .int .i64 x] w fun e w' => e = .returned (.tuple #[]) ∧ DiskIn w' b L M N { m with left := x } ∧ Only [b] w w' := by
  refine (limit_cells h.cells h.ok.pos x).mono ?_
  rintro e w' ⟨rfl, rfl⟩
  have ho : Only [b] w (w.setCell ⟨b, 2, none⟩ (.int .i64 x)) := (Only.refl _ _).setCell (by simp) _
  exact ⟨rfl, h.set (left := x) (off := m.off) ho hx (h.cells.set2 _), ho⟩

end Go.Proofs.Ytoiaikgpaobefaa
