/- Sectors as lists of bytes; what turns in a world but for some blocks; the disk's map of new contents. -/
import Derived.Test.YtoiaikgpaobefaaChecked
import Derived.WalkKit
import Derived.Lib.Hide
import Derived.Maps.RangeWalk
import Derived.Deep.MidRow
import Derived.Deep.Quiet
import Derived.Deep.WholeRow
import Derived.StillTailTactics
import Derived.Laws.CopyOwn
import Derived.Laws.IdiomStrings
namespace Go.Proofs.Ytoiaikgpaobefaa
open Go.RowKit Go.Maps

/-! ### bytes -/
abbrev Sec := List UInt8
/-- A byte in a cell. -/
def bv (u : UInt8) : Value := .int .u8 (u.toNat : Int)
theorem bv_inj {a b : UInt8} (h : bv a = bv b) : a = b := by
  unfold bv at h
  simp only [Value.int.injEq, true_and] at h
  exact UInt8.toNat_inj.1 (by omega)
theorem bvs_inj : ∀ {a b : List UInt8}, a.map bv = b.map bv → a = b
  | [], [], _ => rfl
  | [], _ :: _, h => by simp at h
  | _ :: _, [], h => by simp at h
  | a :: l, b :: m, h => by
    simp only [List.map_cons, List.cons.injEq] at h
    rw [bv_inj h.1, bvs_inj h.2]
theorem bv_one (u : UInt8) : (bv u).oneCell' = true := rfl
theorem bvs_one (l : List UInt8) : ∀ v ∈ l.map bv, v.oneCell' = true := by
  intro v hv
  obtain ⟨u, _, rfl⟩ := List.mem_map.1 hv
  rfl
/-- The cells of a list of bytes. -/
def cellsOf (l : List UInt8) : Array Value := (l.map bv).toArray
theorem size_cellsOf (l : List UInt8) : (cellsOf l).size = l.length := by simp [cellsOf]
theorem cellsOf_get (l : List UInt8) (i : Nat) : (cellsOf l)[i]? = l[i]?.map bv := by simp [cellsOf]
theorem cellsOf_inj {a b : List UInt8} (h : cellsOf a = cellsOf b) : a = b := by
  unfold cellsOf at h
  exact bvs_inj (by simpa using h)
/-- A sector as a value. -/
def secV (s : Sec) : Value := .agg (cellsOf s)
theorem secV_inj {a b : Sec} (h : secV a = secV b) : a = b := cellsOf_inj (by unfold secV at h; simpa using h)
def zeroSec : Sec := List.replicate 256 0
theorem zeroSec_length : zeroSec.length = 256 := List.length_replicate

open Classical in
/-- How a sector in a map reads. -/
noncomputable def secR (v : Value) : Option (DataW Unit × List MemPlace) :=
  if h : ∃ s : Sec, s.length = 256 ∧ v = secV s then some (.lit (.string (Classical.choose h)), []) else none
theorem secR_mk {s : Sec} (h : s.length = 256) : secR (secV s) = some (.lit (.string s), []) := by
  unfold secR
  have hx : ∃ s' : Sec, s'.length = 256 ∧ secV s = secV s' := ⟨s, h, rfl⟩
  rw [dif_pos hx, ← secV_inj (Classical.choose_spec hx).2]
theorem secR_inv {v : Value} {z : DataW Unit × List MemPlace} (h : secR v = some z) : ∃ s : Sec, s.length = 256 ∧ v = secV s ∧ z = (.lit (.string s), []) := by
  unfold secR at h
  split at h
  · rename_i hx
    obtain ⟨s, hs, rfl⟩ := hx
    have hx : ∃ s' : Sec, s'.length = 256 ∧ secV s = secV s' := ⟨s, hs, rfl⟩
    refine ⟨s, hs, rfl, ?_⟩
    rw [← secV_inj (Classical.choose_spec hx).2] at h
    simpa using h.symm
  · cases h

/-! ### what has turned -/
/-- But for the blocks S nothing that was there has turned. -/
structure Only (S : List Nat) (w w' : World) : Prop where
  os : w'.os = w.os
  tape : w'.tape = w.tape
  output : w'.output = w.output
  size : w.heap.size ≤ w'.heap.size
  block : ∀ k, k < w.heap.size → k ∉ S → w'.heap[k]? = w.heap[k]?

theorem Only.refl (S : List Nat) (w : World) : Only S w w := ⟨rfl, rfl, rfl, Nat.le_refl _, fun _ _ _ => rfl⟩
theorem Only.trans {S : List Nat} {a b c : World} (h : Only S a b) (k : Only S b c) : Only S a c :=
  ⟨k.os.trans h.os, k.tape.trans h.tape, k.output.trans h.output, Nat.le_trans h.size k.size,
   fun i hi hn => (k.block i (Nat.lt_of_lt_of_le hi h.size) hn).trans (h.block i hi hn)⟩
theorem Only.mono {S T : List Nat} {a b : World} (h : Only S a b) (hs : ∀ k ∈ S, k < a.heap.size → k ∈ T) : Only T a b :=
  ⟨h.os, h.tape, h.output, h.size, fun i hi hn => h.block i hi (fun e => hn (hs i e hi))⟩
/-- Blocks that are new since a are no matter. -/
theorem Only.trans_new {S T : List Nat} {a b c : World} (h : Only S a b) (k : Only T b c) (hT : ∀ x ∈ T, x ∈ S ∨ a.heap.size ≤ x) : Only S a c :=
  ⟨k.os.trans h.os, k.tape.trans h.tape, k.output.trans h.output, Nat.le_trans h.size k.size,
   fun i hi hn => (k.block i (Nat.lt_of_lt_of_le hi h.size) (fun e => by rcases hT i e with h1 | h1; exact hn h1; omega)).trans (h.block i hi hn)⟩
theorem Only.alloc {S : List Nat} {a b : World} (h : Only S a b) (o : Obj) : Only S a (b.alloc o) :=
  h.trans ⟨rfl, rfl, rfl, by simp, fun k hk _ => Below.heap_alloc _ _ _ hk⟩
theorem Only.drew {S : List Nat} {a b : World} (h : Only S a b) : Only S a b.drew := ⟨h.os, h.tape, h.output, h.size, h.block⟩
theorem Only.drewN {S : List Nat} {a b : World} (h : Only S a b) (n : Nat) : Only S a (b.drewN n) := ⟨h.os, h.tape, h.output, h.size, h.block⟩
theorem Only.setCell {S : List Nat} {a b : World} (h : Only S a b) {p : Addr} (hp : p.block ∈ S ∨ a.heap.size ≤ p.block) (u : Value) : Only S a (b.setCell p u) :=
  h.trans_new (T := [p.block]) ⟨rfl, rfl, rfl, by simp [World.setCell], fun k _ hn => Below.heap_setCell _ _ _ _ (by simpa using hn)⟩ (by simpa using hp)
theorem Only.setRow {S : List Nat} {a b : World} (h : Only S a b) {g : Nat} (hp : g ∈ S ∨ a.heap.size ≤ g) (cs : Array Value) : Only S a (b.setRow g cs) :=
  h.trans_new (T := [g]) ⟨rfl, rfl, rfl, by simp, fun k _ hn => setRow_other b g k cs (by simpa using hn)⟩ (by simpa using hp)
theorem Only.grown {S : List Nat} {a b c : World} {row : Option Nat} (h : Only S a b) (hg : b.grownBy c row) (hr : ∀ k, row = some k → k ∈ S ∨ a.heap.size ≤ k) : Only S a c :=
  ⟨hg.os.trans h.os, hg.tape.trans h.tape, hg.output.trans h.output, Nat.le_trans h.size hg.size,
   fun i hi hn => (hg.block i (Nat.lt_of_lt_of_le hi h.size) (fun e => by rcases hr i e.symm with h1 | h1; exact hn h1; omega)).trans (h.block i hi hn)⟩
theorem Only.below {S : List Nat} {a b : World} (h : Only S a b) {B : Nat} (hB : B ≤ a.heap.size) (hS : ∀ k ∈ S, B ≤ k) : Below B a b :=
  ⟨h.os, h.tape, h.output, h.size, fun k hk => h.block k (by omega) (fun e => by have := hS k e; omega)⟩
theorem Below.only {S : List Nat} {a b : World} (h : Below a.heap.size a b) : Only S a b := ⟨h.os, h.tape, h.output, h.size, fun k hk _ => h.block k hk⟩
theorem Below.then_only {B : Nat} {S : List Nat} {a b c : World} (h : Below B a b) (k : Only S b c) (hB : B ≤ b.heap.size) (hS : ∀ k ∈ S, B ≤ k) : Below B a c :=
  h.trans (k.below hB hS)
theorem Only.keep {S : List Nat} {a b : World} (h : Only S a b) {k : Nat} {o : Obj} (ho : a.heap[k]? = some o) (hn : k ∉ S) : b.heap[k]? = some o :=
  (h.block k (Array.getElem?_eq_some_iff.1 ho).1 hn).trans ho

theorem Only.range {S : List Nat} {a b : World} (h : Only S a b) {g o : Nat} {cs : List Value} (hr : a.rangeAt g o cs) (hn : g ∉ S) : b.rangeAt g o cs := fun j v hv => by
  have hc := hr j v hv
  have hlt : g < a.heap.size := World.block_lt_of_cell? a _ hc
  rw [← hc]
  exact World.cell?_of_block (w := a) (h.block g hlt hn)

/-! ### the map of new contents -/
theorem mapLaw : Keyed Try.prog 3 := int_keyed Try.underlying3
/-- An int that fits. -/
def Fits (k : Int) : Prop := -9223372036854775808 ≤ k ∧ k ≤ 9223372036854775807
theorem Fits.wf {k : Int} (h : Fits k) : (Lit.int .i64 k).wf = true := WalkArith.wf_i64 h
theorem Fits.of_wf {k : Int} (h : (Lit.int .i64 k).wf = true) : Fits k := by
  simp [Lit.wf, IntKind.min, IntKind.max, IntKind.bits, IntKind.signed] at h
  exact h
theorem keyI {k : Int} (h : Fits k) : keyOf Try.prog 3 (.int .i64 k) = some (.int .i64 k) := keyOf_int_mk Try.underlying3 h.wf

/-- A map as read has just the keys of f, and its contents. -/
def Reads (D : DataW Unit) (f : Int → Option Sec) : Prop :=
  (∀ k, Fits k → Maps.has D (.int .i64 k) = (f k).isSome) ∧ (∀ k s, Fits k → f k = some s → s.length = 256 ∧ ∀ z, D.atKey (.int .i64 k) z = .lit (.string s))

/-- Block M is a map of at most N entries that has just those of f. -/
def MapIs (w : World) (M N : Nat) (f : Int → Option Sec) : Prop :=
  ∃ D, w.ownsMap Try.prog 3 secR M N D ∧ Reads D f

/-- f with s at k. -/
def put (f : Int → Option Sec) (k : Int) (s : Sec) : Int → Option Sec := fun i => if i = k then some s else f i
/-- f without k. -/
def del (f : Int → Option Sec) (k : Int) : Int → Option Sec := fun i => if i = k then none else f i

theorem MapIs.keep {w w' : World} {S : List Nat} {M N : Nat} {f : Int → Option Sec} (h : MapIs w M N f) (ho : Only S w w') (hn : M ∉ S) : MapIs w' M N f := by
  obtain ⟨D, ⟨es, clock, hb, r⟩, hr⟩ := h
  exact ⟨D, ⟨es, clock, ho.keep hb hn, r⟩, hr⟩
theorem MapIs.lt {w : World} {M N : Nat} {f : Int → Option Sec} (h : MapIs w M N f) : M < w.heap.size := by
  obtain ⟨D, ho, _⟩ := h
  exact ho.lt
theorem MapIs.mono {w : World} {M N N' : Nat} {f : Int → Option Sec} (h : MapIs w M N f) (hN : N ≤ N') : MapIs w M N' f := by
  obtain ⟨D, ho, hr⟩ := h
  exact ⟨D, ho.mono hN, hr⟩
theorem MapIs.made (w : World) : MapIs (w.alloc (.map #[] 0)) w.heap.size 0 (fun _ => none) :=
  ⟨.map [], World.ownsMap_made w _ _ _, fun k _ => rfl, fun k s _ h => by cases h⟩

/-- A region that draws its order: n quiet operations, then a tail. -/
theorem region_tail {P : Program} {id : Nat} {l : List Oper} {Q : Exit → Act → World → Prop} {a : Act} {w : World} (n : Nat) (hm : P.follows .mixedOrders = true) (hB : Region.lexTailB .any l.toArray n = true)
    (h : wpStill P l.toArray w.drew (fun a' => wpList P l.toArray Q (l.drop n) a' w.drew) (l.take n) a) : (Code.region id l.toArray true).wp P Q a w :=
  wp_region_still_tail n hm hB h

/-- A whole row loaded, among quiet operations. -/
theorem still_load_row {P : Program} {ops : Array Oper} {w : World} {Q : Act → Prop} {rest : List Oper} {op : Oper} {a : Act} (hgd : op.guard = none) (ty : TypeId) (x : Operand) (ho : op.op = .load ty x)
    (g : Nat) (hx : a.eval x = .pointer (some ⟨g, 0, none⟩)) (t : TypeId) (cs : Array Value) (fr : Nat × Nat) (d : TypeDesc) (hg : w.heap[g]? = some (.cells cs t fr))
    (hu : P.underlying ty = some d) (hd : (match d with | .struct _ | .array _ _ => true | _ => false) = true) (hi : (P.info? ty).map (·.size) = some cs.size)
    (h : wpStill P ops w Q rest (a.put op.dst (.agg cs))) : wpStill P ops w Q (op :: rest) a :=
  wpStill_step fun K hK => by
    have hw : Region.wanted op (yielded ops a.tmps) = true := by simp [Region.wanted, hgd]
    rw [if_pos hw]
    unfold Oper.still execOp
    simp only [ho, hx, Instr.loadAt, Instr.sureAddr, Sem.run_bind, Sem.run_pure, Result.andThen_ok, run_loadVar_row w g t ty cs fr d hg hu hd hi]
    exact ⟨rfl, hK _ h⟩

/-- A whole variable stored into the block that was made last, at the operation. -/
theorem wpList_store_new {P : Program} {ops : Array Oper} {rest : List Oper} {op : Oper} {a : Act} {w : World} {Q : Exit → Act → World → Prop} (hgd : op.guard = none) (t : TypeId) (x y : Operand) (ho : op.op = .store t x y)
    (c c' : Array Value) (hx : a.eval x = .pointer (some ⟨w.heap.size, 0, none⟩)) (hy : a.eval y = .agg c') (hi : (P.info? t).map (·.size) = some c'.size) (hs : c.size = c'.size) (h1 : c'.all (·.oneCell') = true)
    (h : wpList P ops Q rest (a.put op.dst undef) (w.alloc (.cells c' t))) : wpList P ops Q (op :: rest) a (w.alloc (.cells c t)) :=
  wpList_plain hgd fun K hK => by
    unfold Oper.wp execOp
    simp only [ho, hx, hy, Sem.run_bind, run_storeAt_new w t c c' hi hs h1]
    exact hK _ _ h
theorem all_cellsOf (l : List UInt8) : (cellsOf l).all (·.oneCell') = true := all_oneCell_toArray (bvs_one l)
theorem sizeSec {s : Sec} (h : s.length = 256) : (Try.prog.info? 79).map (·.size) = some (cellsOf s).size := by
  rw [size_cellsOf, h]; kernel_rfl

theorem zeroSecV (w : World) : (zeroValue 79).run Try.prog w = .ok (secV zeroSec) w := by kernel_rfl

theorem zeroSecA (w : World) : (zeroValue 79).run Try.prog w = .ok (.agg (cellsOf zeroSec)) w := zeroSecV w

theorem reads_put {D : DataW Unit} {f : Int → Option Sec} (hD : Maps.IsMap D) (h : Reads D f) {k : Int} (hk : Fits k) {s : Sec} (hs : s.length = 256) : Reads (D.put (.int .i64 k) (.lit (.string s))) (put f k s) := by
  refine ⟨fun i hi => ?_, fun i t hi ht => ?_⟩
  · by_cases e : i = k
    · subst e; rw [Maps.has_put_same hD (mapLaw.key (keyI hk))]; simp [put]
    · rw [Maps.has_put_other (by simpa using e), h.1 i hi]; simp [put, e]
  · by_cases e : i = k
    · subst e
      simp [put] at ht
      subst ht
      exact ⟨hs, fun z => Maps.atKey_put_same hD (mapLaw.key (keyI hk)) _ _⟩
    · simp [put, e] at ht
      obtain ⟨h1, h2⟩ := h.2 i t hi ht
      exact ⟨h1, fun z => by rw [Maps.atKey_put_other (by simpa using e)]; exact h2 z⟩
theorem reads_del {D : DataW Unit} {f : Int → Option Sec} (h : Reads D f) {k : Int} : Reads (D.del (.int .i64 k)) (del f k) := by
  refine ⟨fun i hi => ?_, fun i t hi ht => ?_⟩
  · by_cases e : i = k
    · subst e; rw [Maps.has_del_same]; simp [del]
    · rw [Maps.has_del_other (by simpa using e), h.1 i hi]; simp [del, e]
  · by_cases e : i = k
    · subst e; simp [del] at ht
    · simp [del, e] at ht
      obtain ⟨h1, h2⟩ := h.2 i t hi ht
      exact ⟨h1, fun z => by rw [Maps.atKey_del_other (by simpa using e)]; exact h2 z⟩

/-- 's, ok := m[k]'. -/
theorem MapIs.look {w : World} {M N : Nat} {f : Int → Option Sec} (h : MapIs w M N f) {k : Int} (hk : Fits k) :
    (Instr.lookup 71 (.map (some M)) (.int .i64 k) true).run Try.prog w = .ok (.tuple #[.agg (cellsOf ((f k).getD zeroSec)), .bool (f k).isSome]) w := by
  show _ = Result.ok (Value.tuple #[secV ((f k).getD zeroSec), .bool (f k).isSome]) w
  obtain ⟨D, ho, hr⟩ := h
  obtain ⟨v, ps, hrun, hv⟩ := ho.look_ok mapLaw Try.underlying71 (zeroSecV w) (secR_mk zeroSec_length) (keyI hk)
  rw [hrun, hr.1 k hk]
  obtain ⟨s, hs, rfl, hz⟩ := secR_inv hv
  simp only [Prod.mk.injEq] at hz
  cases hf : f k with
  | none =>
    have : Maps.has D (.int .i64 k) = false := by rw [hr.1 k hk, hf]; rfl
    rw [Maps.atKey_of_not_has this] at hz
    have := hz.1
    simp at this
    rw [this]; rfl
  | some t =>
    rw [(hr.2 k t hk hf).2] at hz
    have := hz.1
    simp at this
    rw [this]; rfl

/-- 'm[k] = s'. -/
theorem MapIs.store {w : World} {M N : Nat} {f : Int → Option Sec} (h : MapIs w M N f) {k : Int} (hk : Fits k) (hN : N < maxLen) {s : Sec} (hs : s.length = 256) :
    ∃ w', (Instr.mapUpdate 71 (.map (some M)) (.int .i64 k) (secV s)).run Try.prog w = .ok () w' ∧ MapIs w' M (N + 1) (put f k s) ∧ w.mapTurned w' M := by
  obtain ⟨D, ho, hr⟩ := h
  obtain ⟨w', hrun, ho', ht⟩ := ho.store mapLaw Try.underlying71 hN (keyI hk) (secR_mk hs)
  exact ⟨w', hrun, ⟨_, ho', reads_put ho.isMap hr hk hs⟩, ht⟩

theorem Only.mapTurned {S : List Nat} {a b c : World} {M : Nat} (h : Only S a b) (ht : b.mapTurned c M) (hp : M ∈ S ∨ a.heap.size ≤ M) : Only S a c :=
  h.grown ht.grown (fun k hk => by cases hk; exact hp)

/-- 'm[k] = s' at the operation. -/
theorem wpList_put {ops : Array Oper} {rest : List Oper} {op : Oper} {a : Act} {w : World} {Q : Exit → Act → World → Prop} (hgd : op.guard = none) (x y z : Operand) (ho : op.op = .mapUpdate 71 x y z)
    {M N : Nat} {f : Int → Option Sec} {k : Int} {s : Sec} (h : MapIs w M N f) (hx : a.eval x = .map (some M)) (hy : a.eval y = .int .i64 k) (hz : a.eval z = .agg (cellsOf s)) (hk : Fits k) (hN : N < maxLen) (hs : s.length = 256)
    (hK : ∀ w', MapIs w' M (N + 1) (put f k s) → w.mapTurned w' M → wpList Try.prog ops Q rest (a.put op.dst undef) w') : wpList Try.prog ops Q (op :: rest) a w :=
  wpList_plain hgd fun K hKK => by
    obtain ⟨w', hrun, h1, h2⟩ := h.store hk hN hs
    unfold Oper.wp
    simp only [execOp, ho, hx, hy, hz, Sem.run_bind, show (Instr.mapUpdate 71 (.map (some M)) (.int .i64 k) (.agg (cellsOf s))).run Try.prog w = _ from hrun]
    exact hKK _ _ (hK w' h1 h2)

theorem sizeByte : (Try.prog.info? 5).map (·.size) = some 1 := by kernel_rfl

/-- copy of a sector's bytes into the block that was made last, at the operation. -/
theorem wpList_copy_sec {ops : Array Oper} {rest : List Oper} {o : Oper} {a : Act} {w : World} {Q : Exit → Act → World → Prop} (hgd : o.guard = none) (d x : Operand)
    (ho : o.op = .call { callee := .builtin .copy, args := #[d, x], argTypes := #[47, 47] }) {t : TypeId} {z s : Sec} {g of cap : Nat}
    (hd : a.eval d = .slice (some ⟨w.heap.size, 0, none⟩) 256 256) (hx : a.eval x = .slice (some ⟨g, of, none⟩) 256 cap)
    (hz : z.length = 256) (hs : s.length = 256) (hr : w.rangeAt g of (s.map bv))
    (h : wpList Try.prog ops Q rest (a.put o.dst (goInt 256)) (w.alloc (.cells (cellsOf s) t))) :
    wpList Try.prog ops Q (o :: rest) a (w.alloc (.cells (cellsOf z) t)) := by
  have hg : (w.alloc (.cells (cellsOf z) t)).heap[w.heap.size]? = some (.cells (cellsOf z) t (0, 0)) := heap_alloc_last w _
  have hlen : (s.map bv).length = 256 := by simp [hs]
  have hr' : (w.alloc (.cells (cellsOf z) t)).rangeAt g of (s.map bv) := World.rangeAt_alloc hr _
  refine wpList_copy_own hgd d x 47 47 ho 5 Try.underlying47 sizeByte w.heap.size 0 256 256 ⟨g, of, none⟩ 256 cap hd hx (cellsOf z) t hg (s.map bv)
    (by rw [hlen]; rfl) (fun j v hv => by rw [Addr.add_mid]; exact hr' j v hv) (by rw [hlen, size_cellsOf, hz]; decide) (bvs_one _) ?_
  rw [hlen, World.setRow_alloc_new]
  have e : ((cellsOf z).toList.take 0 ++ (s.map bv ++ (cellsOf z).toList.drop (0 + 256))).toArray = cellsOf s := by
    rw [List.drop_eq_nil_of_le (by rw [Array.length_toList, size_cellsOf, hz]; decide)]
    simp [cellsOf]
  rw [e]
  exact h

/-- A string of a list of bytes. -/
def strOf (l : List UInt8) : ByteArray := ⟨l.toArray⟩
theorem strOf_toList (l : List UInt8) : (strOf l).toList = l := ByteArray.toList_mk l
theorem strOf_size (l : List UInt8) : (strOf l).size = l.length := by simp [strOf, ByteArray.size]

/-- 'string(b)'. -/
theorem conv_bytes {w : World} {g : Nat} {l : List UInt8} {t : TypeId} {fr : Nat × Nat} (n cap : Nat) (hn : l.length = n) (h : w.heap[g]? = some (.cells (cellsOf l) t fr)) :
    (convert 47 9 (.slice (some ⟨g, 0, none⟩) n cap)).run Try.prog w = .ok (.string (strOf l)) w := by
  subst hn
  refine run_convert_bytes_back w 47 9 5 ⟨g, 0, none⟩ cap l Try.underlying47 Try.underlying5 Try.underlying9 (fun j hj => ?_)
  rw [Addr.add_mid, Nat.zero_add, cell_of_row w g j _ _ _ h, cellsOf_get, List.getElem?_eq_getElem hj]
  rfl

end Go.Proofs.Ytoiaikgpaobefaa
