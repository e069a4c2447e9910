/- Crash. -/
import Derived.Test.YtoiaikgpaobefaaLay
import Derived.Test.YtoiaikgpaobefaaInts
import Derived.Outline
namespace Go.Proofs.Ytoiaikgpaobefaa
open Go.RowKit Go.Extern.Stop Go.Stop Go.Extern Go.Maps

/-- copy of whole sectors, all of a row over all of another one. -/
theorem run_copy_whole {P : Program} (w : World) (dT sT ty elem : TypeId) (g a n dCap sCap size : Nat) (cur cs : Array Value) (t t2 : TypeId) (fr : Nat × Nat)
    (hu : P.underlying dT = some (.slice elem)) (hs : (P.info? elem).map (·.size) = some size)
    (hg : w.heap[g]? = some (.cells cur t (0, 0))) (ha : w.heap[a]? = some (.cells cs t2 fr)) (h1 : cur.size = n * size) (h2 : cs.size = n * size) (hone : ∀ v ∈ cs.toList, v.oneCell' = true) :
    (Builtin.copy_ #[dT, sT] ty #[.slice (some ⟨g, 0, none⟩) n dCap, .slice (some ⟨a, 0, none⟩) n sCap]).run P w = .ok (goInt n) (w.setRow g cs) := by
  have hl := run_loadCells_list (P := P) w ⟨a, 0, none⟩ cs.toList (fun j v hv => by
    have hadd : (⟨a, 0, none⟩ : Addr).add j = ⟨a, j, none⟩ := by unfold Addr.add; split <;> simp_all
    rw [hadd, cell_of_row w a j cs t2 fr ha]
    simpa using hv)
  have hst := run_storeCells_at P g 0 t cs.toList 0 cur w hg (by simp; omega) hone
  have e : (cur.toList.take (0 + 0) ++ cs.toList ++ cur.toList.drop (0 + 0 + cs.toList.length)).toArray = cs := by
    rw [List.drop_eq_nil_of_le (by simp; omega)]; simp
  rw [e] at hst
  rw [Array.length_toList, h2] at hl
  cases hq : P.info? elem with
  | none => simp [hq] at hs
  | some i =>
    have hi : i.size = size := by simpa [hq] using hs
    have hm : Nat.min n n = n := Nat.min_self n
    simp [Builtin.copy_, run_underlying hu, Builtin.lenOf, Builtin.firstCells, sizeOf, typeInfo, hq, hi, hm, hl, hst]

/-- The sectors l, the new contents of the sectors ks, if they have one, laid into them. -/
def laidAll (f : Int → Option Sec) (l : List Sec) (ks : List Int) : List Sec := ks.foldl (fun l k => layOne f l k 256) l
theorem laidAll_snoc (f : Int → Option Sec) (l : List Sec) (ks : List Int) (j : Nat) (hj : j < ks.length) : laidAll f l (ks.take (j + 1)) = layOne f (laidAll f l (ks.take j)) ks[j] 256 := by
  unfold laidAll
  rw [List.take_succ_eq_append_getElem hj, List.foldl_append]
  rfl
theorem laidAll_sec {m : DM} (hm : m.ok) : ∀ (ks : List Int) (l : List Sec), l.length = m.lasts.length → (∀ x ∈ l, x.length = 256) → (laidAll m.fresh l ks).length = m.lasts.length ∧ ∀ x ∈ laidAll m.fresh l ks, x.length = 256
  | [], l, h1, h2 => ⟨h1, h2⟩
  | k :: ks, l, h1, h2 => laidAll_sec hm ks (layOne m.fresh l k 256) (by rw [layOne_length]; exact h1) (layOne_sec hm h2 h1 k 256 (by decide))

/-- What a crash leaves of the sectors. -/
def DM.crashed (m : DM) (torn cut : Int) (kept : List Int) : List Sec := laidAll m.fresh (layOne m.fresh m.lasts torn (clampN cut)) kept
/-- A disk behind a crash. -/
def DM.crash (m : DM) (torn cut : Int) (kept : List Int) : DM := ⟨m.crashed torn cut kept, fun _ => none, -1, false⟩

theorem crash_nil (x y : Int) (a : Option Addr) (len cap : Nat) (w : World) :
    Calls Try.prog 24 #[.pointer none, .int .i64 x, .int .i64 y, .slice a len cap] w fun e w' => e = .returned (.pointer none) ∧ w = w' := by
  go_enter Try.func24, Try.ntmps24
  go_wp2_with (go_at_call 35; refine (made_nil _).mono ?_; rintro e w' ⟨rfl, rfl⟩)
  go_ret
  exact ⟨rfl, rfl⟩

theorem wpList_copy_all {ops : Array Oper} {rest : List Oper} {o : Oper} {a : Act} {w : World} {Q : Exit → Act → World → Prop} (hgd : o.guard = none) (d x : Operand)
    (ho : o.op = .call { callee := .builtin .copy, args := #[d, x], argTypes := #[70, 70] }) {L L2 n : Nat} {l l2 : List Sec}
    (hd : a.eval d = .slice (some ⟨L2, 0, none⟩) n n) (hx : a.eval x = .slice (some ⟨L, 0, none⟩) n n)
    (h2 : w.heap[L2]? = some (.cells (flat l2) 79 (0, 0))) (h1 : w.heap[L]? = some (.cells (flat l) 79 (0, 0)))
    (hl : ∀ s ∈ l, s.length = 256) (hl2 : ∀ s ∈ l2, s.length = 256) (e1 : l.length = n) (e2 : l2.length = n)
    (h : ∀ w', w'.heap[L2]? = some (.cells (flat l) 79 (0, 0)) → Only [L2] w w' → wpList Try.prog ops Q rest (a.put o.dst (goInt n)) w') :
    wpList Try.prog ops Q (o :: rest) a w :=
  wpList_plain hgd fun K hK => by
    obtain ⟨i, hi, hz⟩ := Option.map_eq_some_iff.1 infoSec
    have hsz : (Try.prog.info? 79).map (·.size) = some 256 := by
      rw [hi]; simp only [Prod.mk.injEq] at hz; simp [hz.2.1]
    have f1 : (flat l2).size = n * 256 := by unfold flat; rw [size_cellsOf, flatten_length l2 hl2, e2]
    have f2 : (flat l).size = n * 256 := by unfold flat; rw [size_cellsOf, flatten_length l hl, e1]
    have hrun := run_copy_whole (P := Try.prog) w 70 70 o.type 79 L2 L n n n 256 _ _ _ _ _ Try.underlying70 hsz h2 h1 f1 f2 (by unfold flat cellsOf; simpa using bvs_one l.flatten)
    unfold Oper.wp
    simp [execOp, ho, resolve, invoke, builtin, hd, hx, hrun, Result.andThen]
    exact hK _ _ (h _ (setRow_heap _ _ _ _ _ _ h2) ((Only.refl _ _).setRow (by simp) _))

set_option maxRecDepth 100000 in
theorem crash_any {w : World} {b L M N : Nat} {m : DM} (h : DiskIn w b L M N m) (x y : Int) (hx : Fits x) (ka : Option Addr) (cap : Nat) (ks : List Int) (hks : IntsIn w ka ks) (hf : ∀ k ∈ ks, Fits k) (hkl : ks.length < 9223372036854775807) :
    Calls Try.prog 24 #[.pointer (some ⟨b, 0, none⟩), .int .i64 x, .int .i64 y, .slice ka ks.length cap] w (MadeDisk w (m.crash x y ks)) := by
  have c0 := h.cells.c0
  have hfew := h.ok.few
  go_enter Try.func24, Try.ntmps24
  go_wp2_with (first | (go_at_call 35; refine (made_any h.cells h.ok.pos).mono ?_; rintro e w' ⟨rfl, rfl⟩) | (go_at_call 28; refine (blank_any m.lasts.length h.ok.pos h.ok.few _).mono ?_; rintro e w1 ⟨b2, L2, M2, rfl, hd2, hb1, g1, g2, g3⟩))
  have hd := h.below hb1
  have en : (DM.made m.lasts.length).lasts.length = m.lasts.length := by simp [DM.made]
  have d0 := hd.cells.c0
  have e0 := hd2.cells.c0
  rw [en] at e0
  clear c0
  refine region_tail 8 (by kernel_rfl) (by kernel_rfl) ?_
  simp only [List.take_succ_cons, List.take_zero, List.drop_succ_cons, List.drop_zero]
  repeat still_step
  try refine wpStill_nil ?_
  refine wpList_copy_all rfl (.tmp 24) (.tmp 28) rfl rfl rfl (w := w1.drew) (L := L) (l := m.lasts) hd2.lasts hd.lasts hd.ok.sec (ok_made h.ok.pos h.ok.few).sec rfl en (fun w2 q1 q2 => ?_)
  have q3 : Only [L2] w1 w2 := ((Only.refl _ _).drew).trans q2
  have hlb := h.ltb
  have hlL := h.ltL
  have hlM := h.ltM
  have nb : b ∉ [L2] := by simp; omega
  have nL : L ∉ [L2] := by simp; omega
  have nM : M ∉ [L2] := by simp; omega
  have hd3 : DiskIn w2 b L M N m := hd.keep q3 nb nL nM
  have hc3 : DCells w2 b2 L2 M2 m.lasts.length (-1) false := by
    have := q3.keep hd2.cells (by simpa using hd2.ne.symm)
    rw [en] at this
    exact this
  have hm3 : MapIs w2 M2 0 (fun _ => none) := hd2.fresh.keep q3 (by simpa using hd2.neL)
  have hsec0 : ∀ z ∈ layOne m.fresh m.lasts x (clampN y), z.length = 256 := layOne_sec h.ok h.ok.sec rfl x _ (clampN_le y)
  go_wp2_with (go_at_call 41; refine (lay_any hd3 b2 L2 x y hx m.lasts rfl hc3.c0 q1 hd.ok.sec).mono ?_; rintro e w3 ⟨rfl, r1, r2⟩)
  have hkr : ∀ wr, Only [L2] w2 wr → IntsIn wr ka ks := fun wr ho => by
    rcases hks with h1 | ⟨g, o, h1, h2, h3⟩
    · exact .inl h1
    · have hB := Below.only (S := [L2]) hb1
      exact .inr ⟨g, o, h1, (ho.range (q3.range (hB.range h2 (by simp; omega)) (by simp; omega)) (by simp; omega)), by have := hb1.size; have := q3.size; have := ho.size; omega⟩
  clear d0 e0
  have Hks := Lib.hid hkr
  clear hkr
  generalize hL0 : layOne m.fresh m.lasts x (clampN y) = l0 at r1 hsec0
  have HL0 := Lib.hid hL0
  have hlen0 : l0.length = m.lasts.length := by rw [← hL0]; exact layOne_length _ _ _ _
  have Hl0 := Lib.hid hlen0
  have Hs0 := Lib.hid hsec0
  clear hL0 hlen0 hsec0
  go_loopw [37] (fun i wr => ∃ j : Nat, j ≤ ks.length ∧ i = .int .i64 j ∧ Laid w2 L2 (laidAll m.fresh l0 (ks.take j)) (.returned (.tuple #[])) wr) (fun i _ => ks.length - (intOf i).toNat)
  case atStart => exact ⟨0, Nat.zero_le _, rfl, rfl, r1, r2⟩
  case round =>
    obtain ⟨j, hj, rfl, _, t1, t2⟩ := hrel
    by_cases hlt : j < ks.length
    · obtain ⟨a, i1, i2⟩ := run_index_ints (cap := cap) (Hks.out wr t2) hlt
      have hd4 := hd3.keep t2 nb nL nM
      have hc4 : DCells wr b2 L2 M2 m.lasts.length (-1) false := t2.keep hc3 (by simpa using hd2.ne.symm)
      obtain ⟨z1, z2⟩ := laidAll_sec h.ok (ks.take j) l0 Hl0.out Hs0.out
      have hfj := hf _ (List.getElem_mem hlt)
      have hc5 := hc4.c0
      rw [← z1] at hc5
      have Hlay := Lib.hid (lay_any hd4 b2 L2 ks[j] 256 hfj _ z1 hc5 t1 z2)
      rw [show clampN 256 = 256 from rfl, ← laidAll_snoc m.fresh l0 ks j hlt] at Hlay
      go_wp2_with (go_at_call 41; refine Hlay.out.mono ?_; rintro e w4 ⟨rfl, s1, s2⟩)
      go_roundw
      case rel => exact ⟨j + 1, by omega, by go_num, rfl, s1, t2.trans s2⟩
      case measure => simp [intOf]; omega
    · go_wp2
      go_ret
      have hj' : j = ks.length := by omega
      subst hj'
      rw [List.take_length] at t1
      have hlen := laidAll_sec h.ok ks l0 Hl0.out Hs0.out
      have hc4 : DCells wr b2 L2 M2 m.lasts.length (-1) false := t2.keep hc3 (by simpa using hd2.ne.symm)
      have ecr : (m.crash x y ks).lasts = laidAll m.fresh l0 ks := by unfold DM.crash DM.crashed; rw [HL0.out]
      refine ⟨b2, L2, M2, rfl, ⟨?_, ?_, hm3.keep t2 (by simpa using hd2.neL), hd2.ne, ?_⟩, ?_, g1, g2, g3⟩
      · rw [ecr, hlen.1]; exact hc4
      · rw [ecr]; exact t1
      · refine ⟨?_, ?_, ?_, ?_, ?_⟩
        · rw [ecr, hlen.1]; exact h.ok.pos
        · rw [ecr, hlen.1]; exact h.ok.few
        · rw [ecr]; exact hlen.2
        · intro k s hk
          simp [DM.crash] at hk
        · simp [DM.crash, Fits]
      · exact hb1.trans ((q3.trans t2).below hb1.size (by simpa using g2))

end Go.Proofs.Ytoiaikgpaobefaa
