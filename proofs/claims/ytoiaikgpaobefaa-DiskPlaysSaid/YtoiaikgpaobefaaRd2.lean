/- The document's Dirty. -/
import Derived.Test.YtoiaikgpaobefaaRw
import Derived.Test.YtoiaikgpaobefaaDi
namespace Go.Proofs.Ytoiaikgpaobefaa
open Go.RowKit Go.Maps

/-- The dirty sectors below j. -/
def dirtyTo (m : DM) (j : Nat) : List Int := ((List.range j).filter fun (i : Nat) => (m.fresh (i : Int)).isSome).map Int.ofNat
theorem dirtyTo_all (m : DM) : dirtyTo m m.lasts.length = m.dirty := rfl
theorem dirtyTo_yes {m : DM} {j : Nat} (h : (m.fresh (j : Int)).isSome = true) : dirtyTo m (j + 1) = dirtyTo m j ++ [(j : Int)] := by
  unfold dirtyTo
  rw [List.range_succ, List.filter_append, List.map_append, List.filter_cons, if_pos h]; rfl
theorem dirtyTo_no {m : DM} {j : Nat} (h : (m.fresh (j : Int)).isSome = false) : dirtyTo m (j + 1) = dirtyTo m j := by
  unfold dirtyTo
  rw [List.range_succ, List.filter_append, List.map_append, List.filter_cons, if_neg (by rw [h]; simp)]; simp
theorem dirtyTo_length (m : DM) (j : Nat) : (dirtyTo m j).length ≤ j := by
  unfold dirtyTo
  rw [List.length_map]
  exact Nat.le_trans (List.length_filter_le _ _) (by simp)

/-- The loop under way. -/
structure DrInv (w : World) (oa : Option Addr) (oc : Nat) (ks : List Int) (wr : World) : Prop where
  row : Row wr 3 oa ks.length oc (ks.map (Value.int .i64))
  below : Below w.heap.size w wr
  new : ∀ x ∈ blk oa, w.heap.size ≤ x

theorem Row.ints {w : World} {oa : Option Addr} {oc : Nat} {ks : List Int} (h : Row w 3 oa ks.length oc (ks.map (Value.int .i64))) : IntsIn w oa ks := by
  by_cases h0 : ks = []
  · exact .inl h0
  · have hp : 0 < ks.length := List.length_pos_iff.2 h0
    obtain ⟨g, rfl, _, _⟩ := h.at hp
    refine .inr ⟨g, 0, rfl, fun j v hv => ?_, h.lt g (by simp [blk])⟩
    have hj : j < ks.length := by
      have := (List.getElem?_eq_some_iff.1 hv).1
      simpa using this
    obtain ⟨g', e, h2, _⟩ := h.at hj
    simp only [Option.some.injEq, Addr.mk.injEq] at e
    rw [Nat.zero_add, e.1, h2, ← hv]
    exact (List.getElem?_eq_getElem _).symm

set_option maxRecDepth 100000 in
set_option maxHeartbeats 1000000 in
theorem dirty_ref {w : World} {r : Nat} {S : List Nat} {m : DM} {K : Nat} (h : RefIn w r S m K) (hm : m.ok) (hK : K ≤ 1073741824) :
    Calls Try.prog 19 #[.pointer (some ⟨r, 0, none⟩)] w (Listed w m.dirty) := by
  have H := Lib.hid h
  obtain ⟨la, lc, aa, ac, fa, fc, log, hmem, hlog⟩ := h
  have hfew := hm.few
  have C := Lib.hid hmem.cells
  have ltr := Lib.hid hmem.cells.lt
  have hltS := Lib.hid hmem.lt
  have hlogI : (log.length : Int) ≤ 1073741824 := by omega
  by_cases h0 : log.length = 0
  · have c0 := hmem.cells.c0
    have c1 := hmem.cells.c1
    have hd : m.dirty = [] := by
      have hl : log = [] := List.eq_nil_of_length_eq_zero h0
      unfold DM.dirty
      rw [List.filter_eq_nil_iff.2 (fun i _ => by rw [hmem.fresh, hl]; simp [logF])]; rfl
    rw [hd]
    rw [h0] at c1
    have hpos := hm.pos
    have hposI : (0 : Int) < (m.lasts.length : Int) := by omega
    clear hmem hd
    go_enter Try.func19, Try.ntmps19
    go_wp2
    go_loop [3, 4] (fun o i => o = .slice none 0 0 ∧ i = .int .i64 0) (fun _ _ => 0)
    case atStart => exact ⟨rfl, rfl⟩
    case round =>
      obtain ⟨rfl, rfl⟩ := hrel
      go_wp2
      go_ret
      exact ⟨none, 0, rfl, .inl rfl, Below.refl _ _⟩
  · have hposI : (0 : Int) < (log.length : Int) := by omega
    clear hmem h0
    go_enter Try.func19, Try.ntmps19
    go_wp2
    go_loopw [3, 4] (fun o i wr => ∃ (j : Nat) (oa : Option Addr) (oc : Nat), j ≤ m.lasts.length ∧ i = .int .i64 j ∧ o = .slice oa (dirtyTo m j).length oc ∧ DrInv w oa oc (dirtyTo m j) wr) (fun _ i _ => m.lasts.length - (intOf i).toNat)
    case atStart => exact ⟨0, none, 0, Nat.zero_le _, rfl, rfl, Row.nil _ _, Below.refl _ _, by simp [blk]⟩
    case round =>
      obtain ⟨j, oa, oc, hj, rfl, rfl, inv⟩ := hrel
      have cc := C.out.keep (Below.only (S := []) inv.below) (by simp)
      have c0 := cc.c0
      have c1 := cc.c1
      clear cc
      by_cases hlt : j < m.lasts.length
      · have hltI : (j : Int) < (m.lasts.length : Int) := by omega
        have hnow := now_ref (H.out.keep (Below.only (S := []) inv.below) (by simp)) (by omega) (j : Int)
        have Inv := Lib.hid inv
        have Hlt := Lib.hid hlt
        have hdl : (dirtyTo m j).length ≤ 1099511627776 := by have := dirtyTo_length m j; omega
        clear hlt inv
        cases hf : (m.fresh (j : Int)).isSome
        · rw [hf] at hnow
          have hs := Lib.hid (dirtyTo_no hf)
          clear hf
          go_wp2_with (go_at_call 38; refine hnow.mono ?_; rintro e w' ⟨rfl, rfl⟩)
          go_roundw
          case rel => exact ⟨j + 1, oa, oc, by have := Hlt.out; omega, by go_num, by rw [hs.out], by rw [hs.out]; exact Inv.out⟩
          case measure => simp [intOf]; omega
        · rw [hf] at hnow
          have hs := Lib.hid (dirtyTo_yes hf)
          have oA : Only [] wr (wr.alloc (.cells #[.int .i64 (j : Int)] 3)) := (Only.refl _ _).alloc _
          have hR := Inv.out.row.keep oA (by simp)
          have HR := Lib.hid hR
          clear hf hR
          go_wp2_with (first
            | (go_at_call 38; refine hnow.mono ?_; rintro e w' ⟨rfl, rfl⟩)
            | (refine wpList_append_one elemInt rfl (.tmp 31) (.tmp 33) rfl HR.out rfl (.int .i64 (j : Int)) rfl wr.heap.size rfl (heap_alloc_last wr _) hdl ?_; intro g2 cap2 w2 hR2 o2 n2))
          have sw := Inv.out.below.size
          have s1 : (wr.alloc (.cells #[.int .i64 (j : Int)] 3)).heap.size = wr.heap.size + 1 := by simp
          go_roundw
          case rel =>
            refine ⟨j + 1, some ⟨g2, 0, none⟩, cap2, by have := Hlt.out; omega, by go_num, by rw [hs.out]; simp, ?_, ?_, ?_⟩
            · rw [hs.out]
              simpa using hR2
            · exact Below.then_only Inv.out.below (((Only.refl (blk oa) _).alloc _).trans o2) Inv.out.below.size Inv.out.new
            · intro x hx
              simp [blk] at hx
              subst hx
              rcases n2 with h1 | h1
              · exact Inv.out.new _ h1
              · omega
          case measure => simp [intOf]; omega
      · have hj' : j = m.lasts.length := by omega
        subst hj'
        go_wp2
        go_ret
        exact ⟨oa, oc, rfl, inv.row.ints, inv.below⟩

end Go.Proofs.Ytoiaikgpaobefaa
