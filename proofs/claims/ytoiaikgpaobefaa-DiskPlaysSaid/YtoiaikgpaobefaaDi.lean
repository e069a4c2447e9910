/- Dirty. -/
import Derived.Test.YtoiaikgpaobefaaDm
import Derived.Test.YtoiaikgpaobefaaShelf
import Derived.Test.YtoiaikgpaobefaaInts
import Derived.Shelf.AbstractIn
namespace Go.Proofs.Ytoiaikgpaobefaa
open Go.RowKit Go.Extern.Stop Go.Stop Go.Extern Go.Maps Go.Sort Go.Shelf

/-- The dirty sectors' numbers, rising. -/
def DM.dirty (m : DM) : List Int := ((List.range m.lasts.length).filter fun (i : Nat) => (m.fresh (i : Int)).isSome).map Int.ofNat

theorem mem_dirty {m : DM} (hm : m.ok) (x : Int) : x ∈ m.dirty ↔ (m.fresh x).isSome = true := by
  unfold DM.dirty
  simp only [List.mem_map, List.mem_filter, List.mem_range]
  constructor
  · rintro ⟨i, ⟨_, h2⟩, rfl⟩; exact h2
  · intro h
    obtain ⟨s, hs⟩ := Option.isSome_iff_exists.1 h
    obtain ⟨h0, h1, _⟩ := hm.keys x s hs
    obtain ⟨n, rfl⟩ := Int.eq_ofNat_of_zero_le h0
    exact ⟨n, ⟨by omega, h⟩, rfl⟩

theorem dirty_sorted (m : DM) : m.dirty.Pairwise (fun a b => a < b) := by
  unfold DM.dirty
  rw [List.pairwise_map]
  refine List.Pairwise.imp (R := fun a b => a < b) (fun h => Int.ofNat_lt.2 h) ?_
  exact (List.pairwise_lt_range).filter _

theorem dirty_mergeSort (m : DM) : m.dirty.mergeSort leI = m.dirty :=
  List.mergeSort_of_pairwise ((dirty_sorted m).imp (fun h => by simp only [leI, decide_eq_true_eq]; exact Int.le_of_lt h))

theorem dirty_perm {w : World} {M N : Nat} {D : DataW Unit} {m : DM} (hm : m.ok) (hown : w.ownsMap Try.prog 3 secR M N D) (hr : Reads D m.fresh) : m.dirty.Perm (intKeys D) := by
  refine CollectedI.perm (D0 := D) (left := fun _ => false) ⟨?_, fun x => ?_⟩ hown mapLaw Try.underlying3 (fun _ => rfl)
  · exact (dirty_sorted m).imp (fun h e => by omega)
  · rw [mem_dirty hm]
    by_cases hx : Fits x
    · rw [hr.1 x hx]; simp
    · have h1 : m.fresh x = none := by
        cases hf : m.fresh x with
        | none => rfl
        | some s =>
          have h1 := hm.keys x s hf
          have h2 := hm.few
          exact absurd ⟨by omega, by omega⟩ hx
      have h2 : Maps.has D (.int .i64 x) = false := by
        cases hh : Maps.has D (.int .i64 x)
        · rfl
        · obtain ⟨es, rfl, _⟩ := hown.entries mapLaw
          obtain ⟨p, hp, hs⟩ := List.any_eq_true.1 hh
          have e := WideAt.sameKey_eq hs
          have := intKeys_wf hown Try.underlying3 x (List.mem_map.2 ⟨p, hp, by rw [e]; rfl⟩)
          exact absurd (Fits.of_wf this) hx
      rw [h1, h2]; simp

theorem sortsA (m : Nat) : AnyZI.SortsIn Try.prog Try.sortedA_ren Fence.wide m :=
  ⟨fun blk off cap ss W hH hblk hsz => callsIn_wide.2 (AnyM.slices_Sort_int Try.sortA blk off cap ss W hH hblk hsz),
   fun p cap W => callsIn_wide.2 (AnyM.slices_Sort_int_none Try.sortA p cap W)⟩

/-- What Dirty answers. -/
def Listed (w : World) (ks : List Int) (e : Ending) (w' : World) : Prop :=
  ∃ ka cap, e = .returned (.slice ka ks.length cap) ∧ IntsIn w' ka ks ∧ Below w.heap.size w w'

theorem ints_of_owns {w : World} {base : Nat} {v : Value} {ks : List Int} (h : w.ownsRow base 3 1 v ks.length (ks.map encZ)) : ∃ ka cap, v = .slice ka ks.length cap ∧ IntsIn w ka ks := by
  obtain ⟨_, h⟩ := h
  rcases h with ⟨rfl, h0⟩ | ⟨g, cap, cur, rfl, _, hg, hn, _, hc, ht⟩
  · have : ks = [] := List.eq_nil_of_length_eq_zero h0
    subst this
    exact ⟨none, 0, rfl, .inl rfl⟩
  · refine ⟨_, cap, rfl, .inr ⟨g, 0, rfl, fun j x hx => ?_, (Array.getElem?_eq_some_iff.1 hg).1⟩⟩
    rw [cell_of_row w g (0 + j) _ _ _ hg, Nat.zero_add]
    have hx' : (ks.map encZ)[j]? = some x := hx
    rw [← ht, List.getElem?_take] at hx'
    split at hx'
    · simpa using hx'
    · cases hx'

theorem dirty_nil (w : World) : Calls Try.prog 18 #[.pointer none] w fun e w' => e = .returned (.slice none 0 0) ∧ w = w' := by
  go_enter Try.func18, Try.ntmps18
  go_wp2_with (go_at_call 35; refine (made_nil _).mono ?_; rintro e w' ⟨rfl, rfl⟩)
  go_ret
  exact ⟨rfl, rfl⟩

set_option maxRecDepth 100000 in
set_option maxHeartbeats 1000000 in
theorem dirty_any {w : World} {b L M N : Nat} {m : DM} (h : DiskIn w b L M N m) (hN : N ≤ 1099511627776) :
    Calls Try.prog 18 #[.pointer (some ⟨b, 0, none⟩)] w (Listed w m.dirty) := by
  obtain ⟨D0, hown, hreads⟩ := h.fresh
  have hperm := dirty_perm h.ok hown hreads
  have hsize := hown.size_le
  have hmax : Maps.size D0 ≤ maxLen := by unfold maxLen; omega
  have hbytes : Maps.size D0 * 8 ≤ 140737488355328 := by omega
  have c1 := h.cells.c1
  refine (callsIn_wide (n := 6)).1 ?_
  have hbl := hown.lt
  have hseq : SeqGives Fence.wide 2 Try.prog 47 #[.pointer (some ⟨w.heap.size, 0, none⟩)] encZ (fun ss => ss.Perm (intKeys D0)) (Maps.size D0) (w.alloc (.cells #[.map (some M)] 71)) :=
    AnyZI.keys_gives (ρ := Try.keysA_ren) { Try.keysA with } Fence.wide _ trivial rfl (by omega) w.heap.size M N D0 _ (by simp) (by simp) (by
      obtain ⟨es, clock, hb, Ft, hs, hD⟩ := hown
      exact ⟨es, clock, (Below.heap_alloc _ _ M hbl).trans hb, Ft, hs, hD⟩)
  have cK : ∀ mb W, CallsIn Fence.wide 5 Try.prog 37 #[.map mb] W fun e w' => e = .returned (.func (.func 47) #[] #[.pointer (some ⟨W.heap.size, 0, none⟩)]) ∧ w' = W.alloc (.cells #[.map mb] 71) := fun mb W => AnyZI.keys_in Try.keysA Fence.wide 5 trivial rfl mb W
  have cS := AnyZI.sorted_in Try.sortedA Fence.wide 5 trivial trivial trivial trivial rfl (by omega) (sortsA _) (enters_of Try.func46 (by kernel_rfl) rfl) 47 #[.pointer (some ⟨w.heap.size, 0, none⟩)] trivial (enters_of Try.func47 (by kernel_rfl) rfl) _ _ hmax hbytes _ hseq
  change CallsIn _ _ Try.prog 36 _ _ _ at cS
  have cM : CallsIn Fence.wide 5 Try.prog 35 #[.pointer (some ⟨b, 0, none⟩)] w fun e w' => e = .returned (.bool true) ∧ w = w' := callsIn_wide.2 (made_any h.cells h.ok.pos)
  have hfK : Fence.wide.fn 37 := trivial
  have hfS : Fence.wide.fn 36 := trivial
  have hfM : Fence.wide.fn 35 := trivial
  have Hperm := Lib.hid hperm
  have Hr := Lib.hid hreads
  clear hperm hreads hown hseq
  refine callsIn_of_wp Try.func18 rfl trivial ?_ rfl
  simp only [Try.ntmps18, List.size_toArray, List.length_cons, List.length_nil, Nat.reduceAdd, Nat.reduceSub, Array.replicate_succ, Array.replicate_zero, List.push_toArray, List.append_toArray, List.nil_append, List.cons_append]
  gi_wp2_with (first
    | (gi_at_call 35; refine cM.mono ?_; rintro e w' ⟨rfl, rfl⟩)
    | (gi_at_call 37; refine (cK _ _).mono ?_; rintro e w' ⟨rfl, rfl⟩)
    | (gi_at_call 36; refine cS.mono ?_; rintro e w' ⟨v, ss, rfl, hS, hrow, hnil, hb⟩))
  go_ret
  have hpd : ss.Perm m.dirty := hS.trans Hperm.out.symm
  have hmer : ss.mergeSort leI = m.dirty := (mergeSort_of_perm_i hpd).trans (dirty_mergeSort m)
  have hlen : ss.length = m.dirty.length := hpd.length_eq
  rw [hmer, hlen] at hrow
  obtain ⟨ka, cap, hv, hi⟩ := ints_of_owns hrow
  exact ⟨ka, cap, congrArg Ending.returned hv, hi, ((Below.refl _ w).alloc (Nat.le_refl _) _).trans (hb.mono (by simp))⟩

end Go.Proofs.Ytoiaikgpaobefaa
