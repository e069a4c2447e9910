/- The document's Flush. -/
import Derived.Test.YtoiaikgpaobefaaRw
import Derived.Test.YtoiaikgpaobefaaFl
import Derived.StillTailTactics
namespace Go.Proofs.Ytoiaikgpaobefaa
open Go.RowKit Go.Maps

/-- A log laid into the sectors. -/
def setAll (l : List Sec) (log : List (Int × Sec)) : List Sec := log.foldl (fun l p => l.set p.1.toNat p.2) l
theorem setAll_length (l : List Sec) (log : List (Int × Sec)) : (setAll l log).length = l.length := by
  unfold setAll
  induction log generalizing l with
  | nil => rfl
  | cons p log ih => rw [List.foldl_cons, ih]; simp
theorem setAll_take (l : List Sec) (log : List (Int × Sec)) (j : Nat) (hj : j < log.length) : setAll l (log.take (j + 1)) = (setAll l (log.take j)).set log[j].1.toNat log[j].2 := by
  rw [List.take_succ_eq_append_getElem hj]
  unfold setAll
  rw [List.foldl_append]; rfl
theorem setAll_get (l : List Sec) (log : List (Int × Sec)) (hk : ∀ p ∈ log, 0 ≤ p.1) (i : Nat) (hi : i < l.length) : ∀ j, j ≤ log.length → (setAll l (log.take j))[i]? = some ((logF (log.take j) i).getD l[i])
  | 0, _ => by
    rw [List.take_zero]
    show l[i]? = _
    rw [List.getElem?_eq_getElem hi]; rfl
  | j + 1, hj => by
    have hj' : j < log.length := by omega
    have ih := setAll_get l log hk i hi j (by omega)
    rw [setAll_take l log j hj', logF_take log j hj' i, List.getElem?_set]
    have h0 := hk _ (List.getElem_mem hj')
    by_cases e : log[j].1 = (i : Int)
    · rw [if_pos e, if_pos (by omega), if_pos (by rw [setAll_length]; omega)]; rfl
    · rw [if_neg e, if_neg (by omega), ih]
theorem setAll_flush {m : DM} {log : List (Int × Sec)} (hf : ∀ k, m.fresh k = logF log k) (hk : ∀ p ∈ log, 0 ≤ p.1) : setAll m.lasts log = lastsOf m (fun _ => false) := by
  refine List.ext_getElem? fun i => ?_
  by_cases hi : i < m.lasts.length
  · have h1 := setAll_get m.lasts log hk i hi log.length (Nat.le_refl _)
    rw [List.take_length] at h1
    have h2 : i < (lastsOf m (fun _ => false)).length := by rw [lastsOf_length]; exact hi
    rw [h1, List.getElem?_eq_getElem h2, lastsOf_get m _ i h2]
    simp only [Bool.false_eq_true, if_false]
    unfold DM.now
    rw [hf, Int.toNat_natCast, List.getD_eq_getElem?_getD, List.getElem?_eq_getElem hi]; rfl
  · rw [List.getElem?_eq_none (by rw [setAll_length]; omega), List.getElem?_eq_none (by rw [lastsOf_length]; omega)]

theorem flush_no {m : DM} (hB : m.actB = false) : m.flushN = 9 ∧ m.flush = m.actd := by
  unfold DM.flushN DM.flush DM.actd
  cases hoff : m.off
  · have hl : m.left = 0 := by
      unfold DM.actB at hB; rw [hoff] at hB; simpa using hB
    simp [DM.actN, hl]
  · simp
theorem flush_yes {m : DM} (hB : m.actB = true) : m.flushN = 0 ∧ m.flush = m.actd.flushed ∧ m.actd = m.acted := by
  unfold DM.flushN DM.flush DM.actd
  unfold DM.actB at hB
  simp only [Bool.and_eq_true, Bool.not_eq_true', decide_eq_true_eq] at hB
  rw [hB.1]
  simp [DM.actN, hB.2]

/-- The loop under way. -/
structure FrInv (w1 : World) (r : Nat) (m : DM) (la : Option Addr) (lc : Nat) (log : List (Int × Sec)) (j : Nat) (wr : World) : Prop where
  row : Row wr 9 la m.lasts.length lc ((setAll m.lasts (log.take j)).map strV)
  only : Only (blk la) w1 wr

set_option maxRecDepth 100000 in
set_option maxHeartbeats 1000000 in
theorem flush_ref {w : World} {r : Nat} {S : List Nat} {m : DM} {K : Nat} (h : RefIn w r S m K) (hm : m.ok) (hK : K ≤ 1073741824) :
    Calls Try.prog 32 #[.pointer (some ⟨r, 0, none⟩)] w (Refd w r S m.flush K (.int .i64 m.flushN)) := by
  have hself := Lib.hid (And.intro h.lt h.self)
  have hact := act_ref h hm.left
  cases hB : m.actB
  · obtain ⟨e1, e2⟩ := flush_no hB
    rw [e1, e2]
    rw [hB] at hact
    have Hact := Lib.hid hact
    clear e1 e2 hB hact h
    go_enter Try.func32, Try.ntmps32
    go_wp2_with (go_at_call 44; refine Hact.out.mono ?_; rintro e w1 ⟨rfl, h1, o1⟩)
    go_ret
    exact ⟨rfl, S, h1, o1.mono (by have := hself.out.2; simp [this]), fun x hx => .inl hx⟩
  · obtain ⟨e1, e2, e3⟩ := flush_yes hB
    rw [e1, e2]
    rw [hB] at hact
    have Hact := Lib.hid hact
    have hok : m.actd.lasts.length ≤ 8192 := by rw [e3, DM.acted_lasts]; exact hm.few
    generalize m.actd = m1 at Hact hok ⊢
    clear e1 e2 e3 hB hact h hm
    go_enter Try.func32, Try.ntmps32
    go_wp2_with fail
    refine Hact.out.mono ?_
    rintro e w1 ⟨rfl, h1, o1⟩
    obtain ⟨la, lc, aa, ac, fa, fc, log, mem1, hlog1⟩ := h1
    have M1 := Lib.hid mem1
    have hlogI : (log.length : Int) ≤ 1073741824 := by omega
    obtain ⟨⟨rl, ra, rf⟩, aL, aA⟩ := mem1.apart
    have AP := Lib.hid (And.intro rl (And.intro ra (And.intro rf (And.intro aL aA))))
    clear mem1 Hact rl ra rf aL aA
    go_wp2
    go_loopw [3] (fun i wr => ∃ j : Nat, j ≤ log.length ∧ i = .int .i64 j ∧ FrInv w1 r m1 la lc log j wr) (fun i _ => log.length - (intOf i).toNat)
    case atStart => exact ⟨0, Nat.zero_le _, rfl, M1.out.lasts, Only.refl _ _⟩
    case round =>
      obtain ⟨j, hj, rfl, inv⟩ := hrel
      have cc := M1.out.cells.keep inv.only AP.out.1
      have c0 := cc.c0
      have c1 := cc.c1
      have c2 := cc.c2
      by_cases hlt : j < log.length
      · have hA := M1.out.ats.keep inv.only (fun x hx hh => (AP.out.2.2.2.1 x hh).1 hx)
        have hF := M1.out.news.keep inv.only (fun x hx hh => (AP.out.2.2.2.1 x hh).2 hx)
        obtain ⟨ga, _, i1, i2, _⟩ := run_index_row Try.underlying37 sizeInt hA hlt
        obtain ⟨gf, _, i3, i4, _⟩ := run_index_row Try.underlying41 sizeStr hF hlt
        obtain ⟨k0, k1, k2⟩ := M1.out.keys _ (List.getElem_mem hlt)
        have hstep := setAll_take m1.lasts log j hlt
        rw [List.getElem_map] at i2 i4
        obtain ⟨t, ht⟩ := Int.eq_ofNat_of_zero_le k0
        have htl : t < m1.lasts.length := by omega
        obtain ⟨gl, el, i5, i6, i7⟩ := run_index_row Try.underlying41 sizeStr inv.row htl
        rw [ht] at i2 hstep
        rw [Int.toNat_natCast] at hstep
        rw [List.getElem_map] at i6
        generalize (setAll m1.lasts (log.take j))[t]'_ = old at i6
        have Row2 := Lib.hid inv.row
        have Only2 := Lib.hid inv.only
        have Step := Lib.hid hstep
        generalize log[j].2 = new at i4 Step
        replace i4 : wr.cell? ⟨gf, j, none⟩ = some (.string (strOf new)) := i4
        replace i6 : wr.cell? ⟨gl, t, none⟩ = some (.string (strOf old)) := i6
        have hltI : (j : Int) < (log.length : Int) := by omega
        have htI : (t : Int) < (m1.lasts.length : Int) := by omega
        have Hlt := Lib.hid hlt
        clear hA hF k0 k1 k2 hstep inv ht cc
        go_wp2
        refine region_tail 19 (by kernel_rfl) (by kernel_rfl) ?_
        simp only [List.take_succ_cons, List.take_zero, List.drop_succ_cons, List.drop_zero]
        repeat still_step
        try refine wpStill_nil ?_
        go_wp2
        have o9 : Only (blk la) wr (wr.drew.setCell ⟨gl, t, none⟩ (.string (strOf new))) := ((Only.refl _ _).drew).setCell (.inl (by rw [el]; simp [blk])) _
        have inv2 : FrInv w1 r m1 la lc log (j + 1) (wr.drew.setCell ⟨gl, t, none⟩ (.string (strOf new))) := by
          refine ⟨?_, Only2.out.trans o9⟩
          have := ((Row2.out.keep (S := []) ((Only.refl _ _).drew) (by simp)))
          rw [el] at this ⊢
          have := this.set t (strV new) (by omega)
          rw [Step.out, List.map_set]; exact this
        go_roundw
        case rel => exact ⟨j + 1, by have := Hlt.out; omega, by go_num, inv2⟩
        case measure => simp [intOf]; omega
      · have hc5 := (cc.set1 (.slice none 0 0)).set2 (.slice none 0 0)
        have f1 := cc.fr 1
        have f2 := cc.fr 2
        have hj' : j = log.length := by omega
        have hrow := inv.row
        rw [hj', List.take_length, setAll_flush M1.out.fresh (fun p hp => (M1.out.keys p hp).1)] at hrow
        have Hrow := Lib.hid hrow
        have Only2 := Lib.hid inv.only
        clear hrow inv
        go_wp2
        go_ret
        have o5 : Only [r] wr ((wr.setCell ⟨r, 1, none⟩ (.slice none 0 0)).setCell ⟨r, 2, none⟩ (.slice none 0 0)) := ((Only.refl _ _).setCell (by simp) _).setCell (by simp) _
        have hl5 := Hrow.out.keep o5 (fun x hx hh => by simp at hh; subst hh; exact AP.out.1 hx)
        have hll : m1.flushed.lasts.length = m1.lasts.length := lastsOf_length m1 (fun _ => false)
        have hnd := M1.out.nodup
        rw [M1.out.own] at hnd
        refine ⟨rfl, r :: (blk la ++ (blk none ++ blk none)), ⟨la, lc, none, 0, none, 0, [], ⟨by rw [hll]; exact hc5, by rw [hll]; exact hl5, Row.nil _ _, Row.nil _ _, rfl, ?_, fun k => rfl, by simp⟩, Nat.zero_le _⟩, ?_, ?_⟩
        · show (r :: (blk la ++ ([] ++ []))).Nodup
          rw [List.append_nil, List.append_nil]
          exact hnd.sublist (List.Sublist.cons_cons _ (List.sublist_append_left _ _))
        · have own := M1.out.own
          exact (o1.mono (fun x hx _ => by rw [own]; simp at hx; simp [hx])).trans ((Only2.out.mono (fun x hx _ => by rw [own]; simp [hx])).trans (o5.mono (fun x hx _ => by rw [own]; simp at hx; simp [hx])))
        · intro x hx
          left
          rw [M1.out.own]
          simp only [List.mem_cons, List.mem_append] at hx ⊢
          rcases hx with h | h | h | h
          · exact .inl h
          · exact .inr (.inl h)
          · cases h
          · cases h

end Go.Proofs.Ytoiaikgpaobefaa
