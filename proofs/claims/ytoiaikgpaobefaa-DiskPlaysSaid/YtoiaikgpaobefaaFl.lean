/- Flush. -/
import Derived.Test.YtoiaikgpaobefaaLay
import Derived.Outline
namespace Go.Proofs.Ytoiaikgpaobefaa
open Go.RowKit Go.Extern.Stop Go.Stop Go.Extern Go.Maps

/-- The new contents that are still to be laid. -/
def freshOf (m : DM) (left : Lit → Bool) : Int → Option Sec := fun k => if left (.int .i64 k) then m.fresh k else none
/-- The sectors, but those that are still to be laid, as they are read. -/
def lastsOf (m : DM) (left : Lit → Bool) : List Sec :=
  (List.range m.lasts.length).map fun (i : Nat) => if left (.int .i64 (i : Int)) then m.lasts.getD i zeroSec else m.now (i : Int)
/-- A disk behind a flush. -/
def DM.flushed (m : DM) : DM := { m with lasts := lastsOf m (fun _ => false), fresh := fun _ => none }
/-- What Flush answers. -/
def DM.flushN (m : DM) : Int := if m.off then 9 else m.actN
/-- A disk behind a Flush. -/
def DM.flush (m : DM) : DM := if m.off then m else if m.left = 0 then m.acted else m.acted.flushed

theorem lastsOf_length (m : DM) (left : Lit → Bool) : (lastsOf m left).length = m.lasts.length := by simp [lastsOf]
theorem lastsOf_get (m : DM) (left : Lit → Bool) (i : Nat) (h : i < (lastsOf m left).length) : (lastsOf m left)[i] = if left (.int .i64 (i : Int)) then m.lasts.getD i zeroSec else m.now (i : Int) := by
  simp [lastsOf]
theorem now_length {m : DM} (hm : m.ok) (i : Nat) (hi : i < m.lasts.length) : (m.now (i : Int)).length = 256 := by
  unfold DM.now
  cases hf : m.fresh (i : Int) with
  | none =>
    rw [Option.getD_none, Int.toNat_natCast, List.getD_eq_getElem?_getD, List.getElem?_eq_getElem hi]
    exact hm.sec _ (List.getElem_mem hi)
  | some s => exact (hm.keys _ s hf).2.2
theorem lastsOf_sec {m : DM} (hm : m.ok) (left : Lit → Bool) : ∀ x ∈ lastsOf m left, x.length = 256 := by
  intro x hx
  unfold lastsOf at hx
  obtain ⟨i, hi, rfl⟩ := List.mem_map.1 hx
  rw [List.mem_range] at hi
  split
  · rw [List.getD_eq_getElem?_getD, List.getElem?_eq_getElem hi]
    exact hm.sec _ (List.getElem_mem hi)
  · exact now_length hm i hi

/-- At the start all that is new is to be laid. -/
theorem lastsOf_start {m : DM} (left : Lit → Bool) (h : ∀ i : Nat, i < m.lasts.length → left (.int .i64 (i : Int)) = (m.fresh (i : Int)).isSome) : lastsOf m left = m.lasts := by
  apply List.ext_getElem
  · exact lastsOf_length _ _
  · intro i h1 h2
    rw [lastsOf_get, h i h2]
    cases hf : m.fresh (i : Int) with
    | none => simp [DM.now, hf, h2]
    | some s => simp [h2]
theorem freshOf_start {m : DM} (hm : m.ok) (left : Lit → Bool) (h : ∀ k, Fits k → left (.int .i64 k) = (m.fresh k).isSome) : freshOf m left = m.fresh := by
  funext k
  unfold freshOf
  cases hf : m.fresh k with
  | none => split <;> rfl
  | some s =>
    have h1 := hm.keys k s hf
    have h2 := hm.few
    rw [h k ⟨by omega, by omega⟩, hf]
    rfl

/-- One is laid. -/
theorem lastsOf_step {m : DM} (hm : m.ok) (left : Lit → Bool) {k : Int} (hk : left (.int .i64 k) = true) {s : Sec} (hs : m.fresh k = some s) :
    layOne (freshOf m left) (lastsOf m left) k 256 = lastsOf m (fun z => left z && !z.sameKey (.int .i64 k)) := by
  obtain ⟨h0, h1, h2⟩ := hm.keys k s hs
  obtain ⟨n, rfl⟩ := Int.eq_ofNat_of_zero_le h0
  unfold layOne
  have e : freshOf m left (n : Int) = some s := by unfold freshOf; rw [hk]; exact hs
  rw [e]
  simp only [Int.toNat_natCast]
  unfold lay1
  have hn : n < m.lasts.length := by omega
  apply List.ext_getElem
  · simp [lastsOf_length]
  · intro i h3 h4
    have hi : i < m.lasts.length := by simpa [lastsOf_length] using h4
    rw [List.getElem_set]
    have key : (Lit.int IntKind.i64 (i : Int)).sameKey (.int .i64 (n : Int)) = decide (i = n) := by
      by_cases e : i = n
      · subst e; simp [Lit.sameKey]
      · simp [Lit.sameKey, e]; omega
    by_cases ein : n = i
    · subst ein
      rw [if_pos rfl]
      have : (lastsOf m (fun z => left z && !z.sameKey (.int .i64 (n : Int))))[n] = m.now (n : Int) := by
        rw [lastsOf_get, key]; simp
      rw [this]
      unfold DM.now
      rw [hs, List.take_of_length_le (by omega), List.drop_eq_nil_of_le]
      · simp
      · rw [List.getD_eq_getElem?_getD, List.getElem?_eq_getElem (by rw [lastsOf_length]; exact hn), Option.getD_some]
        exact Nat.le_of_eq (lastsOf_sec hm left _ (List.getElem_mem _))
    · rw [if_neg ein]
      rw [lastsOf_get, lastsOf_get, key]
      have : decide (i = n) = false := by simp; omega
      simp [this]
theorem freshOf_step (m : DM) (left : Lit → Bool) (k : Int) : del (freshOf m left) k = freshOf m (fun z => left z && !z.sameKey (.int .i64 k)) := by
  funext i
  unfold del freshOf
  by_cases e : i = k
  · subst e; simp [Lit.sameKey]
  · have : (Lit.int IntKind.i64 i).sameKey (.int .i64 k) = false := by simp [Lit.sameKey, e]
    simp [e, this]

theorem Only.grownBy {w w' : World} {k : Nat} (h : Only [k] w w') : w.grownBy w' (some k) :=
  ⟨h.os, h.tape, h.output, h.size, fun i hi hn => h.block i hi (by simpa using fun e => hn (by rw [e]))⟩

theorem flush_nil (w : World) : Calls Try.prog 23 #[.pointer none] w fun e w' => e = .returned (errV 1) ∧ w = w' := by
  go_enter Try.func23, Try.ntmps23
  go_wp2_with (go_at_call 39; refine (refusal_nil _ _ _ _).mono ?_; rw [errV_pos (by decide)]; rintro e w' ⟨rfl, rfl⟩)
  go_ret
  exact ⟨rfl, rfl⟩

theorem flush_off {w : World} {b L M N : Nat} {m : DM} (h : DiskIn w b L M N m) (hoff : m.off = true) :
    Calls Try.prog 23 #[.pointer (some ⟨b, 0, none⟩)] w fun e w' => e = .returned (errV 9) ∧ w = w' := by
  have hr : refN 2 m.lasts.length m.off 0 0 = 9 := by unfold refN; rw [hoff]; rfl
  clear hoff
  go_enter Try.func23, Try.ntmps23
  go_wp2_with (go_at_call 39; refine (refusal_flush h.cells h.ok.pos 0 0).mono ?_; rw [hr, errV_pos (by decide)]; rintro e w' ⟨rfl, rfl⟩)
  go_ret
  exact ⟨rfl, rfl⟩

/-- Flush beyond the limit, by its very world. -/
theorem flush_power_cells {w : World} {b L M n : Nat} (h : DCells w b L M n 0 false) (hn : 0 < n) :
    Calls Try.prog 23 #[.pointer (some ⟨b, 0, none⟩)] w fun e w' => e = .returned (errV 9) ∧ w.setCell ⟨b, 3, none⟩ (.bool true) = w' := by
  have hr : refN 2 n false 0 0 = 0 := rfl
  go_enter Try.func23, Try.ntmps23
  go_wp2_with (first | (go_at_call 39; refine (refusal_flush h hn 0 0).mono ?_; rw [hr, errV_0]; rintro e w' ⟨rfl, rfl⟩) | (go_at_call 40; refine (act_off h).mono ?_; rw [errV_pos (by decide)]; rintro e w1 ⟨rfl, rfl⟩))
  go_ret
  exact ⟨rfl, rfl⟩

theorem flush_power {w : World} {b L M N : Nat} {m : DM} (h : DiskIn w b L M N m) (hoff : m.off = false) (hl : m.left = 0) :
    Calls Try.prog 23 #[.pointer (some ⟨b, 0, none⟩)] w fun e w' => e = .returned (errV 9) ∧ DiskIn w' b L M N m.acted ∧ Only [b] w w' := by
  have hr : refN 2 m.lasts.length m.off 0 0 = 0 := by unfold refN; rw [hoff]; rfl
  have hn : m.actN = 9 := by simp [DM.actN, hl]
  have ha := act_any h
  rw [hn] at ha
  have Ha := Lib.hid ha
  clear ha hn hl hoff
  go_enter Try.func23, Try.ntmps23
  go_wp2_with (first | (go_at_call 39; refine (refusal_flush h.cells h.ok.pos 0 0).mono ?_; rw [hr, errV_0]; rintro e w' ⟨rfl, rfl⟩) | (go_at_call 40; refine Ha.out.mono ?_; rw [errV_pos (by decide)]; rintro e w1 ⟨rfl, hd, ho⟩))
  go_ret
  exact ⟨rfl, hd, ho⟩

/-- Flush's loop under way. -/
structure FlInv (w1 : World) (b L M N r : Nat) (m : DM) (left : Lit → Bool) (cnt : Nat) (wr : World) : Prop where
  rng : ∃ D, wr.ranges Try.prog 3 secR M r N D left cnt ∧ Reads D (freshOf m left)
  cells : DCells wr b L M m.lasts.length m.left m.off
  lasts : wr.heap[L]? = some (.cells (flat (lastsOf m left)) 79 (0, 0))
  only : Only [L, M] w1 wr

/-- What a Flush leaves. -/
def Flushed (w : World) (b L M N : Nat) (n : Int) (m : DM) (e : Ending) (w' : World) : Prop :=
  e = .returned (errV n) ∧ DiskIn w' b L M N m ∧ Only [b, L, M] w w'

theorem ok_cur {m : DM} (hm : m.ok) (left : Lit → Bool) : ({ m with lasts := lastsOf m left, fresh := freshOf m left } : DM).ok := by
  refine ⟨?_, ?_, lastsOf_sec hm left, fun k s hk => ?_, hm.left⟩
  · show 0 < (lastsOf m left).length; rw [lastsOf_length]; exact hm.pos
  · show (lastsOf m left).length ≤ _; rw [lastsOf_length]; exact hm.few
  · show 0 ≤ k ∧ k < (lastsOf m left).length ∧ _
    rw [lastsOf_length]
    have : freshOf m left k = some s := hk
    unfold freshOf at this
    split at this
    · exact hm.keys k s this
    · cases this

theorem FlInv.disk {w1 wr w' : World} {b L M N r : Nat} {m : DM} {left : Lit → Bool} {cnt : Nat} {S : List Nat} (h : FlInv w1 b L M N r m left cnt wr) (hm : m.ok) (ne : L ≠ b) (ho : Only S wr w') (hb : b ∉ S) (hL : L ∉ S) (hm' : MapIs w' M N (freshOf m left)) :
    DiskIn w' b L M N { m with lasts := lastsOf m left, fresh := freshOf m left } := by
  refine ⟨?_, ho.keep h.lasts hL, hm', ne, ok_cur hm left⟩
  show DCells w' b L M (lastsOf m left).length _ _
  rw [lastsOf_length]; exact ho.keep h.cells hb

set_option maxRecDepth 100000 in
theorem flush_done {w : World} {b L M N : Nat} {m : DM} (h : DiskIn w b L M N m) (hoff : m.off = false) (hl : m.left ≠ 0) :
    Calls Try.prog 23 #[.pointer (some ⟨b, 0, none⟩)] w (Flushed w b L M N 0 m.acted.flushed) := by
  have hr : refN 2 m.lasts.length m.off 0 0 = 0 := by unfold refN; rw [hoff]; rfl
  have hn : m.actN = 0 := by simp [DM.actN, hl]
  have ha := act_any h
  rw [hn] at ha
  have Ha := Lib.hid ha
  clear ha hn hl hoff
  go_enter Try.func23, Try.ntmps23
  go_wp2_with (first | (go_at_call 39; refine (refusal_flush h.cells h.ok.pos 0 0).mono ?_; rw [hr, errV_0]; rintro e w' ⟨rfl, rfl⟩) | (go_at_call 40; refine Ha.out.mono ?_; rw [errV_0]; rintro e w1 ⟨rfl, hd, ho⟩; have c1 := hd.cells.c1; obtain ⟨D, hown, hreads⟩ := hd.fresh) | (at_range; refine wpList_range_own _ rfl _ 71 rfl 3 79 mapLaw Try.underlying71 _ M N D rfl hown ?_; intro w2 hrg0 hg0 hs0))
  go_frame
  have hok := hd.ok
  have hne := hd.ne
  have hnb := hd.neb
  have hnL := hd.neL
  have hlb := hd.ltb
  have hlL := hd.ltL
  have hlM := hd.ltM
  have hfew := hok.few
  have og : Only [L, M] w1 w2 := (Only.refl _ _).grown hg0 (by simp)
  have hs1 : FlInv w1 b L M N w1.heap.size m.acted (Maps.has D) (Maps.size D) w2 :=
    ⟨⟨D, hrg0, by rw [freshOf_start hok _ hreads.1]; exact hreads⟩, og.keep hd.cells (by simpa using ⟨hne.symm, hnb.symm⟩), by
      have e := lastsOf_start (m := m.acted) (Maps.has D) (fun i hi => hreads.1 _ ⟨by omega, by omega⟩)
      have h1 := (Only.refl [] w1).grown hg0 (by simp)
      rw [e]; exact h1.keep hd.lasts (by simp), og⟩
  clear hrg0 hg0 hs0 c1 hreads
  have HS := Lib.hid hs1
  clear hs1
  go_loopw [5] (fun _ wr => ∃ left cnt, FlInv w1 b L M N w1.heap.size m.acted left cnt wr) (fun _ wr => wr.rangeLeft M w1.heap.size)
  case atStart => exact ⟨_, _, HS.out⟩
  case round =>
    obtain ⟨left, cnt, hI⟩ := hrel
    obtain ⟨D1, hrg, hrd⟩ := hI.rng
    have hle := hrg.left_eq
    have HL := Lib.hid hle
    clear hle
    go_wp2_with (at_next; refine wpList_next_ranges _ rfl (.tmp 20) rfl 3 mapLaw secR (Value.int .i64) secV (fun key kl hkey => by obtain ⟨z, rfl, _⟩ := Maps.keyOf_int_inv Try.underlying3 hkey; exact ⟨z, rfl⟩) (fun v z hv => by obtain ⟨t, _, rfl, _⟩ := secR_inv hv; exact ⟨t, rfl⟩) M w1.heap.size N D1 left cnt rfl hrg ?_ ?_)
    · intro _ hl0
      go_wp2
      go_ret
      have e1 : left = fun _ => false := funext hl0
      subst e1
      refine ⟨rfl, ⟨?_, ?_, ?_, hne, ?_⟩, ?_⟩
      · have := hI.cells
        show DCells wr b L M (lastsOf m.acted (fun _ => false)).length m.acted.left m.acted.off
        rw [lastsOf_length]; exact this
      · exact hI.lasts
      · exact ⟨D1, hrg.owns, hrd⟩
      · have := ok_cur hok (fun _ => false)
        exact this
      · exact (ho.mono (by simp)).trans (hI.only.mono (by simp))
    · intro x c kl y0 ps w3 cnt3 hkey hlx hR hat hrg1 hlt hg1 hs1 hen
      obtain ⟨x', ex, rfl, hwx⟩ := Maps.keyOf_int_inv Try.underlying3 hkey
      cases ex
      have hfx : Fits x := Fits.of_wf hwx
      have hmf : ∃ s, m.acted.fresh x = some s := by
        have h1 := hrd.1 x hfx
        have h2 : Maps.has D1 (.int .i64 x) = true := Maps.has_true_of_atKey (y := y0) hat
        rw [h2] at h1
        obtain ⟨s, hs⟩ := Option.isSome_iff_exists.1 h1.symm
        unfold freshOf at hs
        rw [hlx] at hs
        exact ⟨s, by simpa using hs⟩
      obtain ⟨sx, hsx⟩ := hmf
      have hon3 : Only [w1.heap.size] wr w3 := (Only.refl _ _).grown hg1 (by simp)
      have hD3 := hI.disk hok hne hon3 (by simp; omega) (by simp; omega) ⟨D1, hrg1.owns, hrd⟩
      have c3 := hD3.cells.c1
      have Hlay := Lib.hid (lay_any hD3 b L x 256 hfx _ rfl hD3.cells.c0 hD3.lasts hD3.ok.sec)
      have Hkey := Lib.hid hkey
      have Hat := Lib.hid hat
      clear hkey hat hR
      go_wp2_with fail
      refine Hlay.out.mono ?_
      rintro e w4 ⟨rfl, s1, s2⟩
      have c4 := (hD3.cells.keep s2 (by simpa using hne.symm)).c1
      have hrg4 := hrg1.kept s2.grownBy (by simpa using hnL) (by simp; omega)
      go_wp2_with (at_delete; refine wpList_delete_ranges _ rfl (.tmp 32) (.tmp 33) 71 3 rfl 79 mapLaw Try.underlying71 secR M w1.heap.size N D1 _ cnt3 rfl hrg4 _ _ rfl Hkey.out ?_; intro w5 cnt5 hrg5 hle5 hturn5)
      rw [Maps.strike_twice] at hrg5
      have ho4 : Only [L, M] w1 w4 := (hI.only.trans_new hon3 (by simp)).trans (s2.mono (by simp))
      have ho5 : Only [M] w4 w5 := (Only.refl _ _).mapTurned hturn5 (by simp)
      have key : FlInv w1 b L M N w1.heap.size m.acted (fun z => left z && !z.sameKey (.int .i64 x)) cnt5 w5 := by
        refine ⟨⟨_, hrg5, ?_⟩, ?_, ?_, ho4.trans (ho5.mono (by simp))⟩
        · rw [← freshOf_step]; exact reads_del hrd
        · have hc := (hD3.cells.keep s2 (by simpa using hne.symm)).keep ho5 (by simpa using hnb.symm)
          have e1 : (lastsOf m.acted left).length = m.acted.lasts.length := lastsOf_length _ _
          rw [← e1]; exact hc
        · rw [← lastsOf_step hok left hlx hsx]
          exact ho5.keep s1 (by simpa using hnL.symm)
      go_frame
      go_roundw
      case rel => exact ⟨_, _, key⟩
      case measure => rw [hrg5.left_eq, HL.out]; omega

/-- Flush. -/
theorem flush_any {w : World} {b L M N : Nat} {m : DM} (h : DiskIn w b L M N m) :
    Calls Try.prog 23 #[.pointer (some ⟨b, 0, none⟩)] w (Flushed w b L M N m.flushN m.flush) := by
  unfold DM.flushN DM.flush
  cases hoff : m.off
  · simp only [Bool.false_eq_true, if_false]
    by_cases hl : m.left = 0
    · rw [if_pos hl, show m.actN = 9 by simp [DM.actN, hl]]
      exact (flush_power h hoff hl).mono fun e w' ⟨h1, h2, h3⟩ => ⟨h1, h2, h3.mono (by simp)⟩
    · rw [if_neg hl, show m.actN = 0 by simp [DM.actN, hl]]
      exact flush_done h hoff hl
  · simp only [if_true]
    refine (flush_off h hoff).mono ?_
    rintro e w' ⟨rfl, rfl⟩
    exact ⟨rfl, h, Only.refl _ _⟩

end Go.Proofs.Ytoiaikgpaobefaa
