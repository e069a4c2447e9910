/- The document's act and Limit. -/
import Derived.Test.YtoiaikgpaobefaaRr
namespace Go.Proofs.Ytoiaikgpaobefaa
open Go.RowKit Go.Maps

/-- The document's act: the disk behind it, and what it answers. -/
def DM.actd (m : DM) : DM := if m.off then m else m.acted
def DM.actB (m : DM) : Bool := !m.off && decide (m.left ≠ 0)

theorem RefMem.turn {w w' : World} {r : Nat} {S : List Nat} {m m' : DM} {la : Option Addr} {lc : Nat} {aa : Option Addr} {ac : Nat} {fa : Option Addr} {fc : Nat} {log : List (Int × Sec)}
    (h : RefMem w r S m la lc aa ac fa fc log) (ho : Only [r] w w') (hc : RCells w' r (.slice la m.lasts.length lc) (.slice aa log.length ac) (.slice fa log.length fc) (normLeft m'.left) m'.off)
    (h1 : m'.lasts = m.lasts) (h2 : m'.fresh = m.fresh) : RefMem w' r S m' la lc aa ac fa fc log := by
  have hr : r ∉ blk la ++ (blk aa ++ blk fa) := by
    have := h.nodup
    rw [h.own] at this
    exact (List.nodup_cons.1 this).1
  simp only [List.mem_append, not_or] at hr
  have e1 : Row w' 9 la m.lasts.length lc (m.lasts.map strV) := h.lasts.keep ho (fun x hx => by simp only [List.mem_singleton]; rintro rfl; exact hr.1 hx)
  refine ⟨by rw [h1]; exact hc, by rw [h1]; exact e1, h.ats.keep ho (fun x hx => ?_), h.news.keep ho (fun x hx => ?_), h.own, h.nodup, by rw [h2]; exact h.fresh, by rw [h1]; exact h.keys⟩
  all_goals
    simp only [List.mem_singleton]
    rintro rfl
    first | exact hr.2.1 hx | exact hr.2.2 hx

theorem RefIn.self {w : World} {r : Nat} {S : List Nat} {m : DM} {K : Nat} (h : RefIn w r S m K) : r ∈ S := by
  obtain ⟨la, lc, aa, ac, fa, fc, log, h1, h2⟩ := h
  rw [h1.own]; simp

set_option maxRecDepth 100000 in
theorem act_ref {w : World} {r : Nat} {S : List Nat} {m : DM} {K : Nat} (h : RefIn w r S m K) (hf : Fits m.left) :
    Calls Try.prog 44 #[.pointer (some ⟨r, 0, none⟩)] w fun e w' => e = .returned (.bool m.actB) ∧ RefIn w' r S m.actd K ∧ Only [r] w w' := by
  obtain ⟨la, lc, aa, ac, fa, fc, log, hmem, hlog⟩ := h
  have HM := Lib.hid hmem
  have c3 := hmem.cells.c3
  have c4 := hmem.cells.c4
  have f3 := hmem.cells.fr 3
  have f4 := hmem.cells.fr 4
  clear hmem
  obtain ⟨lasts, fresh, left, off⟩ := m
  dsimp only at c3 c4 hf
  by_cases h0 : left = 0
  · subst h0
    have e : normLeft 0 = 0 := rfl
    rw [e] at c3
    have ho : Only [r] w (w.setCell ⟨r, 4, none⟩ (.bool true)) := (Only.refl _ _).setCell (by simp) _
    have hc := Lib.hid (HM.out.turn (m' := ⟨lasts, fresh, 0, true⟩) ho (HM.out.cells.set4 true) rfl rfl)
    go_enter Try.func44, Try.ntmps44
    go_wp2
    go_ret
    refine ⟨?_, ⟨la, lc, aa, ac, fa, fc, log, ?_, hlog⟩, ho⟩
    · cases off <;> rfl
    · cases off
      · exact hc.out
      · exact hc.out
  · by_cases h1 : left < 0
    · have e : normLeft left = -1 := by unfold normLeft; rw [if_pos h1]
      rw [e] at c3
      cases off
      · have hB : DM.actB ⟨lasts, fresh, left, false⟩ = true := by simp [DM.actB, h0]
        have hD : DM.actd ⟨lasts, fresh, left, false⟩ = ⟨lasts, fresh, left, false⟩ := by unfold DM.actd DM.acted; simp [h0]; omega
        rw [hB, hD]
        clear h0 h1 e
        go_enter Try.func44, Try.ntmps44
        go_wp2
        go_ret
        exact ⟨rfl, ⟨la, lc, aa, ac, fa, fc, log, HM.out, hlog⟩, Only.refl _ _⟩
      · clear h0 h1 e
        go_enter Try.func44, Try.ntmps44
        go_wp2
        go_ret
        exact ⟨rfl, ⟨la, lc, aa, ac, fa, fc, log, HM.out, hlog⟩, Only.refl _ _⟩
    · have e : normLeft left = left := by unfold normLeft; rw [if_neg h1]
      rw [e] at c3
      have hz : (left == 0) = false := by simpa using h0
      have hp : 0 < left := by omega
      have hmx := hf.2
      cases off
      · have hB : DM.actB ⟨lasts, fresh, left, false⟩ = true := by simp [DM.actB, h0]
        have hD : DM.actd ⟨lasts, fresh, left, false⟩ = ⟨lasts, fresh, left - 1, false⟩ := by unfold DM.actd DM.acted; simp [h0]; omega
        rw [hB, hD]
        have ho : Only [r] w (w.setCell ⟨r, 3, none⟩ (.int .i64 (left - 1))) := (Only.refl _ _).setCell (by simp) _
        have hc := Lib.hid (HM.out.turn (m' := ⟨lasts, fresh, left - 1, false⟩) ho (by
          have := HM.out.cells.set3 (left - 1)
          have e2 : normLeft (left - 1) = left - 1 := by unfold normLeft; rw [if_neg (by omega)]
          rw [e2]; exact this) rfl rfl)
        clear h0 h1 e
        go_enter Try.func44, Try.ntmps44
        go_wp2
        go_ret
        exact ⟨rfl, ⟨la, lc, aa, ac, fa, fc, log, hc.out, hlog⟩, ho⟩
      · clear h0 h1 e
        go_enter Try.func44, Try.ntmps44
        go_wp2
        go_ret
        exact ⟨rfl, ⟨la, lc, aa, ac, fa, fc, log, HM.out, hlog⟩, Only.refl _ _⟩

set_option maxRecDepth 100000 in
theorem limit_ref {w : World} {r : Nat} {S : List Nat} {m : DM} {K : Nat} (h : RefIn w r S m K) (x : Int) :
    Calls Try.prog 33 #[.pointer (some ⟨r, 0, none⟩), .int .i64 x] w fun e w' => e = .returned (.tuple #[]) ∧ RefIn w' r S { m with left := x } K ∧ Only [r] w w' := by
  obtain ⟨la, lc, aa, ac, fa, fc, log, hmem, hlog⟩ := h
  have HM := Lib.hid hmem
  have f3 := hmem.cells.fr 3
  have c3 := hmem.cells.c3
  clear hmem
  by_cases hx : x < 0
  · have ho : Only [r] w ((w.setCell ⟨r, 3, none⟩ (.int .i64 x)).setCell ⟨r, 3, none⟩ (.int .i64 (-1))) := ((Only.refl _ _).setCell (by simp) _).setCell (by simp) _
    have hc := Lib.hid (HM.out.turn (m' := { m with left := x }) ho (by
      have := (HM.out.cells.set3 x).set3 (-1)
      have e2 : normLeft x = -1 := by unfold normLeft; rw [if_pos hx]
      rw [e2]; exact this) rfl rfl)
    go_enter Try.func33, Try.ntmps33
    go_wp2
    go_end0
    exact ⟨rfl, ⟨la, lc, aa, ac, fa, fc, log, hc.out, hlog⟩, ho⟩
  · have ho : Only [r] w (w.setCell ⟨r, 3, none⟩ (.int .i64 x)) := (Only.refl _ _).setCell (by simp) _
    have hc := Lib.hid (HM.out.turn (m' := { m with left := x }) ho (by
      have := HM.out.cells.set3 x
      have e2 : normLeft x = x := by unfold normLeft; rw [if_neg hx]
      rw [e2]; exact this) rfl rfl)
    go_enter Try.func33, Try.ntmps33
    go_wp2
    go_end0
    exact ⟨rfl, ⟨la, lc, aa, ac, fa, fc, log, hc.out, hlog⟩, ho⟩

end Go.Proofs.Ytoiaikgpaobefaa
