/- fold.Fold: the lines of rows. -/
import Derived.Test.YtddjfeofmihgdaaDoorUw
import Derived.Test.YtddjfeofmihgdaaDoorCs
namespace Go.Proofs.YtddjfeofmihgdaaDoor
open Go.RowKit
set_option linter.unusedVariables false
set_option linter.unusedSimpArgs false

/-- An error, by its place and its number; both 0: none. -/
def ErrIs (v : Value) (k n : Int) (w : World) : Prop := (v = .nilIface ∧ k = 0 ∧ n = 0) ∨ (1 ≤ n ∧ n ≤ 16 ∧ ∃ b, v = errF b ∧ FaultIn b k n w)
theorem ErrIs.below {v : Value} {k n : Int} {w w' : World} (h : ErrIs v k n w) (hb : Below w.heap.size w w') : ErrIs v k n w' := by
  rcases h with h | ⟨h1, h2, b, h3, h4⟩
  · exact .inl h
  · exact .inr ⟨h1, h2, b, h3, h4.below hb⟩
theorem no_calls {v : Value} {k n : Int} {w : World} (h : ErrIs v k n w) : Calls Tryd.prog 13 #[v] w fun e w' => e = .returned (.int .i64 n) ∧ w = w' := by
  rcases h with ⟨rfl, rfl, rfl⟩ | ⟨h1, h2, b, rfl, h4⟩
  · exact no_nil w
  · exact no_fault b k n w h4 h1 h2
theorem placeOf_calls {v : Value} {k n : Int} {w : World} (h : ErrIs v k n w) (hg : ErrTy w) : Calls Tryd.prog 14 #[v] w fun e w' => e = .returned (.int .i64 k) ∧ Below w.heap.size w w' := by
  rcases h with ⟨rfl, rfl, rfl⟩ | ⟨h1, h2, b, rfl, h4⟩
  · exact place_nil w
  · exact place_fault b k n w h4 hg

/-- The first row that may not be: its place, and why. -/
def foldN : List BL → Int → Int × Int
  | [], _ => (0, 0)
  | r :: l, k => if mayN r = 0 then foldN l (k + 1) else (k, mayN r)
def foldV (rows : List BL) : BL := if (foldN rows 1).2 = 0 then foldT rows else []
theorem mayN_range (r : BL) : mayN r = 0 ∨ mayN r = 4 ∨ mayN r = 11 := by
  unfold mayN
  split
  · exact .inr (.inl rfl)
  · split
    · exact .inr (.inr rfl)
    · exact .inl rfl
theorem foldN_snoc : ∀ (a : List BL) (b : List BL) (k : Int), (foldN a k).2 = 0 → foldN (a ++ b) k = foldN b (k + a.length)
  | [], b, k, _ => by simp
  | r :: a, b, k, h => by
    rw [foldN] at h
    by_cases hr : mayN r = 0
    · rw [if_pos hr] at h
      rw [List.cons_append, foldN, if_pos hr, foldN_snoc a b (k + 1) h, List.length_cons]
      congr 1; omega
    · rw [if_neg hr] at h
      exact absurd h hr
theorem foldN_zero : ∀ (l : List BL) (k : Int), (foldN l k).2 = 0 → (foldN l k).1 = 0
  | [], _, _ => rfl
  | r :: l, k, h => by
    rw [foldN] at h ⊢
    by_cases hr : mayN r = 0
    · rw [if_pos hr] at h ⊢; exact foldN_zero l _ h
    · rw [if_neg hr] at h; exact absurd h hr
theorem foldN_one (r : BL) (l : List BL) (k : Int) (h : mayN r ≠ 0) : foldN (r :: l) k = (k, mayN r) := by rw [foldN, if_neg h]
theorem mayN_small {r : BL} (h : mayN r = 0) : r.length ≤ 5000 := by
  unfold mayN at h
  by_cases h1 : 5000 < r.length
  · rw [if_pos h1] at h; cases h
  · omega
theorem errK_no (n : Int) (h : n ≠ 0) : errK n = errNo n := by unfold errK; rw [if_neg h]
theorem errK_yes : errK 0 = .nilIface := rfl

theorem lns_total (s : BL) : ∀ cur : BL, (ends (lns s cur)).length ≤ cur.length + 4 * s.length + 2 := by
  refine bl_ind (M := fun s => ∀ cur : BL, (ends (lns s cur)).length ≤ cur.length + 4 * s.length + 2) ?_ ?_ s
  · intro cur; rw [lns_nil, ends_cons, ends_nil]; simp
  · intro s he ih cur
    have hp := wid_pos s
    have tl := take_wid_length s he
    have hl := wid_le s he
    by_cases hw : 75 < cur.length + wid s
    · have := ih (32 :: s.take (wid s))
      rw [lns_new s cur he hw, ends_cons]
      rw [List.length_cons, tl, List.length_drop] at this
      simp only [List.length_append, List.length_cons] at *
      omega
    · have := ih (cur ++ s.take (wid s))
      rw [lns_old s cur he hw]
      rw [List.length_append, tl, List.length_drop] at this
      omega
theorem lines_total (s : BL) : (ends (lines s)).length ≤ 4 * s.length + 2 := by have := lns_total s []; unfold lines; simpa using this
theorem foldT_take (l : List ByteArray) (k : Nat) (h : k < l.length) : foldT ((l.take (k + 1)).map bts) = foldT ((l.take k).map bts) ++ ends (lines (bts l[k])) := by
  rw [take_snoc l k h, List.map_append, foldT_append]
  congr 1
  unfold foldT; simp
theorem foldT_len (l : List ByteArray) (hs : ∀ s ∈ l, s.size ≤ 1000000) : (foldT (l.map bts)).length ≤ 4000002 * l.length := by
  induction l with
  | nil => simp [foldT]
  | cons s l ih =>
    have h1 := ih (fun x hx => hs x (List.mem_cons_of_mem _ hx))
    have h2 := lines_total (bts s)
    have h3 := hs s List.mem_cons_self
    rw [bts_length] at h2
    rw [List.map_cons, show bts s :: l.map bts = [bts s] ++ l.map bts from rfl, foldT_append, List.length_append, List.length_cons]
    have : foldT [bts s] = ends (lines (bts s)) := by unfold foldT; simp
    rw [this]; omega

set_option maxRecDepth 100000 in
set_option maxHeartbeats 2000000 in
theorem fold_calls (x : Addr) (m : Int) (a : Option Addr) (cap : Nat) (l : List ByteArray) (w : World) (hg : Glob x m w) (hin : StrsIn w a l) (hl : l.length ≤ 1000) (hs : ∀ s ∈ l, s.size ≤ 1000000) :
    Calls Tryd.prog 11 #[.slice a l.length cap] w fun e w' => (∃ v, e = .returned (.tuple #[.string (strOf (foldV (l.map bts))), v]) ∧ ErrIs v (foldN (l.map bts) 1).1 (foldN (l.map bts) 1).2 w') ∧ Below w.heap.size w w' := by
  have hfresh := Lib.fresh_isBuilder 46 5 w
  have hfresh' : Bld w.heap.size w.heap.size [] (w.alloc (.cells #[.pointer none, .slice none 0 0] 46)) := hfresh
  clear hfresh
  have HG := Lib.hid hg
  have HS := Lib.hid hs
  have HI := Lib.hid hin
  have HF := Lib.hid hfresh'
  clear hg hs hin hfresh'
  go_enter Tryd.func11, Tryd.ntmps11
  go_wp2_with fail
  go_loopw [10] (fun i wr => ∃ k : Nat, k ≤ l.length ∧ i = iv k ∧ Hid (Bld w.heap.size w.heap.size (foldT ((l.take k).map bts)) wr ∧ Below w.heap.size w wr ∧ (foldN ((l.take k).map bts) 1).2 = 0)) (fun i _ => l.length - (intOf i).toNat)
  case atStart => exact ⟨0, Nat.zero_le _, rfl, Lib.hid ⟨HF.out, below_alloc _ _, rfl⟩⟩
  case round =>
    obtain ⟨k, hk, rfl, HR⟩ := hrel
    have sz := HR.out.2.1.size
    by_cases hlt : k < l.length
    · obtain ⟨b, off, rfl, hat⟩ := (HI.out.below HR.out.2.1).form hlt
      have hc := hat k hlt
      have hz : l[k].size ≤ 1000000 := HS.out _ (List.getElem_mem hlt)
      have HT := Lib.hid (foldT_take l k hlt)
      have HD : Hid (l.map bts = (l.take k).map bts ++ bts l[k] :: (l.drop (k + 1)).map bts) := Lib.hid (by
        rw [← List.map_cons, ← List.drop_eq_getElem_cons hlt, ← List.map_append, List.take_append_drop])
      have HK := Lib.hid (show (foldT ((l.take k).map bts)).length ≤ 4000002 * 1000 from Nat.le_trans (foldT_len (l.take k) (fun s h => HS.out s (List.mem_of_mem_take h))) (Nat.mul_le_mul_left _ (by rw [List.length_take]; omega)))
      have HN : Hid ((foldN ((l.take (k + 1)).map bts) 1).2 = if mayN (bts l[k]) = 0 then 0 else mayN (bts l[k])) := Lib.hid (by
        rw [take_snoc l k hlt, List.map_append, foldN_snoc _ _ _ HR.out.2.2, List.map_cons, List.map_nil, foldN]
        split
        · rfl
        · rfl)
      clear hat
      generalize hsk : l[k] = s at *
      have HFl := Lib.hid (fun w => flaw_calls s w (by omega))
      rcases mayN_range (bts s) with h0 | h4
      · have HW := Lib.hid (fun w2 (h : Bld w.heap.size w.heap.size (foldT ((l.take k).map bts)) w2) (hb : Below w.heap.size w w2) => write_calls x m w.heap.size w.heap.size _ s w2 (HG.out.below hb) HG.out.big h (by have := HK.out; omega) hb.size)
        rw [h0] at HN HFl
        clear hsk h0
        rw [errK_yes] at HFl
        go_wp2_with fail
        go_wp2_with fail
        refine (HFl.out _).mono ?_; rintro e w2 ⟨rfl, b2⟩
        have HB2 := Lib.hid (Bld.keep HR.out.1 b2)
        have K2 := Lib.hid (HR.out.2.1.trans (b2.mono sz))
        clear b2
        have HW2 := Lib.hid (HW.out _ HB2.out K2.out)
        go_wp2_with (go_at_call 22; refine HW2.out.mono ?_)
        rintro e w3 ⟨rfl, h3, k3⟩
        have H3 := Lib.hid (And.intro h3 (K2.out.trans k3.below))
        clear h3 k3
        go_wp2_with fail
        go_roundw
        case rel => exact ⟨k + 1, by omega, by go_num, Lib.hid ⟨by rw [HT.out]; exact H3.out.1, H3.out.2, HN.out⟩⟩
        case measure => simp [intOf]; omega
      · have hne : mayN (bts s) ≠ 0 := by omega
        have HV : Hid (foldN (l.map bts) 1 = ((k : Int) + 1, mayN (bts s))) := Lib.hid (by
          rw [HD.out, foldN_snoc _ _ _ HR.out.2.2, foldN_one _ _ _ hne, List.length_map, List.length_take]
          congr 1; omega)
        have hn16 : 1 ≤ mayN (bts s) ∧ mayN (bts s) ≤ 16 := by omega
        rw [errK_no _ hne] at HFl
        clear HN hsk h4 HT HD
        generalize mayN (bts s) = n at *
        go_wp2_with fail
        go_wp2_with fail
        refine (HFl.out _).mono ?_; rintro e w2 ⟨rfl, b2⟩
        have K2 := Lib.hid (HR.out.2.1.trans (b2.mono sz))
        clear b2
        have HP := Lib.hid (place_calls ((k : Int) + 1) n w2 (HG.out.below K2.out).ty)
        go_wp2_with (go_at_call 21; refine HP.out.mono ?_)
        rintro e w3 ⟨⟨b3, rfl, f3⟩, k3⟩
        have H3 := Lib.hid (And.intro f3 (K2.out.trans (k3.mono K2.out.size)))
        clear f3 k3
        go_wp2_with fail
        go_ret2
        refine ⟨⟨errF b3, ?_, ?_⟩, H3.out.2⟩
        · unfold foldV; rw [HV.out, if_neg hne]; rfl
        · rw [HV.out]; exact .inr ⟨hn16.1, hn16.2, b3, rfl, H3.out.1⟩
    · obtain rfl : k = l.length := by omega
      have e : l.take l.length = l := List.take_length
      rw [e] at HR
      go_wp2_with fail
      go_wp2_with (go_at_call 23; refine (Tryd.Builder_String_any _ _ _ _ HR.out.1 sz).mono ?_)
      rintro e w1 ⟨rfl, b1⟩
      have H1 := Lib.hid (HR.out.2.1.trans b1)
      clear b1
      go_wp2_with fail
      go_ret2
      have h0 := HR.out.2.2
      refine ⟨⟨.nilIface, ?_, ?_⟩, H1.out⟩
      · unfold foldV; rw [if_pos h0]; rfl
      · exact .inl ⟨rfl, foldN_zero _ _ h0, h0⟩
end Go.Proofs.YtddjfeofmihgdaaDoor
