/- fold.Unfold: the rows of a text. -/
import Derived.Test.YtddjfeofmihgdaaDoorUu
namespace Go.Proofs.YtddjfeofmihgdaaDoor
open Go.RowKit
set_option linter.unusedVariables false
set_option linter.unusedSimpArgs false

theorem trim_trimCR (l : BL) : Lib.trimSuffix l [13] = trimCR l := by
  unfold Lib.trimSuffix trimCR Lib.hasSuffix
  rcases List.eq_nil_or_concat l with rfl | ⟨m, c, rfl⟩
  · rfl
  · rw [List.concat_eq_append, List.getLast?_append, List.getLast?_singleton]
    have : ([13] : List UInt8).isSuffixOf (m ++ [c]) = (c == 13) := by
      show List.isPrefixOf [13] (m ++ [c]).reverse = _
      rw [List.reverse_append]
      show ((13 : UInt8) == c && true) = _
      rw [Bool.and_true]
      by_cases hc : c = 13
      · subst hc; rfl
      · rw [beq_eq_false_iff_ne.2 hc, beq_eq_false_iff_ne.2 (fun e => hc e.symm)]
    rw [this]
    by_cases hc : c = 13
    · subst hc; simp
    · simp [hc]
theorem cut_hit (r : BL) : Lib.cut (10 :: r) [10] = ([], r, true) := by
  have h : Lib.index (10 :: r) [10] = 0 := by unfold Lib.index; simp [List.isPrefixOf]
  unfold Lib.cut; rw [h]; simp
theorem cut_miss (c : UInt8) (r : BL) (hc : c ≠ 10) : Lib.cut (c :: r) [10] = (c :: (Lib.cut r [10]).1, (Lib.cut r [10]).2.1, (Lib.cut r [10]).2.2) := by
  have h : Lib.index (c :: r) [10] = if Lib.index r [10] == -1 then -1 else Lib.index r [10] + 1 := by
    rw [Lib.index, if_neg]
    simp [List.isPrefixOf]; exact fun e => hc e.symm
  have hg := Lib.index_ge r [10]
  unfold Lib.cut
  by_cases h1 : Lib.index r [10] = -1
  · rw [h, h1]; simp
  · have h2 : Lib.index (c :: r) [10] = Lib.index r [10] + 1 := by rw [h, if_neg (by simpa using h1)]
    rw [h2, if_pos (by omega), if_pos (by omega)]
    obtain ⟨n, hn⟩ : ∃ n : Nat, Lib.index r [10] = n := ⟨(Lib.index r [10]).toNat, by omega⟩
    rw [hn, show ((n : Int) + 1).toNat = n + 1 by omega, show ((n : Int)).toNat = n by omega]
    simp only [List.take_succ_cons, Prod.mk.injEq, true_and, and_true]
    rw [show n + 1 + ([10] : List UInt8).length = (n + ([10] : List UInt8).length) + 1 by simp, List.drop_succ_cons]
theorem splitC_cut (s : BL) : ∀ cur : BL, splitC s cur = if (Lib.cut s [10]).2.2 then trimCR (cur ++ (Lib.cut s [10]).1) :: splitC (Lib.cut s [10]).2.1 [] else if cur ++ s = [] then [] else [cur ++ s] := by
  induction s with
  | nil =>
    intro cur
    rw [show Lib.cut [] [10] = ([], [], false) from rfl]
    simp [splitC]
  | cons c r ih =>
    intro cur
    by_cases hc : c = 10
    · subst hc
      rw [cut_hit, splitC, if_pos rfl, if_pos rfl, List.append_nil]
    · rw [cut_miss c r hc, splitC, if_neg hc, ih]
      simp
theorem cut_rest (s : BL) : (Lib.cut s [10]).2.2 = false → (Lib.cut s [10]).1 = s ∧ (Lib.cut s [10]).2.1 = [] := by
  induction s with
  | nil => intro _; exact ⟨rfl, rfl⟩
  | cons c r ih =>
    by_cases hc : c = 10
    · subst hc; rw [cut_hit]; intro h; cases h
    · rw [cut_miss c r hc]
      intro h
      obtain ⟨h1, h2⟩ := ih h
      exact ⟨by simp only [h1], h2⟩
theorem cut_lens (s : BL) : (Lib.cut s [10]).1.length ≤ s.length ∧ (s ≠ [] → (Lib.cut s [10]).2.1.length < s.length) := by
  induction s with
  | nil => exact ⟨by decide, fun h => absurd rfl h⟩
  | cons c r ih =>
    by_cases hc : c = 10
    · subst hc; rw [cut_hit]; simp
    · rw [cut_miss c r hc]
      refine ⟨by simp only [List.length_cons]; omega, fun _ => ?_⟩
      simp only [List.length_cons]
      by_cases hr : r = []
      · subst hr; decide
      · have := ih.2 hr; omega
theorem trimCR_len (l : BL) : (trimCR l).length ≤ l.length := by unfold trimCR; split <;> simp
/-- A text's lines, one by one. -/
theorem splitC_step (s : BL) (h : s ≠ []) : splitC s [] = (cutL s).1 :: splitC (cutL s).2 [] ∧ (cutL s).1.length ≤ s.length ∧ (cutL s).2.length < s.length := by
  have hl := cut_lens s
  unfold cutL
  rw [splitC_cut s []]
  rcases hb : (Lib.cut s [10]).2.2 with _ | _
  · obtain ⟨h1, h2⟩ := cut_rest s hb
    simp only [List.nil_append, h1, h2]
    rw [if_neg (by simp), if_neg h, if_neg (by simp)]
    exact ⟨rfl, Nat.le_refl _, List.length_pos_iff.2 h⟩
  · simp only [List.nil_append, if_true, trim_trimCR]
    exact ⟨trivial, Nat.le_trans (trimCR_len _) hl.1, hl.2 h⟩

/-- The rows of a text: why not, at which line, the rows. -/
def unfoldN (s : BL) : Int × Nat × List (Nat × BL) := unf (splitC s []) 1 [] none
/-- A line's step, by refusalN. -/
theorem unf_stepR (l : BL) (ls : List BL) (k : Nat) (d : List (Nat × BL)) (o : Option (Nat × BL)) (ho : ∀ p, o = some p → 1 ≤ p.1) :
    (goesOn l = true → unf (l :: ls) k d o = if refusalN true (numOf o) ((textOf o).length + (l.drop 1).length) d.length = 0 then unf ls (k + 1) d (o.map (fun p => (p.1, p.2 ++ l.drop 1))) else (refusalN true (numOf o) ((textOf o).length + (l.drop 1).length) d.length, k, [])) ∧
    (goesOn l = false → unf (l :: ls) k d o = if refusalN false 0 l.length (d ++ o.toList).length = 0 then unf ls (k + 1) (d ++ o.toList) (if l = [] then none else some (k, l)) else (refusalN false 0 l.length (d ++ o.toList).length, k, [])) := by
  refine ⟨fun h => ?_, fun h => ?_⟩
  · rcases o with _ | ⟨b, t⟩
    · rw [unf_lost l ls k d h, show refusalN true (numOf none) ((textOf none).length + (l.drop 1).length) d.length = 11 from by unfold refusalN; rw [if_pos ⟨rfl, rfl⟩], if_neg (by decide)]
    · have hb := ho _ rfl
      have e : refusalN true (numOf (some (b, t))) ((textOf (some (b, t))).length + (l.drop 1).length) d.length = if 5000 < (t ++ l.drop 1).length then 4 else 0 := by
        unfold refusalN
        rw [if_neg (by simp [numOf]; simp at hb; omega), List.length_append]
        show (if (5000 : Int) < (t.length : Int) + ((l.drop 1).length : Int) then _ else _) = _
        by_cases h5 : 5000 < t.length + (l.drop 1).length
        · rw [if_pos (by omega), if_pos h5]
        · rw [if_neg (by omega), if_neg h5, if_neg (by simp)]
      rw [e]
      by_cases h5 : 5000 < (t ++ l.drop 1).length
      · rw [unf_long l ls k d b t h h5, if_pos h5, if_neg (by decide)]
      · rw [unf_go l ls k d b t h h5, if_neg h5, if_pos rfl]; rfl
  · rw [unf_new l ls k d o h]
    have e : refusalN false 0 l.length (d ++ o.toList).length = if 5000 < l.length then 4 else if l ≠ [] ∧ (d ++ o.toList).length = 1000 then 5 else 0 := by
      unfold refusalN
      rw [if_neg (by simp)]
      by_cases h5 : 5000 < l.length
      · rw [if_pos h5, if_pos (by omega)]
      · rw [if_neg h5, if_neg (by omega)]
        by_cases h6 : l ≠ [] ∧ (d ++ o.toList).length = 1000
        · have h7 := List.length_pos_iff.2 h6.1
          rw [if_pos h6, if_pos ⟨rfl, by omega, by omega⟩]
        · rw [if_neg h6, if_neg]
          rintro ⟨_, a, b⟩
          exact h6 ⟨List.length_pos_iff.1 (by omega), by omega⟩
    rw [e]
    by_cases h5 : 5000 < l.length
    · rw [if_pos h5, if_pos h5, if_neg (by decide)]
    · rw [if_neg h5, if_neg h5]
      by_cases h6 : l ≠ [] ∧ (d ++ o.toList).length = 1000
      · rw [if_pos h6, if_pos h6, if_neg (by decide)]
      · rw [if_neg h6, if_neg h6, if_pos rfl]
theorem refusalN_range (m : Bool) (b n a : Int) : refusalN m b n a = 0 ∨ refusalN m b n a = 4 ∨ refusalN m b n a = 5 ∨ refusalN m b n a = 11 := by
  unfold refusalN
  repeat' split
  all_goals simp

theorem refusal_more {b n a : Int} (h : refusalN true b n a = 0) : b ≠ 0 ∧ n ≤ 5000 := by
  unfold refusalN at h
  by_cases h1 : b = 0
  · rw [if_pos ⟨rfl, h1⟩] at h; cases h
  · rw [if_neg (by simp [h1])] at h
    by_cases h2 : 5000 < n
    · rw [if_pos h2] at h; cases h
    · exact ⟨h1, by omega⟩
theorem refusal_new {n a : Int} (h : refusalN false 0 n a = 0) : n ≤ 5000 ∧ (0 < n → a ≠ 1000) := by
  unfold refusalN at h
  rw [if_neg (by simp)] at h
  by_cases h2 : 5000 < n
  · rw [if_pos h2] at h; cases h
  · rw [if_neg h2] at h
    refine ⟨by omega, fun h3 h4 => ?_⟩
    rw [if_pos ⟨rfl, h3, h4⟩] at h; cases h
theorem Bld.same {B b : Nat} {l : BL} {w w' : World} (h : Bld B b l w) (hb : w'.heap[b]? = w.heap[b]?) (hk : ∀ (g : Nat) (c : Array Value), w.heap[g]? = some (Obj.cells c 5 (0, 0)) → w'.heap[g]? = w.heap[g]?) : Bld B b l w' := by
  have K : ∀ p, Lib.BuilderAt 46 5 B b p (Lib.byteCells l) w → Lib.BuilderAt 46 5 B b p (Lib.byteCells l) w' := by
    rintro p ⟨hB, v, hbk, hown, hne⟩
    refine ⟨hB, v, hb.trans hbk, ⟨hown.1, ?_⟩, hne⟩
    rcases hown.2 with h' | ⟨g, cap, cur, rfl, hbg, hg, h3⟩
    · exact .inl h'
    · exact .inr ⟨g, cap, cur, rfl, hbg, (hk g cur hg).trans hg, h3⟩
  exact h.elim (fun x => .inl (K _ x)) (fun x => .inr (K _ x))
/-- A line that begins a row. -/
theorem USt.begin {N k : Nat} {d : List (Nat × BL)} {w : World} (h : USt N d none w) (hk : 1 ≤ k) : USt N d (some (k, [])) (w.setCell ⟨N + 2, 0, none⟩ (iv k)) := by
  obtain ⟨v, h1, h2⟩ := h.rows
  have h4 := h.began
  refine ⟨⟨v, (setCell_heap_other _ (by omega)).trans h1, h2.same (fun g hg hv => setCell_heap_other _ (by omega))⟩, Bld.same h.bld (setCell_heap_other _ (by omega)) (fun g c hg => setCell_heap_other _ ?_), setCell_heap_same (iv k) h4, ?_⟩
  · intro e
    rw [e, h4] at hg; cases hg
  · intro p hp; cases hp; exact hk
/-- Behind what is written to the open row. -/
theorem USt.write {N : Nat} {d : List (Nat × BL)} {o o' : Option (Nat × BL)} {w w' : World} (h : USt N d o w) (hb : Bld (N + 1) (N + 1) (textOf o') w') (hn : numOf o' = numOf o) (hp : ∀ p, o' = some p → 1 ≤ p.1) (k : Wrote (N + 1) (N + 1) w w') : USt N d o' w' := by
  obtain ⟨v, h1, h2⟩ := h.rows
  exact ⟨⟨v, (k.below.block _ (by omega)).trans h1, h2.others k.others (by omega)⟩, hb, by rw [hn]; exact k.others _ _ h.began (by intro e; cases e) (by intro c fz e; cases e), hp⟩
theorem len_calls (N : Nat) (l : BL) (w : World) (h : Bld (N + 1) (N + 1) l w) : Calls Tryd.prog 31 #[.pointer (some ⟨N + 1, 0, none⟩)] w fun e w' => e = .returned (.int .i64 l.length) ∧ w = w' :=
  (Tryd.Builder_Len (N + 1) (N + 1) (Lib.byteCells l) w h).mono fun e w' ⟨he, hw⟩ => ⟨by rw [he, Lib.byteCells_length], hw.symm⟩

theorem ust_start (w : World) : USt w.heap.size [] none (((w.alloc (.cells #[.slice none 0 0] 32)).alloc (.cells #[.pointer none, .slice none 0 0] 46)).alloc (.cells #[.int .i64 0] 3)) ∧ Below w.heap.size w (((w.alloc (.cells #[.slice none 0 0] 32)).alloc (.cells #[.pointer none, .slice none 0 0] 46)).alloc (.cells #[.int .i64 0] 3)) := by
  refine ⟨⟨⟨.slice none 0 0, ?_, RowOwn.nil _ _⟩, .inl ⟨Nat.le_refl _, .slice none 0 0, ?_, ⟨rfl, .inl ⟨rfl, rfl⟩⟩, by simp [Value.ownBlock]⟩, ?_, by simp⟩, (((Below.refl _ w).alloc (Nat.le_refl _) _).alloc (by simp) _).alloc (by simp; omega) _⟩
  · rw [Below.heap_alloc _ _ _ (by simp; omega), Below.heap_alloc _ _ _ (by simp)]; exact heap_alloc_last w _
  · rw [Below.heap_alloc _ _ _ (by simp)]
    have h := heap_alloc_last (w.alloc (.cells #[.slice none 0 0] 32)) (.cells #[.pointer none, .slice none 0 0] 46)
    rw [show (w.alloc (.cells #[.slice none 0 0] 32)).heap.size = w.heap.size + 1 by simp] at h
    exact h
  · have h := heap_alloc_last ((w.alloc (.cells #[.slice none 0 0] 32)).alloc (.cells #[.pointer none, .slice none 0 0] 46)) (.cells #[.int .i64 0] 3)
    rw [show ((w.alloc (.cells #[.slice none 0 0] 32)).alloc (.cells #[.pointer none, .slice none 0 0] 46)).heap.size = w.heap.size + 2 by simp] at h
    exact h
theorem cut_line (t : ByteArray) (m : Int) (w : World) (h : bts t ≠ []) (hs : t.size ≤ 1000000) (hm : w.cell? ⟨4, 0, none⟩ = some (.int .i64 m)) :
    Calls Tryd.prog 28 #[.string t] w fun e w' => e = .returned (.tuple #[.string (strOf (cutL (bts t)).1), .string (strOf (cutL (bts t)).2), .nilIface]) ∧ Below w.heap.size w w' :=
  cut_calls t m w (by have := List.length_pos_iff.2 h; rw [bts_length] at this; exact this) (by omega) hm
theorem gone_calls (L : BL) (w : World) (hs : L.length ≤ 1000000) : Calls Tryd.prog 29 #[.string (strOf L)] w fun e w' => e = .returned (.bool (goesOn L)) ∧ w = w' :=
  goesOn_calls (strOf L) w (by rw [strOf_size]; omega)
theorem drop_one (L : BL) : (strOf L).extract 1 (strOf L).size = strOf (L.drop 1) := ba_ext (by rw [bts_from]; rfl)

set_option maxRecDepth 100000 in
set_option maxHeartbeats 4000000 in
theorem unfold_calls (x : Addr) (m : Int) (s : ByteArray) (w : World) (hg : Glob x m w) (hs : s.size ≤ 1000000) :
    Calls Tryd.prog 15 #[.string s] w fun e w' => (∃ v ev, e = .returned (.tuple #[v, ev]) ∧ RowOwn (w.heap.size + 3) v (unfoldN (bts s)).2.2 w' ∧ ErrIs ev (unfoldN (bts s)).2.1 (unfoldN (bts s)).1 w') ∧ Below w.heap.size w w' := by
  have HG := Lib.hid hg
  have H0 := Lib.hid (ust_start w)
  have hmf : ∀ (fn : Fn) (first cap : Array Value) (w : World), (Instr.makeFunc fn first cap).run Tryd.prog w = .ok (.func fn first cap) w := fun _ _ _ _ => rfl
  clear hg
  go_enter Tryd.func15, Tryd.ntmps15
  go_wp2_with fail
  rw [show w.heap.size + 1 + 1 = w.heap.size + 2 from rfl]
  generalize hN : w.heap.size = N at *
  go_loopg [0, 8] s.size (fun g v0 v8 wr => ∃ (t : ByteArray) (k : Nat) (d : List (Nat × BL)) (o : Option (Nat × BL)), t.size = g ∧ v0 = .string t ∧ v8 = iv k ∧ 1 ≤ k ∧ k + t.size ≤ s.size + 1 ∧ (textOf o).length ≤ 5000 ∧ (d ++ o.toList).length ≤ 1000 ∧ numOf o < k ∧ Hid (USt N d o wr ∧ Below N w wr ∧ unfoldN (bts s) = unf (splitC (bts t) []) k d o))
  case atStart => exact ⟨s, 1, [], none, rfl, rfl, rfl, Nat.le_refl _, by omega, by simp [textOf], by simp, by simp [numOf], Lib.hid ⟨H0.out.1, H0.out.2, rfl⟩⟩
  case round =>
    obtain ⟨t, j, d, o, htg, rfl, rfl, hk1, hkt, htx, hdo, hno, HR⟩ := hrel
    clear H0
    have hNG : 5 ≤ N := by have := HG.out.big; omega
    have HGr := Lib.hid (HG.out.keep HR.out.2.1 hNG)
    cases gk with
    | zero =>
      obtain rfl := size_zero htg
      have HE := Lib.hid (cut_end x wr HGr.out.laid)
      go_wp2_with fail
      go_wp2_with fail
      refine (HE.out).mono ?_; rintro e w1 ⟨rfl, b1⟩
      have HU := Lib.hid (HR.out.1.below b1)
      have HB := Lib.hid (HR.out.2.1.trans (b1.mono (by have := HR.out.2.1.size; omega)))
      have hL : w1.cell? ⟨0, 0, none⟩ = some (errP x) := (HGr.out.below b1).laid
      clear b1
      go_wp2_with (go_at_call 25; refine (is_same _ _).mono ?_; rintro e w' ⟨rfl, rfl⟩)
      have HC := Lib.hid (end_calls N d o w1 HU.out (by rw [List.length_append] at hdo; omega) (by omega))
      go_wp2_with fail
      refine HC.out.mono ?_
      rintro e w2 ⟨rfl, u2, b2⟩
      obtain ⟨v, h1, h2⟩ := u2.rows
      have c1 : w2.cell? ⟨N, 0, none⟩ = some v := cell_at h1 0
      have HO := Lib.hid (And.intro h2 (HB.out.trans b2))
      clear u2 b2 h1 h2
      go_wp2_with fail
      go_ret2
      have e := HR.out.2.2
      rw [show splitC (bts ⟨#[]⟩) [] = [] from rfl, unf] at e
      subst hN
      refine ⟨⟨v, .nilIface, rfl, ?_, ?_⟩, HO.out.2⟩
      · rw [e]; exact HO.out.1
      · rw [e]; exact .inl ⟨rfl, rfl, rfl⟩
    | succ g =>
      have hne := ne_nil_of_size htg
      obtain ⟨s1, s2, s3⟩ := splitC_step (bts t) hne
      rw [bts_length] at s2 s3
      have HE := Lib.hid (cut_line t m wr hne (by omega) HGr.out.most)
      have HS := Lib.hid s1
      clear hne s1
      generalize (cutL (bts t)).1 = L at *
      generalize (cutL (bts t)).2 = R at *
      have HST := Lib.hid (unf_stepR L (splitC R []) j d o HR.out.1.pos)
      have HUN : Hid (unfoldN (bts s) = unf (L :: splitC R []) j d o) := Lib.hid (by rw [HR.out.2.2, HS.out])
      have HGO := Lib.hid (fun w => gone_calls L w (by omega))
      have hRs : (strOf R).size = R.length := strOf_size R
      go_wp2_with fail
      go_wp2_with fail
      refine (HE.out).mono ?_; rintro e w1 ⟨rfl, b1⟩
      have HU := Lib.hid (HR.out.1.below b1)
      have HB := Lib.hid (HR.out.2.1.trans (b1.mono (by have := HR.out.2.1.size; omega)))
      have HG1 := Lib.hid (HGr.out.below b1)
      have hL : w1.cell? ⟨0, 0, none⟩ = some (errP x) := HG1.out.laid
      clear b1 HGr HR HE HS
      go_wp2_with (go_at_call 25; refine (is_nil _ _).mono ?_; rintro e w' ⟨rfl, rfl⟩)
      rcases hgo : goesOn L with _ | _
      · have HSF := Lib.hid (HST.out.2 hgo)
        rw [hgo] at HGO
        clear HST
        go_wp2_with fail
        refine (HGO.out _).mono ?_; rintro e w2 ⟨rfl, rfl⟩
        have HC := Lib.hid (end_calls N d o w1 HU.out (by rw [List.length_append] at hdo; omega) (by omega))
        go_wp2_with fail
        refine HC.out.mono ?_
        rintro e w2 ⟨rfl, u2, b2⟩
        have HU2 := Lib.hid u2
        have HB2 := Lib.hid (HB.out.trans b2)
        have HG2 := Lib.hid (HG.out.keep HB2.out hNG)
        clear u2 b2 HU HB HG1 hL hgo HGO HC
        generalize d ++ o.toList = D at *
        obtain ⟨v, h1, h2⟩ := HU2.out.rows
        obtain ⟨va, vc, rfl, _, _, _⟩ := h2.slice
        have c1 : ∀ k : Past w2, k.to.cell? ⟨N, 0, none⟩ = some (.slice va D.length vc) := fun k => Past.cell (cell_at h1 0) k
        have c4 : ∀ k : Past w2, k.to.cell? ⟨N + 2, 0, none⟩ = some (iv 0) := fun k => Past.cell (cell_at HU2.out.began 0) k
        have hLs : (strOf L).size = L.length := strOf_size L
        clear h1 h2
        go_wp2_with fail
        (refine region_past (by kernel_rfl) (by kernel_rfl) ?_; (repeat (first | go_big_quiet_skip | (go_big_quiet_want; go_big_quiet_op; first | go_big_quiet_on | (apply Exists.intro; refine ⟨fun k => ?_, ?_⟩; (focus (first | (go_at_call 31; refine Past.calls_left (len_calls N [] k.to (Bld.keep HU2.out.bld k.below))) | (go_at_call 30; refine Past.calls_left (refusal_calls _ _ _ _ _)))); go_big_quiet_on)))); refine wpQuiet_nil ?_; intro k)
        have HRF := Lib.hid (fun h : refusalN false 0 L.length D.length = 0 => refusal_new h)
        generalize hn : refusalN false 0 L.length D.length = n at *
        have hnr : n = 0 ∨ n = 4 ∨ n = 5 ∨ n = 11 := by rw [← hn]; exact refusalN_range _ _ _ _
        have HUk := Lib.hid (HU2.out.below k.below)
        have HBk := Lib.hid (HB2.out.trans (k.below.mono (by have := HB2.out.size; omega)))
        have HGk := Lib.hid (HG.out.keep HBk.out hNG)
        have hNk : N + 1 ≤ k.to.heap.size := by have := HUk.out.size; omega
        clear hn c1 c4
        by_cases hn0 : n = 0
        · subst hn0
          rw [errK_yes]
          obtain ⟨q1, q2⟩ := HRF.out rfl
          have HV : Hid (unfoldN (bts s) = unf (splitC R []) (j + 1) D (if L = [] then none else some (j, L))) := Lib.hid (by rw [HUN.out, HSF.out, if_pos rfl])
          clear HSF HRF
          by_cases hL0 : L = []
          · subst hL0
            have HC := Lib.hid (writeString_calls (N + 1) (N + 1) [] ⟨#[]⟩ k.to HUk.out.bld (by simp; decide) hNk)
            rw [show strOf [] = ⟨#[]⟩ from rfl]
            go_wp2_with fail
            refine HC.out.mono ?_
            rintro e w3 ⟨rfl, h3, k3⟩
            have H3 := Lib.hid (And.intro (USt.write (o' := none) HUk.out h3 rfl (by simp) k3) (HBk.out.trans (k3.below.mono (by omega))))
            clear h3 k3
            go_wp2_with fail
            go_roundg R.length
            case measure => omega
            case rel =>
              refine ⟨strOf R, j + 1, D, none, hRs, rfl, by go_num, by omega, by omega, by simp [textOf], by simp; omega, by simp [numOf], Lib.hid ⟨H3.out.1, H3.out.2, ?_⟩⟩
              rw [HV.out, if_pos trivial, bts_strOf]
          · have en := isEmpty_no (s := strOf L) hL0
            have cb : k.to.cell? ⟨N + 2, 0, none⟩ = some (iv 0) := cell_at HUk.out.began 0
            have fb := free_at HUk.out.began 0
            have HUb := Lib.hid (USt.begin HUk.out hk1)
            have HBb := Lib.hid (HBk.out.setCell (p := ⟨N + 2, 0, none⟩) (by simp) (iv j))
            have hNb : N + 1 ≤ (k.to.setCell ⟨N + 2, 0, none⟩ (iv j)).heap.size := by have := HUb.out.size; omega
            have HC := Lib.hid (writeString_calls (N + 1) (N + 1) [] (strOf L) (k.to.setCell ⟨N + 2, 0, none⟩ (iv j)) HUb.out.bld (by rw [strOf_size]; simp; omega) hNb)
            have hLp := List.length_pos_iff.2 hL0
            have HV2 : Hid (unfoldN (bts s) = unf (splitC R []) (j + 1) D (some (j, L))) := Lib.hid (by rw [HV.out, if_neg hL0])
            clear HV hL0
            go_wp2_with fail
            refine HC.out.mono ?_
            rintro e w3 ⟨rfl, h3, k3⟩
            have H3 := Lib.hid (And.intro (USt.write (o' := some (j, L)) HUb.out (by simpa [bts_strOf, textOf] using h3) rfl (by intro p hp; cases hp; exact hk1) k3) (HBb.out.trans (k3.below.mono (by omega))))
            clear h3 k3
            go_wp2_with fail
            go_roundg R.length
            case measure => omega
            case rel =>
              refine ⟨strOf R, j + 1, D, some (j, L), hRs, rfl, by go_num, by omega, by omega, by simp [textOf]; omega, by simp; omega, by simp [numOf], Lib.hid ⟨H3.out.1, H3.out.2, ?_⟩⟩
              rw [HV2.out, bts_strOf]
        · skip
          have HV : Hid (unfoldN (bts s) = (n, j, [])) := Lib.hid (by rw [HUN.out, HSF.out, if_neg hn0])
          rw [errK_no n hn0]
          clear HSF
          go_wp2_with fail
          have HP := Lib.hid (place_calls (j : Int) n k.to HGk.out.ty)
          go_wp2_with (go_at_call 21; refine HP.out.mono ?_)
          rintro e w3 ⟨⟨b3, rfl, f3⟩, k3⟩
          have H3 := Lib.hid (And.intro f3 (HBk.out.trans (k3.mono (by have := HBk.out.size; omega))))
          clear f3 k3
          go_wp2_with fail
          go_ret2
          refine ⟨⟨.slice none 0 0, errF b3, rfl, ?_, ?_⟩, ?_⟩
          · rw [HV.out]; exact RowOwn.nil _ _
          · rw [HV.out]; exact .inr ⟨by omega, by omega, b3, rfl, H3.out.1⟩
          · rw [hN]; exact H3.out.2
      · have HSF := Lib.hid (HST.out.1 hgo)
        rw [hgo] at HGO
        clear HST
        go_wp2_with fail
        refine (HGO.out _).mono ?_; rintro e w2 ⟨rfl, rfl⟩
        have hLp : 1 ≤ (strOf L).size := by
          rw [strOf_size]
          rcases L with _ | ⟨c, L⟩
          · cases hgo
          · simp
        have hdr := drop_one L
        have hds : (strOf (L.drop 1)).size = (L.drop 1).length := strOf_size _
        have hdl : (L.drop 1).length ≤ L.length := by rw [List.length_drop]; omega
        obtain ⟨v, h1, h2⟩ := HU.out.rows
        obtain ⟨va, vc, rfl, _, _, _⟩ := h2.slice
        have c1 : ∀ k : Past w1, k.to.cell? ⟨N, 0, none⟩ = some (.slice va d.length vc) := fun k => Past.cell (cell_at h1 0) k
        have c4 : ∀ k : Past w1, k.to.cell? ⟨N + 2, 0, none⟩ = some (iv (numOf o)) := fun k => Past.cell (cell_at HU.out.began 0) k
        clear h1 h2 hgo HGO hL
        generalize L.drop 1 = L1 at *
        go_wp2_with fail
        (refine region_past (by kernel_rfl) (by kernel_rfl) ?_; (repeat (first | go_big_quiet_skip | (go_big_quiet_want; go_big_quiet_op; first | go_big_quiet_on | (apply Exists.intro; refine ⟨fun k => ?_, ?_⟩; (focus (first | (go_at_call 31; refine Past.calls_left (len_calls N (textOf o) k.to (Bld.keep HU.out.bld k.below))) | (go_at_call 30; refine Past.calls_left (refusal_calls _ _ _ _ _)))); go_big_quiet_on)))); refine wpQuiet_nil ?_; intro k)
        have HRF := Lib.hid (fun h : refusalN true (numOf o) ((textOf o).length + L1.length) d.length = 0 => refusal_more h)
        generalize hn : refusalN true (numOf o) ((textOf o).length + L1.length) d.length = n at *
        have hnr : n = 0 ∨ n = 4 ∨ n = 5 ∨ n = 11 := by rw [← hn]; exact refusalN_range _ _ _ _
        have HUk := Lib.hid (HU.out.below k.below)
        have HBk := Lib.hid (HB.out.trans (k.below.mono (by have := HB.out.size; omega)))
        have HGk := Lib.hid (HG.out.keep HBk.out hNG)
        have hNk : N + 1 ≤ k.to.heap.size := by have := HUk.out.size; omega
        clear hn c1 c4
        by_cases hn0 : n = 0
        · subst hn0
          rw [errK_yes]
          obtain ⟨q1, q2⟩ := HRF.out rfl
          have HV : Hid (unfoldN (bts s) = unf (splitC R []) (j + 1) d (o.map (fun p => (p.1, p.2 ++ L1)))) := Lib.hid (by rw [HUN.out, HSF.out, if_pos rfl])
          clear HSF HRF
          rcases o with _ | ⟨b, x0⟩
          · exact absurd rfl q1
          · have hbp := HUk.out.pos _ rfl
            have HC := Lib.hid (writeString_calls (N + 1) (N + 1) x0 (strOf L1) k.to HUk.out.bld (by rw [strOf_size]; simp [textOf] at htx; omega) hNk)
            simp only [textOf, numOf] at htx hno q2
            go_wp2_with fail
            refine HC.out.mono ?_
            rintro e w3 ⟨rfl, h3, k3⟩
            have H3 := Lib.hid (And.intro (USt.write (o' := some (b, x0 ++ L1)) HUk.out (by simpa [bts_strOf, textOf] using h3) rfl (by intro p hp; cases hp; exact hbp) k3) (HBk.out.trans (k3.below.mono (by omega))))
            clear h3 k3
            go_wp2_with fail
            go_roundg R.length
            case measure => omega
            case rel =>
              refine ⟨strOf R, j + 1, d, some (b, x0 ++ L1), hRs, rfl, by go_num, by omega, by omega, by simp [textOf]; omega, by simpa using hdo, by simp [numOf]; omega, Lib.hid ⟨H3.out.1, H3.out.2, ?_⟩⟩
              rw [HV.out, bts_strOf]; rfl
        · skip
          have HV : Hid (unfoldN (bts s) = (n, j, [])) := Lib.hid (by rw [HUN.out, HSF.out, if_neg hn0])
          rw [errK_no n hn0]
          clear HSF
          go_wp2_with fail
          have HP := Lib.hid (place_calls (j : Int) n k.to HGk.out.ty)
          go_wp2_with (go_at_call 21; refine HP.out.mono ?_)
          rintro e w3 ⟨⟨b3, rfl, f3⟩, k3⟩
          have H3 := Lib.hid (And.intro f3 (HBk.out.trans (k3.mono (by have := HBk.out.size; omega))))
          clear f3 k3
          go_wp2_with fail
          go_ret2
          refine ⟨⟨.slice none 0 0, errF b3, rfl, ?_, ?_⟩, ?_⟩
          · rw [HV.out]; exact RowOwn.nil _ _
          · rw [HV.out]; exact .inr ⟨by omega, by omega, b3, rfl, H3.out.1⟩
          · rw [hN]; exact H3.out.2
end Go.Proofs.YtddjfeofmihgdaaDoor
