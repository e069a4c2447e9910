/- The document's Unfold: a text's rows. -/
import Derived.Test.YtddjfeofmihgdaaDoorUt
namespace Go.Proofs.YtddjfeofmihgdaaDoor
open Go.RowKit
set_option linter.unusedVariables false
set_option linter.unusedSimpArgs false

theorem splitC_len : ∀ (s cur : BL), (splitC s cur).length ≤ s.length + 1
  | [], cur => by unfold splitC; split <;> simp
  | c :: r, cur => by
    rw [splitC, List.length_cons]
    split
    · rw [List.length_cons]; have := splitC_len r []; omega
    · have := splitC_len r (cur ++ [c]); omega
theorem splitC_mem : ∀ (s cur : BL), ∀ l ∈ splitC s cur, l.length ≤ cur.length + s.length
  | [], cur, l, h => by
    unfold splitC at h
    split at h
    · cases h
    · rw [List.mem_singleton.1 h]; simp
  | c :: r, cur, l, h => by
    rw [splitC] at h
    rw [List.length_cons]
    split at h
    · rcases List.mem_cons.1 h with rfl | h
      · have := trimCR_len cur; omega
      · have := splitC_mem r [] l h; simp only [List.length_nil] at this; omega
    · have := splitC_mem r (cur ++ [c]) l h; rw [List.length_append] at this; simp only [List.length_cons, List.length_nil] at this; omega
theorem RowOwn.mono {B B' : Nat} {v : Value} {l : List (Nat × BL)} {w : World} (h : RowOwn B v l w) (hB : B' ≤ B) : RowOwn B' v l w := by
  refine ⟨h.1, ?_⟩
  rcases h.2 with h' | ⟨g, cap, cur, rfl, hb, h3⟩
  · exact .inl h'
  · exact .inr ⟨g, cap, cur, rfl, Nat.le_trans hB hb, h3⟩
theorem RowOwn.shape {B : Nat} {v : Value} {l : List (Nat × BL)} {w : World} (h : RowOwn B v l w) (hl : l ≠ []) : ∃ g cap, v = .slice (some ⟨g, 0, none⟩) l.length cap ∧ B ≤ g := by
  rcases h.2 with ⟨rfl, h0⟩ | ⟨g, cap, cur, rfl, hb, _⟩
  · exact absurd (List.eq_nil_of_length_eq_zero h0) hl
  · exact ⟨g, cap, rfl, hb⟩
theorem RowOwn.at_ {B g cap n : Nat} {l : List (Nat × BL)} {w : World} (h : RowOwn B (.slice (some ⟨g, 0, none⟩) n cap) l w) (hn : l.length = n) (i : Nat) (hi : i < l.length) :
    w.cell? ⟨g, i * 2, none⟩ = some (iv l[i].1) ∧ w.cell? ⟨g, i * 2 + 1, none⟩ = some (.string (strOf l[i].2)) ∧ w.frozen? ⟨g, i * 2 + 1, none⟩ = false := by
  unfold RowOwn at h
  rw [hn] at h
  obtain ⟨h1, h2⟩ := rowCells_at l i hi
  refine ⟨?_, ?_, h.frozenAt _⟩
  · rw [h.cellAt (i * 2) (by omega), Nat.mul_comm i 2]; exact h1
  · rw [h.cellAt (i * 2 + 1) (by omega), Nat.mul_comm i 2]; exact h2
theorem RowOwn.put_last {B g cap : Nat} {d : List (Nat × BL)} {b : Nat} {t : BL} {w : World} (h : RowOwn B (.slice (some ⟨g, 0, none⟩) (d.length + 1) cap) (d ++ [(b, t)]) w) (t' : BL) :
    RowOwn B (.slice (some ⟨g, 0, none⟩) (d.length + 1) cap) (d ++ [(b, t')]) (w.setCell ⟨g, d.length * 2 + 1, none⟩ (.string (strOf t'))) ∧ w.grownBy (w.setCell ⟨g, d.length * 2 + 1, none⟩ (.string (strOf t'))) (some g) := by
  unfold RowOwn at *
  rw [show (d ++ [(b, t)]).length = d.length + 1 by simp] at h
  rw [show (d ++ [(b, t')]).length = d.length + 1 by simp]
  have hs := World.ownsRow.stored h (d.length * 2 + 1) (.string (strOf t'))
  have e : (rowCells (d ++ [(b, t)])).set (d.length * 2 + 1) (.string (strOf t')) = rowCells (d ++ [(b, t')]) := by
    rw [rowCells_append, rowCells_append, List.set_append_right _ _ (by rw [rowCells_length]; omega), rowCells_length]
    congr 1
    rw [show d.length * 2 + 1 - d.length * 2 = 1 by omega]; rfl
  rw [e] at hs
  exact hs
theorem wpList_bs_row {ops : Array Oper} {rest : List Oper} {o : Oper} {a : Act} {w : World} {Q : Exit → Act → World → Prop} (hg : o.guard = none) (x : Operand) (ho : o.op = .buildSlice 32 1 #[(0, x)]) {u u' : Value} (hx : a.eval x = .agg #[u, u']) (h1 : u.oneCell' = true) (h2 : u'.oneCell' = true)
    (h : wpList Tryd.prog ops Q rest (a.put o.dst (.slice (some ⟨w.heap.size, 0, none⟩) 1 1)) (w.alloc (.cells #[u, u'] 40))) : wpList Tryd.prog ops Q (o :: rest) a w :=
  wpList_plain hg fun _ hK => wp_bs_row x ho hx h1 h2 (hK _ _ h)
theorem wpList_app_row {ops : Array Oper} {rest : List Oper} {o : Oper} {a : Act} {w : World} {Q : Exit → Act → World → Prop} (hg : o.guard = none) (s x : Operand)
    (ho : o.op = .call { callee := .builtin .append, args := #[s, x], argTypes := #[32, 32] })
    (B : Nat) (v : Value) (l : List (Nat × BL)) (hs : a.eval s = v) (hown : RowOwn B v l w) (k : Nat) (t : BL) (hx : a.eval x = .slice (some ⟨w.heap.size, 0, none⟩) 1 1) (hl : l.length ≤ 1000000) (hB : B ≤ w.heap.size)
    (h : ∀ v' w', RowOwn B v' (l ++ [(k, t)]) w' → Below B w w' → wpList Tryd.prog ops Q rest (a.put o.dst v') w') :
    wpList Tryd.prog ops Q (o :: rest) a (w.alloc (.cells #[iv k, .string (strOf t)] 40)) :=
  wpList_plain hg fun _ hK => wp_app_row s x ho B v l hs hown k t hx hl hB fun v' w' h1 h2 => hK _ _ (h v' w' h1 (((Below.refl B w).alloc hB _).grown h2 (by simp; omega) (fun j hj => (hown.kind j hj).1)))
theorem goesOn_head (X : BL) (h : 0 < (strOf X).size) : goesOn X = ((strOf X)[0] == 32 || (strOf X)[0] == 9) := by
  rcases X with _ | ⟨c, X⟩
  · exact absurd h (by decide)
  · rfl

set_option maxRecDepth 100000 in
set_option maxHeartbeats 4000000 in
theorem unfoldR_calls (s : ByteArray) (hs : s.size ≤ 100000) (w : World) :
    Calls Tryd.prog 16 #[.string s] w fun e w' => (∃ v, e = .returned (.tuple #[v, .int .i64 (unfoldN (bts s)).1, .int .i64 (unfoldN (bts s)).2.1]) ∧ RowOwn w.heap.size v (unfoldN (bts s)).2.2 w') ∧ Below w.heap.size w w' := by
  have hL := splitC_len (bts s) []
  have hM := Lib.hid (splitC_mem (bts s) [])
  rw [bts_length] at hL hM
  have HU : Hid (unfoldN (bts s) = unf (splitC (bts s) []) 1 [] none) := Lib.hid rfl
  have HS := Lib.hid (splitR_calls s hs w)
  generalize splitC (bts s) [] = L at *
  generalize unfoldN (bts s) = U at *
  go_enter Tryd.func16, Tryd.ntmps16
  go_wp2_with fail
  refine HS.out.mono ?_
  rintro e w3 ⟨v, rfl, own, b3⟩
  obtain ⟨la, lc, rfl, hin, hlc⟩ := own.slice
  have HI := Lib.hid hin
  have B3 := Lib.hid b3
  rw [List.length_map] at hlc ⊢
  have z3 := b3.size
  clear own hin b3 HS
  go_wp2_with fail
  go_loopw [6, 7] (fun v6 v7 wr => ∃ (i : Nat) (d : List (Nat × BL)) (o : Option (Nat × BL)), i ≤ L.length ∧ v7 = iv i ∧ (d ++ o.toList).length ≤ 1000 ∧ (textOf o).length ≤ 5000 ∧ Hid (RowOwn w3.heap.size v6 (d ++ o.toList) wr ∧ Below w3.heap.size w3 wr ∧ U = unf (L.drop i) (i + 1) d o ∧ (o = none ↔ (i = 0 ∨ L.getD (i - 1) [] = [])))) (fun _ v7 _ => L.length - (intOf v7).toNat)
  case atStart => exact ⟨0, [], none, Nat.zero_le _, rfl, by simp, by simp [textOf], Lib.hid ⟨RowOwn.nil _ _, Below.refl _ _, by rw [HU.out, List.drop_zero], by simp⟩⟩
  case round =>
    obtain ⟨i, d, o, hi, rfl, hdo, hto, HR⟩ := hrel
    have sz := HR.out.2.1.size
    by_cases hlt : i < L.length
    · obtain ⟨b, off, rfl, hat⟩ := (HI.out.below HR.out.2.1).form (k := i) (by rw [List.length_map]; exact hlt)
      have c0 := hat i (by rw [List.length_map]; exact hlt)
      rw [List.getElem_map] at c0
      have hlt' : (i : Int) < (L.length : Int) := by omega
      have HD := Lib.hid (List.drop_eq_getElem_cons hlt)
      have HG : Hid (L.getD i [] = L[i]) := Lib.hid (by rw [List.getD_eq_getElem?_getD, List.getElem?_eq_getElem hlt]; rfl)
      have hX := hM.out _ (List.getElem_mem hlt)
      simp only [List.length_nil, Nat.zero_add] at hX
      have PRE : Hid (∀ (h : 0 < i), wr.cell? ⟨b, off + (i - 1), none⟩ = some (.string (strOf (L.getD (i - 1) [])))) := Lib.hid (fun h => by
        have c := hat (i - 1) (by rw [List.length_map]; omega)
        rw [List.getElem_map] at c
        rw [List.getD_eq_getElem?_getD, List.getElem?_eq_getElem (by omega)]; exact c)
      clear hat
      generalize hXd : L[i] = X at *
      have hXs : (strOf X).size = X.length := strOf_size X
      by_cases hX0 : X = []
      · have HN : Hid (U = unf (L.drop (i + 1)) (i + 1 + 1) (d ++ o.toList) none) := Lib.hid (by
          rw [HR.out.2.2.1, HD.out, hX0, unf_new [] _ _ _ _ rfl]; simp)
        have HO : Hid ((none : Option (Nat × BL)) = none ↔ (i + 1 = 0 ∨ L.getD (i + 1 - 1) [] = [])) := Lib.hid (by rw [Nat.add_sub_cancel, HG.out, hX0]; simp)
        have en : (strOf X).toList.isEmpty = true := isEmpty_yes (s := strOf X) hX0
        have HRO : Hid (RowOwn w3.heap.size u6 ((d ++ o.toList) ++ (none : Option (Nat × BL)).toList) wr) := Lib.hid (by simpa using HR.out.1)
        clear hX0 hXd
        go_wp2_with fail
        go_roundw
        case rel => exact ⟨i + 1, d ++ o.toList, none, by omega, by go_num, by simpa using hdo, by simp [textOf], Lib.hid ⟨HRO.out, HR.out.2.1, HN.out, HO.out⟩⟩
        case measure => simp [intOf]; omega
      · have en : (strOf X).toList.isEmpty = false := isEmpty_no (s := strOf X) hX0
        have hXp : 0 < (strOf X).size := by rw [hXs]; exact List.length_pos_iff.2 hX0
        have hgo := goesOn_head X hXp
        have HO1 : Hid (∀ p : Nat × BL, (some p = none ↔ (i + 1 = 0 ∨ L.getD (i + 1 - 1) [] = []))) := Lib.hid (fun p => by rw [Nat.add_sub_cancel, HG.out]; simp [hX0])
        generalize hc : (strOf X)[0] = c at *
        have hcc : (c = 32 ∨ (c ≠ 32 ∧ c = 9)) ∨ (c ≠ 32 ∧ c ≠ 9) := by
          by_cases h1 : c = 32
          · exact .inl (.inl h1)
          · by_cases h2 : c = 9
            · exact .inl (.inr ⟨h1, h2⟩)
            · exact .inr ⟨h1, h2⟩
        rcases hcc with hbl | ⟨n32, n9⟩
        · have HGo : Hid (goesOn X = true) := Lib.hid (by
            rw [hgo]
            rcases hbl with rfl | ⟨_, rfl⟩ <;> rfl)
          clear hgo hX0
          rcases o with _ | ⟨kb, t⟩
          · -- it goes on nothing
            have HN : Hid (U = (11, i + 1, [])) := Lib.hid (by rw [HR.out.2.2.1, HD.out, unf_lost X _ _ _ HGo.out])
            have hne := HR.out.2.2.2.1 rfl
            have FIN : Hid (RowOwn w.heap.size (.slice none 0 0) ([] : List (Nat × BL)) wr ∧ Below w.heap.size w wr) := Lib.hid ⟨RowOwn.nil _ _, B3.out.trans (HR.out.2.1.mono z3)⟩
            obtain ⟨ga, gc, rfl, _, _, _⟩ := HR.out.1.slice
            clear HO1 HD HG hX
            by_cases hi0 : i = 0
            · have hi1 : ((i : Int) == 0) = true := by simpa using hi0
              clear hi0 hne PRE
              rcases hbl with h32 | ⟨h32, h9⟩
              · have f32 : ((c.toNat : Int) == 32) = true := by rw [h32]; rfl
                clear h32
                go_wp2_with fail
                go_ret3
                exact ⟨⟨.slice none 0 0, by rw [HN.out]; rfl, by rw [HN.out]; exact FIN.out.1⟩, FIN.out.2⟩
              · have f32 : ((c.toNat : Int) == 32) = false := u8f (d := 32) h32
                have f9 : ((c.toNat : Int) == 9) = true := by rw [h9]; rfl
                clear h32 h9
                go_wp2_with fail
                go_ret3
                exact ⟨⟨.slice none 0 0, by rw [HN.out]; rfl, by rw [HN.out]; exact FIN.out.1⟩, FIN.out.2⟩
            · have hel : L.getD (i - 1) [] = [] := by
                rcases hne with h | h
                · exact absurd h hi0
                · exact h
              have cp := PRE.out (by omega)
              rw [hel] at cp
              have hi1 : ((i : Int) == 0) = false := by simpa using hi0
              have hi2 : ((i : Int) - 1).toNat = i - 1 := by omega
              have hi3 : (0 : Int) ≤ (i : Int) - 1 := by omega
              have hi4 : (i : Int) - 1 < (L.length : Int) := by omega
              have em : (strOf ([] : BL)).toList.isEmpty = true := isEmpty_yes (s := strOf []) rfl
              clear hi0 hel hne PRE
              rcases hbl with h32 | ⟨h32, h9⟩
              · have f32 : ((c.toNat : Int) == 32) = true := by rw [h32]; rfl
                clear h32
                go_wp2_with fail
                go_ret3
                exact ⟨⟨.slice none 0 0, by rw [HN.out]; rfl, by rw [HN.out]; exact FIN.out.1⟩, FIN.out.2⟩
              · have f32 : ((c.toNat : Int) == 32) = false := u8f (d := 32) h32
                have f9 : ((c.toNat : Int) == 9) = true := by rw [h9]; rfl
                clear h32 h9
                go_wp2_with fail
                go_ret3
                exact ⟨⟨.slice none 0 0, by rw [HN.out]; rfl, by rw [HN.out]; exact FIN.out.1⟩, FIN.out.2⟩
          · -- it goes on the row that is open
            have hne : ¬ (i = 0 ∨ L.getD (i - 1) [] = []) := fun h => by have := HR.out.2.2.2.2 h; cases this
            have hi0 : i ≠ 0 := fun h => hne (.inl h)
            have hel : L.getD (i - 1) [] ≠ [] := fun h => hne (.inr h)
            have cp := PRE.out (by omega)
            have em := isEmpty_no (s := strOf (L.getD (i - 1) [])) hel
            clear hel hne
            generalize L.getD (i - 1) [] = Y at cp em
            have hi1 : ((i : Int) == 0) = false := by simpa using hi0
            have hi2 : ((i : Int) - 1).toNat = i - 1 := by omega
            have hi3 : (0 : Int) ≤ (i : Int) - 1 := by omega
            have hi4 : (i : Int) - 1 < (L.length : Int) := by omega
            have hsh : (d ++ [(kb, t)]).length = d.length + 1 := by simp
            have hRO : RowOwn w3.heap.size u6 (d ++ [(kb, t)]) wr := HR.out.1
            obtain ⟨g, cap, rfl, hg3⟩ := hRO.shape (by simp)
            rw [hsh] at hRO ⊢
            simp only [textOf] at hto
            have hdl : d.length ≤ 999 := by simp at hdo; omega
            have hdr := drop_one X
            have hds : (strOf (X.drop 1)).size = (X.drop 1).length := strOf_size _
            have hdd : (X.drop 1).length ≤ X.length := by rw [List.length_drop]; omega
            have hts : (strOf t).size = t.length := strOf_size t
            have hX1 : (1 : Int) ≤ (X.length : Int) := by omega
            rw [hXs] at hdr
            have bd : Below w3.heap.size w3 ({ wr with drawn := wr.drawn + 1 } : World) := below_draws HR.out.2.1 1
            have od : RowOwn w3.heap.size (.slice (some ⟨g, 0, none⟩) (d.length + 1) cap) (d ++ [(kb, t)]) ({ wr with drawn := wr.drawn + 1 } : World) := hRO.same (fun _ _ _ => rfl)
            have szd : w3.heap.size ≤ ({ wr with drawn := wr.drawn + 1 } : World).heap.size := sz
            have c0d : ({ wr with drawn := wr.drawn + 1 } : World).cell? ⟨b, off + i, none⟩ = some (.string (strOf X)) := c0
            generalize hwd : ({ wr with drawn := wr.drawn + 1 } : World) = wd at *
            obtain ⟨-, ccd, fzd⟩ := od.at_ hsh d.length (by rw [hsh]; omega)
            rw [show (d ++ [(kb, t)])[d.length]'(by rw [hsh]; omega) = (kb, t) by simp] at ccd
            have PUT := Lib.hid (od.put_last (t ++ X.drop 1))
            rw [← strOf_append] at PUT
            have cn : ∀ T' : ByteArray, (wd.setCell ⟨g, d.length * 2 + 1, none⟩ (.string T')).cell? ⟨g, d.length * 2 + 1, none⟩ = some (.string T') := fun T' => World.cell?_setCell_same _ _ _ ccd
            have ST : Hid (RowOwn w3.heap.size (.slice (some ⟨g, 0, none⟩) (d.length + 1) cap) (d ++ [(kb, t ++ X.drop 1)]) (wd.setCell ⟨g, d.length * 2 + 1, none⟩ (.string (strOf t ++ strOf (X.drop 1)))) ∧ Below w3.heap.size w3 (wd.setCell ⟨g, d.length * 2 + 1, none⟩ (.string (strOf t ++ strOf (X.drop 1))))) :=
              Lib.hid ⟨PUT.out.1, below_grown bd szd PUT.out.2 (by simp; omega)⟩
            clear PUT bd od
            have zc : (strOf t ++ strOf (X.drop 1)).size = t.length + (X.drop 1).length := by rw [strOf_append, strOf_size, List.length_append]
            have HNL : Hid (5000 < (t ++ X.drop 1).length → U = (4, i + 1, [])) := Lib.hid (fun h => by rw [HR.out.2.2.1, HD.out, unf_long X _ _ _ _ _ HGo.out h])
            have HNG : Hid (¬ 5000 < (t ++ X.drop 1).length → U = unf (L.drop (i + 1)) (i + 1 + 1) d (some (kb, t ++ X.drop 1))) := Lib.hid (fun h => by rw [HR.out.2.2.1, HD.out, unf_go X _ _ _ _ _ HGo.out h])
            rw [List.length_append] at HNL HNG
            clear HD HG hi0 PRE hXd hRO
            generalize X.drop 1 = X1 at *
            rcases hbl with h32 | ⟨h32, h9⟩
            · have f32 : ((c.toNat : Int) == 32) = true := by rw [h32]; rfl
              clear h32
              have lp1 : (d.length : Int) < (d.length : Int) + 1 := by omega
              have zs1 : ¬ 9223372036854775807 < t.length + X1.length := by omega
              have zs2 : ¬ 9223372036854775807 < (strOf t).size + (strOf X1).size := by omega
              by_cases h5 : 5000 < t.length + X1.length
              · have h5' : (5000 : Int) < (t.length : Int) + (X1.length : Int) := by omega
                have HV := Lib.hid (HNL.out h5)
                have FIN : Hid (RowOwn w.heap.size (.slice none 0 0) ([] : List (Nat × BL)) (wd.setCell ⟨g, d.length * 2 + 1, none⟩ (.string (strOf t ++ strOf X1))) ∧ Below w.heap.size w (wd.setCell ⟨g, d.length * 2 + 1, none⟩ (.string (strOf t ++ strOf X1)))) := Lib.hid ⟨RowOwn.nil _ _, B3.out.trans (ST.out.2.mono z3)⟩
                clear HNL HNG h5
                go_wp2_with fail
                refine wp_region_still_tail 15 (by kernel_rfl) (by kernel_rfl) ?_
                simp only [List.take_succ_cons, List.take_zero, List.drop_succ_cons, List.drop_zero]
                rw [hwd]
                still_step
                still_step
                still_step
                still_step
                still_step
                still_step
                still_step
                still_step
                still_step
                still_step
                still_step
                still_step
                still_step
                still_step
                still_step
                refine wpStill_nil ?_
                go_wp2_with fail
                go_ret3
                exact ⟨⟨.slice none 0 0, by rw [HV.out]; rfl, by rw [HV.out]; exact FIN.out.1⟩, FIN.out.2⟩
              · have h5' : ¬ (5000 : Int) < (t.length : Int) + (X1.length : Int) := by omega
                have HV := Lib.hid (HNG.out h5)
                have h6' : ¬ (1000 : Int) < (d.length : Int) + 1 := by omega
                clear HNL HNG
                go_wp2_with fail
                refine wp_region_still_tail 15 (by kernel_rfl) (by kernel_rfl) ?_
                simp only [List.take_succ_cons, List.take_zero, List.drop_succ_cons, List.drop_zero]
                rw [hwd]
                still_step
                still_step
                still_step
                still_step
                still_step
                still_step
                still_step
                still_step
                still_step
                still_step
                still_step
                still_step
                still_step
                still_step
                still_step
                refine wpStill_nil ?_
                go_wp2_with fail
                go_roundw
                case rel => exact ⟨i + 1, d, some (kb, t ++ X1), by omega, by go_num, by simp; omega, by simp [textOf]; omega, Lib.hid ⟨by simpa using ST.out.1, ST.out.2, HV.out, HO1.out _⟩⟩
                case measure => simp [intOf]; omega
            · have f32 : ((c.toNat : Int) == 32) = false := u8f (d := 32) h32
              have f9 : ((c.toNat : Int) == 9) = true := by rw [h9]; rfl
              clear h32 h9
              have lp1 : (d.length : Int) < (d.length : Int) + 1 := by omega
              have zs1 : ¬ 9223372036854775807 < t.length + X1.length := by omega
              have zs2 : ¬ 9223372036854775807 < (strOf t).size + (strOf X1).size := by omega
              by_cases h5 : 5000 < t.length + X1.length
              · have h5' : (5000 : Int) < (t.length : Int) + (X1.length : Int) := by omega
                have HV := Lib.hid (HNL.out h5)
                have FIN : Hid (RowOwn w.heap.size (.slice none 0 0) ([] : List (Nat × BL)) (wd.setCell ⟨g, d.length * 2 + 1, none⟩ (.string (strOf t ++ strOf X1))) ∧ Below w.heap.size w (wd.setCell ⟨g, d.length * 2 + 1, none⟩ (.string (strOf t ++ strOf X1)))) := Lib.hid ⟨RowOwn.nil _ _, B3.out.trans (ST.out.2.mono z3)⟩
                clear HNL HNG h5
                go_wp2_with fail
                refine wp_region_still_tail 15 (by kernel_rfl) (by kernel_rfl) ?_
                simp only [List.take_succ_cons, List.take_zero, List.drop_succ_cons, List.drop_zero]
                rw [hwd]
                still_step
                still_step
                still_step
                still_step
                still_step
                still_step
                still_step
                still_step
                still_step
                still_step
                still_step
                still_step
                still_step
                still_step
                still_step
                refine wpStill_nil ?_
                go_wp2_with fail
                go_ret3
                exact ⟨⟨.slice none 0 0, by rw [HV.out]; rfl, by rw [HV.out]; exact FIN.out.1⟩, FIN.out.2⟩
              · have h5' : ¬ (5000 : Int) < (t.length : Int) + (X1.length : Int) := by omega
                have HV := Lib.hid (HNG.out h5)
                have h6' : ¬ (1000 : Int) < (d.length : Int) + 1 := by omega
                clear HNL HNG
                go_wp2_with fail
                refine wp_region_still_tail 15 (by kernel_rfl) (by kernel_rfl) ?_
                simp only [List.take_succ_cons, List.take_zero, List.drop_succ_cons, List.drop_zero]
                rw [hwd]
                still_step
                still_step
                still_step
                still_step
                still_step
                still_step
                still_step
                still_step
                still_step
                still_step
                still_step
                still_step
                still_step
                still_step
                still_step
                refine wpStill_nil ?_
                go_wp2_with fail
                go_roundw
                case rel => exact ⟨i + 1, d, some (kb, t ++ X1), by omega, by go_num, by simp; omega, by simp [textOf]; omega, Lib.hid ⟨by simpa using ST.out.1, ST.out.2, HV.out, HO1.out _⟩⟩
                case measure => simp [intOf]; omega
        · have HGo : Hid (goesOn X = false) := Lib.hid (by rw [hgo]; simp [n32, n9])
          have f32 : ((c.toNat : Int) == 32) = false := u8f (d := 32) n32
          have f9 : ((c.toNat : Int) == 9) = false := u8f (d := 9) n9
          have HNW := Lib.hid (unf_new X (L.drop (i + 1)) (i + 1) d o HGo.out)
          have HUN : Hid (U = if 5000 < X.length then (4, i + 1, []) else if X ≠ [] ∧ (d ++ o.toList).length = 1000 then (5, i + 1, []) else unf (L.drop (i + 1)) (i + 1 + 1) (d ++ o.toList) (if X = [] then none else some (i + 1, X))) := Lib.hid (by rw [HR.out.2.2.1, HD.out, HNW.out])
          have HR1 := Lib.hid HR.out.1
          have B0 := Lib.hid HR.out.2.1
          clear hgo n32 n9 HD HG PRE hXd hto HNW HR
          generalize d ++ o.toList = D at *
          obtain ⟨va, vc, hv, _, _, _⟩ := HR1.out.slice
          rw [hv] at HR1 ⊢
          clear hv
          go_wp2_with (refine wpList_bs_row rfl _ rfl rfl rfl rfl ?_; skip; at_builtin; refine wpList_app_row rfl _ _ rfl w3.heap.size (.slice va D.length vc) D rfl HR1.out (i + 1) X rfl (by omega) sz ?_)
          intro v' w4 own4 b4
          have hsh : (D ++ [(i + 1, X)]).length = D.length + 1 := by simp
          obtain ⟨g, cap, rfl, hg3⟩ := own4.shape (by simp)
          rw [hsh] at own4 ⊢
          obtain ⟨-, cc, -⟩ := own4.at_ hsh D.length (by rw [hsh]; omega)
          rw [show (D ++ [(i + 1, X)])[D.length]'(by rw [hsh]; omega) = (i + 1, X) by simp] at cc
          have O4 := Lib.hid own4
          have B4 := Lib.hid (B0.out.trans b4)
          clear own4 b4
          by_cases h5 : 5000 < X.length
          · have h5' : (5000 : Int) < (X.length : Int) := by omega
            have HV := Lib.hid (show U = (4, i + 1, []) by rw [HUN.out, if_pos h5])
            go_wp2_with fail
            go_ret3
            exact ⟨⟨.slice none 0 0, by rw [HV.out]; rfl, by rw [HV.out]; exact RowOwn.nil _ _⟩, B3.out.trans (B4.out.mono z3)⟩
          · have h5' : ¬ (5000 : Int) < (X.length : Int) := by omega
            by_cases h6 : D.length = 1000
            · have h6' : (1000 : Int) < (D.length : Int) + 1 := by omega
              have HV := Lib.hid (show U = (5, i + 1, []) by rw [HUN.out, if_neg h5, if_pos ⟨hX0, h6⟩])
              clear h6
              go_wp2_with fail
              go_ret3
              exact ⟨⟨.slice none 0 0, by rw [HV.out]; rfl, by rw [HV.out]; exact RowOwn.nil _ _⟩, B3.out.trans (B4.out.mono z3)⟩
            · have h6' : ¬ (1000 : Int) < (D.length : Int) + 1 := by omega
              have HV := Lib.hid (show U = unf (L.drop (i + 1)) (i + 1 + 1) D (some (i + 1, X)) by rw [HUN.out, if_neg h5, if_neg (fun h => h6 h.2), if_neg hX0])
              clear HUN
              go_wp2_with fail
              go_roundw
              case rel => exact ⟨i + 1, D, some (i + 1, X), by omega, by go_num, by simp; omega, by simp [textOf]; omega, Lib.hid ⟨by simpa using O4.out, B4.out, HV.out, HO1.out _⟩⟩
              case measure => simp [intOf]; omega
    · obtain rfl : i = L.length := by omega
      have e := HR.out.2.2.1
      rw [List.drop_length, unf] at e
      have E := Lib.hid e
      obtain ⟨ga, gc, rfl, _, _, _⟩ := HR.out.1.slice
      have O4 := Lib.hid HR.out.1
      have FB := Lib.hid (B3.out.trans (HR.out.2.1.mono z3))
      clear e HR HU
      go_wp2_with fail
      go_ret3
      exact ⟨⟨_, by rw [E.out]; rfl, by rw [E.out]; exact O4.out.mono z3⟩, FB.out⟩
end Go.Proofs.YtddjfeofmihgdaaDoor
