/- TextAgain: the walk. -/
import Derived.Test.YtgmmnbojelekbaaDoorFieldsW
namespace Go.Proofs.YtgmmnbojelekbaaDoor
open Go.RowKit
set_option linter.unusedVariables false
set_option linter.unusedSimpArgs false

theorem unesc_length : ∀ (n : Nat) {s t : List UInt8}, s.length ≤ n → unesc s = some t → t.length ≤ s.length
  | _, [], t, _, h => by rw [unesc] at h; injection h with h; subst h; simp
  | 0, c :: l, t, hn, h => by simp at hn
  | n + 1, c :: l, t, hn, h => by
    by_cases hm : may c = true
    · by_cases hc : c = 92
      · subst hc
        match l, hn, h with
        | [], _, h => rw [unesc_end] at h; simp at h
        | d :: l', hn, h =>
          rw [unesc_cons_sign] at h
          rcases h1 : mean d with _ | m
          · rw [h1] at h; simp at h
          · rcases h2 : unesc l' with _ | t'
            · rw [h1, h2] at h; simp at h
            · rw [h1, h2] at h
              simp at h
              subst h
              have := unesc_length n (by simp at hn; omega) h2
              simp; omega
      · rw [unesc_cons_plain hm hc] at h
        rcases h2 : unesc l with _ | t'
        · rw [h2] at h; simp at h
        · rw [h2] at h
          simp at h
          subst h
          have := unesc_length n (by simp at hn; omega) h2
          simp; omega
    · rw [unesc_not (by simpa using hm)] at h; simp at h
theorem unescAll_flat : ∀ {P l : List (List UInt8)}, unescAll P = some l → (flat (l.map strOf)).length ≤ (flat (P.map strOf)).length
  | [], l, h => by rw [unescAll] at h; injection h with h; subst h; simp
  | p :: P, l, h => by
    rw [unescAll] at h
    rcases h1 : unesc p with _ | a
    · rw [h1] at h; simp at h
    · rcases h2 : unescAll P with _ | ms
      · rw [h1, h2] at h; simp at h
      · rw [h1, h2] at h; simp at h
        subst h
        have i := unescAll_flat h2
        have := unesc_length _ (Nat.le_refl _) h1
        rw [List.map_cons, List.map_cons, show flat (strOf a :: ms.map strOf) = bts (strOf a) ++ flat (ms.map strOf) from rfl, show flat (strOf p :: P.map strOf) = bts (strOf p) ++ flat (P.map strOf) from rfl, List.length_append, List.length_append, bts_strOf, bts_strOf]
        omega
theorem cut_flat {g : UInt8} (hg : g ≠ 92) (L : List UInt8) : (flat ((cut g L).map strOf)).length + (cut g L).length = L.length + 1 := by
  have h := join_len g ((cut g L).map strOf) (by intro e; exact cut_ne g L (List.map_eq_nil_iff.1 e))
  have e : ((cut g L).map strOf).map bts = cut g L := by rw [List.map_map]; exact List.map_id'' (fun _ => rfl) _
  rw [e, join_cut hg, List.length_map] at h
  omega
theorem unrow1_wt {p : List UInt8} {r : List (List UInt8)} (h : unrow1 p = some r) : r.length + (flat (sOf r)).length ≤ 2 * p.length + 1 := by
  unfold unrow1 at h
  split at h
  · injection h with h; subst h; simp [flat]
  · have h1 := unrow_length h
    have h2 := unescAll_flat (show unescAll (cut 44 p) = some r from h)
    have h3 := cut_flat (g := 44) (by decide) p
    have h4 := unescAll_length (show unescAll (cut 44 p) = some r from h)
    show r.length + (flat (r.map strOf)).length ≤ _
    omega
theorem unrows_wt : ∀ {P : List (List UInt8)} {ls : List (List (List UInt8))}, unrowsO P = some ls → wt (ls.map sOf) ≤ 2 * (flat (P.map strOf)).length + P.length
  | [], ls, h => by rw [unrowsO] at h; injection h with h; subst h; simp [wt]
  | p :: P, ls, h => by
    rw [unrowsO] at h
    rcases h1 : unrow1 p with _ | a
    · rw [h1] at h; simp at h
    · rcases h2 : unrowsO P with _ | ms
      · rw [h1, h2] at h; simp at h
      · rw [h1, h2] at h; simp at h
        subst h
        have i := unrows_wt h2
        have j := unrow1_wt h1
        rw [List.map_cons, wt_cons, List.map_cons, show flat (strOf p :: P.map strOf) = bts (strOf p) ++ flat (P.map strOf) from rfl, List.length_append, bts_strOf, List.length_map, List.length_cons]
        omega
theorem unfields_wt {s : ByteArray} {ls : List (List (List UInt8))} (h : unfieldsO (bts s) = some ls) : wt (ls.map sOf) ≤ 2 * s.size + 2 := by
  have h1 := unrows_wt (show unrowsO (cut 59 (bts s)) = some ls from h)
  have h2 := cut_flat (g := 59) (by decide) (bts s)
  rw [bts_length] at h2
  omega
theorem rowsB_sOf (ls : List (List (List UInt8))) : rowsB (ls.map sOf) = ls := by
  unfold rowsB
  rw [List.map_map]
  exact List.map_id'' (fun r => by show (r.map strOf).map bts = r; rw [List.map_map]; exact List.map_id'' (fun _ => rfl) _) _
theorem fields_len {ls : List (List ByteArray)} {u : List UInt8} (h : fieldsO (rowsB ls) = some u) : u.length ≤ ls.length + 2 * wt ls := by
  unfold fieldsO at h
  rcases h1 : rowsO (rowsB ls) with _ | es
  · rw [h1] at h; simp at h
  · rw [h1] at h; simp at h
    subst h
    have := join_rows_len (ls := ls) (k := ls.length) (by rw [List.take_length]; exact h1) (Nat.le_refl _)
    exact this.2

set_option maxRecDepth 100000 in
set_option maxHeartbeats 2000000 in
theorem textAgain_walk (x : Addr) (s : ByteArray) (w : World) (hx : Laid x w) (hs : s.size ≤ maxLen) :
    Calls Tryd.prog 7 #[.string s] w fun e w' => e = .returned (.bool true) ∧ Below w.heap.size w w' := by
  unfold maxLen at hs
  by_cases h1 : 3000 < s.size
  · have h1' : (3000 : Int) < (s.size : Int) := by omega
    go_enter Tryd.func7, Tryd.ntmps7
    go_wp2_with fail
    refine (alive_calls x w hx).mono ?_; rintro e w1 ⟨rfl, b1⟩
    go_wp2_with fail
    go_ret
    exact ⟨rfl, b1⟩
  · have h1' : (s.size : Int) ≤ 3000 := by omega
    have p1 := unescape_calls x s (by omega) w hx
    have U := fun (w : World) (hx : Laid x w) => unfields_calls x s (by omega) w hx
    rcases hu : unesc (bts s) with _ | t
    · rw [hu, show saidV none = .tuple #[.string ⟨#[]⟩, errNo 11] from rfl] at p1
      clear hu
      rcases hf : unfieldsO (bts s) with _ | ls
      · rw [hf, show errS (none : Option (List (List (List UInt8)))) = errNo 11 from rfl] at U
        clear hf
        go_enter Tryd.func7, Tryd.ntmps7
        go_wp2_with fail
        refine (p1).mono ?_; rintro e w1 ⟨rfl, b1⟩
        have x1 := hx.below b1
        go_wp2_with fail
        refine (no_errno 11 w1 (by omega) (by omega)).mono ?_; rintro e w' ⟨rfl, rfl⟩
        go_wp2_with fail
        refine (U _ x1).mono ?_; rintro e w2 ⟨v, rfl, own, b2⟩
        obtain ⟨a2, c2, rfl, _⟩ := own.slice
        rw [show ((rowsS none : List (List ByteArray)).length) = 0 from rfl]
        have x2 := x1.below b2
        clear own
        go_wp2_with fail
        refine (no_errno 11 w2 (by omega) (by omega)).mono ?_; rintro e w' ⟨rfl, rfl⟩
        go_wp2_with fail
        refine (no_errno 11 w2 (by omega) (by omega)).mono ?_; rintro e w' ⟨rfl, rfl⟩
        go_wp2_with fail
        refine (alive_calls x w2 x2).mono ?_; rintro e w3 ⟨rfl, b3⟩
        go_wp2_with fail
        go_ret
        exact ⟨rfl, below_then b1 (below_then b2 b3)⟩
      · obtain ⟨u, hfu, huu⟩ := unfields_back hf
        have hw := unfields_wt hf
        have hl := rowsS_length s
        rw [hf] at hl
        obtain ⟨hl1, hl2⟩ := hl
        have hn : ls.map sOf ≠ [] := by
          intro e
          obtain ⟨_, _, hlen⟩ := unrows_back (show unrowsO (cut 59 (bts s)) = some ls from hf)
          rw [List.map_eq_nil_iff.1 e] at hlen
          exact cut_ne 59 (bts s) (List.eq_nil_of_length_eq_zero hlen.symm)
        have hul := fields_len (ls := ls.map sOf) (u := u) (by rw [rowsB_sOf]; exact hfu)
        rw [hf, show errS (some ls : Option (List (List (List UInt8)))) = .nilIface from rfl] at U
        generalize hL : ls.map sOf = L at *
        have hL1 : L.length ≤ 3001 := by have : (rowsS (some ls)).length = L.length := by rw [← hL]; rfl
                                         omega
        have HR := Lib.hid (show ∀ r ∈ L, r.length ≤ 5000 from fun r hr => by have := hl2 r (by rw [← hL] at hr; exact hr); omega)
        have F := fun (w : World) (a : Option Addr) (c : Nat) (h : Laid x w) (hi : RowsIn w a L) => fields_calls x a c L w h hi (by omega) HR.out (by omega)
        rw [if_neg hn, ← hL, rowsB_sOf, hL, hfu, show saidV (some u) = .tuple #[.string (strOf u), .nilIface] from rfl] at F
        have V := fun (w : World) (h : Laid x w) => unfields_calls x (strOf u) (by rw [strOf_size]; omega) w h
        rw [bts_strOf, huu, show errS (some ls : Option (List (List (List UInt8)))) = .nilIface from rfl, show rowsS (some ls) = L from hL] at V
        rw [show rowsS (some ls) = L from hL] at U
        clear hf hfu huu hw hl1 hl2 hn hul hL
        go_enter Tryd.func7, Tryd.ntmps7
        go_wp2_with fail
        refine (p1).mono ?_; rintro e w1 ⟨rfl, b1⟩
        have x1 := hx.below b1
        go_wp2_with fail
        refine (no_errno 11 w1 (by omega) (by omega)).mono ?_; rintro e w' ⟨rfl, rfl⟩
        go_wp2_with fail
        refine (U _ x1).mono ?_; rintro e w2 ⟨v, rfl, own, b2⟩
        obtain ⟨a2, c2, rfl, i2, y2⟩ := own.slice
        have x2 := x1.below b2
        clear own
        go_wp2_with fail
        refine (no_nil w2).mono ?_; rintro e w' ⟨rfl, rfl⟩
        go_wp2_with fail
        refine (F w2 a2 c2 x2 i2).mono ?_; rintro e w3 ⟨rfl, b3⟩
        have x3 := x2.below b3
        go_wp2_with fail
        refine (V _ x3).mono ?_; rintro e w4 ⟨v4, rfl, own, b4⟩
        obtain ⟨a4, c4, rfl, i4, y4⟩ := own.slice
        have x4 := x3.below b4
        have sm := rows_calls a2 a4 c2 c4 L L w4 ((i2.below b3).below b4) i4 (by omega) (by omega) (fun r hr => by have := HR.out r hr; omega) (fun r hr => by have := HR.out r hr; omega)
        rw [rows_self] at sm
        clear own U F V
        go_wp2_with fail
        refine (no_nil w4).mono ?_; rintro e w' ⟨rfl, rfl⟩
        go_wp2_with fail
        refine (no_nil w4).mono ?_; rintro e w' ⟨rfl, rfl⟩
        go_wp2_with fail
        refine (sm).mono ?_; rintro e w5 ⟨rfl, b5⟩
        go_wp2_with fail
        refine (alive_calls x w5 (x4.below b5)).mono ?_; rintro e w6 ⟨rfl, b6⟩
        go_wp2_with fail
        go_ret
        exact ⟨rfl, below_then b1 (below_then b2 (below_then b3 (below_then b4 (below_then b5 b6))))⟩
    · obtain ⟨u0, hu0⟩ := esc_unesc _ (Nat.le_refl _) hu
      have hu1 := unesc_esc hu0
      have hlt := unesc_length _ (Nat.le_refl _) hu
      rw [bts_length] at hlt
      have hlu := esc_length hu0
      have p2 := fun (w : World) (h : Laid x w) => escape_calls x (strOf t) (by rw [strOf_size]; omega) w h
      rw [bts_strOf, hu0, show saidV (some u0) = .tuple #[.string (strOf u0), .nilIface] from rfl] at p2
      have p3 := fun (w : World) (h : Laid x w) => unescape_calls x (strOf u0) (by rw [strOf_size]; omega) w h
      rw [bts_strOf, hu1, show saidV (some t) = .tuple #[.string (strOf t), .nilIface] from rfl] at p3
      rw [hu, show saidV (some t) = .tuple #[.string (strOf t), .nilIface] from rfl] at p1
      clear hu hu0 hu1 hlt hlu
      rcases hf : unfieldsO (bts s) with _ | ls
      · rw [hf, show errS (none : Option (List (List (List UInt8)))) = errNo 11 from rfl] at U
        clear hf
        go_enter Tryd.func7, Tryd.ntmps7
        go_wp2_with fail
        refine (p1).mono ?_; rintro e wa ⟨rfl, ba⟩
        have xa := hx.below ba
        go_wp2_with fail
        refine (no_nil wa).mono ?_; rintro e w' ⟨rfl, rfl⟩
        go_wp2_with fail
        refine (p2 _ xa).mono ?_; rintro e wb ⟨rfl, bb⟩
        have xb := xa.below bb
        go_wp2_with fail
        refine (p3 _ xb).mono ?_; rintro e w1 ⟨rfl, bc⟩
        have x1 := xb.below bc
        have b1 := below_then ba (below_then bb bc)
        clear p1 p2 p3 xa xb ba bb bc
        go_wp2_with fail
        refine (no_nil w1).mono ?_; rintro e w' ⟨rfl, rfl⟩
        go_wp2_with fail
        refine (no_nil w1).mono ?_; rintro e w' ⟨rfl, rfl⟩
        go_wp2_with fail
        refine (U _ x1).mono ?_; rintro e w2 ⟨v, rfl, own, b2⟩
        obtain ⟨a2, c2, rfl, _⟩ := own.slice
        rw [show ((rowsS none : List (List ByteArray)).length) = 0 from rfl]
        have x2 := x1.below b2
        clear own
        go_wp2_with fail
        refine (no_errno 11 w2 (by omega) (by omega)).mono ?_; rintro e w' ⟨rfl, rfl⟩
        go_wp2_with fail
        refine (no_errno 11 w2 (by omega) (by omega)).mono ?_; rintro e w' ⟨rfl, rfl⟩
        go_wp2_with fail
        refine (alive_calls x w2 x2).mono ?_; rintro e w3 ⟨rfl, b3⟩
        go_wp2_with fail
        go_ret
        exact ⟨rfl, below_then b1 (below_then b2 b3)⟩
      · obtain ⟨u, hfu, huu⟩ := unfields_back hf
        have hw := unfields_wt hf
        have hl := rowsS_length s
        rw [hf] at hl
        obtain ⟨hl1, hl2⟩ := hl
        have hn : ls.map sOf ≠ [] := by
          intro e
          obtain ⟨_, _, hlen⟩ := unrows_back (show unrowsO (cut 59 (bts s)) = some ls from hf)
          rw [List.map_eq_nil_iff.1 e] at hlen
          exact cut_ne 59 (bts s) (List.eq_nil_of_length_eq_zero hlen.symm)
        have hul := fields_len (ls := ls.map sOf) (u := u) (by rw [rowsB_sOf]; exact hfu)
        rw [hf, show errS (some ls : Option (List (List (List UInt8)))) = .nilIface from rfl] at U
        generalize hL : ls.map sOf = L at *
        have hL1 : L.length ≤ 3001 := by have : (rowsS (some ls)).length = L.length := by rw [← hL]; rfl
                                         omega
        have HR := Lib.hid (show ∀ r ∈ L, r.length ≤ 5000 from fun r hr => by have := hl2 r (by rw [← hL] at hr; exact hr); omega)
        have F := fun (w : World) (a : Option Addr) (c : Nat) (h : Laid x w) (hi : RowsIn w a L) => fields_calls x a c L w h hi (by omega) HR.out (by omega)
        rw [if_neg hn, ← hL, rowsB_sOf, hL, hfu, show saidV (some u) = .tuple #[.string (strOf u), .nilIface] from rfl] at F
        have V := fun (w : World) (h : Laid x w) => unfields_calls x (strOf u) (by rw [strOf_size]; omega) w h
        rw [bts_strOf, huu, show errS (some ls : Option (List (List (List UInt8)))) = .nilIface from rfl, show rowsS (some ls) = L from hL] at V
        rw [show rowsS (some ls) = L from hL] at U
        clear hf hfu huu hw hl1 hl2 hn hul hL
        go_enter Tryd.func7, Tryd.ntmps7
        go_wp2_with fail
        refine (p1).mono ?_; rintro e wa ⟨rfl, ba⟩
        have xa := hx.below ba
        go_wp2_with fail
        refine (no_nil wa).mono ?_; rintro e w' ⟨rfl, rfl⟩
        go_wp2_with fail
        refine (p2 _ xa).mono ?_; rintro e wb ⟨rfl, bb⟩
        have xb := xa.below bb
        go_wp2_with fail
        refine (p3 _ xb).mono ?_; rintro e w1 ⟨rfl, bc⟩
        have x1 := xb.below bc
        have b1 := below_then ba (below_then bb bc)
        clear p1 p2 p3 xa xb ba bb bc
        go_wp2_with fail
        refine (no_nil w1).mono ?_; rintro e w' ⟨rfl, rfl⟩
        go_wp2_with fail
        refine (no_nil w1).mono ?_; rintro e w' ⟨rfl, rfl⟩
        go_wp2_with fail
        refine (U _ x1).mono ?_; rintro e w2 ⟨v, rfl, own, b2⟩
        obtain ⟨a2, c2, rfl, i2, y2⟩ := own.slice
        have x2 := x1.below b2
        clear own
        go_wp2_with fail
        refine (no_nil w2).mono ?_; rintro e w' ⟨rfl, rfl⟩
        go_wp2_with fail
        refine (F w2 a2 c2 x2 i2).mono ?_; rintro e w3 ⟨rfl, b3⟩
        have x3 := x2.below b3
        go_wp2_with fail
        refine (V _ x3).mono ?_; rintro e w4 ⟨v4, rfl, own, b4⟩
        obtain ⟨a4, c4, rfl, i4, y4⟩ := own.slice
        have x4 := x3.below b4
        have sm := rows_calls a2 a4 c2 c4 L L w4 ((i2.below b3).below b4) i4 (by omega) (by omega) (fun r hr => by have := HR.out r hr; omega) (fun r hr => by have := HR.out r hr; omega)
        rw [rows_self] at sm
        clear own U F V
        go_wp2_with fail
        refine (no_nil w4).mono ?_; rintro e w' ⟨rfl, rfl⟩
        go_wp2_with fail
        refine (no_nil w4).mono ?_; rintro e w' ⟨rfl, rfl⟩
        go_wp2_with fail
        refine (sm).mono ?_; rintro e w5 ⟨rfl, b5⟩
        go_wp2_with fail
        refine (alive_calls x w5 (x4.below b5)).mono ?_; rintro e w6 ⟨rfl, b6⟩
        go_wp2_with fail
        go_ret
        exact ⟨rfl, below_then b1 (below_then b2 (below_then b3 (below_then b4 (below_then b5 b6))))⟩
end Go.Proofs.YtgmmnbojelekbaaDoor
