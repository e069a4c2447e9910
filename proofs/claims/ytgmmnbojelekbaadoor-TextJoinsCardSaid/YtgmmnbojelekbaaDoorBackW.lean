/- TextBack: the walk. -/
import Derived.Test.YtgmmnbojelekbaaDoorAgainW
import Derived.Deep.DeepCutAuto
namespace Go.Proofs.YtgmmnbojelekbaaDoor
open Go.RowKit
set_option linter.unusedVariables false
set_option linter.unusedSimpArgs false

theorem sOf_bts (l : List ByteArray) : sOf (l.map bts) = l := by
  show (l.map bts).map strOf = l
  rw [List.map_map]; exact List.map_id'' (fun s => strOf_bts s) l
/-- How a row is read back. -/
def readRow (r : List ByteArray) : List ByteArray := if r = [⟨#[]⟩] then [] else r
theorem readRow_eq (r : List ByteArray) : sOf (bare (r.map bts)) = readRow r := by
  unfold readRow bare
  by_cases h : r = [⟨#[]⟩]
  · subst h; rfl
  · rw [if_neg h, if_neg, sOf_bts]
    intro e
    apply h
    have := congrArg sOf e
    rw [sOf_bts] at this
    rw [this]; rfl
theorem rowsS_back (m : List (List ByteArray)) : rowsS (some ((rowsB m).map bare)) = m.map readRow := by
  show ((m.map (·.map bts)).map bare).map sOf = _
  rw [List.map_map, List.map_map]
  exact List.map_congr_left fun r _ => readRow_eq r

theorem below_then' {w w' w'' : World} (b : Below w.heap.size w w') (c : Below w'.heap.size w' w'') : Below w.heap.size w w'' := below_then b c
set_option maxRecDepth 100000 in
set_option maxHeartbeats 4000000 in
theorem textBack_walk (x : Addr) (s : ByteArray) (a : Option Addr) (cap : Nat) (l : List ByteArray) (a' : Option Addr) (cap' : Nat) (m : List (List ByteArray)) (w : World) (hx : Laid x w) (hs : s.size ≤ maxLen) (hl : StrsIn w a l) (hsm : Small l) (hm : RowsIn w a' m) (hsr : SmallR m) :
    Calls Tryd.prog 6 #[.string s, .slice a l.length cap, .slice a' m.length cap'] w fun e w' => e = .returned (.bool true) ∧ Below w.heap.size w w' := by
  unfold maxLen at hs
  have hf := few_calls a cap l w hl hsm
  have hg := rowsFew_calls a' cap' m w hm hsr
  by_cases h1 : 3000 < s.size
  · have h1' : (3000 : Int) < (s.size : Int) := by omega
    go_enter Tryd.func6, Tryd.ntmps6
    go_wp2_with fail
    refine (alive_calls x w hx).mono ?_; rintro e w1 ⟨rfl, b1⟩
    go_wp2_with fail
    go_ret
    exact ⟨rfl, b1⟩
  · have h1' : (s.size : Int) ≤ 3000 := by omega
    rcases hb : fewB l with _ | _
    · rw [hb] at hf
      clear hb
      go_enter Tryd.func6, Tryd.ntmps6
      go_wp2_with fail
      refine (hf).mono ?_; rintro e w' ⟨rfl, rfl⟩
      go_wp2_with fail
      refine (alive_calls x w hx).mono ?_; rintro e w1 ⟨rfl, b1⟩
      go_wp2_with fail
      go_ret
      exact ⟨rfl, b1⟩
    · rw [hb] at hf
      rcases hc : rowsFew m with _ | _
      · rw [hc] at hg
        clear hb hc
        go_enter Tryd.func6, Tryd.ntmps6
        go_wp2_with fail
        refine (hf).mono ?_; rintro e w' ⟨rfl, rfl⟩
        go_wp2_with fail
        refine (hg).mono ?_; rintro e w' ⟨rfl, rfl⟩
        go_wp2_with fail
        refine (alive_calls x w hx).mono ?_; rintro e w1 ⟨rfl, b1⟩
        go_wp2_with fail
        go_ret
        exact ⟨rfl, b1⟩
      · rw [hc] at hg
        obtain ⟨f1, f2, f3⟩ := few_spec hb
        obtain ⟨g1, g2, g3⟩ := rowsFew_spec hc
        have g4 : ∀ r ∈ m, r.length ≤ 5000 := fun r hr => by have := (g2 r hr).1; omega
        -- the first part
        have p1 := escape_calls x s (by omega) w hx
        rw [saidV_eq] at p1
        have fb1 : ∀ a0, esc (bts s) = some a0 → unesc a0 = some (bts s) ∧ a0.length ≤ 6000 := fun a0 h => ⟨unesc_esc h, by have := esc_length h; rw [bts_length] at this; omega⟩
        generalize esc (bts s) = O1 at p1 fb1
        have FB1 := Lib.hid fb1
        -- the second
        have p2 := fun (w : World) (hx : Laid x w) (hl : StrsIn w a l) => list_calls x a cap l w hx hl (by omega) (by omega)
        simp only [saidV_eq] at p2
        have fb2 : ∀ a0, (if l = [] then none else rowO (l.map bts)) = some a0 → unrowO a0 = some (l.map bts) ∧ a0.length ≤ 100000 := fun a0 h => by
          by_cases h0 : l = []
          · rw [if_pos h0] at h; cases h
          · rw [if_neg h0] at h
            refine ⟨unrow_row (by intro e; exact h0 (List.map_eq_nil_iff.1 e)) h, ?_⟩
            have := row_len h
            omega
        generalize (if l = [] then none else rowO (l.map bts)) = O2 at p2 fb2
        have FB2 := Lib.hid fb2
        -- the third
        have p3 := fun (w : World) (hx : Laid x w) (hm : RowsIn w a' m) => fields_calls x a' cap' m w hx hm (by omega) g4 (by omega)
        simp only [saidV_eq] at p3
        have fb3 : ∀ a0, (if m = [] then none else fieldsO (rowsB m)) = some a0 → unfieldsO a0 = some ((rowsB m).map bare) ∧ a0.length ≤ 200000 := fun a0 h => by
          by_cases h0 : m = []
          · rw [if_pos h0] at h; cases h
          · rw [if_neg h0] at h
            refine ⟨unfields_fields (by intro e; exact h0 (List.map_eq_nil_iff.1 e)) h, ?_⟩
            have := fields_len h
            omega
        generalize (if m = [] then none else fieldsO (rowsB m)) = O3 at p3 fb3
        have FB3 := Lib.hid fb3
        have HS := Lib.hid hsr.2
        have zl : l.length ≤ 9223372036854775807 := by omega
        clear fb1 fb2 fb3 hb hc g2 g4 f3
        go_enter Tryd.func6, Tryd.ntmps6
        go_wp2_with fail
        refine (hf).mono ?_; rintro e w' ⟨rfl, rfl⟩
        go_wp2_with fail
        refine (hg).mono ?_; rintro e w' ⟨rfl, rfl⟩
        go_wp2_with fail
        refine (p1).mono ?_; rintro e w1 ⟨rfl, b1⟩
        have x1 := hx.below b1
        have n1 := no_errS O1 w1
        go_upto_if 39 with (refine n1.mono ?_; rintro e w' ⟨rfl, rfl⟩)
        go_cut [9, 10] (fun _ _ wc => Below w1.heap.size w1 wc)
        case first =>
          rcases O1 with _ | a0
          · have q : (noI (none : Option (List UInt8)) == 0) = false := rfl
            go_wp2_with fail
            go_meet
            case rel => exact Below.refl _ _
          · have q : (noI (some a0) == 0) = true := rfl
            obtain ⟨e1, e2⟩ := FB1.out a0 rfl
            have u := unescape_calls x (strOf a0) (by rw [strOf_size]; omega) w1 x1
            rw [bts_strOf, e1, show saidV (some (bts s)) = .tuple #[.string s, .nilIface] from rfl] at u
            rw [show strS (some a0) = strOf a0 from rfl]
            clear e1 e2
            go_wp2_with fail
            refine (u).mono ?_; rintro e w2 ⟨rfl, b2⟩
            go_wp2_with fail
            refine (no_nil w2).mono ?_; rintro e w' ⟨rfl, rfl⟩
            go_wp2_with fail
            go_meet
            case rel => exact b2
        case rest =>
          have xc := x1.below hcut
          have lc := (hl.below b1).below hcut
          have mc := (hm.below b1).below hcut
          have bc := below_then b1 hcut
          clear hcut b1 x1 n1 hf hg p1 hx hl hm
          go_wp2_with fail
          refine (p2 _ xc lc).mono ?_; rintro e w2 ⟨rfl, b2⟩
          have x2 := xc.below b2
          have n2 := no_errS O2 w2
          go_upto_if 60 with (refine n2.mono ?_; rintro e w' ⟨rfl, rfl⟩)
          go_cut [12, 13] (fun _ _ wd => Below w2.heap.size w2 wd)
          case first =>
            rcases O2 with _ | a0
            · have q : (noI (none : Option (List UInt8)) == 0) = false := rfl
              go_wp2_with fail
              go_meet
              case rel => exact Below.refl _ _
            · have q : (noI (some a0) == 0) = true := rfl
              obtain ⟨e1, e2⟩ := FB2.out a0 rfl
              have u := unlist_calls x (strOf a0) (by rw [strOf_size]; omega) w2 x2
              rw [bts_strOf, e1, show errS (some (l.map bts)) = .nilIface from rfl, show strsO (some (l.map bts)) = l from sOf_bts l] at u
              rw [show strS (some a0) = strOf a0 from rfl]
              clear e1 e2
              go_wp2_with fail
              refine (u).mono ?_; rintro e w3 ⟨v3, rfl, o3, b3⟩
              obtain ⟨a3, c3, rfl, i3, y3⟩ := o3.slice
              have sm := same_calls a3 a c3 cap l l w3 i3 ((lc.below b2).below b3) zl zl
              rw [same_self] at sm
              clear o3
              go_wp2_with fail
              refine (sm).mono ?_; rintro e w4 ⟨rfl, b4⟩
              go_wp2_with fail
              refine (no_nil w4).mono ?_; rintro e w' ⟨rfl, rfl⟩
              go_wp2_with fail
              go_meet
              case rel => exact below_then b3 b4
          case rest =>
            have xd := x2.below hcut
            have md := (mc.below b2).below hcut
            have bd := below_then bc (below_then b2 hcut)
            clear hcut b2 x2 n2 p2 lc mc bc xc
            go_wp2_with fail
            refine (p3 _ xd md).mono ?_; rintro e w3 ⟨rfl, b3⟩
            have x3 := xd.below b3
            have m3 := md.below b3
            have b03 := below_then bd b3
            clear p3 xd md b3 bd
            rcases O3 with _ | c0
            · rw [show errS (none : Option (List UInt8)) = errNo 11 from rfl]
              go_wp2_with fail
              refine (no_errno 11 w3 (by omega) (by omega)).mono ?_; rintro e w' ⟨rfl, rfl⟩
              go_wp2_with fail
              refine (alive_calls x w3 x3).mono ?_; rintro e w4 ⟨rfl, b4⟩
              go_wp2_with fail
              go_ret
              exact ⟨rfl, below_then b03 b4⟩
            · rw [show errS (some c0) = .nilIface from rfl, show strS (some c0) = strOf c0 from rfl]
              obtain ⟨e1, e2⟩ := FB3.out c0 rfl
              have u := fun (w : World) (h : Laid x w) => unfields_calls x (strOf c0) (by rw [strOf_size]; omega) w h
              rw [bts_strOf, e1, rowsS_back, show errS (some ((rowsB m).map bare)) = .nilIface from rfl] at u
              clear e1 e2
              go_wp2_with fail
              refine (no_nil w3).mono ?_; rintro e w' ⟨rfl, rfl⟩
              go_wp2_with fail
              refine (u w3 x3).mono ?_; rintro e w4 ⟨v4, rfl, o4, b4⟩
              have x4 := x3.below b4
              have m4 := m3.below b4
              have b04 := below_then b03 b4
              obtain ⟨a4, c4, rfl, i4, y4⟩ := o4.slice
              rw [List.length_map] at y4 ⊢
              have hml := hsr.1
              clear o4 u x3 m3 b03 b4
              go_wp2_with fail
              refine (no_nil w4).mono ?_; rintro e w' ⟨rfl, rfl⟩
              go_wp2_with fail
              go_loopw [101] (fun i wr => ∃ k : Nat, k ≤ m.length ∧ i = iv k ∧ Below w4.heap.size w4 wr) (fun i _ => m.length - (intOf i).toNat)
              case atStart => exact ⟨0, Nat.zero_le _, rfl, Below.refl _ _⟩
              case round =>
                obtain ⟨j, hk, rfl, bb⟩ := hrel
                by_cases hlt : j < m.length
                · have hlt' : (j : Int) < (m.length : Int) := by omega
                  obtain ⟨bm, om, rfl, hm5⟩ := (m4.below bb).form hlt
                  obtain ⟨v1, q1, am, pm, rfl, s1, y1⟩ := hm5 j hlt
                  obtain ⟨bt, ot, rfl, hi5⟩ := (i4.below bb).form (k := j) (by rw [List.length_map]; exact hlt)
                  obtain ⟨v2, q2, at_, pt, rfl, s2, y2⟩ := hi5 j (by rw [List.length_map]; exact hlt)
                  rw [List.getElem_map] at q2 s2 y2
                  have hz1 := (HS.out _ (List.getElem_mem hlt)).1
                  have hrl : (readRow m[j]).length ≤ 9223372036854775807 := by unfold readRow; split; exact Nat.zero_le _; exact hz1
                  have SM := fun k' : Past wr => same_calls at_ am pt pm (readRow m[j]) m[j] k'.to (s2.below k'.below) (s1.below k'.below) hrl hz1
                  have cp1 := fun k' : Past wr => Past.cell q1 k'
                  have cp2 := fun k' : Past wr => Past.cell q2 k'
                  by_cases he : m[j] = [⟨#[]⟩]
                  · have hr : readRow m[j] = [] := if_pos he
                    rw [he] at s1
                    obtain ⟨be, oe, rfl, hse⟩ := s1.form (k := 0) (by simp)
                    have ce : wr.cell? ⟨be, oe, none⟩ = some (.string ⟨#[]⟩) := hse 0 (by simp)
                    have cp3 := fun k' : Past wr => Past.cell ce k'
                    rw [hr, he, show sameB [] [⟨#[]⟩] = false from rfl] at SM
                    rw [hr] at q2 cp2
                    rw [he] at q1 cp1
                    rw [show (([] : List ByteArray).length) = 0 from rfl] at q2 cp2 SM
                    rw [show (([⟨#[]⟩] : List ByteArray).length) = 1 from rfl] at q1 cp1 SM
                    clear he hr hrl hz1 s1 s2 y1 y2 hse
                    go_wp2_with fail
                    (refine region_past (by kernel_rfl) (by kernel_rfl) ?_; (repeat (first | go_big_quiet_skip | (go_big_quiet_want; go_big_quiet_op; first | go_big_quiet_on | (apply Exists.intro; refine ⟨fun k => ?_, ?_⟩; (focus (first | (go_at_call 20; refine Past.calls (SM _)))); go_big_quiet_on)))); refine wpQuiet_nil ?_; intro k)
                    obtain ⟨w5, b5⟩ := k
                    go_wp2_with fail
                    go_roundw
                    case rel => exact ⟨j + 1, by omega, by go_num, below_then' bb b5⟩
                    case measure => simp [intOf]; omega
                  · have hr : readRow m[j] = m[j] := if_neg he
                    rw [hr, same_self] at SM
                    rw [hr] at q2 cp2
                    clear he hr hrl hz1 s1 s2 y1 y2
                    go_wp2_with fail
                    (refine region_past (by kernel_rfl) (by kernel_rfl) ?_; (repeat (first | go_big_quiet_skip | (go_big_quiet_want; go_big_quiet_op; first | go_big_quiet_on | (apply Exists.intro; refine ⟨fun k => ?_, ?_⟩; (focus (first | (go_at_call 20; refine Past.calls (SM _)))); go_big_quiet_on)))); refine wpQuiet_nil ?_; intro k)
                    obtain ⟨w5, b5⟩ := k
                    go_wp2_with fail
                    go_roundw
                    case rel => exact ⟨j + 1, by omega, by go_num, below_then' bb b5⟩
                    case measure => simp [intOf]; omega
                · obtain rfl : j = m.length := by omega
                  go_wp2_with fail
                  refine (alive_calls x wr (x4.below bb)).mono ?_; rintro e w5 ⟨rfl, b5⟩
                  go_wp2_with fail
                  go_ret
                  exact ⟨rfl, below_then b04 (below_then bb b5)⟩
end Go.Proofs.YtgmmnbojelekbaaDoor
