/- Rows read: the program's and the document's; rows compared. -/
import Derived.Test.YtgmmnbojelekbaaDoorTy
namespace Go.Proofs.YtgmmnbojelekbaaDoor
open Go.RowKit
set_option linter.unusedVariables false
set_option linter.unusedSimpArgs false

set_option maxRecDepth 100000 in
theorem toldR_ok (x : Addr) (v : Value) (w : World) (hx : Laid x w) :
    Calls Tryd.prog 38 #[v, .nilIface] w fun e w' => e = .returned (.tuple #[v, .nilIface]) ∧ w = w' := by
  have lx := hx
  unfold Laid at lx
  clear hx
  go_enter Tryd.func38, Tryd.ntmps38
  go_wp2_with fail
  refine (is_nil x w).mono ?_; rintro e w' ⟨rfl, rfl⟩
  go_wp2_with fail
  go_ret2
  exact ⟨rfl, rfl⟩
set_option maxRecDepth 100000 in
theorem toldR_err (x : Addr) (v : Value) (w : World) (hx : Laid x w) :
    Calls Tryd.prog 38 #[v, errP x] w fun e w' => e = .returned (.tuple #[.slice none 0 0, errNo 11]) ∧ w = w' := by
  have lx := hx
  unfold Laid at lx
  clear hx
  go_enter Tryd.func38, Tryd.ntmps38
  go_wp2_with fail
  refine (is_same x w).mono ?_; rintro e w' ⟨rfl, rfl⟩
  go_wp2_with fail
  go_ret2
  exact ⟨rfl, rfl⟩

/-- Texts of bytes. -/
abbrev sOf (r : List (List UInt8)) : List ByteArray := r.map strOf
def rowsS (o : Option (List (List (List UInt8)))) : List (List ByteArray) := match o with
  | some l => l.map sOf
  | none => []
theorem unrowsO_step {P : List (List UInt8)} {acc : List (List (List UInt8))} {rest : List (List UInt8)} {p : List UInt8} {r : List (List UInt8)} (h : unrowsO P = (unrowsO (p :: rest)).map (acc ++ ·)) (ha : unrow1 p = some r) : unrowsO P = (unrowsO rest).map ((acc ++ [r]) ++ ·) := by
  rw [h, unrowsO, ha]
  rcases unrowsO rest with _ | m <;> simp
theorem unrowsO_stop {P : List (List UInt8)} {acc : List (List (List UInt8))} {rest : List (List UInt8)} {p : List UInt8} (h : unrowsO P = (unrowsO (p :: rest)).map (acc ++ ·)) (ha : unrow1 p = none) : unrowsO P = none := by
  rw [h, unrowsO, ha]; rfl
theorem isEmpty_no {s : ByteArray} (h : bts s ≠ []) : s.toList.isEmpty = false := by
  rw [ByteArray.toList_eq]
  rcases hl : s.data.toList with _ | ⟨a, l⟩
  · exact absurd hl h
  · rfl
theorem isEmpty_yes {s : ByteArray} (h : bts s = []) : s.toList.isEmpty = true := by
  rw [ByteArray.toList_eq]; show (bts s).isEmpty = true; rw [h]; rfl

set_option maxRecDepth 100000 in
set_option maxHeartbeats 1000000 in
theorem unfields_calls (x : Addr) (s : ByteArray) (hs : s.size ≤ 200000) (w : World) (hx : Laid x w) :
    Calls Tryd.prog 24 #[.string s] w fun e w' => ∃ v, e = .returned (.tuple #[v, errS (unfieldsO (bts s))]) ∧ RowsOwn w.heap.size v (rowsS (unfieldsO (bts s))) w' ∧ Below w.heap.size w w' := by
  have SP := split_calls 59 (by decide) s hs w
  have hP : ∀ p ∈ cut 59 (bts s), p.length ≤ 200000 := fun p hp => Nat.le_trans (mem_cut_le (by decide) hp) (by rw [bts_length]; exact hs)
  have hPl : (cut 59 (bts s)).length ≤ 200001 := Nat.le_trans (cut_length_le (by decide) _) (by rw [bts_length]; omega)
  have hPn := cut_ne 59 (bts s)
  have hU : unfieldsO (bts s) = unrowsO (cut 59 (bts s)) := rfl
  rw [hU]
  clear hU
  generalize cut 59 (bts s) = P at *
  go_enter Tryd.func24, Tryd.ntmps24
  go_wp2_with fail
  refine (SP).mono ?_; rintro e w1 ⟨v, rfl, own1, b1⟩
  obtain ⟨g, cap, rfl, hg⟩ := own1.form (by intro e; exact hPn (List.map_eq_nil_iff.1 e))
  rw [List.length_map] at own1 ⊢
  clear SP hPn
  have hlen : (P.map strOf).length = P.length := List.length_map _
  have hs1 := b1.size
  have mk := mk_rows_n P.length (by omega) w1
  go_wp2_with fail
  clear mk
  go_loopw [17] (fun i wr => ∃ (k : Nat) (acc : List (List (List UInt8))), k ≤ P.length ∧ i = iv k ∧ acc.length = k ∧ Hid (unrowsO P = (unrowsO (P.drop k)).map (acc ++ ·)) ∧ RowsOwn w1.heap.size (.slice (some ⟨w1.heap.size, 0, none⟩) P.length P.length) (acc.map sOf ++ List.replicate (P.length - k) []) wr ∧ Below w1.heap.size w1 wr) (fun i _ => P.length - (intOf i).toNat)
  case atStart => exact ⟨0, [], Nat.zero_le _, rfl, rfl, Lib.hid (by rcases h : unrowsO P <;> simp [h]), by simpa using own_made_rows w1 _ P.length (Nat.le_refl _) (by omega), below_alloc _ _⟩
  case round =>
    obtain ⟨k, acc, hk, rfl, ha, hu, hown, bb⟩ := hrel
    have bs := bb.size
    have xr := (hx.below b1).below bb
    have BB := Lib.hid bb
    have HO := Lib.hid hown
    have HB := Lib.hid (show Below w.heap.size w wr from b1.trans (bb.mono hs1))
    by_cases hlt : k < P.length
    · have hd : P.drop k = P[k] :: P.drop (k + 1) := List.drop_eq_getElem_cons hlt
      have hpl : (strOf P[k]).size ≤ 200000 := by rw [strOf_size]; exact hP P[k] (List.getElem_mem hlt)
      obtain ⟨cc, fz⟩ := (own1.keep bb).cell hlen k (by omega)
      rw [List.getElem_map] at cc
      have ST := fun (h : unrow1 P[k] = none) => Lib.hid (unrowsO_stop (p := P[k]) (by rw [← hd]; exact hu.out) h)
      have SN := fun (a : List (List UInt8)) (h : unrow1 P[k] = some a) => Lib.hid (unrowsO_step (p := P[k]) (r := a) (by rw [← hd]; exact hu.out) h)
      have hrep : P.length - k = (P.length - (k + 1)) + 1 := by omega
      have hsl : (acc.map sOf ++ List.replicate (P.length - k) []).length = P.length := by simp; omega
      have setl : ∀ l, (acc.map sOf ++ List.replicate (P.length - k) []).set k l = acc.map sOf ++ l :: List.replicate (P.length - (k + 1)) [] := fun l => by
        rw [hrep, List.replicate_succ, List.set_append_right _ _ (by simp; omega)]
        have : k - (acc.map sOf).length = 0 := by simp; omega
        rw [this]; rfl
      have U := unrow_calls x (strOf P[k]) hpl wr xr
      rw [bts_strOf] at U
      clear hd fz bb hown own1 hu
      by_cases he : P[k] = []
      · have HE := SN [] (by unfold unrow1; rw [if_pos he])
        have ey := isEmpty_yes (s := strOf P[k]) he
        have own2 := HO.out
        rw [hrep, List.replicate_succ] at own2
        have OWN := Lib.hid (show RowsOwn w1.heap.size (.slice (some ⟨w1.heap.size, 0, none⟩) P.length P.length) ((acc ++ [[]]).map sOf ++ List.replicate (P.length - (k + 1)) []) wr by simpa using own2)
        have e0 : strOf P[k] = ⟨#[]⟩ := by rw [he]; rfl
        rw [e0] at cc
        clear U ST SN own2 he hrep hsl setl e0 ey
        go_wp2_with fail
        go_roundw
        case rel => exact ⟨k + 1, acc ++ [[]], hlt, by go_num, by simp [ha], HE, OWN.out, BB.out⟩
        case measure => simp [intOf]; omega
      · have en := isEmpty_no (s := strOf P[k]) he
        rcases hr : unrowO P[k] with _ | c
        · have HE := ST (by unfold unrow1; rw [if_neg he]; exact hr)
          rw [hr, show errO x (none : Option (List (List UInt8))) = errP x from rfl] at U
          clear ST SN hr he hrep hsl setl
          go_wp2_with fail
          refine U.mono ?_; rintro e w2 ⟨v2, rfl, own2, b2⟩
          have x2 := xr.below b2
          go_wp2_with fail
          refine (toldR_err x _ w2 x2).mono ?_; rintro e w' ⟨rfl, rfl⟩
          go_wp2_with fail
          go_ret2
          exact ⟨_, by rw [HE.out]; rfl, by rw [HE.out]; exact RowsOwn.nil _ _, HB.out.trans (b2.mono (by omega))⟩
        · have HE := SN c (by unfold unrow1; rw [if_neg he]; exact hr)
          rw [hr, show errO x (some c) = .nilIface from rfl] at U
          clear ST SN hr he
          go_wp2_with fail
          refine U.mono ?_; rintro e w2 ⟨v2, rfl, own2, b2⟩
          have hb2 := b2.size
          have own3 := (HO.out.keep b2).set hsl k v2 (sOf c) (StrOwn.low own2 bs)
          obtain ⟨fz, vv, cv⟩ := (HO.out.keep b2).free hsl k hlt
          obtain ⟨own4, gr⟩ := own3
          rw [setl] at own4
          have OWN := Lib.hid (show RowsOwn w1.heap.size (.slice (some ⟨w1.heap.size, 0, none⟩) P.length P.length) ((acc ++ [c]).map sOf ++ List.replicate (P.length - (k + 1)) []) (w2.setCell ⟨w1.heap.size, k, none⟩ v2) by simpa using own4)
          have BS := Lib.hid (show Below w1.heap.size w1 (w2.setCell ⟨w1.heap.size, k, none⟩ v2) from below_grown (BB.out.trans (b2.mono bs)) (by omega) gr (by simp))
          obtain ⟨a2, c2, ev2, _⟩ := own2.slice
          clear own4 gr hrep hsl setl own2 b2
          subst ev2
          go_wp2_with fail
          go_roundw
          case rel => exact ⟨k + 1, acc ++ [c], hlt, by go_num, by simp [ha], HE, OWN.out, BS.out⟩
          case measure => simp [intOf]; omega
    · obtain rfl : k = P.length := by omega
      have HE := Lib.hid (show unrowsO P = some acc by rw [hu.out, List.drop_eq_nil_of_le (Nat.le_refl _)]; simp [unrowsO])
      have own2 := HO.out
      rw [Nat.sub_self, List.replicate_zero, List.append_nil] at own2
      have OWN := Lib.hid (RowsOwn.low own2 hs1)
      clear hown own1 bb own2 hu
      go_wp2_with fail
      go_ret2
      exact ⟨_, by rw [HE.out]; rfl, by rw [HE.out]; exact OWN.out, HB.out⟩

set_option maxRecDepth 100000 in
set_option maxHeartbeats 1000000 in
theorem unfieldsR_calls (s : ByteArray) (hs : s.size ≤ 100000) (w : World) :
    Calls Tryd.prog 25 #[.string s] w fun e w' => ∃ v, e = .returned (.tuple #[v, errN (unfieldsO (bts s))]) ∧ RowsOwn w.heap.size v (rowsS (unfieldsO (bts s))) w' ∧ Below w.heap.size w w' := by
  have SP := cutR_calls 59 (by decide) s hs w
  have hP : ∀ p ∈ cut 59 (bts s), p.length ≤ 100000 := fun p hp => Nat.le_trans (mem_cut_le (by decide) hp) (by rw [bts_length]; exact hs)
  have hPl : (cut 59 (bts s)).length ≤ 100001 := Nat.le_trans (cut_length_le (by decide) _) (by rw [bts_length]; omega)
  have hPn := cut_ne 59 (bts s)
  have hU : unfieldsO (bts s) = unrowsO (cut 59 (bts s)) := rfl
  rw [hU]
  clear hU
  generalize cut 59 (bts s) = P at *
  go_enter Tryd.func25, Tryd.ntmps25
  go_wp2_with fail
  refine (SP).mono ?_; rintro e w1 ⟨v, rfl, own1, b1⟩
  obtain ⟨g, cap, rfl, hg⟩ := own1.form (by intro e; exact hPn (List.map_eq_nil_iff.1 e))
  rw [List.length_map] at own1 ⊢
  clear SP hPn
  have hlen : (P.map strOf).length = P.length := List.length_map _
  have hs1 := b1.size
  go_wp2_with fail
  go_loopw [5, 6] (fun v i wr => ∃ (k : Nat) (acc : List (List (List UInt8))), k ≤ P.length ∧ i = iv k ∧ acc.length = k ∧ Hid (unrowsO P = (unrowsO (P.drop k)).map (acc ++ ·)) ∧ RowsOwn w1.heap.size v (acc.map sOf) wr ∧ Below w1.heap.size w1 wr) (fun _ i _ => P.length - (intOf i).toNat)
  case atStart => exact ⟨0, [], Nat.zero_le _, rfl, rfl, Lib.hid (by rcases h : unrowsO P <;> simp [h]), RowsOwn.nil _ _, Below.refl _ _⟩
  case round =>
    obtain ⟨k, acc, hk, rfl, ha, hu, hown, bb⟩ := hrel
    have bs := bb.size
    have BB := Lib.hid bb
    have HO := Lib.hid hown
    have HB := Lib.hid (show Below w.heap.size w wr from b1.trans (bb.mono hs1))
    by_cases hlt : k < P.length
    · have hd : P.drop k = P[k] :: P.drop (k + 1) := List.drop_eq_getElem_cons hlt
      have hpl : (strOf P[k]).size ≤ 100000 := by rw [strOf_size]; exact hP P[k] (List.getElem_mem hlt)
      obtain ⟨cc, fz⟩ := (own1.keep bb).cell hlen k (by omega)
      rw [List.getElem_map] at cc
      have ST := fun (h : unrow1 P[k] = none) => Lib.hid (unrowsO_stop (p := P[k]) (by rw [← hd]; exact hu.out) h)
      have SN := fun (a : List (List UInt8)) (h : unrow1 P[k] = some a) => Lib.hid (unrowsO_step (p := P[k]) (r := a) (by rw [← hd]; exact hu.out) h)
      have U := unlistR_calls (strOf P[k]) hpl wr
      rw [bts_strOf] at U
      clear hd fz bb hown own1 hu
      by_cases he : P[k] = []
      · have HE := SN [] (by unfold unrow1; rw [if_pos he])
        have e0 : strOf P[k] = ⟨#[]⟩ := by rw [he]; rfl
        rw [e0] at cc
        clear U ST SN he e0
        go_wp2_with (first
          | (refine wpList_bs_row1 rfl _ rfl rfl ?_)
          | (at_builtin; refine wpList_app_row rfl _ _ rfl w1.heap.size u5 (acc.map sOf) rfl HO.out _ [] (StrOwn.nil _ _) rfl (by rw [List.length_map]; omega) (by omega) ?_))
        intro v' w3 own3 b3
        have OWN := Lib.hid (show RowsOwn w1.heap.size v' ((acc ++ [[]]).map sOf) w3 by simpa using own3)
        clear own3
        go_wp2_with fail
        go_roundw
        case rel => exact ⟨k + 1, acc ++ [[]], hlt, by go_num, by simp [ha], HE, OWN.out, BB.out.trans b3⟩
        case measure => simp [intOf]; omega
      · have en := isEmpty_no (s := strOf P[k]) he
        rcases hr : unrowO P[k] with _ | c
        · have HE := ST (by unfold unrow1; rw [if_neg he]; exact hr)
          rw [hr, show errN (none : Option (List (List UInt8))) = iv 11 from rfl] at U
          clear ST SN hr he
          go_wp2_with fail
          refine U.mono ?_; rintro e w2 ⟨v2, rfl, own2, b2⟩
          go_wp2_with fail
          go_ret2
          exact ⟨_, by rw [HE.out]; rfl, by rw [HE.out]; exact RowsOwn.nil _ _, HB.out.trans (b2.mono (by omega))⟩
        · have HE := SN c (by unfold unrow1; rw [if_neg he]; exact hr)
          rw [hr, show errN (some c) = iv 0 from rfl] at U
          clear ST SN hr he
          go_wp2_with fail
          refine U.mono ?_; rintro e w2 ⟨v2, rfl, own2, b2⟩
          have hb2 := b2.size
          have O5 := Lib.hid (HO.out.keep b2)
          have O2 := Lib.hid (show StrOwn w1.heap.size v2 (sOf c) w2 from StrOwn.low own2 bs)
          have B2 := Lib.hid (show Below w1.heap.size w1 w2 from BB.out.trans (b2.mono bs))
          obtain ⟨a2, c2, ev2, _⟩ := own2.slice
          clear own2 b2
          subst ev2
          go_wp2_with (first
            | (refine wpList_bs_row1 rfl _ rfl rfl ?_)
            | (at_builtin; refine wpList_app_row rfl _ _ rfl w1.heap.size u5 (acc.map sOf) rfl O5.out _ (sOf c) O2.out rfl (by rw [List.length_map]; omega) (by omega) ?_))
          intro v' w3 own3 b3
          have OWN := Lib.hid (show RowsOwn w1.heap.size v' ((acc ++ [c]).map sOf) w3 by simpa using own3)
          clear own3
          go_wp2_with fail
          go_roundw
          case rel => exact ⟨k + 1, acc ++ [c], hlt, by go_num, by simp [ha], HE, OWN.out, B2.out.trans b3⟩
          case measure => simp [intOf]; omega
    · obtain rfl : k = P.length := by omega
      have HE := Lib.hid (show unrowsO P = some acc by rw [hu.out, List.drop_eq_nil_of_le (Nat.le_refl _)]; simp [unrowsO])
      have OWN := Lib.hid (RowsOwn.low hown hs1)
      clear hown own1 bb hu
      go_wp2_with fail
      go_ret2
      exact ⟨_, by rw [HE.out]; rfl, by rw [HE.out]; exact OWN.out, HB.out⟩

def rowsSame (l m : List (List ByteArray)) : Bool := decide (l = m)
set_option maxRecDepth 100000 in
set_option maxHeartbeats 1000000 in
theorem rows_calls (a b : Option Addr) (c d : Nat) (l m : List (List ByteArray)) (w : World) (hl : RowsIn w a l) (hm : RowsIn w b m) (hs : l.length ≤ 9223372036854775807) (ht : m.length ≤ 9223372036854775807)
    (hs2 : ∀ r ∈ l, r.length ≤ 9223372036854775807) (ht2 : ∀ r ∈ m, r.length ≤ 9223372036854775807) :
    Calls Tryd.prog 26 #[.slice a l.length c, .slice b m.length d] w fun e w' => e = .returned (.bool (rowsSame l m)) ∧ Below w.heap.size w w' := by
  by_cases hlen : l.length = m.length
  · have hn1 : (l.length : Int) = (m.length : Int) := by omega
    have hn2 : ((l.length : Int) != (m.length : Int)) = false := by simp [hn1]
    clear hn1
    have HS2 := Lib.hid hs2
    have HT2 := Lib.hid ht2
    clear hs2 ht2
    go_enter Tryd.func26, Tryd.ntmps26
    have HL := Lib.hid hlen
    clear hlen
    go_wp2_with fail
    go_loopw [5] (fun i wr => ∃ k : Nat, k ≤ l.length ∧ i = iv k ∧ l.take k = m.take k ∧ Below w.heap.size w wr) (fun i _ => (l.length - intOf i).toNat)
    case atStart => exact ⟨0, Nat.zero_le _, rfl, rfl, Below.refl _ _⟩
    case round =>
      obtain ⟨k, hk, rfl, heq, bb⟩ := hrel
      have bs := bb.size
      have HE := Lib.hid heq
      clear heq
      by_cases hlt : k < l.length
      · have hlt2 : k < m.length := by have := HL.out; omega
        have hlt' : (k : Int) < (l.length : Int) := by omega
        have hlt2' : (k : Int) < (m.length : Int) := by omega
        obtain ⟨b1, o1, rfl, h1⟩ := (hl.below bb).form hlt
        obtain ⟨b2, o2, rfl, h2⟩ := (hm.below bb).form hlt2
        obtain ⟨v1, q1, a1, p1, rfl, s1, y1⟩ := h1 k hlt
        obtain ⟨v2, q2, a2, p2, rfl, s2, y2⟩ := h2 k hlt2
        have SM := fun k' : Past wr => same_calls a1 a2 p1 p2 l[k] m[k] k'.to (s1.below k'.below) (s2.below k'.below) (HS2.out _ (List.getElem_mem hlt)) (HT2.out _ (List.getElem_mem hlt2))
        have cp1 := fun k' : Past wr => Past.cell q1 k'
        have cp2 := fun k' : Past wr => Past.cell q2 k'
        by_cases he : l[k] = m[k]
        · have e : l.take (k + 1) = m.take (k + 1) := by rw [take_snoc l k hlt, take_snoc m k hlt2, HE.out, he]
          have E := Lib.hid e
          rw [show sameB l[k] m[k] = true from decide_eq_true he] at SM
          clear he e
          go_wp2_with fail
          (refine region_past (by kernel_rfl) (by kernel_rfl) ?_; (repeat (first | go_big_quiet_skip | (go_big_quiet_want; go_big_quiet_op; first | go_big_quiet_on | (apply Exists.intro; refine ⟨fun k => ?_, ?_⟩; (focus (first | (go_at_call 20; refine Past.calls (SM _)))); go_big_quiet_on)))); refine wpQuiet_nil ?_; intro k)
          obtain ⟨w4, b4⟩ := k
          go_wp2_with fail
          go_roundw
          case rel => exact ⟨_ + 1, by omega, by go_num, E.out, bb.trans (b4.mono bs)⟩
          case measure => simp [intOf]; omega
        · have e : rowsSame l m = false := by
            unfold rowsSame; rw [decide_eq_false]
            intro h; apply he; subst h; rfl
          have E := Lib.hid e
          rw [show sameB l[k] m[k] = false from decide_eq_false he] at SM
          clear he e
          go_wp2_with fail
          (refine region_past (by kernel_rfl) (by kernel_rfl) ?_; (repeat (first | go_big_quiet_skip | (go_big_quiet_want; go_big_quiet_op; first | go_big_quiet_on | (apply Exists.intro; refine ⟨fun k => ?_, ?_⟩; (focus (first | (go_at_call 20; refine Past.calls (SM _)))); go_big_quiet_on)))); refine wpQuiet_nil ?_; intro k)
          obtain ⟨w4, b4⟩ := k
          go_wp2_with fail
          go_ret
          exact ⟨by rw [E.out]; rfl, bb.trans (b4.mono bs)⟩
      · obtain rfl : k = l.length := by omega
        have e : rowsSame l m = true := by
          have h := HE.out
          rw [List.take_length, HL.out, List.take_length] at h
          unfold rowsSame; rw [decide_eq_true h]
        have E := Lib.hid e
        clear e
        go_wp2_with fail
        go_ret
        exact ⟨by rw [E.out]; rfl, bb⟩
  · have e : rowsSame l m = false := by
      unfold rowsSame; rw [decide_eq_false]
      intro h; exact hlen (by rw [h])
    rw [e]
    have hn2 : ((l.length : Int) != (m.length : Int)) = true := by simp; omega
    go_enter Tryd.func26, Tryd.ntmps26
    go_wp2_with fail
    go_ret
    exact ⟨rfl, Below.refl _ _⟩
end Go.Proofs.YtgmmnbojelekbaaDoor
