/- Rows written: the program's and the document's. -/
import Derived.Test.YtgmmnbojelekbaaDoorTx
namespace Go.Proofs.YtgmmnbojelekbaaDoor
open Go.RowKit
set_option linter.unusedVariables false
set_option linter.unusedSimpArgs false

/-- How much rows have. -/
def wt (ls : List (List ByteArray)) : Nat := (ls.map fun r => r.length + (flat r).length).sum
theorem wt_nil : wt [] = 0 := rfl
theorem wt_cons (r : List ByteArray) (ls : List (List ByteArray)) : wt (r :: ls) = r.length + (flat r).length + wt ls := by unfold wt; simp
theorem wt_append (a b : List (List ByteArray)) : wt (a ++ b) = wt a + wt b := by unfold wt; simp
theorem wt_mem {ls : List (List ByteArray)} {r : List ByteArray} (h : r ∈ ls) : r.length + (flat r).length ≤ wt ls := by
  induction ls with
  | nil => simp at h
  | cons a l ih =>
    rw [wt_cons]
    rcases List.mem_cons.1 h with rfl | h
    · omega
    · have := ih h; omega
theorem wt_take (ls : List (List ByteArray)) (k : Nat) (h : k < ls.length) : wt (ls.take (k + 1)) = wt (ls.take k) + (ls[k].length + (flat ls[k]).length) := by
  rw [take_snoc ls k h, wt_append, wt_cons, wt_nil]; omega
theorem wt_take_le (ls : List (List ByteArray)) (k : Nat) : wt (ls.take k) ≤ wt ls := by
  have := wt_append (ls.take k) (ls.drop k)
  rw [List.take_append_drop] at this
  omega
abbrev rowsB (ls : List (List ByteArray)) : List (List (List UInt8)) := ls.map (·.map bts)
theorem rowsO_append (l m : List (List (List UInt8))) : rowsO (l ++ m) = (rowsO l).bind fun a => (rowsO m).map (a ++ ·) := by
  induction l with
  | nil => simp [rowsO]
  | cons c l ih =>
    rw [List.cons_append, rowsO, rowsO, ih]
    cases rowO c with
    | none => rfl
    | some a =>
      cases rowsO l with
      | none => rfl
      | some b => cases rowsO m <;> simp
theorem rowsO_snoc {ls : List (List ByteArray)} {k : Nat} (h : k < ls.length) {es : List (List UInt8)} (he : rowsO (rowsB (ls.take k)) = some es) {a : List UInt8} (ha : rowO (ls[k].map bts) = some a) : rowsO (rowsB (ls.take (k + 1))) = some (es ++ [a]) := by
  unfold rowsB at *
  rw [take_snoc ls k h, List.map_append, rowsO_append, he, List.map_cons, List.map_nil, rowsO, ha]
  simp [rowsO]
theorem rowsO_stop {ls : List (List ByteArray)} {k : Nat} (h : k < ls.length) {es : List (List UInt8)} (he : rowsO (rowsB (ls.take k)) = some es) (ha : rowO (ls[k].map bts) = none) : rowsO (rowsB ls) = none := by
  have e : ls = ls.take k ++ ls[k] :: ls.drop (k + 1) := by
    have := (List.take_append_drop k ls).symm
    rw [List.drop_eq_getElem_cons h] at this; exact this
  unfold rowsB at *
  rw [e, List.map_append, rowsO_append, he, List.map_cons, rowsO, ha]; rfl
theorem row_len {l : List ByteArray} {a : List UInt8} (h : rowO (l.map bts) = some a) : a.length ≤ l.length + 2 * (flat l).length := by
  unfold rowO at h
  rcases h1 : escAll (l.map bts) with _ | es
  · rw [h1] at h; simp at h
  · rw [h1] at h; simp at h
    subst h
    exact join_esc_len h1
theorem rowsO_len : ∀ {ls : List (List ByteArray)} {es : List (List UInt8)}, rowsO (rowsB ls) = some es → es.length = ls.length ∧ (flat (es.map strOf)).length ≤ 2 * wt ls
  | [], es, h => by simp [rowsB, rowsO] at h; subst h; simp [flat]
  | r :: ls, es, h => by
    obtain ⟨a, ms, h1, h2, rfl⟩ := rowsO_cons (by simpa [rowsB] using h)
    have i := rowsO_len (ls := ls) h2
    have := row_len h1
    rw [wt_cons]
    rw [List.map_cons, show flat (strOf a :: ms.map strOf) = bts (strOf a) ++ flat (ms.map strOf) from rfl, List.length_append, bts_strOf]
    exact ⟨by simp [i.1], by omega⟩

set_option maxRecDepth 100000 in
set_option maxHeartbeats 1000000 in
theorem fields_calls (x : Addr) (a : Option Addr) (cap : Nat) (ls : List (List ByteArray)) (w : World) (hx : Laid x w) (hin : RowsIn w a ls) (hn : ls.length ≤ 5000) (hr : ∀ r ∈ ls, r.length ≤ 5000) (hz : wt ls ≤ 100000) :
    Calls Tryd.prog 22 #[.slice a ls.length cap] w fun e w' => e = .returned (saidV (if ls = [] then none else fieldsO (rowsB ls))) ∧ Below w.heap.size w w' := by
  by_cases h0 : ls = []
  · subst h0
    have lx := hx
    unfold Laid at lx
    go_enter Tryd.func22, Tryd.ntmps22
    go_wp2_with fail
    refine (toldS_err x _ w hx).mono ?_; rintro e w' ⟨rfl, rfl⟩
    go_wp2_with fail
    go_ret2
    exact ⟨rfl, Below.refl _ _⟩
  · rw [if_neg h0]
    have h1 : 0 < ls.length := List.length_pos_iff.2 h0
    have n0 : ((ls.length : Int) == 0) = false := by rw [beq_eq_false_iff_ne]; omega
    clear h0
    have mk := mk_strs_n ls.length (by omega) w
    have HR := Lib.hid hr
    clear hr
    go_enter Tryd.func22, Tryd.ntmps22
    go_wp2_with fail
    clear mk
    go_loopw [21] (fun i wr => ∃ (k : Nat) (es : List (List UInt8)), k ≤ ls.length ∧ i = iv k ∧ es.length = k ∧ Hid (rowsO (rowsB (ls.take k)) = some es) ∧ StrOwn w.heap.size (.slice (some ⟨w.heap.size, 0, none⟩) ls.length ls.length) (fill ls.length es) wr ∧ Below w.heap.size w wr) (fun i _ => ls.length - (intOf i).toNat)
    case atStart => exact ⟨0, [], Nat.zero_le _, rfl, rfl, Lib.hid rfl, by rw [fill_nil]; exact own_made w _ _ (Nat.le_refl _) (by omega), below_alloc _ _⟩
    case round =>
      obtain ⟨k, es, hk, rfl, hes, he, hown, bb⟩ := hrel
      have bs := bb.size
      have xr := hx.below bb
      by_cases hlt : k < ls.length
      · obtain ⟨b, off, rfl, hat⟩ := hin.form hlt
        obtain ⟨v, ck, a1, c1, rfl, s1, y1⟩ := (hat.below bb) k hlt
        have hrk := HR.out ls[k] (List.getElem_mem hlt)
        have hwk := wt_mem (List.getElem_mem hlt)
        have ST := fun h => Lib.hid (rowsO_stop hlt he.out h)
        have SN := fun a h => Lib.hid (rowsO_snoc hlt he.out (a := a) h)
        have BB := Lib.hid bb
        have HO := Lib.hid hown
        clear bb hown
        go_wp2_with fail
        refine (row_calls x a1 c1 ls[k] wr xr s1 hrk (by omega)).mono ?_; rintro e w1 ⟨rfl, b1⟩
        have x1 := xr.below b1
        rcases ha : rowO (ls[k].map bts) with _ | c
        · have HE := ST ha
          rw [show toldV x none = .tuple #[.string ⟨#[]⟩, errP x] from rfl]
          go_wp2_with fail
          refine (toldS_err x _ w1 x1).mono ?_; rintro e w' ⟨rfl, rfl⟩
          go_wp2_with fail
          go_ret2
          exact ⟨by unfold fieldsO; rw [HE.out]; rfl, BB.out.trans (b1.mono bs)⟩
        · have HE := SN c ha
          rw [show toldV x (some c) = .tuple #[.string (strOf c), .nilIface] from rfl]
          have own1 := HO.out.keep b1
          have hfl : (fill ls.length es).length = ls.length := fill_length (by omega)
          obtain ⟨cc, fz⟩ := own1.cell hfl k (by omega)
          obtain ⟨own2, gr⟩ := own1.set hfl k (strOf c)
          rw [fill_set hes hlt] at own2
          have OWN := Lib.hid own2
          have GR := Lib.hid gr
          have b1s := b1.size
          clear own1 own2 gr ha
          go_wp2_with fail
          go_roundw
          case rel => exact ⟨k + 1, es ++ [c], hlt, by go_num, by simp [hes], HE, OWN.out, below_grown (BB.out.trans (b1.mono bs)) (by omega) GR.out (by simp)⟩
          case measure => simp [intOf]; omega
      · obtain rfl : k = ls.length := by omega
        have e := he.out
        rw [List.take_length] at e
        have HE := Lib.hid (show fieldsO (rowsB ls) = some (join 59 es) by unfold fieldsO; rw [e]; rfl)
        have hfe := (rowsO_len e).2
        rw [fill_all hes] at hown
        obtain ⟨a', cap', ea, hin', hc'⟩ := hown.slice
        injection ea with ea e1 ec
        clear e1
        subst ea ec
        have J := join_calls 59 _ ls.length (es.map strOf) wr hin' hc' (by rw [List.length_map]; omega) (by omega)
        rw [List.length_map, hes] at J
        have JE := Lib.hid (show joinB 59 (es.map strOf) = strOf (join 59 es) by unfold joinB; rw [List.map_map]; congr 2; exact List.map_id'' (fun _ => rfl) _)
        clear e he hown hin' hc' hfe
        go_wp2_with fail
        refine (J).mono ?_; rintro e w1 ⟨rfl, b1⟩
        go_wp2_with fail
        go_ret2
        exact ⟨by rw [HE.out]; show _ = Ending.returned (.tuple #[.string (strOf (join 59 es)), .nilIface]); rw [← JE.out]; rfl, bb.trans (b1.mono bs)⟩

theorem rowO_nil : rowO [] = some [] := rfl
theorem join_rows_len {ls : List (List ByteArray)} {k : Nat} {es : List (List UInt8)} (h : rowsO (rowsB (ls.take k)) = some es) (hk : k ≤ ls.length) : es.length = k ∧ (join 59 es).length ≤ ls.length + 2 * wt ls := by
  obtain ⟨h1, h2⟩ := rowsO_len h
  have h3 := wt_take_le ls k
  have h4 : es.length = k := by rw [h1, List.length_take]; omega
  refine ⟨h4, ?_⟩
  rcases es with _ | ⟨e0, es⟩
  · simp [join]
  · have := join_len 59 ((e0 :: es).map strOf) (by simp)
    have e : ((e0 :: es).map strOf).map bts = e0 :: es := by rw [List.map_map]; exact List.map_id'' (fun _ => rfl) _
    rw [e, List.length_map] at this
    omega
set_option maxRecDepth 100000 in
set_option maxHeartbeats 1000000 in
theorem fieldsR_calls (a : Option Addr) (cap : Nat) (ls : List (List ByteArray)) (w : World) (hin : RowsIn w a ls) (hn : ls.length ≤ 5000) (hr : ∀ r ∈ ls, r.length ≤ 5000) (hz : wt ls ≤ 100000) :
    Calls Tryd.prog 23 #[.slice a ls.length cap] w fun e w' => e = .returned (toldRV (if ls = [] then none else fieldsO (rowsB ls))) ∧ w = w' := by
  by_cases h0 : ls = []
  · subst h0
    go_enter Tryd.func23, Tryd.ntmps23
    go_wp2_with fail
    go_ret2
    exact ⟨rfl, rfl⟩
  · rw [if_neg h0]
    have h1 : 0 < ls.length := List.length_pos_iff.2 h0
    obtain ⟨b, off, rfl, hat⟩ := hin.form h1
    have n0 : ((ls.length : Int) == 0) = false := by rw [beq_eq_false_iff_ne]; omega
    have HR := Lib.hid hr
    clear h0 hr
    go_enter Tryd.func23, Tryd.ntmps23
    go_wp2_with fail
    go_loop [4, 5] (fun t i => ∃ (k : Nat) (es : List (List UInt8)), k ≤ ls.length ∧ i = iv k ∧ Hid (rowsO (rowsB (ls.take k)) = some es) ∧ t = .string (strOf (join 59 es))) (fun _ i => ls.length - (intOf i).toNat)
    case atStart => exact ⟨0, [], Nat.zero_le _, rfl, Lib.hid rfl, rfl⟩
    case round =>
      obtain ⟨k, es, hk, rfl, he, rfl⟩ := hrel
      obtain ⟨hel, hjl⟩ := join_rows_len he.out hk
      have zt : (strOf (join 59 es)).size ≤ 300000 := by rw [strOf_size]; omega
      by_cases hlt : k < ls.length
      · obtain ⟨v, ck, a1, c1, rfl, s1, y1⟩ := hat k hlt
        have hrk := HR.out ls[k] (List.getElem_mem hlt)
        have hwk := wt_mem (List.getElem_mem hlt)
        have W := listR_calls a1 c1 ls[k] w s1 hrk (by omega)
        have zz : (strOf (join 59 es) ++ ⟨#[59]⟩).size ≤ 300001 := by
          rw [show (⟨#[59]⟩ : ByteArray) = strOf [59] from rfl, strOf_append, strOf_size, List.length_append]; rw [strOf_size] at zt; simp; omega
        have JS := fun c (h : 0 < k) => Lib.hid (join_snoc 59 es c (by intro e; subst e; simp at hel; omega))
        by_cases hl0 : ls[k].length = 0
        · have hle : ls[k] = [] := List.eq_nil_of_length_eq_zero hl0
          have HE := Lib.hid (rowsO_snoc hlt he.out (a := []) (by rw [hle]; rfl))
          have g0 : ((ls[k].length : Int) == 0) = true := by rw [hl0]; rfl
          clear W hjl hrk hwk hle hl0 s1 y1
          by_cases hk0 : k = 0
          · subst hk0
            have hes : es = [] := List.length_eq_zero_iff.1 hel
            subst hes
            clear hel
            rw [Nat.add_zero] at ck
            go_wp2_with fail
            go_round
            case rel => exact ⟨1, _, by omega, by go_num, HE, rfl⟩
            case measure => simp [intOf]; omega
          · have kp : (0 : Int) < k := by omega
            have J := JS [] (by omega)
            clear hel hk0 JS
            go_wp2_with fail
            go_round
            case rel => exact ⟨k + 1, _, by omega, by go_num, HE, by rw [J.out, show (⟨#[59]⟩ : ByteArray) = strOf [59] from rfl, strOf_append]⟩
            case measure => simp [intOf]; omega
        · have hne : ls[k] ≠ [] := fun e => hl0 (by rw [e]; rfl)
          have g0 : ((ls[k].length : Int) == 0) = false := by rw [beq_eq_false_iff_ne]; omega
          rw [if_neg hne] at W
          rcases ha : rowO (ls[k].map bts) with _ | c
          · have HE := Lib.hid (show fieldsO (rowsB ls) = none by unfold fieldsO; rw [rowsO_stop hlt he.out ha]; rfl)
            rw [ha, show toldRV none = .tuple #[.string ⟨#[]⟩, iv 11] from rfl] at W
            clear ha hjl hne hel hl0 s1 JS
            by_cases hk0 : k = 0
            · subst hk0
              rw [Nat.add_zero] at ck
              go_wp2_with fail
              refine (W).mono ?_; rintro e w' ⟨rfl, rfl⟩
              go_wp2_with fail
              go_ret2
              exact ⟨by rw [HE.out]; rfl, rfl⟩
            · have kp : (0 : Int) < k := by omega
              go_wp2_with fail
              refine (W).mono ?_; rintro e w' ⟨rfl, rfl⟩
              go_wp2_with fail
              go_ret2
              exact ⟨by rw [HE.out]; rfl, rfl⟩
          · have HE := Lib.hid (rowsO_snoc hlt he.out ha)
            have hc := row_len ha
            have zc : (strOf c).size ≤ 300000 := by rw [strOf_size]; omega
            rw [ha, show toldRV (some c) = .tuple #[.string (strOf c), iv 0] from rfl] at W
            clear ha hjl hc he hne hl0 s1
            by_cases hk0 : k = 0
            · subst hk0
              have hes : es = [] := List.length_eq_zero_iff.1 hel
              subst hes
              clear hel JS
              rw [Nat.add_zero] at ck
              go_wp2_with fail
              refine (W).mono ?_; rintro e w' ⟨rfl, rfl⟩
              go_wp2_with fail
              go_round
              case rel => exact ⟨1, _, by omega, by go_num, HE, by rw [strOf_append]; rfl⟩
              case measure => simp [intOf]; omega
            · have kp : (0 : Int) < k := by omega
              have J := JS c (by omega)
              clear hel hk0 JS
              go_wp2_with fail
              refine (W).mono ?_; rintro e w' ⟨rfl, rfl⟩
              go_wp2_with fail
              go_round
              case rel => exact ⟨k + 1, _, by omega, by go_num, HE, by rw [J.out, show (⟨#[59]⟩ : ByteArray) = strOf [59] from rfl, strOf_append, strOf_append]; simp⟩
              case measure => simp [intOf]; omega
      · obtain rfl : k = ls.length := by omega
        have e := he.out
        rw [List.take_length] at e
        have HE := Lib.hid (show fieldsO (rowsB ls) = some (join 59 es) by unfold fieldsO; rw [e]; rfl)
        clear e he hel hjl
        go_wp2_with fail
        go_ret2
        exact ⟨by rw [HE.out]; rfl, rfl⟩
end Go.Proofs.YtgmmnbojelekbaaDoor
