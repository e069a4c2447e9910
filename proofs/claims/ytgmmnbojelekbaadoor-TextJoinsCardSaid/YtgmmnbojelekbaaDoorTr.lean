/- A row written: the program's. -/
import Derived.Test.YtgmmnbojelekbaaDoorTj
import Derived.Test.YtgmmnbojelekbaaDoorCo
namespace Go.Proofs.YtgmmnbojelekbaaDoor
open Go.RowKit
set_option linter.unusedVariables false
set_option linter.unusedSimpArgs false

def madeStr (n : Nat) : Array Value := (List.replicate n (Value.string ⟨#[]⟩)).toArray
theorem made_strs (n : Nat) : madeCells (Value.string ⟨#[]⟩).cells n = madeStr n := by
  have e : (Value.string ⟨#[]⟩).cells = (List.replicate 1 (Value.string ⟨#[]⟩)).toArray := rfl
  rw [e]
  unfold madeCells madeStr
  apply Array.ext'
  apply List.ext_getElem?
  intro i
  by_cases hi : i < n
  · rw [List.getElem?_replicate, if_pos hi]
    simp [hi, Nat.mod_one]
  · rw [List.getElem?_replicate, if_neg hi]
    simp; omega
/-- 'make([]string, n)'. -/
theorem mk_strs_n (n : Nat) (h : n ≤ 1000000) (w : World) : (Instr.makeSlice 31 (.int .i64 n) (.int .i64 n)).run Tryd.prog w = .ok (.slice (some ⟨w.heap.size, 0, none⟩) n n) (w.alloc (.cells (madeStr n) 9)) := by
  obtain ⟨i, hi, hz⟩ := Option.map_eq_some_iff.1 infoStr
  simp only [Prod.mk.injEq] at hz
  have := run_make (P := Tryd.prog) w 31 9 i (.string ⟨#[]⟩) Tryd.underlying31 hi hz.1 .i64 .i64 n n (by omega) (by omega) (by rw [hz.2.2]; omega) (by omega)
  rw [this, hz.2.1]
  simp only [Int.toNat_natCast, Nat.mul_one, made_strs]
theorem own_made (w : World) (B n : Nat) (hB : B ≤ w.heap.size) (hn : n ≤ 1000000) : StrOwn B (.slice (some ⟨w.heap.size, 0, none⟩) n n) (List.replicate n ⟨#[]⟩) (w.alloc (.cells (madeStr n) 9)) := by
  have := World.ownsRow_lit (base := B) (e := 9) (size := 1) w (madeStr n) n hB (by unfold maxLen; omega) (by unfold madeStr; simp)
  unfold StrOwn
  rw [List.map_replicate, List.length_replicate]
  exact this
theorem StrOwn.set {w : World} {B g n cap : Nat} {l : List ByteArray} (h : StrOwn B (.slice (some ⟨g, 0, none⟩) n cap) l w) (hn : l.length = n) (j : Nat) (s : ByteArray) :
    StrOwn B (.slice (some ⟨g, 0, none⟩) n cap) (l.set j s) (w.setCell ⟨g, j, none⟩ (.string s)) ∧ w.grownBy (w.setCell ⟨g, j, none⟩ (.string s)) (some g) := by
  unfold StrOwn at *
  rw [List.length_map, hn] at h
  rw [List.length_map, List.length_set, hn, List.map_set]
  exact h.stored j (.string s)
theorem StrOwn.cell {w : World} {B g n cap : Nat} {l : List ByteArray} (h : StrOwn B (.slice (some ⟨g, 0, none⟩) n cap) l w) (hn : l.length = n) (j : Nat) (hj : j < l.length) :
    w.cell? ⟨g, j, none⟩ = some (.string l[j]) ∧ w.frozen? ⟨g, j, none⟩ = false := by
  unfold StrOwn at h
  rw [List.length_map, hn] at h
  refine ⟨?_, h.frozenAt j⟩
  rw [h.cellAt j (by omega), List.getElem?_map, List.getElem?_eq_getElem hj]; rfl
/-- A row that is filled from its front on. -/
def fill (n : Nat) (es : List (List UInt8)) : List ByteArray := es.map strOf ++ List.replicate (n - es.length) ⟨#[]⟩
theorem fill_length {n : Nat} {es : List (List UInt8)} (h : es.length ≤ n) : (fill n es).length = n := by unfold fill; simp; omega
theorem fill_nil (n : Nat) : fill n [] = List.replicate n ⟨#[]⟩ := by unfold fill; simp
theorem fill_set {n : Nat} {es : List (List UInt8)} {k : Nat} (hk : es.length = k) (h : k < n) (a : List UInt8) : (fill n es).set k (strOf a) = fill n (es ++ [a]) := by
  unfold fill
  have e : n - es.length = (n - (es ++ [a]).length) + 1 := by simp; omega
  rw [e, List.replicate_succ, List.set_append_right _ _ (by simp; omega)]
  have e2 : k - (es.map strOf).length = 0 := by simp; omega
  rw [e2]
  simp
theorem fill_all {n : Nat} {es : List (List UInt8)} (h : es.length = n) : fill n es = es.map strOf := by unfold fill; rw [h]; simp
theorem flat_esc : ∀ {l : List ByteArray} {es : List (List UInt8)}, escAll (l.map bts) = some es → (flat (es.map strOf)).length ≤ 2 * (flat l).length
  | [], es, h => by rw [List.map_nil, escAll] at h; injection h with h; subst h; simp [flat]
  | s :: l, es, h => by
    obtain ⟨a, ds, h1, h2, rfl⟩ := escAll_cons (by simpa using h)
    have i := flat_esc h2
    have := esc_length h1
    rw [List.map_cons, show flat (strOf a :: ds.map strOf) = bts (strOf a) ++ flat (ds.map strOf) from rfl, show flat (s :: l) = bts s ++ flat l from rfl, List.length_append, List.length_append, bts_strOf]
    omega
theorem escAll_snoc {l : List ByteArray} {k : Nat} (h : k < l.length) {es : List (List UInt8)} (he : escAll ((l.take k).map bts) = some es) {a : List UInt8} (ha : esc (bts l[k]) = some a) : escAll ((l.take (k + 1)).map bts) = some (es ++ [a]) := by
  rw [take_snoc l k h, List.map_append, escAll_append, he, List.map_cons, List.map_nil, escAll, ha]
  simp [escAll]
theorem escAll_stop {l : List ByteArray} {k : Nat} (h : k < l.length) {es : List (List UInt8)} (he : escAll ((l.take k).map bts) = some es) (ha : esc (bts l[k]) = none) : escAll (l.map bts) = none := by
  have e : l = l.take k ++ l[k] :: l.drop (k + 1) := by
    have := (List.take_append_drop k l).symm
    rw [List.drop_eq_getElem_cons h] at this; exact this
  rw [e, List.map_append, escAll_append, he, List.map_cons, escAll, ha]; rfl

set_option maxRecDepth 100000 in
set_option maxHeartbeats 1000000 in
theorem row_calls (x : Addr) (a : Option Addr) (cap : Nat) (l : List ByteArray) (w : World) (hx : Laid x w) (hin : StrsIn w a l) (hn : l.length ≤ 5000) (hz : (flat l).length ≤ 100000) :
    Calls Tryd.prog 32 #[.slice a l.length cap] w fun e w' => e = .returned (toldV x (rowO (l.map bts))) ∧ Below w.heap.size w w' := by
  have mk := mk_strs_n l.length (by omega) w
  go_enter Tryd.func32, Tryd.ntmps32
  go_wp2_with fail
  clear mk
  go_loopw [14] (fun i wr => ∃ (k : Nat) (es : List (List UInt8)), k ≤ l.length ∧ i = iv k ∧ es.length = k ∧ Hid (escAll ((l.take k).map bts) = some es) ∧ StrOwn w.heap.size (.slice (some ⟨w.heap.size, 0, none⟩) l.length l.length) (fill l.length es) wr ∧ Below w.heap.size w wr) (fun i _ => l.length - (intOf i).toNat)
  case atStart => exact ⟨0, [], Nat.zero_le _, rfl, rfl, Lib.hid rfl, by rw [fill_nil]; exact own_made w _ _ (Nat.le_refl _) (by omega), below_alloc _ _⟩
  case round =>
    obtain ⟨k, es, hk, rfl, hes, he, hown, bb⟩ := hrel
    have bs := bb.size
    have xr := hx.below bb
    by_cases hlt : k < l.length
    · obtain ⟨b, off, rfl, hat⟩ := hin.form hlt
      have ck := (hat.below bb) k hlt
      have hgk := flat_get_le l k hlt
      have ST := fun h => Lib.hid (escAll_stop hlt he.out h)
      have SN := fun a h => Lib.hid (escAll_snoc hlt he.out (a := a) h)
      have BB := Lib.hid bb
      have HO := Lib.hid hown
      clear bb hown
      go_wp2_with fail
      refine (written_calls x l[k] (by omega) wr xr).mono ?_; rintro e w1 ⟨rfl, b1⟩
      rcases ha : esc (bts l[k]) with _ | c
      · have HE := ST ha
        rw [show toldV x none = .tuple #[.string ⟨#[]⟩, errP x] from rfl]
        go_wp2_with fail
        go_ret2
        exact ⟨by unfold rowO; rw [HE.out]; rfl, BB.out.trans (b1.mono bs)⟩
      · have HE := SN c ha
        rw [show toldV x (some c) = .tuple #[.string (strOf c), .nilIface] from rfl]
        have own1 := HO.out.keep b1
        have hfl : (fill l.length es).length = l.length := fill_length (by omega)
        obtain ⟨cc, fz⟩ := own1.cell hfl k (by omega)
        obtain ⟨own2, gr⟩ := own1.set hfl k (strOf c)
        rw [fill_set hes hlt] at own2
        have OWN := Lib.hid own2
        have GR := Lib.hid gr
        have b1s := b1.size
        clear own1 own2 gr ha
        go_wp2_with fail
        go_roundw
        case rel => exact ⟨k + 1, es ++ [c], hlt, by go_num, by simp [hes], HE, OWN.out, below_grown (BB.out.trans (b1.mono bs)) (by omega) GR.out (by simp)⟩
        case measure => simp [intOf]; omega
    · obtain rfl : k = l.length := by omega
      have e := he.out
      rw [List.take_length] at e
      have HE := Lib.hid (show rowO (l.map bts) = some (join 44 es) by unfold rowO; rw [e]; rfl)
      have hfe := flat_esc e
      rw [fill_all hes] at hown
      obtain ⟨a', cap', ea, hin', hc'⟩ := hown.slice
      injection ea with ea e1 ec
      clear e1
      subst ea ec
      have J := join_calls 44 _ l.length (es.map strOf) wr hin' hc' (by rw [List.length_map]; omega) (by omega)
      rw [List.length_map, hes] at J
      have JE := Lib.hid (show joinB 44 (es.map strOf) = strOf (join 44 es) by unfold joinB; rw [List.map_map]; congr 2; exact List.map_id'' (fun _ => rfl) _)
      clear e he hown hin' hc' hfe
      go_wp2_with fail
      refine (J).mono ?_; rintro e w1 ⟨rfl, b1⟩
      go_wp2_with fail
      go_ret2
      exact ⟨by rw [HE.out]; show _ = Ending.returned (.tuple #[.string (strOf (join 44 es)), .nilIface]); rw [← JE.out]; rfl, bb.trans (b1.mono bs)⟩

set_option maxRecDepth 100000 in
theorem list_calls (x : Addr) (a : Option Addr) (cap : Nat) (l : List ByteArray) (w : World) (hx : Laid x w) (hin : StrsIn w a l) (hn : l.length ≤ 5000) (hz : (flat l).length ≤ 100000) :
    Calls Tryd.prog 16 #[.slice a l.length cap] w fun e w' => e = .returned (saidV (if l = [] then none else rowO (l.map bts))) ∧ Below w.heap.size w w' := by
  by_cases h0 : l = []
  · subst h0
    have lx := hx
    unfold Laid at lx
    go_enter Tryd.func16, Tryd.ntmps16
    go_wp2_with fail
    refine (toldS_err x _ w hx).mono ?_; rintro e w' ⟨rfl, rfl⟩
    go_wp2_with fail
    go_ret2
    exact ⟨rfl, Below.refl _ _⟩
  · rw [if_neg h0]
    have h1 : 0 < l.length := List.length_pos_iff.2 h0
    have n0 : ((l.length : Int) == 0) = false := by rw [beq_eq_false_iff_ne]; omega
    clear h0
    go_enter Tryd.func16, Tryd.ntmps16
    go_wp2_with fail
    refine (row_calls x a cap l w hx hin hn hz).mono ?_; rintro e w1 ⟨rfl, b1⟩
    have x1 := hx.below b1
    rcases he : rowO (l.map bts) with _ | c
    · rw [show toldV x none = .tuple #[.string ⟨#[]⟩, errP x] from rfl]
      go_wp2_with fail
      refine (toldS_err x _ w1 x1).mono ?_; rintro e w' ⟨rfl, rfl⟩
      go_wp2_with fail
      go_ret2
      exact ⟨by rw [he]; rfl, b1⟩
    · rw [show toldV x (some c) = .tuple #[.string (strOf c), .nilIface] from rfl]
      go_wp2_with fail
      refine (toldS_ok x _ w1 x1).mono ?_; rintro e w' ⟨rfl, rfl⟩
      go_wp2_with fail
      go_ret2
      exact ⟨by rw [he]; rfl, b1⟩
end Go.Proofs.YtgmmnbojelekbaaDoor
