/- A row read: the program's. -/
import Derived.Test.YtgmmnbojelekbaaDoorTs
namespace Go.Proofs.YtgmmnbojelekbaaDoor
open Go.RowKit
set_option linter.unusedVariables false
set_option linter.unusedSimpArgs false

theorem StrOwn.form {w : World} {B : Nat} {v : Value} {l : List ByteArray} (h : StrOwn B v l w) (hl : l ≠ []) : ∃ g cap, v = .slice (some ⟨g, 0, none⟩) l.length cap ∧ B ≤ g := by
  have hlt := fun k hk => (World.ownsRow.lt h k hk).1
  rcases h.2 with ⟨rfl, h0⟩ | ⟨g, cap, cur, rfl, _⟩
  · exact absurd (List.eq_nil_of_length_eq_zero (by simpa using h0)) hl
  · exact ⟨g, cap, by simp, hlt g rfl⟩
theorem mem_join_le {g : UInt8} : ∀ {ps : List (List UInt8)} {p : List UInt8}, p ∈ ps → p.length ≤ (join g ps).length
  | [], p, h => by simp at h
  | [q], p, h => by rw [List.mem_singleton.1 h]; exact Nat.le_refl _
  | q :: r :: ps, p, h => by
    rw [join_cons _ _ _ (by simp), List.length_append, List.length_cons]
    rcases List.mem_cons.1 h with rfl | h
    · omega
    · have := mem_join_le (g := g) h; omega
theorem mem_cut_le {g : UInt8} (hg : g ≠ 92) {L p : List UInt8} (h : p ∈ cut g L) : p.length ≤ L.length := by
  have := mem_join_le (g := g) h
  rwa [join_cut hg] at this
theorem cut_length_le {g : UInt8} (hg : g ≠ 92) (L : List UInt8) : (cut g L).length ≤ L.length + 1 := by
  have h := join_len g ((cut g L).map strOf) (by intro e; exact cut_ne g L (List.map_eq_nil_iff.1 e))
  have e : ((cut g L).map strOf).map bts = cut g L := by rw [List.map_map]; exact List.map_id'' (fun _ => rfl) _
  rw [e, join_cut hg, List.length_map] at h
  omega
/-- The error's side of an answer. -/
def errO (x : Addr) {α : Type} : Option α → Value
  | some _ => .nilIface
  | none => errP x
def errS {α : Type} : Option α → Value
  | some _ => .nilIface
  | none => errNo 11
def strsO : Option (List (List UInt8)) → List ByteArray
  | some l => l.map strOf
  | none => []
theorem unescAll_step {P acc rest : List (List UInt8)} {p a : List UInt8} (h : unescAll P = (unescAll (p :: rest)).map (acc ++ ·)) (ha : unesc p = some a) : unescAll P = (unescAll rest).map ((acc ++ [a]) ++ ·) := by
  rw [h, unescAll, ha]
  rcases unescAll rest with _ | m <;> simp
theorem unescAll_stop {P acc rest : List (List UInt8)} {p : List UInt8} (h : unescAll P = (unescAll (p :: rest)).map (acc ++ ·)) (ha : unesc p = none) : unescAll P = none := by
  rw [h, unescAll, ha]; rfl

set_option maxRecDepth 100000 in
set_option maxHeartbeats 1000000 in
theorem unrow_calls (x : Addr) (s : ByteArray) (hs : s.size ≤ 200000) (w : World) (hx : Laid x w) :
    Calls Tryd.prog 34 #[.string s] w fun e w' => ∃ v, e = .returned (.tuple #[v, errO x (unrowO (bts s))]) ∧ StrOwn w.heap.size v (strsO (unrowO (bts s))) w' ∧ Below w.heap.size w w' := by
  have SP := split_calls 44 (by decide) s hs w
  have hP : ∀ p ∈ cut 44 (bts s), p.length ≤ 200000 := fun p hp => Nat.le_trans (mem_cut_le (by decide) hp) (by rw [bts_length]; exact hs)
  have hPl : (cut 44 (bts s)).length ≤ 200001 := Nat.le_trans (cut_length_le (by decide) _) (by rw [bts_length]; omega)
  have hPn := cut_ne 44 (bts s)
  have hU : unrowO (bts s) = unescAll (cut 44 (bts s)) := rfl
  rw [hU]
  clear hU
  generalize cut 44 (bts s) = P at *
  go_enter Tryd.func34, Tryd.ntmps34
  go_wp2_with fail
  refine (SP).mono ?_; rintro e w1 ⟨v, rfl, own1, b1⟩
  obtain ⟨g, cap, rfl, hg⟩ := own1.form (by intro e; exact hPn (List.map_eq_nil_iff.1 e))
  rw [List.length_map] at own1 ⊢
  clear SP hPn
  go_wp2_with fail
  go_loopw [13] (fun i wr => ∃ (acc rest : List (List UInt8)), acc.length + rest.length = P.length ∧ i = iv acc.length ∧ Hid (∀ p ∈ rest, p.length ≤ 200000) ∧ Hid (unescAll P = (unescAll rest).map (acc ++ ·)) ∧ StrOwn w.heap.size (.slice (some ⟨g, 0, none⟩) P.length cap) (acc.map strOf ++ rest.map strOf) wr ∧ Below w.heap.size w wr) (fun i _ => P.length - (intOf i).toNat)
  case atStart => exact ⟨[], P, by simp, rfl, Lib.hid hP, Lib.hid (by rcases h : unescAll P <;> simp [h]), own1, b1⟩
  case round =>
    obtain ⟨acc, rest, hl, rfl, hr, hu, hown, bb⟩ := hrel
    have bs := bb.size
    have xr := hx.below bb
    have BB := Lib.hid bb
    have HO := Lib.hid hown
    clear bb hown own1 b1
    rcases rest with _ | ⟨p, rest⟩
    · have he : acc.length = P.length := by simpa using hl
      have HE := Lib.hid (show unescAll P = some acc by rw [hu.out]; simp [unescAll])
      have own := HO.out
      rw [List.map_nil, List.append_nil] at own
      rw [he]
      clear hl he hu
      go_wp2_with fail
      go_ret2
      exact ⟨_, by rw [HE.out]; rfl, by rw [HE.out]; exact own, BB.out⟩
    · have hlt : acc.length < P.length := by rw [← hl]; simp
      have hfl : (acc.map strOf ++ (p :: rest).map strOf).length = P.length := by rw [← hl]; simp
      have hpl : (strOf p).size ≤ 1000000 := by rw [strOf_size]; have := hr.out p (by simp); omega
      have hgt : ∀ h, (acc.map strOf ++ (p :: rest).map strOf)[acc.length]'h = strOf p := fun h => by
        rw [List.getElem_append_right (by simp)]; simp
      obtain ⟨cc, fz⟩ := HO.out.cell hfl acc.length (by omega)
      rw [hgt] at cc
      have ST := fun h => Lib.hid (unescAll_stop hu.out h)
      have SN := fun a h => Lib.hid (unescAll_step (a := a) hu.out h)
      have HR := Lib.hid (show ∀ q ∈ rest, q.length ≤ 200000 from fun q hq => hr.out q (List.mem_cons_of_mem _ hq))
      have HL := Lib.hid (show ∀ a : List UInt8, (acc ++ [a]).length + rest.length = P.length from fun a => by simp at hl ⊢; omega)
      have HF := Lib.hid hfl
      clear hr hu hl hgt fz hfl
      go_wp2_with fail
      refine (read_calls x (strOf p) hpl wr xr).mono ?_; rintro e w2 ⟨rfl, b2⟩
      rw [bts_strOf]
      rcases ha : unesc p with _ | c
      · have HE := ST ha
        rw [show toldV x none = .tuple #[.string ⟨#[]⟩, errP x] from rfl]
        go_wp2_with fail
        go_ret2
        exact ⟨_, by rw [HE.out]; rfl, by rw [HE.out]; exact StrOwn.nil _ _, BB.out.trans (b2.mono bs)⟩
      · have HE := SN c ha
        rw [show toldV x (some c) = .tuple #[.string (strOf c), .nilIface] from rfl]
        have own2 := HO.out.keep b2
        obtain ⟨cc2, fz2⟩ := own2.cell HF.out acc.length (by rw [HF.out]; exact hlt)
        obtain ⟨own3, gr⟩ := own2.set HF.out acc.length (strOf c)
        have es : (acc.map strOf ++ (p :: rest).map strOf).set acc.length (strOf c) = (acc ++ [c]).map strOf ++ rest.map strOf := by
          rw [List.set_append_right _ _ (by simp)]; simp
        rw [es] at own3
        have OWN := Lib.hid own3
        have GR := Lib.hid gr
        have b2s := b2.size
        clear own2 own3 gr ha es cc SN ST
        go_wp2_with fail
        go_roundw
        case rel => exact ⟨acc ++ [c], rest, HL.out c, by simp, HR, HE, OWN.out, below_grown (BB.out.trans (b2.mono bs)) (by omega) GR.out (by simp; omega)⟩
        case measure => simp [intOf]; omega

set_option maxRecDepth 100000 in
theorem toldL_ok (x : Addr) (v : Value) (w : World) (hx : Laid x w) :
    Calls Tryd.prog 33 #[v, .nilIface] w fun e w' => e = .returned (.tuple #[v, .nilIface]) ∧ w = w' := by
  have lx := hx
  unfold Laid at lx
  clear hx
  go_enter Tryd.func33, Tryd.ntmps33
  go_wp2_with fail
  refine (is_nil x w).mono ?_; rintro e w' ⟨rfl, rfl⟩
  go_wp2_with fail
  go_ret2
  exact ⟨rfl, rfl⟩
set_option maxRecDepth 100000 in
theorem toldL_err (x : Addr) (v : Value) (w : World) (hx : Laid x w) :
    Calls Tryd.prog 33 #[v, errP x] w fun e w' => e = .returned (.tuple #[.slice none 0 0, errNo 11]) ∧ w = w' := by
  have lx := hx
  unfold Laid at lx
  clear hx
  go_enter Tryd.func33, Tryd.ntmps33
  go_wp2_with fail
  refine (is_same x w).mono ?_; rintro e w' ⟨rfl, rfl⟩
  go_wp2_with fail
  go_ret2
  exact ⟨rfl, rfl⟩

set_option maxRecDepth 100000 in
theorem unlist_calls (x : Addr) (s : ByteArray) (hs : s.size ≤ 200000) (w : World) (hx : Laid x w) :
    Calls Tryd.prog 18 #[.string s] w fun e w' => ∃ v, e = .returned (.tuple #[v, errS (unrowO (bts s))]) ∧ StrOwn w.heap.size v (strsO (unrowO (bts s))) w' ∧ Below w.heap.size w w' := by
  go_enter Tryd.func18, Tryd.ntmps18
  go_wp2_with fail
  refine (unrow_calls x s hs w hx).mono ?_; rintro e w1 ⟨v, rfl, own1, b1⟩
  have x1 := hx.below b1
  rcases he : unrowO (bts s) with _ | c
  · rw [show errO x (none : Option (List (List UInt8))) = errP x from rfl]
    go_wp2_with fail
    refine (toldL_err x v w1 x1).mono ?_; rintro e w' ⟨rfl, rfl⟩
    go_wp2_with fail
    go_ret2
    exact ⟨_, by rw [he]; rfl, by rw [he]; exact StrOwn.nil _ _, b1⟩
  · rw [show errO x (some c) = .nilIface from rfl]
    rw [he] at own1
    go_wp2_with fail
    refine (toldL_ok x v w1 x1).mono ?_; rintro e w' ⟨rfl, rfl⟩
    go_wp2_with fail
    go_ret2
    exact ⟨_, by rw [he]; rfl, by rw [he]; exact own1, b1⟩
end Go.Proofs.YtgmmnbojelekbaaDoor
