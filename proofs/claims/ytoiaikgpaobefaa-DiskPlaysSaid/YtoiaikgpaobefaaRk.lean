/- The document's Crash. -/
import Derived.Test.YtoiaikgpaobefaaRw
import Derived.Deep.DeepCutAuto
import Derived.StillTailTactics
namespace Go.Proofs.Ytoiaikgpaobefaa
open Go.RowKit Go.Maps

/-- What a call answers that makes a disk of the document's. -/
def MadeRef (w : World) (m : DM) (e : Ending) (w' : World) : Prop :=
  ∃ r S, e = .returned (.pointer (some ⟨r, 0, none⟩)) ∧ RefIn w' r S m 0 ∧ Below w.heap.size w w' ∧ ∀ x ∈ S, w.heap.size ≤ x

theorem strs_one (l : List Sec) : ∀ u ∈ l.map strV, u.oneCell' = true := by
  intro u hu
  obtain ⟨s, _, rfl⟩ := List.mem_map.1 hu
  rfl

theorem clamp_hi {cut c1 : Int} (h : (if cut < 0 then 0 else cut) = c1) (h2 : 256 < c1) : (256 : Int) = (clampN cut : Nat) := by
  unfold clampN
  by_cases h0 : cut < 0
  · rw [if_pos h0] at h; omega
  · rw [if_neg h0] at h ⊢; subst h; rw [if_pos h2]; rfl
theorem clamp_lo {cut c1 : Int} (h : (if cut < 0 then 0 else cut) = c1) (h2 : ¬ 256 < c1) : c1 = (clampN cut : Nat) := by
  unfold clampN
  by_cases h0 : cut < 0
  · rw [if_pos h0] at h ⊢; subst h; rfl
  · rw [if_neg h0] at h ⊢; subst h; rw [if_neg h2]; omega
theorem layOne_some {m : DM} {l : List Sec} {k : Int} {s : Sec} (hf : m.fresh k = some s) (c : Nat) : layOne m.fresh l k c = l.set k.toNat (s.take c ++ (l.getD k.toNat []).drop c) := by
  unfold layOne; rw [hf]; rfl
theorem layOne_none {m : DM} {l : List Sec} {k : Int} (hf : m.fresh k = none) (c : Nat) : layOne m.fresh l k c = l := by unfold layOne; rw [hf]
theorem layOne_whole {m : DM} (hm : m.ok) {l : List Sec} {k : Int} {s : Sec} (hf : m.fresh k = some s) (hl : ∀ x ∈ l, x.length = 256) (hn : l.length = m.lasts.length) : layOne m.fresh l k 256 = l.set k.toNat s := by
  obtain ⟨h0, h1, h2⟩ := hm.keys k s hf
  rw [layOne_some hf]
  have hk : k.toNat < l.length := by omega
  have e : (l.getD k.toNat []).length = 256 := by
    rw [List.getD_eq_getElem?_getD, List.getElem?_eq_getElem hk]
    exact hl _ (List.getElem_mem hk)
  rw [List.take_of_length_le (by omega), List.drop_eq_nil_of_le (by omega), List.append_nil]
theorem str_parts (a b : Sec) (c n : Nat) (hb : b.length = n) : (strOf a).extract 0 c ++ (strOf b).extract c n = strOf (a.take c ++ b.drop c) := by
  unfold strOf
  rw [ByteArray.extract_mk, ByteArray.extract_mk, ByteArray.mk_append_mk]
  have e : (b.drop c).take (n - c) = b.drop c := List.take_of_length_le (by rw [List.length_drop]; omega)
  rw [e, List.drop_zero, Nat.sub_zero]

set_option maxRecDepth 100000 in
set_option maxHeartbeats 2000000 in
theorem crash_ref {w : World} {r : Nat} {S : List Nat} {m : DM} {K : Nat} (h : RefIn w r S m K) (hm : m.ok) (hK : K ≤ 1073741824) (torn cut : Int) (pa : Option Addr) (pc : Nat) (kept : List Int) (hpa : IntsIn w pa kept) (hpl : kept.length ≤ 1073741824) :
    Calls Try.prog 34 #[.pointer (some ⟨r, 0, none⟩), .int .i64 torn, .int .i64 cut, .slice pa kept.length pc] w (MadeRef w (m.crash torn cut kept)) := by
  have H := Lib.hid h
  obtain ⟨la, lc, aa, ac, fa, fc, log, hmem, hlog⟩ := h
  have c0 := hmem.cells.c0
  have hpos := hm.pos
  have hfew := hm.few
  obtain ⟨gl, rfl⟩ : ∃ gl, la = some ⟨gl, 0, none⟩ := by obtain ⟨gl, e, _⟩ := hmem.lasts.at hpos; exact ⟨gl, e⟩
  have hz : (w.alloc (.cells #[] 9)).heap[w.heap.size]? = some (.cells #[] 9 (0, 0)) := heap_alloc_last w _
  have hR0 : Row (w.alloc (.cells #[] 9)) 9 (some ⟨w.heap.size, 0, none⟩) 0 0 [] := ⟨rfl, .inr ⟨_, _, _, rfl, Nat.zero_le _, hz, Nat.le_refl _, Nat.zero_le _, rfl, rfl⟩⟩
  have oA : Only [] w (w.alloc (.cells #[] 9)) := (Only.refl _ _).alloc _
  have c0a := (hmem.cells.keep oA (by simp)).c0
  have hnews : ∀ j u, (m.lasts.map strV)[j]? = some u → (w.alloc (.cells #[] 9)).cell? ((⟨gl, 0, none⟩ : Addr).add j) = some u := fun j u hu => by
    have hj : j < m.lasts.length := by
      have := (List.getElem?_eq_some_iff.1 hu).1
      simpa using this
    obtain ⟨g', e, h2, _⟩ := (hmem.lasts.keep oA (by simp)).at hj
    simp only [Option.some.injEq, Addr.mk.injEq] at e
    rw [Addr.add_mid, Nat.zero_add, e.1, h2, ← hu]
    exact (List.getElem?_eq_getElem _).symm
  have HN := Lib.hid (And.intro hR0 hnews)
  have HM := Lib.hid hmem
  have hl1 : (m.lasts.map strV).length = m.lasts.length := by simp
  have hl2 : m.lasts.length ≤ 1099511627776 := by omega
  clear hR0 hnews hz hmem
  go_enter Try.func34, Try.ntmps34
  go_upto_if 24 with (refine wpList_append_row elemStr rfl (.tmp 15) (.tmp 19) rfl HN.out.1 rfl ⟨gl, 0, none⟩ m.lasts.length lc (m.lasts.map strV) hl1 rfl HN.out.2 (strs_one _) hpos (by decide) hl2 ?_; intro g2 cap2 w2 hR2 o2 n2)
  have s2 := o2.size
  have s0 : (w.alloc (.cells #[] 9)).heap.size = w.heap.size + 1 := by simp
  have lt2 := hR2.lt g2 (by simp [blk])
  have gw : w.heap.size ≤ g2 := by
    rcases n2 with h1 | h1
    · simp [blk] at h1; omega
    · omega
  have ow2 : Only [] w w2 := oA.trans_new o2 (by intro x hx; simp [blk] at hx; omega)
  have hcR : RCells (w2.alloc (.cells #[.slice (some ⟨g2, 0, none⟩) m.lasts.length cap2, .slice none 0 0, .slice none 0 0, .int .i64 (-1), .bool false] 43)) w2.heap.size (.slice (some ⟨g2, 0, none⟩) m.lasts.length cap2) (.slice none 0 0) (.slice none 0 0) (-1) false := heap_alloc_last w2 _
  have oB : Only [] w2 (w2.alloc (.cells #[.slice (some ⟨g2, 0, none⟩) m.lasts.length cap2, .slice none 0 0, .slice none 0 0, .int .i64 (-1), .bool false] 43)) := (Only.refl _ _).alloc _
  have ow3 := ow2.trans oB
  rw [Nat.zero_add, List.nil_append] at hR2
  have hR3 := hR2.keep oB (by simp)
  have HR : Hid (w2.heap.size ≠ g2 ∧ w.heap.size ≤ w2.heap.size) := Lib.hid ⟨by omega, by omega⟩
  generalize hw3 : w2.alloc (.cells #[.slice (some ⟨g2, 0, none⟩) m.lasts.length cap2, .slice none 0 0, .slice none 0 0, .int .i64 (-1), .bool false] 43) = w3 at *
  generalize w2.heap.size = R at *
  clear hw3 oB ow2 hR2 lt2 s0 s2 n2 o2 c0a HN oA hl1 hl2
  go_cut [2] (fun s2 wc => wc = w3 ∧ s2 = .int .i64 (if cut < 0 then 0 else cut))
  case first =>
    by_cases hc : cut < 0
    · go_wp2
      go_meet
      case rel => exact ⟨rfl, by rw [if_pos hc]⟩
    · go_wp2
      go_meet
      case rel => exact ⟨rfl, by rw [if_neg (by omega)]⟩
  case rest =>
    obtain ⟨rfl, rfl⟩ := hcut
    generalize hcc : (if cut < 0 then 0 else cut) = c1
    have Hcc := Lib.hid hcc
    clear hcc
    go_upto_if 26 with fail
    go_cut [2] (fun s2 wx => wx = wc ∧ s2 = .int .i64 (clampN cut))
    case first =>
      by_cases hc : 256 < c1
      · go_wp2
        go_meet
        case rel => exact ⟨rfl, by rw [clamp_hi Hcc.out hc]⟩
      · go_wp2
        go_meet
        case rel => exact ⟨rfl, by rw [← clamp_lo Hcc.out (by omega)]⟩
    case rest =>
      obtain ⟨rfl, rfl⟩ := hcut
      rename World => w3
      have hcl := clampN_le cut
      generalize hC : clampN cut = c at hcl ⊢
      have HC := Lib.hid hC
      clear hC Hcc
      have h3 := H.out.keep ow3 (by simp)
      have hnow := now_ref h3 (by omega) torn
      unfold strV at hnow
      have hcR0 := hcR.c0
      have c03 := (HM.out.cells.keep ow3 (by simp)).c0
      have hlL := HM.out.lasts.keep ow3 (by simp)
      go_upto_if 33 with (go_at_call 38; refine hnow.mono ?_; rintro e w' ⟨rfl, rfl⟩)
      go_cut [10, 11] (fun _ _ wx => Row wx 9 (some ⟨g2, 0, none⟩) m.lasts.length cap2 ((layOne m.fresh m.lasts torn c).map strV) ∧ Only [g2] w3 wx)
      case first =>
        cases hf : m.fresh torn with
        | none =>
          have hL := Lib.hid (layOne_none (l := m.lasts) hf c)
          clear hf
          go_wp2
          go_meet
          case rel => exact ⟨by rw [hL.out]; exact hR3, Only.refl _ _⟩
        | some s =>
          have hL := layOne_some (l := m.lasts) hf c
          obtain ⟨k0, k1, k2⟩ := hm.keys torn s hf
          obtain ⟨t, rfl⟩ := Int.eq_ofNat_of_zero_le k0
          rw [Int.toNat_natCast] at hL
          have htl : t < m.lasts.length := by omega
          obtain ⟨go, eo, i1, i2, i2f⟩ := run_index_row Try.underlying41 sizeStr hR3 htl
          obtain ⟨gl', el, i3, i4, _⟩ := run_index_row Try.underlying41 sizeStr hlL htl
          simp only [Option.some.injEq, Addr.mk.injEq] at eo el
          obtain ⟨rfl, -, -⟩ := eo
          obtain ⟨rfl, -, -⟩ := el
          rw [List.getElem_map] at i2 i4
          have e1 : m.lasts.getD t [] = m.lasts[t] := by rw [List.getD_eq_getElem?_getD, List.getElem?_eq_getElem htl]; rfl
          have hol := hm.sec _ (List.getElem_mem htl)
          rw [e1] at hL
          generalize m.lasts[t] = old at i2 i4 hol hL
          replace i2 : w3.cell? ⟨g2, t, none⟩ = some (.string (strOf old)) := i2
          replace i4 : w3.cell? ⟨gl, t, none⟩ = some (.string (strOf old)) := i4
          have hs1 := strOf_size s
          have hs2 := strOf_size old
          rw [k2] at hs1
          rw [hol] at hs2
          have hcI : (c : Int) ≤ 256 := by omega
          have htI : (t : Int) < (m.lasts.length : Int) := by omega
          have hpart := str_parts s old c 256 hol
          have Hpart := Lib.hid hpart
          have Htl := Lib.hid htl
          have HL := Lib.hid hL
          clear hpart e1 hol k2 k0 k1 hL hf
          go_wp2
          refine region_tail 19 (by kernel_rfl) (by kernel_rfl) ?_
          simp only [List.take_succ_cons, List.take_zero, List.drop_succ_cons, List.drop_zero]
          repeat still_step
          try refine wpStill_nil ?_
          go_wp2
          go_meet
          case rel =>
            have o1 : Only [g2] w3 (w3.setCell ⟨g2, t, none⟩ (.string ((strOf s).extract 0 c ++ (strOf old).extract c 256))).drew := ((Only.refl _ _).setCell (by simp) _).drew
            refine ⟨?_, o1⟩
            have h1 := (hR3.set t (strV (s.take c ++ old.drop c)) Htl.out).keep (S := []) ((Only.refl _ _).drew) (by simp)
            rw [HL.out, List.map_set]
            rw [Hpart.out]
            exact h1
      case rest =>
        obtain ⟨hr0, ho0⟩ := hcut
        generalize hl0 : layOne m.fresh m.lasts torn c = l0 at hr0
        have hl0len : l0.length = m.lasts.length := by rw [← hl0]; exact layOne_length _ _ _ _
        have hl0s : ∀ x ∈ l0, x.length = 256 := by rw [← hl0]; exact layOne_sec hm hm.sec rfl _ _ hcl
        have L0 := Lib.hid (And.intro hl0 (And.intro hl0len hl0s))
        clear hl0 hl0len hl0s hnow hcR0 c03 hlL
        go_wp2
        go_loopw [12] (fun i wr => ∃ j : Nat, j ≤ kept.length ∧ i = .int .i64 j ∧ Row wr 9 (some ⟨g2, 0, none⟩) m.lasts.length cap2 ((laidAll m.fresh l0 (kept.take j)).map strV) ∧ Only [g2] w3 wr) (fun i _ => kept.length - (intOf i).toNat)
        case atStart => exact ⟨0, Nat.zero_le _, rfl, hr0, ho0⟩
        case round =>
          obtain ⟨j, hj, rfl, hrow, ho⟩ := hrel
          by_cases hlt : j < kept.length
          · have oww : Only [] w wr := ow3.trans_new ho (by intro x hx; simp at hx; omega)
            obtain ⟨a, i1, i2⟩ := run_index_ints (cap := pc) (hpa.keep oww (by simp)) hlt
            have hnow := now_ref (H.out.keep oww (by simp)) (by omega) kept[j]
            unfold strV at hnow
            have hsnoc := laidAll_snoc m.fresh l0 kept j hlt
            have hpre := laidAll_sec hm (kept.take j) l0 L0.out.2.1 L0.out.2.2
            have c0r := (hcR.keep ho (by have := HR.out.1; simpa using this)).c0
            generalize kept[j] = k at i2 hnow hsnoc
            generalize laidAll m.fresh l0 (kept.take j) = lj at hrow hsnoc hpre
            have hltI : (j : Int) < (kept.length : Int) := by omega
            have Hlt := Lib.hid hlt
            clear hlt
            cases hf : m.fresh k with
            | none =>
              rw [hf] at hnow
              rw [layOne_none hf] at hsnoc
              have HS := Lib.hid hsnoc
              have HO := Lib.hid ho
              have HW := Lib.hid hrow
              clear hsnoc hf hpre oww ho hrow
              go_wp2_with (go_at_call 38; refine hnow.mono ?_; rintro e w' ⟨rfl, rfl⟩)
              go_roundw
              case rel => exact ⟨j + 1, by have := Hlt.out; omega, by go_num, by rw [HS.out]; exact HW.out, HO.out⟩
              case measure => simp [intOf]; omega
            | some s =>
              rw [hf] at hnow
              rw [layOne_whole hm hf hpre.2 hpre.1] at hsnoc
              obtain ⟨k0, k1, k2⟩ := hm.keys k s hf
              obtain ⟨t, rfl⟩ := Int.eq_ofNat_of_zero_le k0
              rw [Int.toNat_natCast] at hsnoc
              have htl : t < m.lasts.length := by omega
              obtain ⟨go, eo, i3, i4, i4f⟩ := run_index_row Try.underlying41 sizeStr hrow htl
              simp only [Option.some.injEq, Addr.mk.injEq] at eo
              obtain ⟨rfl, -, -⟩ := eo
              rw [List.getElem_map] at i4
              generalize lj[t]'_ = old at i4
              replace i4 : wr.cell? ⟨g2, t, none⟩ = some (.string (strOf old)) := i4
              have htI : (t : Int) < (m.lasts.length : Int) := by omega
              have HS := Lib.hid hsnoc
              have HO := Lib.hid ho
              have HW := Lib.hid hrow
              have Htl := Lib.hid htl
              clear hsnoc hf hpre oww ho k0 k1 k2
              go_wp2_with (go_at_call 38; refine hnow.mono ?_; rintro e w' ⟨rfl, rfl⟩)
              refine region_tail 10 (by kernel_rfl) (by kernel_rfl) ?_
              simp only [List.take_succ_cons, List.take_zero, List.drop_succ_cons, List.drop_zero]
              repeat still_step
              try refine wpStill_nil ?_
              go_wp2
              go_roundw
              case rel =>
                have o1 : Only [g2] wr (wr.setCell ⟨g2, t, none⟩ (.string (strOf s))).drew := ((Only.refl _ _).setCell (by simp) _).drew
                refine ⟨j + 1, by have := Hlt.out; omega, by go_num, ?_, HO.out.trans o1⟩
                rw [HS.out, List.map_set]
                exact (HW.out.set t (strV s) Htl.out).keep (S := []) ((Only.refl _ _).drew) (by simp)
              case measure => simp [intOf]; omega
          · go_wp2
            go_ret
            have hj' : j = kept.length := by omega
            rw [hj', List.take_length] at hrow
            obtain ⟨e1, e2, e3⟩ := L0.out
            have hres : (m.crash torn cut kept).lasts = laidAll m.fresh l0 kept := by
              show laidAll m.fresh (layOne m.fresh m.lasts torn (clampN cut)) kept = _
              rw [HC.out, e1]
            have hlen := (laidAll_sec hm kept l0 e2 e3).1
            have c9 := hcR.keep ho (by have := HR.out.1; simpa using this)
            have ow9 : Only [] w wr := ow3.trans_new ho (by intro x hx; simp at hx; omega)
            refine ⟨R, R :: (blk (some ⟨g2, 0, none⟩) ++ (blk none ++ blk none)), rfl, ⟨some ⟨g2, 0, none⟩, cap2, none, 0, none, 0, [], ⟨by rw [hres, hlen]; exact c9, by rw [hres, hlen]; exact hrow, Row.nil _ _, Row.nil _ _, rfl, ?_, fun k => rfl, by simp⟩, Nat.le_refl _⟩, ow9.below (Nat.le_refl _) (by simp), ?_⟩
            · have := HR.out.1
              simp [blk, this]
            · intro x hx
              have := HR.out.2
              simp [blk] at hx
              rcases hx with rfl | rfl
              · exact this
              · exact gw

end Go.Proofs.Ytoiaikgpaobefaa
