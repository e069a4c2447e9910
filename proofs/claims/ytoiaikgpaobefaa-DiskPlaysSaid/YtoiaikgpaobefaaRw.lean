/- The document's Write. -/
import Derived.Test.YtoiaikgpaobefaaRa
import Derived.Test.YtoiaikgpaobefaaAp
namespace Go.Proofs.Ytoiaikgpaobefaa
open Go.RowKit Go.Maps

/-- Bytes as a sector, if they are one. -/
def secOf (bs : Sec) : Sec := if bs.length = 256 then bs else zeroSec

theorem writeN_bytes {m : DM} {k : Int} {l : Nat} (h : l ≠ 256) : m.writeN k l = 2 ∧ ∀ s, m.write k l s = m := by
  have e : refN 0 m.lasts.length m.off k l = 2 := by unfold refN; rw [if_pos ⟨rfl, by omega⟩]
  exact ⟨by unfold DM.writeN; rw [e, if_neg (by decide)], fun s => by unfold DM.write; rw [e, if_neg (by decide)]⟩
theorem writeN_range {m : DM} {k : Int} (h : k < 0 ∨ (m.lasts.length : Int) ≤ k) : m.writeN k 256 = 3 ∧ ∀ s, m.write k 256 s = m := by
  have e : refN 0 m.lasts.length m.off k 256 = 3 := by unfold refN; rw [if_neg (by omega), if_pos ⟨by decide, h⟩]
  exact ⟨by unfold DM.writeN; rw [e, if_neg (by decide)], fun s => by unfold DM.write; rw [e, if_neg (by decide)]⟩
theorem writeN_no {m : DM} {k : Int} (h : 0 ≤ k ∧ k < m.lasts.length) (hB : m.actB = false) : m.writeN k 256 = 9 ∧ ∀ s, m.write k 256 s = m.actd := by
  have e : refN 0 m.lasts.length m.off k 256 = if m.off then 9 else 0 := by unfold refN; rw [if_neg (by omega), if_neg (by omega)]
  unfold DM.writeN DM.write DM.actd
  rw [e]
  cases hoff : m.off
  · have hl : m.left = 0 := by
      unfold DM.actB at hB; rw [hoff] at hB; simpa using hB
    simp [DM.actN, hl]
  · simp
theorem writeN_yes {m : DM} {k : Int} (h : 0 ≤ k ∧ k < m.lasts.length) (hB : m.actB = true) : m.writeN k 256 = 0 ∧ (∀ s, m.write k 256 s = { m.actd with fresh := put m.fresh k s }) ∧ m.actd = m.acted := by
  have e : refN 0 m.lasts.length m.off k 256 = if m.off then 9 else 0 := by unfold refN; rw [if_neg (by omega), if_neg (by omega)]
  unfold DM.writeN DM.write DM.actd
  rw [e]
  unfold DM.actB at hB
  simp only [Bool.and_eq_true, Bool.not_eq_true', decide_eq_true_eq] at hB
  rw [hB.1]
  simp [DM.actN, hB.2]

theorem RefMem.apart {w : World} {r : Nat} {S : List Nat} {m : DM} {la : Option Addr} {lc : Nat} {aa : Option Addr} {ac : Nat} {fa : Option Addr} {fc : Nat} {log : List (Int × Sec)}
    (h : RefMem w r S m la lc aa ac fa fc log) : (r ∉ blk la ∧ r ∉ blk aa ∧ r ∉ blk fa) ∧ (∀ x ∈ blk la, x ∉ blk aa ∧ x ∉ blk fa) ∧ ∀ x ∈ blk aa, x ∉ blk fa := by
  have hnd := h.nodup
  rw [h.own] at hnd
  simp only [List.nodup_cons, List.nodup_append, List.mem_append, not_or] at hnd
  obtain ⟨⟨a1, a2, a3⟩, a4, ⟨a5, a6, a7⟩, a8⟩ := hnd
  exact ⟨⟨a1, a2, a3⟩, fun x hx => ⟨fun hh => a8 x hx x (.inl hh) rfl, fun hh => a8 x hx x (.inr hh) rfl⟩, fun x hx hh => a7 x hx x hh rfl⟩

/-- A log with one write more. -/
theorem RefMem.wrote {w w5 : World} {r : Nat} {S : List Nat} {m : DM} {la : Option Addr} {lc : Nat} {aa : Option Addr} {ac : Nat} {fa : Option Addr} {fc : Nat} {log : List (Int × Sec)}
    (h : RefMem w r S m la lc aa ac fa fc log) {g2 g4 c2 c4 : Nat} {k : Int} {bs : Sec} (hbs : bs.length = 256) (hk : 0 ≤ k ∧ k < m.lasts.length)
    (hc : RCells w5 r (.slice la m.lasts.length lc) (.slice (some ⟨g2, 0, none⟩) (log.length + 1) c2) (.slice (some ⟨g4, 0, none⟩) (log.length + 1) c4) (normLeft m.left) m.off)
    (hL : Row w5 9 la m.lasts.length lc (m.lasts.map strV))
    (hA : Row w5 3 (some ⟨g2, 0, none⟩) (log.length + 1) c2 ((log.map fun p => .int .i64 p.1) ++ [.int .i64 k]))
    (hF : Row w5 9 (some ⟨g4, 0, none⟩) (log.length + 1) c4 ((log.map fun p => strV p.2) ++ [strV bs]))
    (n2 : g2 ∈ blk aa ∨ w.heap.size ≤ g2) (n4 : g4 ∈ blk fa ∨ w.heap.size ≤ g4) (n24 : g2 ≠ g4) :
    RefMem w5 r (r :: (blk la ++ ([g2] ++ [g4]))) { m with fresh := put m.fresh k bs } la lc (some ⟨g2, 0, none⟩) c2 (some ⟨g4, 0, none⟩) c4 (log ++ [(k, bs)]) := by
  have hlen : (log ++ [(k, bs)]).length = log.length + 1 := by simp
  refine ⟨by rw [hlen]; exact hc, hL, by rw [hlen]; simpa using hA, by rw [hlen]; simpa using hF, rfl, ?_, fun i => ?_, fun p hp => ?_⟩
  · have hnd := h.nodup
    have hlt := h.lt
    rw [h.own] at hnd hlt
    simp only [List.nodup_cons, List.nodup_append, List.mem_append, List.mem_cons, List.not_mem_nil, or_false, not_or, List.nodup_nil, List.cons_append, List.nil_append] at hnd hlt ⊢
    have e2 : ∀ x, x < w.heap.size → x ∉ blk aa → x ≠ g2 := fun x hx hn e => by subst e; rcases n2 with h1 | h1; exact hn h1; omega
    have e4 : ∀ x, x < w.heap.size → x ∉ blk fa → x ≠ g4 := fun x hx hn e => by subst e; rcases n4 with h1 | h1; exact hn h1; omega
    obtain ⟨⟨a1, a2, a3⟩, a4, ⟨a5, a6, a7⟩, a8⟩ := hnd
    refine ⟨⟨a1, e2 r (hlt r (.inl rfl)) a2, e4 r (hlt r (.inl rfl)) a3⟩, a4, ?_, ?_⟩
    · first | exact n24 | simpa using n24
    rintro x hx y (rfl | rfl)
    · exact e2 x (hlt x (.inr (.inl hx))) (fun hh => a8 x hx x (.inl hh) rfl)
    · exact e4 x (hlt x (.inr (.inl hx))) (fun hh => a8 x hx x (.inr hh) rfl)
  · rw [logF_snoc]
    show put m.fresh k bs i = put (logF log) k bs i
    unfold put
    split
    · rfl
    · exact h.fresh i
  · rcases List.mem_append.1 hp with hp | hp
    · exact h.keys p hp
    · simp at hp; subst hp; exact ⟨hk.1, hk.2, hbs⟩

set_option maxRecDepth 100000 in
set_option maxHeartbeats 1000000 in
theorem write_ref {w : World} {r : Nat} {S : List Nat} {m : DM} {K : Nat} (h : RefIn w r S m K) (hm : m.ok) (hK : K ≤ 1073741824) (k : Int) (bs : Sec) (_hbl : bs.length ≤ 1073741824) :
    Calls Try.prog 31 #[.pointer (some ⟨r, 0, none⟩), .int .i64 k, strV bs] w (Refd w r S (m.write k bs.length (secOf bs)) (K + 1) (.int .i64 (m.writeN k bs.length))) := by
  have hsz := strOf_size bs
  have hself := Lib.hid (And.intro h.lt h.self)
  by_cases hb : bs.length = 256
  · rw [hb] at hsz ⊢
    have hs : secOf bs = bs := by unfold secOf; rw [if_pos hb]
    rw [hs]
    by_cases hr : k < 0 ∨ (m.lasts.length : Int) ≤ k
    · obtain ⟨e1, e2⟩ := writeN_range hr
      have e2 := e2 bs
      simp only [Int.cast_ofNat_Int] at *
      rw [e1, e2]
      have H := Lib.hid h
      obtain ⟨la, lc, aa, ac, fa, fc, log, hmem, hlog⟩ := h
      have c0 := hmem.cells.c0
      clear hmem e1 e2 hb
      unfold strV
      rcases hr with hr | hr
      · go_enter Try.func31, Try.ntmps31
        go_wp2
        go_ret
        exact ⟨rfl, S, H.out.mono (Nat.le_succ _), Only.refl _ _, fun x hx => .inl hx⟩
      · by_cases hr0 : k < 0
        · go_enter Try.func31, Try.ntmps31
          go_wp2
          go_ret
          exact ⟨rfl, S, H.out.mono (Nat.le_succ _), Only.refl _ _, fun x hx => .inl hx⟩
        · go_enter Try.func31, Try.ntmps31
          go_wp2
          go_ret
          exact ⟨rfl, S, H.out.mono (Nat.le_succ _), Only.refl _ _, fun x hx => .inl hx⟩
    · have hk : 0 ≤ k ∧ k < m.lasts.length := by omega
      have hact := act_ref h hm.left
      obtain ⟨la, lc, aa, ac, fa, fc, log, hmem, hlog⟩ := h
      have c0 := hmem.cells.c0
      clear hmem hr
      have hk1 := hk.1
      have hk2 := hk.2
      have HK := Lib.hid hk
      clear hk
      unfold strV
      cases hB : m.actB
      · obtain ⟨e1, e2⟩ := writeN_no HK.out hB
        have e2 := e2 bs
        simp only [Int.cast_ofNat_Int] at *
        rw [e1, e2]
        rw [hB] at hact
        have Hact := Lib.hid hact
        clear e1 e2 hB hact hb
        go_enter Try.func31, Try.ntmps31
        go_wp2_with (go_at_call 44; refine Hact.out.mono ?_; rintro e w1 ⟨rfl, h1, o1⟩)
        go_ret
        exact ⟨rfl, S, h1.mono (Nat.le_succ _), o1.mono (by have := hself.out.2; simp [this]), fun x hx => .inl hx⟩
      · obtain ⟨e1, e2, e3⟩ := writeN_yes HK.out hB
        have e2 := e2 bs
        simp only [Int.cast_ofNat_Int] at *
        rw [e1, e2]
        rw [hB] at hact
        have Hact := Lib.hid hact
        have HB := Lib.hid hb
        have hlen : m.actd.lasts = m.lasts := by rw [e3, DM.acted_lasts]
        have Hlen := Lib.hid hlen
        have Hfr := Lib.hid (show m.actd.fresh = m.fresh by rw [e3, DM.acted_fresh])
        clear e1 e2 hB hact hb hlen e3
        go_enter Try.func31, Try.ntmps31
        go_wp2_with fail
        refine Hact.out.mono ?_
        rintro e w1 ⟨rfl, h1, o1⟩
        obtain ⟨la, lc, aa, ac, fa, fc, log, mem1, hlog1⟩ := h1
        have hlogI : (log.length : Int) ≤ 1073741824 := by omega
        have M1 := Lib.hid mem1
        have c1 := mem1.cells.c1
        have oA : Only [] w1 (w1.alloc (.cells #[.int .i64 k] 3)) := (Only.refl _ _).alloc _
        have hA1 := mem1.ats.keep oA (by simp)
        clear mem1 Hact c0
        have hln : log.length ≤ 1099511627776 := by omega
        obtain ⟨⟨rl, ra, rf⟩, aL, aA⟩ := M1.out.apart
        have hlt := M1.out.lt
        rw [M1.out.own] at hlt
        have AP := Lib.hid (And.intro rl (And.intro ra (And.intro rf (And.intro aL (And.intro aA hlt)))))
        clear rl ra rf aL aA hlt
        have hF1 := Lib.hid M1.out.news
        go_wp2_with (first
          | (refine wpList_append_one elemInt rfl (.tmp 28) (.tmp 30) rfl hA1 rfl (.int .i64 k) rfl w1.heap.size rfl (heap_alloc_last w1 _) hln ?_; intro g2 cap2 w2 hR2 o2 n2; have oo2 : Only (blk aa) w1 w2 := (oA.mono (by simp)).trans o2; have cc := M1.out.cells.keep oo2 AP.out.2.1; have f1 := cc.fr 1; have d1 := cc.c1; have cs := cc.set1 (.slice (some ⟨g2, 0, none⟩) (log.length + 1) cap2); have e2 := cs.c2; have hF2 := (hF1.out.keep oo2 (fun x hx hh => AP.out.2.2.2.2.1 x hh hx)).keep (((Only.refl [r] w2).setCell (p := ⟨r, 1, none⟩) (by simp) (.slice (some ⟨g2, 0, none⟩) (log.length + 1) cap2)).alloc (.cells #[.string (strOf bs)] 9)) (fun x hx hh => AP.out.2.2.1 (by simp at hh; rw [← hh]; exact hx)); have hg4 : ((w2.setCell ⟨r, 1, none⟩ (.slice (some ⟨g2, 0, none⟩) (log.length + 1) cap2)).alloc (.cells #[.string (strOf bs)] 9)).heap[w2.heap.size]? = some (.cells #[.string (strOf bs)] 9 (0, 0)) := by simpa using heap_alloc_last (w2.setCell ⟨r, 1, none⟩ (.slice (some ⟨g2, 0, none⟩) (log.length + 1) cap2)) (.cells #[.string (strOf bs)] 9))
          | (refine wpList_append_one elemStr rfl (.tmp 38) (.tmp 40) rfl hF2 rfl (.string (strOf bs)) rfl w2.heap.size rfl hg4 hln ?_; intro g4 cap4 w4 hR4 o4 n4; have oo4 : Only (r :: blk fa) w2 w4 := ((((Only.refl (r :: blk fa) w2).setCell (p := ⟨r, 1, none⟩) (by simp) (.slice (some ⟨g2, 0, none⟩) (log.length + 1) cap2)).alloc (.cells #[.string (strOf bs)] 9)).trans (o4.mono (fun x hx _ => List.mem_cons_of_mem _ hx))); have c4 := (cs.keep ((Only.refl (blk fa) _).alloc (.cells #[.string (strOf bs)] 9)) AP.out.2.2.1).keep o4 AP.out.2.2.1; have f4 := c4.fr 2; have d4 := c4.c2))
        go_ret
        have c5 := c4.set2 (.slice (some ⟨g4, 0, none⟩) (log.length + 1) cap4)
        have o5 : Only [r] w4 (w4.setCell ⟨r, 2, none⟩ (.slice (some ⟨g4, 0, none⟩) (log.length + 1) cap4)) := (Only.refl _ _).setCell (by simp) _
        obtain ⟨rl, ra, rf, aL, aA, hlt⟩ := AP.out
        have n2' : g2 ∈ blk aa ∨ w1.heap.size ≤ g2 := by
          rcases n2 with h1 | h1
          · exact .inl h1
          · right; have : (w1.alloc (.cells #[.int .i64 k] 3)).heap.size = w1.heap.size + 1 := by simp
            omega
        have s2 := oo2.size
        have n4' : g4 ∈ blk fa ∨ w2.heap.size ≤ g4 := by
          rcases n4 with h1 | h1
          · exact .inl h1
          · right
            simp only [World.size_alloc, World.size_setCell] at h1
            omega
        have g2r : g2 ≠ r := by
          rintro rfl
          rcases n2' with h1 | h1
          · exact ra h1
          · have := hlt g2 (by simp); omega
        have g2f : g2 ∉ blk fa := by
          rcases n2' with h1 | h1
          · exact aA g2 h1
          · intro hh; have := hlt g2 (by simp [hh]); omega
        have g4r : g4 ≠ r := by
          rintro rfl
          rcases n4' with h1 | h1
          · exact rf h1
          · have := hlt g4 (by simp); omega
        have lt2 := hR2.lt g2 (by simp [blk])
        have g24 : g2 ≠ g4 := by
          rintro rfl
          rcases n4' with h1 | h1
          · exact g2f h1
          · omega
        have hA5 := (hR2.keep oo4 (fun x hx => by simp [blk] at hx; subst hx; simp [g2r, g2f])).keep o5 (fun x hx => by simp [blk] at hx; subst hx; simpa using g2r)
        have hF5 := hR4.keep o5 (fun x hx => by simp [blk] at hx; subst hx; simpa using g4r)
        have hL5 := ((M1.out.lasts.keep oo2 (fun x hx => (aL x hx).1)).keep oo4 (fun x hx hh => by
          rcases List.mem_cons.1 hh with e | e
          · subst e; exact rl hx
          · exact (aL x hx).2 e)).keep o5 (fun x hx hh => by simp at hh; subst hh; exact rl hx)
        have R5 := M1.out.wrote HB.out (by rw [Hlen.out]; exact HK.out) c5 hL5 hA5 hF5 n2' (n4'.imp id (fun h => by omega)) g24
        rw [Hfr.out] at R5
        have own := M1.out.own
        have oAll : Only S w (w4.setCell ⟨r, 2, none⟩ (.slice (some ⟨g4, 0, none⟩) (log.length + 1) cap4)) := by
          have hS : ∀ x, x = r ∨ x ∈ blk aa ∨ x ∈ blk fa → x ∈ S := fun x hx => by rw [own]; simp; rcases hx with h | h | h <;> simp [h]
          exact (o1.mono (fun x hx _ => hS x (by simp at hx; simp [hx]))).trans ((oo2.mono (fun x hx _ => hS x (by simp [hx]))).trans ((oo4.mono (fun x hx _ => hS x (by simp at hx; rcases hx with h | h <;> simp [h]))).trans (o5.mono (fun x hx _ => hS x (by simp at hx; simp [hx])))))
        refine ⟨rfl, _, ⟨la, lc, _, cap2, _, cap4, _, R5, by simp; omega⟩, oAll, fun x hx => ?_⟩
        have s1 := o1.size
        rw [own]
        simp only [List.mem_cons, List.mem_append, List.not_mem_nil, or_false] at hx ⊢
        rcases hx with rfl | hx | rfl | rfl
        · simp
        · simp [hx]
        · rcases n2' with h1 | h1
          · simp [h1]
          · right; omega
        · rcases n4' with h1 | h1
          · simp [h1]
          · right; omega
  · obtain ⟨e1, e2⟩ := writeN_bytes (m := m) (k := k) hb
    rw [e1, e2]
    have hne : ((bs.length : Int) != 256) = true := by simp; omega
    have H := Lib.hid h
    clear h e1 e2 hb
    unfold strV
    go_enter Try.func31, Try.ntmps31
    go_wp2
    go_ret
    exact ⟨rfl, S, H.out.mono (Nat.le_succ _), Only.refl _ _, fun x hx => .inl hx⟩

end Go.Proofs.Ytoiaikgpaobefaa
