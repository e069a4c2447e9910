/- DiskPlays: the walk. -/
import Derived.Test.YtoiaikgpaobefaaTp
import Derived.Test.YtoiaikgpaobefaaRd0
namespace Go.Proofs.Ytoiaikgpaobefaa
open Go.RowKit Go.Maps
set_option linter.unusedVariables false
set_option linter.unusedSimpArgs false

theorem do_any {w0 w : World} {X b L M r : Nat} {S : List Nat} {j K : Nat} {m : DM} (h : Two w0 w X b L M r S j K m) (hj : j < maxLen) (hK : K ≤ 1000) (a : AM) (ha : a.In w) (hkl : a.kept.length ≤ 400) :
    Calls Try.prog 14 #[.pointer (some ⟨X, 0, none⟩), .agg a.cells.toArray] w (Done w0 X (j + 1) (K + 1) (m.did a)) := by
  obtain ⟨kind, at_, an, u, ka, kc, kept⟩ := a
  by_cases h0 : kind = 0
  · subst h0; exact do_0 h hj hK at_ an u ka kc kept
  by_cases h1 : kind = 1
  · subst h1; exact do_1 h hj hK at_ an u ka kc kept
  by_cases h2 : kind = 2
  · subst h2; exact do_2 h hK at_ an u ka kc kept
  by_cases h3 : kind = 3
  · subst h3; exact do_3 h hj hK at_ an ha.fn u ka kc kept
  by_cases h4 : kind = 4
  · subst h4; exact do_4 h hj hK at_ an u ka kc kept ha.fa ha.kin ha.kf hkl
  · exact do_else h hj hK kind ⟨h0, h1, h2, h3, h4⟩ at_ an u ka kc kept
theorem InStep.weaken {P : Program} {md : Region.Mode} {ops : Array Oper} {Q : Exit → Act → World → Prop} {D D' : Array Bool → World → Prop} (hD : ∀ l w, D' l w → D l w) : ∀ (n : Nat) (l : Array Bool) (a : Act) (w : World), InStep P md ops Q D' n l a w → InStep P md ops Q D n l a w
  | 0, _, _, _, h => h
  | n + 1, _, _, _, h => ⟨h.1, fun i hi => wpOp_mono (fun a' w' k => ⟨hD _ _ k.1, InStep.weaken hD n _ a' w' k.2⟩) (h.2 i hi)⟩
theorem below_drewN {B : Nat} {a w : World} (h : Below B a w) (n : Nat) : Below B a (w.drewN n) := ⟨h.os, h.tape, h.output, h.size, h.block⟩
theorem getD_up {l : Array Bool} {F i : Nat} (h : l.getD F true = true) : (l.setIfInBounds i true).getD F true = true := by
  by_cases e : i = F
  · subst e
    rcases Nat.lt_or_ge i l.size with hl | hl
    · simp [hl]
    · simp [Array.getElem?_eq_none hl]
  · rw [getD_set_ne true e]; exact h
theorem InStep.weakenFrom {P : Program} {md : Region.Mode} {ops : Array Oper} {Q : Exit → Act → World → Prop} {D D' : Array Bool → World → Prop} {F : Nat} (hD : ∀ l w, l.getD F true = true → D' l w → D l w) : ∀ (n : Nat) (l : Array Bool) (a : Act) (w : World), l.getD F true = true → InStep P md ops Q D' n l a w → InStep P md ops Q D n l a w
  | 0, _, _, _, _, h => h
  | n + 1, l, _, _, hl, h => ⟨h.1, fun i hi => wpOp_mono (fun a' w' k => ⟨hD _ _ (getD_up hl) k.1, InStep.weakenFrom hD n _ a' w' (getD_up hl) k.2⟩) (h.2 i hi)⟩
theorem cell4 {w : World} {r : Nat} {S : List Nat} {m : DM} {K : Nat} (h : RefIn w r S m K) : w.cell? ⟨r, 4, none⟩ = some (.bool m.off) := by
  obtain ⟨la, lc, aa, ac, fa, fc, log, hm, _⟩ := h
  exact hm.cells.c4

set_option maxRecDepth 100000 in
set_option maxHeartbeats 40000000 in
theorem diskPlays_calls (n : Int) {ka : Option Addr} {ms : List AM} (cap : Nat) (w : World) (h : ActsIn w ka ms) :
    Calls Try.prog 3 #[.int .i64 n, .slice ka ms.length cap] w fun e w' => e = .returned (.bool true) ∧ Below w.heap.size w w' := by
  have n0 := noN_0
  have n2 : noN 2 = 2 := rfl
  by_cases hn : n < 1 ∨ 8192 < n
  · have HN := Lib.hid hn
    clear hn
    go_enter Try.func3, Try.ntmps3
    go_wp2_with fail
    refine (new_refused n HN.out _).mono ?_; rintro e w' ⟨rfl, rfl⟩
    go_wp2_with fail
    refine (new_ref_refused n HN.out _).mono ?_; rintro e w' ⟨rfl, rfl⟩
    go_wp2_with fail
    refine (no_any _ _).mono ?_; rintro e w' ⟨rfl, rfl⟩
    go_wp2_with fail
    refine (alive_any _).mono ?_; rintro e w1 ⟨rfl, b1⟩
    go_wp2_with fail
    go_ret
    exact ⟨rfl, b1⟩
  · obtain ⟨N, rfl⟩ : ∃ N : Nat, n = (N : Int) := ⟨n.toNat, by omega⟩
    have HN : Hid (0 < N ∧ N ≤ 8192) := Lib.hid (by omega)
    clear hn
    go_enter Try.func3, Try.ntmps3
    go_wp2_with fail
    refine (new_any N HN.out.1 HN.out.2 _).mono ?_; rintro e w1 ⟨b, L, M, rfl, d1, b1, g1, g2, g3⟩
    go_wp2_with fail
    refine (new_ref N HN.out.1 HN.out.2 _).mono ?_; rintro e w2 ⟨r, S, rfl, r2, b2, n2'⟩
    go_wp2_with fail
    refine (no_any _ _).mono ?_; rintro e w' ⟨rfl, rfl⟩
    go_wp2_with fail
    refine (alive_any _).mono ?_; rintro e w3 ⟨rfl, b3⟩
    have h3 : ActsIn w3 ka ms := ((h.keep (Below.only (S := []) b1) (by simp)).keep (Below.only (S := []) b2) (by simp)).keep (Below.only (S := []) b3) (by simp)
    go_wp2_with fail
    refine (few_any cap h3).mono ?_
    rintro e w' ⟨rfl, rr, rfl, hr⟩
    have B3 : Below w.heap.size w w3 := (b1.trans (b2.mono b1.size)).trans (b3.mono (Nat.le_trans b1.size b2.size))
    cases rr
    · clear hr
      go_wp2_with fail
      go_ret
      exact ⟨rfl, B3⟩
    · have H80 := Lib.hid (hr rfl)
      clear hr
      have T0 : Two w (w3.alloc (.cells #[.pointer (some ⟨b, 0, none⟩), .pointer (some ⟨r, 0, none⟩)] 36)) w3.heap.size b L M r S 0 0 (DM.made N) := by
        have hb3 : Only [] w3 (w3.alloc (.cells #[.pointer (some ⟨b, 0, none⟩), .pointer (some ⟨r, 0, none⟩)] 36)) := (Only.refl _ _).alloc _
        have d3 := (d1.below b2).below b3
        have r3 := r2.keep (Below.only (S := []) b3) (by simp)
        have := d3.ltb; have := d3.ltL; have := d3.ltM; have l1 := d1.ltb; have l2 := d1.ltL; have l3 := d1.ltM
        have := b1.size; have := b2.size
        exact ⟨heap_alloc_last w3 _, d3.keep hb3 (by simp) (by simp) (by simp), r3.keep hb3 (by simp), fun y hy => by have := n2' y hy; have := r3.lt y hy; exact ⟨by omega, by omega, by omega, by omega⟩, ⟨by omega, by omega, by omega⟩,
          B3.trans (Below.mono ((Below.refl _ _).alloc (Nat.le_refl _) _) B3.size), ⟨by omega, g1, g2, g3, fun y hy => by have := n2' y hy; omega⟩⟩
      have HA := Lib.hid h
      clear d1 b1 g1 g2 g3 r2 b2 n2' b3 h3 B3 h
      go_wp2_with fail
      go_loopw [55] (fun i wr => ∃ (j b L M r : Nat) (S : List Nat) (m : DM), j ≤ ms.length ∧ i = .int .i64 j ∧ Two w wr w3.heap.size b L M r S j j m ∧ m.lasts.length = N) (fun i _ => ms.length - (intOf i).toNat)
      case atStart => exact ⟨0, b, L, M, r, S, DM.made N, Nat.zero_le _, rfl, T0, by simp [DM.made]⟩
      case round =>
        clear T0
        obtain ⟨j, b, L, M, r, S, m, hj, rfl, T, hlen⟩ := hrel
        by_cases hlt : j < ms.length
        · have ha := HA.out.keep (Below.only (S := []) T.bel) (by simp)
          obtain ⟨g, o, hi, hg, hrr⟩ := run_index_acts (cap := cap) ha hlt
          have hin := ha.each _ (List.getElem_mem hlt)
          have hkm := H80.out.2 _ (List.getElem_mem hlt)
          have h80 := H80.out.1
          generalize ms[j] = act at hrr hin hkm
          obtain ⟨q0, q1, q2, q3, q4⟩ := AM.cell hrr
          have hll : (j : Int) < (ms.length : Int) := by omega
          obtain ⟨kind, at_, an, u, ka2, kc2, kept⟩ := act
          dsimp only at q0 q1 q2 q3 q4 hkm
          have hjm : j < maxLen := Nat.lt_of_lt_of_le (by omega : j < 81) (by decide)
          have T1 := Lib.hid (T.below ((Below.refl _ wr).alloc (Nat.le_refl _) (.cells #[.int .i64 kind, .int .i64 at_, .int .i64 an, .int .u8 (u.toNat : Int), .slice ka2 kept.length kc2] 39)))
          have IN1 := Lib.hid (show AM.In (wr.alloc (.cells #[.int .i64 kind, .int .i64 at_, .int .i64 an, .int .u8 (u.toNat : Int), .slice ka2 kept.length kc2] 39)) ⟨kind, at_, an, u, ka2, kc2, kept⟩ from hin.keep ((Only.refl [] _).alloc _) (by simp))
          have HK := Lib.hid (And.intro hjm (And.intro hkm h80))
          have HLen := Lib.hid hlen
          have SE := Lib.hid (Seen.made T kind at_ an u ka2 kept.length kc2)
          have HJ := Lib.hid hlt
          clear T ha hin hkm hrr hlen hjm
          go_wp2_with fail
          generalize wr.alloc (.cells #[.int .i64 kind, .int .i64 at_, .int .i64 an, .int .u8 (u.toNat : Int), .slice ka2 kept.length kc2] 39) = Wa at *
          have hD1 : ∀ l, Ahead [2] (fun _ => True) (fun w' => w'.cell? ⟨wr.heap.size, 0, none⟩ = some (.int .i64 kind) ∧ w'.cell? ⟨wr.heap.size, 1, none⟩ = some (.int .i64 at_) ∧ w'.cell? ⟨wr.heap.size, 2, none⟩ = some (.int .i64 an) ∧ w'.cell? ⟨wr.heap.size, 3, none⟩ = some (.int .u8 (u.toNat : Int)) ∧ w'.cell? ⟨wr.heap.size, 4, none⟩ = some (.slice ka2 kept.length kc2)) l Wa.drew := fun l => by
            obtain ⟨_, _, p2, p3, p4, p5, p6⟩ := SE.out
            exact ⟨trivial, fun _ => ⟨p2, p3, p4, p5, p6⟩⟩
          have T1d := Lib.hid (show Two w Wa.drew w3.heap.size b L M r S j j m from T1.out.below (Below.refl _ _).drew)
          have IN1d := Lib.hid (show AM.In Wa.drew ⟨kind, at_, an, u, ka2, kc2, kept⟩ from IN1.out.keep ((Only.refl [] _).drew) (by simp))
          refine region_instep (D := Ahead [2] (fun _ => True) (fun w' => w'.cell? ⟨wr.heap.size, 0, none⟩ = some (.int .i64 kind) ∧ w'.cell? ⟨wr.heap.size, 1, none⟩ = some (.int .i64 at_) ∧ w'.cell? ⟨wr.heap.size, 2, none⟩ = some (.int .i64 an) ∧ w'.cell? ⟨wr.heap.size, 3, none⟩ = some (.int .u8 (u.toNat : Int)) ∧ w'.cell? ⟨wr.heap.size, 4, none⟩ = some (.slice ka2 kept.length kc2))) (by kernel_rfl) ?_
          refine ahead_take (i := 0) (oi := _) (v := ?_) rfl (by kernel_rfl) (by kernel_rfl) (by kernel_rfl) rfl (fun _ _ _ h => h) (hD1 _) (Or.inl ⟨by kernel_rfl, ?_⟩) ?_
          rotate_left
          · (intro w hSw; (try dsimp only at hSw); go_simp; with_reducible rfl)
          try simp only [Act.put, List.setIfInBounds_toArray, List.set_cons_zero, List.set_cons_succ]
          refine ahead_takeX (i := 1) (oi := _) (v := ?_) rfl (by kernel_rfl) (by kernel_rfl) (by kernel_rfl) rfl (by kernel_rfl) (by kernel_rfl) (fun _ _ _ h => h) (hD1 _) (Or.inl ⟨by kernel_rfl, ?_⟩) ?_
          rotate_left
          · (intro w hSw; (try dsimp only at hSw); go_simp; with_reducible rfl)
          try simp only [Act.put, List.setIfInBounds_toArray, List.set_cons_zero, List.set_cons_succ]
          refine instep_one (i := 2) (o := _) (by kernel_rfl) rfl (fun K1 hK1 => ?_)
          go_simp
          refine (do_any T1d.out HK.out.1 (by have := HJ.out; have := HK.out.2.2; omega) ⟨kind, at_, an, u, ka2, kc2, kept⟩ IN1d.out HK.out.2.1).mono ?_
          rintro e w5 ⟨rfl, b', L', M', r', S', T5⟩
          have hl5 := DM.did_len T1d.out.disk.ok ⟨kind, at_, an, u, ka2, kc2, kept⟩
          rw [HLen.out] at hl5
          generalize m.did ⟨kind, at_, an, u, ka2, kc2, kept⟩ = m' at *
          have hD2 : ∀ l, Ahead [] (fun _ => True) (fun w' => w'.cell? ⟨w3.heap.size, 0, none⟩ = some (.pointer (some ⟨b', 0, none⟩)) ∧ w'.cell? ⟨w3.heap.size, 1, none⟩ = some (.pointer (some ⟨r', 0, none⟩)) ∧ w'.cell? ⟨r', 4, none⟩ = some (.bool m'.off)) l w5 := fun l => ⟨trivial, fun _ => ⟨T5.c0, T5.c1, cell4 T5.ref⟩⟩
          have O5 := off_cells T5.disk.cells T5.disk.ok.pos
          have Z5 := size_cells T5.disk.cells T5.disk.ok.pos
          rw [hl5] at Z5
          have HT5 := Lib.hid T5
          have HL5 := Lib.hid hl5
          clear T5 hl5
          go_simp
          refine hK1.out _ _ (⟨trivial, fun h => absurd (h 2 (by simp)) (by decide)⟩) (fun _ => ?_)
          clear hK1 K1
          try simp only [Act.put, List.setIfInBounds_toArray, List.set_cons_zero, List.set_cons_succ]
          refine InStep.weakenFrom (F := 2) (D' := Ahead [] (fun _ => True) (fun w' => w'.cell? ⟨w3.heap.size, 0, none⟩ = some (.pointer (some ⟨b', 0, none⟩)) ∧ w'.cell? ⟨w3.heap.size, 1, none⟩ = some (.pointer (some ⟨r', 0, none⟩)) ∧ w'.cell? ⟨r', 4, none⟩ = some (.bool m'.off))) (fun l w hl hd => ⟨trivial, fun h => by rw [h 2 (by simp)] at hl; cases hl⟩) _ _ _ _ (by kernel_rfl) ?_
          refine ahead_take (i := 3) (oi := _) (v := ?_) rfl (by kernel_rfl) (by kernel_rfl) (by kernel_rfl) rfl (fun _ _ _ h => h) (hD2 _) (Or.inl ⟨by kernel_rfl, ?_⟩) ?_
          rotate_left
          · (intro w hSw; (try dsimp only at hSw); go_simp; with_reducible rfl)
          try simp only [Act.put, List.setIfInBounds_toArray, List.set_cons_zero, List.set_cons_succ]
          refine ahead_take (i := 4) (oi := _) (v := ?_) rfl (by kernel_rfl) (by kernel_rfl) (by kernel_rfl) rfl (fun _ _ _ h => h) (hD2 _) (Or.inl ⟨by kernel_rfl, ?_⟩) ?_
          rotate_left
          · (intro w hSw; (try dsimp only at hSw); go_simp; with_reducible rfl)
          try simp only [Act.put, List.setIfInBounds_toArray, List.set_cons_zero, List.set_cons_succ]
          refine ahead_take (i := 5) (oi := _) (v := ?_) rfl (by kernel_rfl) (by kernel_rfl) (by kernel_rfl) rfl (fun _ _ _ h => h) (hD2 _) (Or.inl ⟨by kernel_rfl, ?_⟩) ?_
          rotate_left
          · (intro w hSw; (try dsimp only at hSw); go_simp; with_reducible rfl)
          try simp only [Act.put, List.setIfInBounds_toArray, List.set_cons_zero, List.set_cons_succ]
          refine ahead_take (i := 6) (oi := _) (v := ?_) rfl (by kernel_rfl) (by kernel_rfl) (by kernel_rfl) rfl (fun _ _ _ h => h) (hD2 _) (Or.inl ⟨by kernel_rfl, ?_⟩) ?_
          rotate_left
          · (intro w hSw; (try dsimp only at hSw); go_simp; with_reducible rfl)
          try simp only [Act.put, List.setIfInBounds_toArray, List.set_cons_zero, List.set_cons_succ]
          refine ahead_take (i := 7) (oi := _) (v := ?_) rfl (by kernel_rfl) (by kernel_rfl) (by kernel_rfl) rfl (fun _ _ _ h => h) (hD2 _) (Or.inl ⟨by kernel_rfl, ?_⟩) ?_
          rotate_left
          · (intro w hSw; (try dsimp only at hSw); go_simp; with_reducible rfl)
          try simp only [Act.put, List.setIfInBounds_toArray, List.set_cons_zero, List.set_cons_succ]
          refine ahead_takeX (i := 8) (oi := _) (v := ?_) rfl (by kernel_rfl) (by kernel_rfl) (by kernel_rfl) rfl (by kernel_rfl) (by kernel_rfl) (fun _ _ _ h => h) (hD2 _) (Or.inl ⟨by kernel_rfl, ?_⟩) ?_
          rotate_left
          · (intro w hSw; (try dsimp only at hSw); go_simp; with_reducible rfl)
          try simp only [Act.put, List.setIfInBounds_toArray, List.set_cons_zero, List.set_cons_succ]
          refine ahead_take (i := 10) (oi := _) (v := ?_) rfl (by kernel_rfl) (by kernel_rfl) (by kernel_rfl) rfl (fun _ _ _ h => h) (hD2 _) (Or.inl ⟨by kernel_rfl, ?_⟩) ?_
          rotate_left
          · (intro w hSw; (try dsimp only at hSw); go_simp; with_reducible rfl)
          try simp only [Act.put, List.setIfInBounds_toArray, List.set_cons_zero, List.set_cons_succ]
          refine ahead_take (i := 11) (oi := _) (v := ?_) rfl (by kernel_rfl) (by kernel_rfl) (by kernel_rfl) rfl (fun _ _ _ h => h) (hD2 _) (Or.inl ⟨by kernel_rfl, ?_⟩) ?_
          rotate_left
          · (intro w hSw; (try dsimp only at hSw); go_simp; with_reducible rfl)
          try simp only [Act.put, List.setIfInBounds_toArray, List.set_cons_zero, List.set_cons_succ]
          refine ahead_take (i := 12) (oi := _) (v := ?_) rfl (by kernel_rfl) (by kernel_rfl) (by kernel_rfl) rfl (fun _ _ _ h => h) (hD2 _) (Or.inl ⟨by kernel_rfl, ?_⟩) ?_
          rotate_left
          · (intro w hSw; (try dsimp only at hSw); go_simp; with_reducible rfl)
          try simp only [Act.put, List.setIfInBounds_toArray, List.set_cons_zero, List.set_cons_succ]
          refine ahead_takeX (i := 13) (oi := _) (v := ?_) rfl (by kernel_rfl) (by kernel_rfl) (by kernel_rfl) rfl (by kernel_rfl) (by kernel_rfl) (fun _ _ _ h => h) (hD2 _) (Or.inl ⟨by kernel_rfl, ?_⟩) ?_
          rotate_left
          · (intro w hSw; (try dsimp only at hSw); go_simp; with_reducible rfl)
          try simp only [Act.put, List.setIfInBounds_toArray, List.set_cons_zero, List.set_cons_succ]
          refine ahead_take (i := 14) (oi := _) (v := ?_) rfl (by kernel_rfl) (by kernel_rfl) (by kernel_rfl) rfl (fun _ _ _ h => h) (hD2 _) (Or.inl ⟨by kernel_rfl, ?_⟩) ?_
          rotate_left
          · (intro w hSw; (try dsimp only at hSw); go_simp; with_reducible rfl)
          try simp only [Act.put, List.setIfInBounds_toArray, List.set_cons_zero, List.set_cons_succ]
          refine ahead_take (i := 15) (oi := _) (v := ?_) rfl (by kernel_rfl) (by kernel_rfl) (by kernel_rfl) rfl (fun _ _ _ h => h) (hD2 _) (Or.inl ⟨by kernel_rfl, ?_⟩) ?_
          rotate_left
          · (intro w hSw; (try dsimp only at hSw); go_simp; with_reducible rfl)
          try simp only [Act.put, List.setIfInBounds_toArray, List.set_cons_zero, List.set_cons_succ]
          refine ahead_takeX (i := 16) (oi := _) (v := ?_) rfl (by kernel_rfl) (by kernel_rfl) (by kernel_rfl) rfl (by kernel_rfl) (by kernel_rfl) (fun _ _ _ h => h) (hD2 _) (Or.inl ⟨by kernel_rfl, ?_⟩) ?_
          rotate_left
          · (intro w hSw; (try dsimp only at hSw); go_simp; with_reducible rfl)
          try simp only [Act.put, List.setIfInBounds_toArray, List.set_cons_zero, List.set_cons_succ]
          refine instep_one (i := 9) (o := _) (by kernel_rfl) rfl (fun K1 hK1 => ?_)
          go_simp
          refine (O5).mono ?_
          rintro e w' ⟨rfl, rfl⟩
          go_simp
          refine hK1.out _ _ (hD2 _) (fun _ => ?_)
          clear hK1 K1
          try simp only [Act.put, List.setIfInBounds_toArray, List.set_cons_zero, List.set_cons_succ]
          refine ahead_take (i := 17) (oi := _) (v := ?_) rfl (by kernel_rfl) (by kernel_rfl) (by kernel_rfl) rfl (fun _ _ _ h => h) (hD2 _) (Or.inl ⟨by kernel_rfl, ?_⟩) ?_
          rotate_left
          · (intro w hSw; (try dsimp only at hSw); go_simp; with_reducible rfl)
          try simp only [Act.put, List.setIfInBounds_toArray, List.set_cons_zero, List.set_cons_succ]
          refine ahead_take (i := 18) (oi := _) (v := ?_) rfl (by kernel_rfl) (by kernel_rfl) (by kernel_rfl) rfl (fun _ _ _ h => h) (hD2 _) (Or.inl ⟨by kernel_rfl, ?_⟩) ?_
          rotate_left
          · (intro w hSw; (try dsimp only at hSw); go_simp; with_reducible rfl)
          try simp only [Act.put, List.setIfInBounds_toArray, List.set_cons_zero, List.set_cons_succ]
          refine ahead_take (i := 19) (oi := _) (v := ?_) rfl (by kernel_rfl) (by kernel_rfl) (by kernel_rfl) rfl (fun _ _ _ h => h) (hD2 _) (Or.inl ⟨by kernel_rfl, ?_⟩) ?_
          rotate_left
          · (intro w hSw; (try dsimp only at hSw); go_simp; with_reducible rfl)
          try simp only [Act.put, List.setIfInBounds_toArray, List.set_cons_zero, List.set_cons_succ]
          refine ahead_take (i := 20) (oi := _) (v := ?_) rfl (by kernel_rfl) (by kernel_rfl) (by kernel_rfl) rfl (fun _ _ _ h => h) (hD2 _) (Or.inl ⟨by kernel_rfl, ?_⟩) ?_
          rotate_left
          · (intro w hSw; (try dsimp only at hSw); go_simp; with_reducible rfl)
          try simp only [Act.put, List.setIfInBounds_toArray, List.set_cons_zero, List.set_cons_succ]
          refine ahead_take (i := 21) (oi := _) (v := ?_) rfl (by kernel_rfl) (by kernel_rfl) (by kernel_rfl) rfl (fun _ _ _ h => h) (hD2 _) (Or.inl ⟨by kernel_rfl, ?_⟩) ?_
          rotate_left
          · (intro w hSw; (try dsimp only at hSw); go_simp; with_reducible rfl)
          try simp only [Act.put, List.setIfInBounds_toArray, List.set_cons_zero, List.set_cons_succ]
          refine ahead_take (i := 22) (oi := _) (v := ?_) rfl (by kernel_rfl) (by kernel_rfl) (by kernel_rfl) rfl (fun _ _ _ h => h) (hD2 _) (Or.inl ⟨by kernel_rfl, ?_⟩) ?_
          rotate_left
          · (intro w hSw; (try dsimp only at hSw); go_simp; with_reducible rfl)
          try simp only [Act.put, List.setIfInBounds_toArray, List.set_cons_zero, List.set_cons_succ]
          refine ahead_takeX (i := 23) (oi := _) (v := ?_) rfl (by kernel_rfl) (by kernel_rfl) (by kernel_rfl) rfl (by kernel_rfl) (by kernel_rfl) (fun _ _ _ h => h) (hD2 _) (Or.inl ⟨by kernel_rfl, ?_⟩) ?_
          rotate_left
          · (intro w hSw; (try dsimp only at hSw); go_simp; with_reducible rfl)
          try simp only [Act.put, List.setIfInBounds_toArray, List.set_cons_zero, List.set_cons_succ]
          refine ahead_take (i := 25) (oi := _) (v := ?_) rfl (by kernel_rfl) (by kernel_rfl) (by kernel_rfl) rfl (fun _ _ _ h => h) (hD2 _) (Or.inl ⟨by kernel_rfl, ?_⟩) ?_
          rotate_left
          · (intro w hSw; (try dsimp only at hSw); go_simp; with_reducible rfl)
          try simp only [Act.put, List.setIfInBounds_toArray, List.set_cons_zero, List.set_cons_succ]
          refine instep_one (i := 24) (o := _) (by kernel_rfl) rfl (fun K1 hK1 => ?_)
          go_simp
          refine (Z5).mono ?_
          rintro e w' ⟨rfl, rfl⟩
          go_simp
          refine hK1.out _ _ (hD2 _) (fun _ => ?_)
          clear hK1 K1
          try simp only [Act.put, List.setIfInBounds_toArray, List.set_cons_zero, List.set_cons_succ]
          refine ahead_take (i := 26) (oi := _) (v := ?_) rfl (by kernel_rfl) (by kernel_rfl) (by kernel_rfl) rfl (fun _ _ _ h => h) (hD2 _) (Or.inl ⟨by kernel_rfl, ?_⟩) ?_
          rotate_left
          · (intro w hSw; (try dsimp only at hSw); go_simp; with_reducible rfl)
          try simp only [Act.put, List.setIfInBounds_toArray, List.set_cons_zero, List.set_cons_succ]
          refine ahead_take (i := 27) (oi := _) (v := ?_) rfl (by kernel_rfl) (by kernel_rfl) (by kernel_rfl) rfl (fun _ _ _ h => h) (hD2 _) (Or.inl ⟨by kernel_rfl, ?_⟩) ?_
          rotate_left
          · (intro w hSw; (try dsimp only at hSw); go_simp; with_reducible rfl)
          try simp only [Act.put, List.setIfInBounds_toArray, List.set_cons_zero, List.set_cons_succ]
          refine ahead_take (i := 28) (oi := _) (v := ?_) rfl (by kernel_rfl) (by kernel_rfl) (by kernel_rfl) rfl (fun _ _ _ h => h) (hD2 _) (Or.inl ⟨by kernel_rfl, ?_⟩) ?_
          rotate_left
          · (intro w hSw; (try dsimp only at hSw); go_simp; with_reducible rfl)
          try simp only [Act.put, List.setIfInBounds_toArray, List.set_cons_zero, List.set_cons_succ]
          refine ahead_take (i := 29) (oi := _) (v := ?_) rfl (by kernel_rfl) (by kernel_rfl) (by kernel_rfl) rfl (fun _ _ _ h => h) (hD2 _) (Or.inl ⟨by kernel_rfl, ?_⟩) ?_
          rotate_left
          · (intro w hSw; (try dsimp only at hSw); go_simp; with_reducible rfl)
          try simp only [Act.put, List.setIfInBounds_toArray, List.set_cons_zero, List.set_cons_succ]
          refine ahead_take (i := 30) (oi := _) (v := ?_) rfl (by kernel_rfl) (by kernel_rfl) (by kernel_rfl) rfl (fun _ _ _ h => h) (hD2 _) (Or.inl ⟨by kernel_rfl, ?_⟩) ?_
          rotate_left
          · (intro w hSw; (try dsimp only at hSw); go_simp; with_reducible rfl)
          try simp only [Act.put, List.setIfInBounds_toArray, List.set_cons_zero, List.set_cons_succ]
          refine ahead_take (i := 31) (oi := _) (v := ?_) rfl (by kernel_rfl) (by kernel_rfl) (by kernel_rfl) rfl (fun _ _ _ h => h) (hD2 _) (Or.inl ⟨by kernel_rfl, ?_⟩) ?_
          rotate_left
          · (intro w hSw; (try dsimp only at hSw); go_simp; with_reducible rfl)
          try simp only [Act.put, List.setIfInBounds_toArray, List.set_cons_zero, List.set_cons_succ]
          refine ahead_takeX (i := 32) (oi := _) (v := ?_) rfl (by kernel_rfl) (by kernel_rfl) (by kernel_rfl) rfl (by kernel_rfl) (by kernel_rfl) (fun _ _ _ h => h) (hD2 _) (Or.inl ⟨by kernel_rfl, ?_⟩) ?_
          rotate_left
          · (intro w hSw; (try dsimp only at hSw); go_simp; with_reducible rfl)
          try simp only [Act.put, List.setIfInBounds_toArray, List.set_cons_zero, List.set_cons_succ]
          refine ahead_take (i := 34) (oi := _) (v := ?_) rfl (by kernel_rfl) (by kernel_rfl) (by kernel_rfl) rfl (fun _ _ _ h => h) (hD2 _) (Or.inl ⟨by kernel_rfl, ?_⟩) ?_
          rotate_left
          · (intro w hSw; (try dsimp only at hSw); go_simp; with_reducible rfl)
          try simp only [Act.put, List.setIfInBounds_toArray, List.set_cons_zero, List.set_cons_succ]
          refine ahead_take (i := 35) (oi := _) (v := ?_) rfl (by kernel_rfl) (by kernel_rfl) (by kernel_rfl) rfl (fun _ _ _ h => h) (hD2 _) (Or.inl ⟨by kernel_rfl, ?_⟩) ?_
          rotate_left
          · (intro w hSw; (try dsimp only at hSw); go_simp; with_reducible rfl)
          try simp only [Act.put, List.setIfInBounds_toArray, List.set_cons_zero, List.set_cons_succ]
          refine ahead_take (i := 36) (oi := _) (v := ?_) rfl (by kernel_rfl) (by kernel_rfl) (by kernel_rfl) rfl (fun _ _ _ h => h) (hD2 _) (Or.inl ⟨by kernel_rfl, ?_⟩) ?_
          rotate_left
          · (intro w hSw; (try dsimp only at hSw); go_simp; with_reducible rfl)
          try simp only [Act.put, List.setIfInBounds_toArray, List.set_cons_zero, List.set_cons_succ]
          refine ahead_takeX (i := 37) (oi := _) (v := ?_) rfl (by kernel_rfl) (by kernel_rfl) (by kernel_rfl) rfl (by kernel_rfl) (by kernel_rfl) (fun _ _ _ h => h) (hD2 _) (Or.inl ⟨by kernel_rfl, ?_⟩) ?_
          rotate_left
          · (intro w hSw; (try dsimp only at hSw); go_simp; with_reducible rfl)
          try simp only [Act.put, List.setIfInBounds_toArray, List.set_cons_zero, List.set_cons_succ]
          refine instep_one (i := 33) (o := _) (by kernel_rfl) rfl (fun K1 hK1 => ?_)
          go_simp
          refine (dirty_any HT5.out.disk (by have := HJ.out; have := HK.out.2.2; omega)).mono ?_
          rintro e w6 ⟨kd, cd, rfl, i6, b6⟩
          have T6 := HT5.out.below b6
          have hD6 : ∀ l, Ahead [] (fun _ => True) (fun w' => w'.cell? ⟨w3.heap.size, 0, none⟩ = some (.pointer (some ⟨b', 0, none⟩)) ∧ w'.cell? ⟨w3.heap.size, 1, none⟩ = some (.pointer (some ⟨r', 0, none⟩)) ∧ w'.cell? ⟨r', 4, none⟩ = some (.bool m'.off)) l w6 := fun l => ⟨trivial, fun _ => ⟨T6.c0, T6.c1, cell4 T6.ref⟩⟩
          have HT6 := Lib.hid T6
          have I6 := Lib.hid i6
          clear T6 b6 i6 O5 Z5
          go_simp
          refine hK1.out _ _ (hD6 _) (fun _ => ?_)
          clear hK1 K1
          try simp only [Act.put, List.setIfInBounds_toArray, List.set_cons_zero, List.set_cons_succ]
          refine instep_one (i := 38) (o := _) (by kernel_rfl) rfl (fun K1 hK1 => ?_)
          go_simp
          refine (dirty_ref HT6.out.ref HT6.out.disk.ok (by have := HJ.out; have := HK.out.2.2; omega)).mono ?_
          rintro e w7 ⟨kr, cr, rfl, i7, b7⟩
          have T7 := HT6.out.below b7
          have hD7 : ∀ l (nn : Nat), Ahead [] (fun _ => True) (fun w' => w'.cell? ⟨w3.heap.size, 0, none⟩ = some (.pointer (some ⟨b', 0, none⟩)) ∧ w'.cell? ⟨w3.heap.size, 1, none⟩ = some (.pointer (some ⟨r', 0, none⟩)) ∧ w'.cell? ⟨r', 4, none⟩ = some (.bool m'.off)) l (w7.drewN nn) := fun l nn => by
            have T8 := T7.below (below_drewN (Below.refl _ w7) nn)
            exact ⟨trivial, fun _ => ⟨T8.c0, T8.c1, cell4 T8.ref⟩⟩
          have hD7' : ∀ l, Ahead [] (fun _ => True) (fun w' => w'.cell? ⟨w3.heap.size, 0, none⟩ = some (.pointer (some ⟨b', 0, none⟩)) ∧ w'.cell? ⟨w3.heap.size, 1, none⟩ = some (.pointer (some ⟨r', 0, none⟩)) ∧ w'.cell? ⟨r', 4, none⟩ = some (.bool m'.off)) l w7 := fun l => ⟨trivial, fun _ => ⟨T7.c0, T7.c1, cell4 T7.ref⟩⟩
          have i67 : IntsIn w7 kd m'.dirty := I6.out.keep (Below.only (S := []) b7) (by simp)
          have hdl := dirty_length m'
          have hfew := T7.disk.ok.few
          have NT := ints_any kd kr cd cr m'.dirty m'.dirty i67 i7 (by omega) (by omega)
          rw [decide_eq_true rfl] at NT
          have HT7 := Lib.hid T7
          clear T7 b7 i7 i67 hdl hfew
          go_simp
          refine hK1.out _ _ (hD7' _) (fun _ => ?_)
          clear hK1 K1
          try simp only [Act.put, List.setIfInBounds_toArray, List.set_cons_zero, List.set_cons_succ]
          refine instep_one (i := 39) (o := _) (by kernel_rfl) rfl (fun K1 hK1 => ?_)
          go_simp
          refine (NT).mono ?_
          rintro e w' ⟨rfl, nn, rfl⟩
          go_simp
          refine hK1.out _ _ (hD7 _ nn) (fun _ => ?_)
          clear hK1 K1
          try simp only [Act.put, List.setIfInBounds_toArray, List.set_cons_zero, List.set_cons_succ]
          refine ahead_take (i := 40) (oi := _) (v := ?_) rfl (by kernel_rfl) (by kernel_rfl) (by kernel_rfl) rfl (fun _ _ _ h => h) (hD7 _ nn) (Or.inl ⟨by kernel_rfl, ?_⟩) ?_
          rotate_left
          · (intro w hSw; (try dsimp only at hSw); go_simp; with_reducible rfl)
          try simp only [Act.put, List.setIfInBounds_toArray, List.set_cons_zero, List.set_cons_succ]
          refine ahead_take (i := 41) (oi := _) (v := ?_) rfl (by kernel_rfl) (by kernel_rfl) (by kernel_rfl) rfl (fun _ _ _ h => h) (hD7 _ nn) (Or.inl ⟨by kernel_rfl, ?_⟩) ?_
          rotate_left
          · (intro w hSw; (try dsimp only at hSw); go_simp; with_reducible rfl)
          try simp only [Act.put, List.setIfInBounds_toArray, List.set_cons_zero, List.set_cons_succ]
          refine instep_done (by kernel_rfl) ?_ _
          have T8 := Lib.hid (show Two w (w7.drewN nn) w3.heap.size b' L' M' r' S' (j + 1) (j + 1) m' from HT7.out.below (below_drewN (Below.refl _ w7) nn))
          clear hD1 hD2 hD6 hD7 hD7' NT
          generalize w7.drewN nn = w8 at *
          go_wp2_with fail
          go_loopw [12] (fun i wi => ∃ k : Nat, k ≤ N ∧ k ≤ 8 ∧ i = .int .i64 k ∧ Two w wi w3.heap.size b' L' M' r' S' (j + 1) (j + 1) m') (fun i _ => 8 - (intOf i).toNat)
          case atStart => exact ⟨0, Nat.zero_le _, by omega, rfl, T8.out⟩
          case round =>
            obtain ⟨k, hk, hk8, rfl, TK⟩ := hrel
            have HTK := Lib.hid TK
            have x0 := TK.c0
            have x1 := TK.c1
            by_cases hkN : k < N
            · by_cases h8 : k < 8
              · have hkN' : (k : Int) < (N : Int) := by omega
                have h8' : (k : Int) < 8 := by omega
                have hkl : k < m'.lasts.length := by rw [HL5.out]; exact hkN
                have hsec := now_length TK.disk.ok k hkl
                have RR := fun (w : World) (h : RefIn w r' S' m' (j + 1)) => read_ref h HTK.out.disk.ok (by have := HJ.out; have := HK.out.2.2; omega) (k : Int)
                have RN := read_n hkl
                have HSEC := Lib.hid (And.intro hsec hkl)
                clear TK hsec hkl
                cases hoff : m'.off
                · have hrd : refN 1 m'.lasts.length m'.off k 0 = 0 := by rw [RN, hoff]; rfl
                  rw [readV_ok hrd] at RR
                  have RD := read_ok HTK.out.disk (k : Int) hrd
                  clear hrd RN
                  go_wp2_with fail
                  refine RD.mono ?_
                  rintro e wa ⟨ga, rfl, hga, ba, ga1⟩
                  have TA := HTK.out.below ba
                  have y0 := TA.c0
                  have y1 := TA.c1
                  have kA := conv_bytes 256 256 HSEC.out.1 hga
                  have HTA := Lib.hid TA
                  clear TA hga ba ga1 RD x0 x1
                  go_wp2_with fail
                  refine (RR _ HTA.out.ref).mono ?_
                  rintro e w' ⟨rfl, rfl⟩
                  unfold strV
                  generalize strOf (m'.now (k : Int)) = Z at kA ⊢
                  clear RR
                  go_wp2_with fail
                  refine (no_any _ _).mono ?_
                  rintro e w' ⟨rfl, rfl⟩
                  go_wp2_with fail
                  go_roundw
                  case rel => exact ⟨k + 1, by omega, by omega, by go_num, HTA.out⟩
                  case measure => simp [intOf]; omega
                · have hrd : refN 1 m'.lasts.length m'.off k 0 = 9 := by rw [RN, hoff]; rfl
                  have RD := read_refused HTK.out.disk (k : Int) (by rw [hrd]; decide)
                  rw [hrd] at RD
                  rw [readV_bad hrd (by decide)] at RR
                  have kN : ∀ w : World, (convert 47 9 (.slice none 0 0)).run Try.prog w = .ok (.string ⟨#[]⟩) w := fun w => by kernel_rfl
                  have n9 := noN_9
                  clear hrd RN
                  go_wp2_with fail
                  refine RD.mono ?_
                  rintro e w' ⟨rfl, rfl⟩
                  clear RD
                  go_wp2_with fail
                  refine (RR _ HTK.out.ref).mono ?_
                  rintro e w' ⟨rfl, rfl⟩
                  rw [show strV [] = .string ⟨#[]⟩ from rfl]
                  clear RR
                  go_wp2_with fail
                  refine (no_any _ _).mono ?_
                  rintro e w' ⟨rfl, rfl⟩
                  go_wp2_with fail
                  go_roundw
                  case rel => exact ⟨k + 1, by omega, by omega, by go_num, HTK.out⟩
                  case measure => simp [intOf]; omega
              · obtain rfl : k = 8 := by omega
                have hkN' : ((8 : Nat) : Int) < (N : Int) := by omega
                clear TK
                go_wp2_with fail
                go_roundw
                case rel => exact ⟨j + 1, b', L', M', r', S', m', HJ.out, by go_num, HTK.out, HL5.out⟩
                case measure => have := HJ.out; simp [intOf]; omega
            · obtain rfl : k = N := by omega
              clear TK
              go_wp2_with fail
              go_roundw
              case rel => exact ⟨j + 1, b', L', M', r', S', m', HJ.out, by go_num, HTK.out, HL5.out⟩
              case measure => have := HJ.out; simp [intOf]; omega
        · go_wp2_with fail
          go_ret
          exact ⟨rfl, T.bel⟩
theorem diskPlays_walk {W : World} (a0 : Int) (_w0 : (Lit.int .i64 a0).wf = true) (a1 : Option Addr) (c1 : Nat) (ms1 : List AM) (w1 : ActsIn W a1 ms1) :
    Calls Try.prog 3 #[.int .i64 a0, .slice a1 ms1.length c1] W fun e w' => e = .returned (.bool true) ∧ Below W.heap.size W w' :=
  diskPlays_calls a0 c1 W w1
end Go.Proofs.Ytoiaikgpaobefaa
