/- FrameTurned: the walk. -/
import Derived.Test.YtmongcpaphifaaaDoorFt
import Derived.Test.YtmongcpaphifaaaDoorCy
namespace Go.Proofs.YtmongcpaphifaaaDoor
open Go.RowKit
set_option linter.unusedVariables false
set_option linter.unusedSimpArgs false

/-- Is any of them no nought? -/
def loud (cs : List UInt8) : Bool := cs.any (· != 0)
theorem loud_not {cs : List UInt8} (h : loud cs = false) : quiet cs := fun c hc => by
  unfold loud at h; rw [List.any_eq_false] at h
  simpa using h c hc
theorem loud_yes {cs : List UInt8} (h : loud cs = true) : ¬ quiet cs := fun hq => by
  unfold loud at h; rw [List.any_eq_true] at h
  obtain ⟨c, hc, hn⟩ := h
  rw [hq c hc] at hn; simp at hn
theorem loud_snoc (cs : List UInt8) (c : UInt8) : loud (cs ++ [c]) = (loud cs || c != 0) := by unfold loud; simp
theorem zero_byte (c : UInt8) : (c != 0) = ((c.toNat : Int) != 0) := by
  rw [Bool.eq_iff_iff]
  simp only [bne_iff_ne, ne_eq, ← UInt8.toNat_inj, UInt8.toNat_zero]
  omega
theorem xor_byte (b c : UInt8) : Value.int .u8 (bits .xor .u8 (b.toNat : Int) (c.toNat : Int)) = bv (b ^^^ c) := by
  rw [u8_xor_nat _ _ b.toNat_lt c.toNat_lt]
  unfold bv
  rw [UInt8.toNat_xor]

set_option maxRecDepth 100000 in
set_option maxHeartbeats 4000000 in
theorem frameTurned_walk (x : Addr) (a : Option Addr) (cap : Nat) (l : List ByteArray) (n1 n2 : Int) (ab : Option Addr) (capb : Nat) (bs : List UInt8) (w : World) (hx : Laid x w) (hl : StrsIn w a l) (hs : Small l) (hc : l.length ≤ cap) (hbs : BytesIn w ab bs) (hbz : SmallB bs) :
    Calls Tryd.prog 6 #[.slice a l.length cap, iv n1, iv n2, .slice ab bs.length capb] w fun e w' => e = .returned (.bool true) ∧ Below w.heap.size w w' := by
  unfold SmallB at hbz
  have hf := few_calls a cap l 3000 w hl hs
  by_cases hb : fewB l 3000 = true
  · rw [hb] at hf
    obtain ⟨h1, h2, h3⟩ := fits_few hb (by omega)
    by_cases h0 : l.length = 0
    · have h0' : (((l.length : Nat) : Int) == 0) = true := by rw [h0]; rfl
      clear h0
      go_enter Tryd.func6, Tryd.ntmps6
      go_wp2_with fail
      refine (hf).mono ?_; rintro e w' ⟨rfl, rfl⟩
      go_wp2_with fail
      refine (alive_calls x _ hx).mono ?_; rintro e w1 ⟨rfl, b1⟩
      go_wp2_with fail
      go_ret
      exact ⟨rfl, b1⟩
    · have h0' : (((l.length : Nat) : Int) == 0) = false := by rw [beq_eq_false_iff_ne]; intro h; exact h0 (by omega)
      by_cases h4 : 4 < bs.length
      · have h4' : 4 < (bs.length : Int) := by omega
        clear h0
        go_enter Tryd.func6, Tryd.ntmps6
        go_wp2_with fail
        refine (hf).mono ?_; rintro e w' ⟨rfl, rfl⟩
        go_wp2_with fail
        refine (alive_calls x _ hx).mono ?_; rintro e w1 ⟨rfl, b1⟩
        go_wp2_with fail
        go_ret
        exact ⟨rfl, b1⟩
      · have h4' : (bs.length : Int) ≤ 4 := by omega
        -- which record
        obtain ⟨t1, t2⟩ := tmod_in n1 l.length (by omega)
        obtain ⟨K, hK⟩ : ∃ k : Nat, (n1.tmod (l.length : Int) + (l.length : Int)) % (l.length : Int) = (k : Int) := ⟨((n1.tmod (l.length : Int) + (l.length : Int)) % (l.length : Int)).toNat, by
          have := Int.emod_nonneg (n1.tmod (l.length : Int) + (l.length : Int)) (show (l.length : Int) ≠ 0 by omega); omega⟩
        have hK2 : K < l.length := by
          have := Int.emod_lt_of_pos (n1.tmod (l.length : Int) + (l.length : Int)) (show (0 : Int) < (l.length : Int) by omega); omega
        have hK3 : (K : Int) < (l.length : Int) := by omega
        -- its frame's size, and where it begins
        have zk : l[K].size ≤ 3000 := by have := (lens_flat l 3000 (by omega) (by have := (few_spec hb).2; omega)).1 _ (List.getElem_mem hK2); exact this
        obtain ⟨Z, hZ⟩ : ∃ Z, Z = l[K].size + 7 := ⟨_, rfl⟩
        obtain ⟨t3, t4⟩ := tmod_in n2 ((Z : Int) - 3) (by omega)
        obtain ⟨Q, hQ⟩ : ∃ k : Nat, (n2.tmod ((Z : Int) - 3) + (Z : Int) - 3) % ((Z : Int) - 3) = (k : Int) := ⟨((n2.tmod ((Z : Int) - 3) + (Z : Int) - 3) % ((Z : Int) - 3)).toNat, by
          have := Int.emod_nonneg (n2.tmod ((Z : Int) - 3) + (Z : Int) - 3) (show (Z : Int) - 3 ≠ 0 by omega); omega⟩
        have hQ2 : Q + 3 < Z := by
          have := Int.emod_lt_of_pos (n2.tmod ((Z : Int) - 3) + (Z : Int) - 3) (show (0 : Int) < (Z : Int) - 3 by omega); omega
        have hfl := frames_flat l
        have hsp := congrArg List.length (frames_split l K hK2)
        rw [List.length_append, List.length_append, frm_length, bts_length] at hsp
        generalize hF0 : (frames (l.take K)).length = F0 at *
        generalize hF : frames l = F at *
        have zF : (strOf F).size = F.length := strOf_size F
        have p1 := pack_calls a cap l w hl (by omega)
        rw [show packV l = .tuple #[.string (strOf (frames l)), .nilIface] from if_pos h2, hF] at p1
        have n1l : (l.take K).length = K := by rw [List.length_take]; omega
        have z1 := fun w (h : StrsIn w a l) => size_calls a cap (l.take K) w (h.take K) (by omega)
        rw [show sizeI (l.take K) = (frames (l.take K)).length from if_pos (fits_take h2 K), n1l, hF0] at z1
        have z2 := fun w : World => size_calls (some ⟨w.heap.size, 0, none⟩) 1 [l[K]] (w.alloc (.cells #[.string l[K]] 9)) (strs1 _ _ _) (by simp)
        rw [show sizeI [l[K]] = Z from (if_pos (fun s hs => by rw [List.mem_singleton.1 hs]; exact fits_get h2 K hK2)).trans (by rw [frames_cons, List.length_append, frm_length, bts_length, hZ]; rfl)] at z2
        have q1 := sl_to a l.length cap K K rfl (by omega)
        have g1 : F0 + Z ≤ (strOf F).size := by omega
        have g1' : (F0 : Int) + (Z : Int) ≤ ((strOf F).size : Int) := by omega
        have g2 : (7 : Int) ≤ (Z : Int) := by omega
        have g3 : (strOf F).size ≤ 5700 := by omega
        have FE := Lib.hid hF
        have F0E := Lib.hid hF0
        have ZE := Lib.hid hZ
        clear hb hsp hfl hF hF0 hZ h0 n1l
        go_enter Tryd.func6, Tryd.ntmps6
        go_wp2_with fail
        refine (hf).mono ?_; rintro e w' ⟨rfl, rfl⟩
        go_wp2_with fail
        refine (p1).mono ?_; rintro e w1 ⟨rfl, b1⟩
        have l1 := hl.below b1
        have x1 := hx.below b1
        have y1 := hbs.below b1
        go_wp2_with fail
        refine (z1 _ l1).mono ?_; rintro e w' ⟨rfl, rfl⟩
        obtain ⟨bA, oA, rfl, lw⟩ := l1.form hK2
        have cK := lw K hK2
        go_wp2_with (refine wpList_bs_str1 rfl _ rfl rfl ?_)
        refine (z2 _).mono ?_; rintro e w' ⟨rfl, rfl⟩
        have y2 := y1.below (below_alloc w1 (.cells #[.string l[K]] 9))
        have l2 := l1.below (below_alloc w1 (.cells #[.string l[K]] 9))
        have x2 := x1.alloc (.cells #[.string l[K]] 9)
        have b2 : Below w.heap.size w (w1.alloc (.cells #[.string l[K]] 9)) := b1.alloc b1.size _
        generalize hw2 : w1.alloc (.cells #[.string l[K]] 9) = w2 at *
        clear hw2 cK
        obtain ⟨capc, zs, hcap, hcv⟩ := conv_str (strOf F) w2
        rw [bts_strOf] at hcv
        go_wp2_with fail
        obtain ⟨lim, hlim⟩ : ∃ lim, lim = if 7 ≤ 3 + Q then Z - (3 + Q) else 7 - (3 + Q) := ⟨_, rfl⟩
        have lim1 : 3 + Q + lim ≤ Z := by rw [hlim]; split <;> omega
        have lim2 : 7 ≤ 3 + Q ∨ 3 + Q + lim ≤ 7 := by rw [hlim]; split <;> omega
        have lim3 : ∀ k, lim ≤ k → (7 ≤ 3 + Q ∧ Z ≤ 3 + Q + k) ∨ (3 + Q < 7 ∧ 7 ≤ 3 + Q + k) := fun k hk => by rw [hlim] at hk; split at hk <;> omega
        clear hlim hQ hK t1 t2 t3 t4
        go_loopw [14, 83] (fun t i wr => ∃ k : Nat, k ≤ bs.length ∧ i = iv k ∧ t = .bool (loud (bs.take (min k lim))) ∧ wr.heap[w2.heap.size]? = some (.cells (cellsOf (patch F (F0 + (3 + Q)) (bs.take (min k lim)) ++ zs)) 5 (F.length + zs.length, F.length + zs.length + 1)) ∧ Below w2.heap.size w2 wr) (fun _ i _ => (bs.length - intOf i).toNat)
        case atStart =>
          refine ⟨0, Nat.zero_le _, rfl, by simp [loud], ?_, ((below_alloc w2 _).drew)⟩
          have e : patch F (F0 + (3 + Q)) (bs.take (min 0 lim)) = F := by rw [Nat.zero_min, List.take_zero, patch_nil]
          rw [e]
          exact heap_alloc_last w2 _
        case round =>
          obtain ⟨k, hk, rfl, rfl, hrow, bb⟩ := hrel
          have hlc : (bs.take (min k lim)).length = min k lim := by rw [List.length_take]; omega
          have hpl : (patch F (F0 + (3 + Q)) (bs.take (min k lim))).length = F.length := patch_length (by rw [hlc]; omega)
          by_cases hlt : k < bs.length
          · have hlt' : (k : Int) < (bs.length : Int) := by omega
            obtain ⟨bB, oB, rfl, yw⟩ := (y2.below bb).form hlt
            have cB := yw k hlt
            by_cases hkl : k < lim
            · have e1 : min k lim = k := by omega
              have e2 : min (k + 1) lim = k + 1 := by omega
              rw [e1] at hrow hlc hpl
              obtain ⟨b, hb1, hb2⟩ := patch_one (L := F) (p := F0 + (3 + Q)) (cs := bs.take k) (c := bs[k]) (by rw [hlc]; omega)
              rw [hlc] at hb1 hb2
              rw [← take_snoc bs k hlt] at hb2
              have hj : F0 + (3 + Q) + k < (patch F (F0 + (3 + Q)) (bs.take k)).length := by omega
              have fc : wr.cell? ⟨w2.heap.size, F0 + (3 + Q) + k, none⟩ = some (bv b) := by
                rw [cell_of_row wr _ _ _ _ _ hrow, cellsOf_get, List.getElem?_append_left hj, hb1]; rfl
              have ff : wr.frozen? ⟨w2.heap.size, F0 + (3 + Q) + k, none⟩ = false := row_free hrow (by omega)
              have fr := row_set' (i := F0 + (3 + Q) + k) (bv (b ^^^ bs[k])) hrow
              rw [cellsOf_set, List.set_append_left _ _ hj, hb2, ← xor_byte] at fr
              have lo : loud (bs.take (min (k + 1) lim)) = (loud (bs.take k) || bs[k] != 0) := by rw [e2, take_snoc bs k hlt, loud_snoc]
              rw [e1]
              have E2 := Lib.hid e2
              have FR := Lib.hid fr
              have hd1 : 3 + (Q : Int) + (k : Int) < (Z : Int) := by omega
              have hd2 : (7 : Int) ≤ 3 + (Q : Int) ∨ 3 + (Q : Int) + (k : Int) < 7 := by omega
              have hj2 : F0 + (3 + Q) + k < F.length := by omega
              clear e1 e2 fr hb1 hb2 hlc hrow hpl
              generalize hlb : loud (bs.take k) = L0 at *
              generalize hcb : bs[k] = c at *
              obtain ⟨D, hD⟩ : ∃ D, ((c.toNat : Int) != 0) = D := ⟨_, rfl⟩
              rw [zero_byte, hD] at lo
              have LO := Lib.hid lo
              clear lo hlb hcb
              have fin : ∃ k' : Nat, k' ≤ bs.length ∧ Value.int .i64 ((k : Int) + 1) = iv k' ∧ Value.bool (L0 || D) = .bool (loud (bs.take (min k' lim))) ∧ (wr.setCell ⟨w2.heap.size, F0 + (3 + Q) + k, none⟩ (.int .u8 (bits .xor .u8 (b.toNat : Int) (c.toNat : Int)))).heap[w2.heap.size]? = some (.cells (cellsOf (patch F (F0 + (3 + Q)) (bs.take (min k' lim)) ++ zs)) 5 (F.length + zs.length, F.length + zs.length + 1)) ∧ Below w2.heap.size w2 (wr.setCell ⟨w2.heap.size, F0 + (3 + Q) + k, none⟩ (.int .u8 (bits .xor .u8 (b.toNat : Int) (c.toNat : Int)))) :=
                ⟨k + 1, by omega, by go_num, by rw [LO.out], by rw [E2.out]; exact FR.out, bb.setCell (p := ⟨w2.heap.size, F0 + (3 + Q) + k, none⟩) (Nat.le_refl _) _⟩
              have FIN := Lib.hid fin
              clear fin LO FR E2 bb
              have hbv : ∀ u : UInt8, bv u = .int .u8 (u.toNat : Int) := fun _ => rfl
              rcases hd2 with hd2 | hd2
              · cases L0 <;> cases D
                all_goals
                  go_wp2_with fail
                  go_roundw
                  case rel => exact FIN.out
                  case measure => simp [intOf]; omega
              · have hd3 : 3 + (Q : Int) < 7 := by omega
                cases L0 <;> cases D
                all_goals
                  go_wp2_with fail
                  go_roundw
                  case rel => exact FIN.out
                  case measure => simp [intOf]; omega
            · have e1 : min k lim = lim := by omega
              have e2 : min (k + 1) lim = lim := by omega
              rw [e1] at hrow
              have hbv : ∀ u : UInt8, bv u = .int .u8 (u.toNat : Int) := fun _ => rfl
              have hk3 := lim3 k (by omega)
              have fin : ∃ k' : Nat, k' ≤ bs.length ∧ Value.int .i64 ((k : Int) + 1) = iv k' ∧ Value.bool (loud (bs.take (min k lim))) = .bool (loud (bs.take (min k' lim))) ∧ wr.heap[w2.heap.size]? = some (.cells (cellsOf (patch F (F0 + (3 + Q)) (bs.take (min k' lim)) ++ zs)) 5 (F.length + zs.length, F.length + zs.length + 1)) ∧ Below w2.heap.size w2 wr :=
                ⟨k + 1, by omega, by go_num, by rw [e1, e2], by rw [e2]; exact hrow, bb⟩
              have FIN := Lib.hid fin
              clear fin e1 e2 hrow hlc hpl bb
              generalize loud (bs.take (min k lim)) = L0 at *
              rcases hk3 with ⟨ha, hb'⟩ | ⟨ha, hb'⟩
              · have hd1 : (Z : Int) ≤ 3 + (Q : Int) + (k : Int) := by omega
                have hd2 : (7 : Int) ≤ 3 + (Q : Int) := by omega
                go_wp2_with fail
                go_roundw
                case rel => exact FIN.out
                case measure => simp [intOf]; omega
              · have hd2 : 3 + (Q : Int) < 7 := by omega
                have hd3 : (7 : Int) ≤ 3 + (Q : Int) + (k : Int) := by omega
                by_cases hd1 : 3 + Q + k < Z
                · have hd1' : 3 + (Q : Int) + (k : Int) < (Z : Int) := by omega
                  go_wp2_with fail
                  go_roundw
                  case rel => exact FIN.out
                  case measure => simp [intOf]; omega
                · have hd1' : (Z : Int) ≤ 3 + (Q : Int) + (k : Int) := by omega
                  go_wp2_with fail
                  go_roundw
                  case rel => exact FIN.out
                  case measure => simp [intOf]; omega
          · obtain rfl : k = bs.length := by omega
            obtain ⟨cs, hcs⟩ : ∃ cs, cs = bs.take (min bs.length lim) := ⟨_, rfl⟩
            rw [← hcs] at hrow hlc hpl ⊢
            have hcv2 := conv_head (w := wr) F.length capc hpl hrow
            have l3 := l2.below bb
            have x3 := x2.below bb
            have s1 := scan_calls x (strOf (patch F (F0 + (3 + Q)) cs)) (by rw [strOf_size, hpl]; omega) wr x3
            rw [bts_strOf] at s1
            have hc4 : cs.length ≤ 4 := by omega
            have b3 : Below w.heap.size w wr := below_then b2 bb
            have hfit : F0 + (3 + Q) + cs.length ≤ F.length := by omega
            rcases hlo : loud cs with _ | _
            · have hsc : IsScan (patch F (F0 + (3 + Q)) cs) l [] := by
                rw [patch_quiet hfit (loud_not hlo), ← FE.out]; exact scan_frames l h2
              clear hlo hrow hlc hpl hcs hcv y2 lim1 lim2 lim3 hfit hc4
              go_wp2_with fail
              refine s1.mono ?_; rintro e w4 ⟨a4, c4, m4, t4, rfl, hs4, in4, b4, _⟩
              obtain ⟨rfl, rfl⟩ := scan_unique hs4 hsc
              have l4 := l3.below b4
              have x4 := x3.below b4
              have sm := same_calls a4 _ c4 cap m4 m4 w4 in4 l4 hs.1 hs.1
              rw [same_self] at sm
              clear hs4 hsc
              go_wp2_with fail
              refine sm.mono ?_; rintro e w5 ⟨rfl, b5⟩
              have x5 := x4.below b5
              go_wp2_with fail
              refine (alive_calls x _ x5).mono ?_; rintro e w6 ⟨rfl, b6⟩
              go_wp2_with fail
              go_ret
              exact ⟨rfl, below_then b3 (below_then b4 (below_then b5 b6))⟩
            · have hsc := scan_turned (l := l) (k := K) (at_ := 3 + Q) (cs := cs) h2 hK2 (by omega) hc4 (by rw [← ZE.out]; omega) (by omega) (loud_yes hlo)
              rw [FE.out, F0E.out] at hsc
              clear hlo hrow hlc hpl hcs hcv y2 lim1 lim2 lim3 hfit hc4
              go_wp2_with fail
              refine s1.mono ?_; rintro e w4 ⟨a4, c4, m4, t4, rfl, hs4, in4, b4, _⟩
              obtain ⟨rfl, rfl⟩ := scan_unique hs4 hsc
              have l4 := l3.below b4
              have x4 := x3.below b4
              have tl : (l.take K).length = K := by rw [List.length_take]; omega
              have hm1 : (l.take K).length ≤ 9223372036854775807 := by omega
              have sm := same_calls a4 _ c4 cap (l.take K) (l.take K) w4 in4 (l4.take K) hm1 hm1
              rw [same_self, tl] at sm
              have ln : ((frames (l.take K)).length : Int) = (F0 : Int) := by rw [F0E.out]
              rw [tl, ln]
              clear hs4 hsc hm1 ln tl
              go_wp2_with fail
              refine sm.mono ?_; rintro e w5 ⟨rfl, b5⟩
              have x5 := x4.below b5
              go_wp2_with fail
              refine (alive_calls x _ x5).mono ?_; rintro e w6 ⟨rfl, b6⟩
              go_wp2_with fail
              go_ret
              exact ⟨rfl, below_then b3 (below_then b4 (below_then b5 b6))⟩
  · rw [Bool.not_eq_true] at hb
    rw [hb] at hf
    go_enter Tryd.func6, Tryd.ntmps6
    go_wp2_with fail
    refine (hf).mono ?_; rintro e w' ⟨rfl, rfl⟩
    go_wp2_with fail
    refine (alive_calls x _ hx).mono ?_; rintro e w1 ⟨rfl, b1⟩
    go_wp2_with fail
    go_ret
    exact ⟨rfl, b1⟩
end Go.Proofs.YtmongcpaphifaaaDoor
