/- The examples of fold. -/
import Derived.Test.YtddjfeofmihgdaaDoorUh
namespace Go.Proofs.YtddjfeofmihgdaaDoor
open Go.RowKit
set_option linter.unusedVariables false
set_option linter.unusedSimpArgs false

def x80 : BL := List.replicate 80 120
theorem ex_fold : foldV [x80] = x80.take 75 ++ [13, 10, 32] ++ x80.take 5 ++ [13, 10] ∧ foldN [x80] 1 = (0, 0) := by decide +kernel
theorem ex_unf : unfoldN [97, 13, 10, 32, 98, 10, 10, 99] = (0, 0, [(1, [97, 98]), (4, [99])]) := by decide +kernel
theorem ex_bad : unfoldN [32, 97] = (11, 1, []) := by decide +kernel
theorem ErrIs.none {v : Value} {w : World} (h : ErrIs v 0 0 w) : v = .nilIface := by
  rcases h with ⟨h, _⟩ | ⟨h, _⟩
  · exact h
  · omega
theorem ErrIs.some {v : Value} {k n : Int} {w : World} (h : ErrIs v k n w) (hn : n ≠ 0) : ∃ b, v = errF b ∧ FaultIn b k n w := by
  rcases h with ⟨_, _, h⟩ | ⟨_, _, b, h, h2⟩
  · exact absurd h hn
  · exact ⟨b, h, h2⟩
theorem rows2 (w : World) (a b : Nat) (s t : BL) (T : TypeId) : RowsIn (w.alloc (.cells #[iv a, .string (strOf s), iv b, .string (strOf t)] T)) (Option.some ⟨w.heap.size, 0, Option.none⟩) [(a, s), (b, t)] := .inr ⟨_, _, rfl, fun i hi => by
  match i, hi with
  | 0, _ => exact ⟨by go_simp, by go_simp⟩
  | 1, _ => exact ⟨by go_simp, by go_simp⟩⟩
theorem wp_bs_row2 {o : Oper} {a : Act} {w : World} {K : Act → World → Prop} {Q : Exit → Act → World → Prop} (x y : Operand) (ho : o.op = .buildSlice 32 2 #[(0, x), (1, y)]) {u u' v v' : Value} (hx : a.eval x = .agg #[u, u']) (hy : a.eval y = .agg #[v, v']) (h1 : u.oneCell' = true) (h2 : u'.oneCell' = true) (h3 : v.oneCell' = true) (h4 : v'.oneCell' = true)
    (h : K (a.put o.dst (.slice (Option.some ⟨w.heap.size, 0, Option.none⟩) 2 2)) (w.alloc (.cells #[u, u', v, v'] 40))) : o.wp Tryd.prog a w K Q := by
  obtain ⟨i, hi, hz, hs, _⟩ := infoParts _ _ _ _ infoRow
  refine wp_buildSlice 32 40 2 _ ho #[u, u', v, v'] i (.agg #[iv 0, .string ⟨#[]⟩]) Tryd.underlying32 hi hz (by rw [hs]; decide) (by rw [hs]; decide) ?_ h
  rw [hs]
  simp only [List.map_toArray, List.map_cons, List.map_nil, hx, hy]
  kernel_rfl
set_option maxRecDepth 100000 in
set_option maxHeartbeats 8000000 in
theorem alive_calls (x : Addr) (m : Int) (w : World) (hg : Glob x m w) :
    Calls Tryd.prog 10 #[] w fun e w' => e = .returned (.bool true) ∧ Below w.heap.size w w' := by
  have HG := Lib.hid hg
  clear hg
  go_enter Tryd.func10, Tryd.ntmps10
  go_wp2_with fail
  go_loop [1, 8] (fun v i => ∃ k : Nat, k ≤ 80 ∧ i = iv k ∧ v = .string (strOf (List.replicate k 120))) (fun _ i => (80 - intOf i).toNat)
  case atStart => exact ⟨0, Nat.zero_le _, rfl, rfl⟩
  case round =>
    obtain ⟨k, hk, rfl, rfl⟩ := hrel
    by_cases hlt : k < 80
    · have hlt' : (k : Int) < 80 := by omega
      have zs : ¬ 9223372036854775807 < (strOf (List.replicate k 120)).size + (⟨#[120]⟩ : ByteArray).size := by rw [strOf_size, List.length_replicate]; show ¬ _ < k + 1; omega
      have e : strOf (List.replicate k 120) ++ ⟨#[120]⟩ = strOf (List.replicate (k + 1) 120) := by
        rw [show (⟨#[120]⟩ : ByteArray) = strOf [120] from rfl, strOf_append, List.replicate_succ']
      have E := Lib.hid e
      clear e
      go_wp2_with fail
      go_round
      case rel => exact ⟨k + 1, by omega, by go_num, by rw [← E.out]⟩
      case measure => simp [intOf]; omega
    · obtain rfl : k = 80 := by omega
      rw [show List.replicate 80 (120 : UInt8) = x80 from rfl]
      go_wp2_with (refine wpList_bs_str1 rfl _ rfl rfl ?_)
      have HF := Lib.hid (fold_calls x m (some ⟨w.heap.size, 0, none⟩) 1 [strOf x80] (w.alloc (.cells #[.string (strOf x80)] 9)) (HG.out.below (below_alloc _ _)) (strs1 w _ _) (by simp) (by intro s hs; rw [List.mem_singleton.1 hs, strOf_size]; simp [x80]))
      rw [show [strOf x80].map bts = [x80] from rfl, ex_fold.1, ex_fold.2] at HF
      refine HF.out.mono ?_
      rintro e w1 ⟨⟨ev, rfl, ee⟩, b1⟩
      obtain rfl := ee.none
      have B1 := Lib.hid ((below_alloc w (.cells #[.string (strOf x80)] 9)).trans (b1.mono (by simp)))
      clear b1 ee HF
      have HU := Lib.hid (unfold_calls x m ⟨#[97, 13, 10, 32, 98, 10, 10, 99]⟩ w1 (HG.out.below B1.out) (by decide))
      rw [show bts ⟨#[97, 13, 10, 32, 98, 10, 10, 99]⟩ = [97, 13, 10, 32, 98, 10, 10, 99] from rfl, ex_unf] at HU
      go_wp2_with fail
      refine HU.out.mono ?_
      rintro e w2 ⟨⟨v2, ev2, rfl, ro2, ee2⟩, b2⟩
      obtain rfl := ErrIs.none (by simpa using ee2)
      obtain ⟨a2, c2, rfl, in2, _, _⟩ := ro2.slice
      have B2 := Lib.hid (B1.out.trans (b2.mono B1.out.size))
      have IN2 := Lib.hid in2
      clear b2 ee2 HU ro2 in2
      have HV := Lib.hid (unfold_calls x m ⟨#[32, 97]⟩ w2 (HG.out.below B2.out) (by decide))
      rw [show bts ⟨#[32, 97]⟩ = [32, 97] from rfl, ex_bad] at HV
      go_wp2_with fail
      refine HV.out.mono ?_
      rintro e w3 ⟨⟨v3, ev3, rfl, _, ee3⟩, b3⟩
      obtain ⟨bg, rfl, fi⟩ := ee3.some (by decide)
      have B3 := Lib.hid (B2.out.trans (b3.mono B2.out.size))
      have IN3 := Lib.hid (IN2.out.below b3)
      have FI := Lib.hid fi
      clear b3 ee3 HV IN2 fi
      go_wp2_with fail
      have hxs : (strOf x80).size = 80 := by rw [strOf_size]; rfl
      have q75 := fun w => run_slice_string_h (P := Tryd.prog) w 9 (strOf x80) Tryd.underlying9 .i64 75 (by omega) (by omega)
      have q5 := fun w => run_slice_string_h (P := Tryd.prog) w 9 (strOf x80) Tryd.underlying9 .i64 5 (by omega) (by omega)
      rw [show (strOf x80).extract 0 (Int.toNat 75) = strOf (x80.take 75) from ba_ext (by rw [bts_to]; rfl)] at q75
      rw [show (strOf x80).extract 0 (Int.toNat 5) = strOf (x80.take 5) from ba_ext (by rw [bts_to]; rfl)] at q5
      have l75 : (x80.take 75).length = 75 := rfl
      have l5 : (x80.take 5).length = 5 := rfl
      generalize x80.take 75 = y at *
      generalize x80.take 5 = z at *
      have hys : (strOf y).size = 75 := by rw [strOf_size]; exact l75
      have hzs : (strOf z).size = 5 := by rw [strOf_size]; exact l5
      have hl3 : (⟨#[13, 10, 32]⟩ : ByteArray).size = 3 := rfl
      have hl2 : (⟨#[13, 10]⟩ : ByteArray).size = 2 := rfl
      have z1 : ¬ 9223372036854775807 < (strOf y).size + (⟨#[13, 10, 32]⟩ : ByteArray).size := by rw [strOf_size, l75]; decide
      have z2 : ¬ 9223372036854775807 < (strOf y ++ ⟨#[13, 10, 32]⟩).size + (strOf z).size := by rw [show (⟨#[13, 10, 32]⟩ : ByteArray) = strOf [13, 10, 32] from rfl, strOf_append, strOf_size, strOf_size, List.length_append, l75, l5]; decide
      have z3 : ¬ 9223372036854775807 < (strOf y ++ ⟨#[13, 10, 32]⟩ ++ strOf z).size + (⟨#[13, 10]⟩ : ByteArray).size := by rw [show (⟨#[13, 10, 32]⟩ : ByteArray) = strOf [13, 10, 32] from rfl, strOf_append, strOf_append, strOf_size, List.length_append, List.length_append, l75, l5]; decide
      have ze : ((strOf (y ++ 13 :: 10 :: 32 :: (z ++ [13, 10]))).toList == (strOf y ++ ⟨#[13, 10, 32]⟩ ++ strOf z ++ ⟨#[13, 10]⟩).toList) = true := by
        rw [show strOf y ++ ⟨#[13, 10, 32]⟩ ++ strOf z ++ ⟨#[13, 10]⟩ = strOf (y ++ 13 :: 10 :: 32 :: (z ++ [13, 10])) by
          rw [show (⟨#[13, 10, 32]⟩ : ByteArray) = strOf [13, 10, 32] from rfl, show (⟨#[13, 10]⟩ : ByteArray) = strOf [13, 10] from rfl, strOf_append, strOf_append, strOf_append]; simp]
        exact beq_self_eq_true _
      have HD := Lib.hid (below_draws (Below.refl w3.heap.size w3) 1)
      have hD : ∀ (l : Array Bool) (w : World), Ahead [] (fun _ => True) (fun _ => True) l w := fun _ _ => ⟨trivial, fun _ => trivial⟩
      clear hxs l75 l5
      refine region_instep (D := Ahead [] (fun _ => True) (fun _ => True)) (by kernel_rfl) ?_
      refine ahead_take (i := 0) (oi := _) (v := ?_) rfl (by kernel_rfl) (by kernel_rfl) (by kernel_rfl) rfl (fun _ _ _ h => h) (hD _ _) (Or.inl ⟨by kernel_rfl, ?_⟩) ?_
      rotate_left
      · (intro w hSw; (try dsimp only at hSw); go_simp; with_reducible rfl)
      try simp only [Act.put, List.setIfInBounds_toArray, List.set_cons_zero, List.set_cons_succ]
      refine ahead_take (i := 1) (oi := _) (v := ?_) rfl (by kernel_rfl) (by kernel_rfl) (by kernel_rfl) rfl (fun _ _ _ h => h) (hD _ _) (Or.inl ⟨by kernel_rfl, ?_⟩) ?_
      rotate_left
      · (intro w hSw; (try dsimp only at hSw); go_simp; with_reducible rfl)
      try simp only [Act.put, List.setIfInBounds_toArray, List.set_cons_zero, List.set_cons_succ]
      refine ahead_take (i := 2) (oi := _) (v := ?_) rfl (by kernel_rfl) (by kernel_rfl) (by kernel_rfl) rfl (fun _ _ _ h => h) (hD _ _) (Or.inl ⟨by kernel_rfl, ?_⟩) ?_
      rotate_left
      · (intro w hSw; (try dsimp only at hSw); go_simp; with_reducible rfl)
      try simp only [Act.put, List.setIfInBounds_toArray, List.set_cons_zero, List.set_cons_succ]
      refine ahead_take (i := 3) (oi := _) (v := ?_) rfl (by kernel_rfl) (by kernel_rfl) (by kernel_rfl) rfl (fun _ _ _ h => h) (hD _ _) (Or.inl ⟨by kernel_rfl, ?_⟩) ?_
      rotate_left
      · (intro w hSw; (try dsimp only at hSw); go_simp; with_reducible rfl)
      try simp only [Act.put, List.setIfInBounds_toArray, List.set_cons_zero, List.set_cons_succ]
      refine ahead_take (i := 4) (oi := _) (v := ?_) rfl (by kernel_rfl) (by kernel_rfl) (by kernel_rfl) rfl (fun _ _ _ h => h) (hD _ _) (Or.inl ⟨by kernel_rfl, ?_⟩) ?_
      rotate_left
      · (intro w hSw; (try dsimp only at hSw); go_simp; with_reducible rfl)
      try simp only [Act.put, List.setIfInBounds_toArray, List.set_cons_zero, List.set_cons_succ]
      refine ahead_take (i := 5) (oi := _) (v := ?_) rfl (by kernel_rfl) (by kernel_rfl) (by kernel_rfl) rfl (fun _ _ _ h => h) (hD _ _) (Or.inl ⟨by kernel_rfl, ?_⟩) ?_
      rotate_left
      · (intro w hSw; (try dsimp only at hSw); go_simp; with_reducible rfl)
      try simp only [Act.put, List.setIfInBounds_toArray, List.set_cons_zero, List.set_cons_succ]
      refine ahead_take (i := 6) (oi := _) (v := ?_) rfl (by kernel_rfl) (by kernel_rfl) (by kernel_rfl) rfl (fun _ _ _ h => h) (hD _ _) (Or.inl ⟨by kernel_rfl, ?_⟩) ?_
      rotate_left
      · (intro w hSw; (try dsimp only at hSw); go_simp; with_reducible rfl)
      try simp only [Act.put, List.setIfInBounds_toArray, List.set_cons_zero, List.set_cons_succ]
      refine ahead_take (i := 7) (oi := _) (v := ?_) rfl (by kernel_rfl) (by kernel_rfl) (by kernel_rfl) rfl (fun _ _ _ h => h) (hD _ _) (Or.inl ⟨by kernel_rfl, ?_⟩) ?_
      rotate_left
      · (intro w hSw; (try dsimp only at hSw); go_simp; with_reducible rfl)
      try simp only [Act.put, List.setIfInBounds_toArray, List.set_cons_zero, List.set_cons_succ]
      refine ahead_take (i := 8) (oi := _) (v := ?_) rfl (by kernel_rfl) (by kernel_rfl) (by kernel_rfl) rfl (fun _ _ _ h => h) (hD _ _) (Or.inl ⟨by kernel_rfl, ?_⟩) ?_
      rotate_left
      · (intro w hSw; (try dsimp only at hSw); go_simp; with_reducible rfl)
      try simp only [Act.put, List.setIfInBounds_toArray, List.set_cons_zero, List.set_cons_succ]
      refine ahead_take (i := 9) (oi := _) (v := ?_) rfl (by kernel_rfl) (by kernel_rfl) (by kernel_rfl) rfl (fun _ _ _ h => h) (hD _ _) (Or.inl ⟨by kernel_rfl, ?_⟩) ?_
      rotate_left
      · (intro w hSw; (try dsimp only at hSw); go_simp; with_reducible rfl)
      try simp only [Act.put, List.setIfInBounds_toArray, List.set_cons_zero, List.set_cons_succ]
      refine ahead_take (i := 10) (oi := _) (v := ?_) rfl (by kernel_rfl) (by kernel_rfl) (by kernel_rfl) rfl (fun _ _ _ h => h) (hD _ _) (Or.inl ⟨by kernel_rfl, ?_⟩) ?_
      rotate_left
      · (intro w hSw; (try dsimp only at hSw); go_simp; with_reducible rfl)
      try simp only [Act.put, List.setIfInBounds_toArray, List.set_cons_zero, List.set_cons_succ]
      refine ahead_take (i := 12) (oi := _) (v := ?_) rfl (by kernel_rfl) (by kernel_rfl) (by kernel_rfl) rfl (fun _ _ _ h => h) (hD _ _) (Or.inl ⟨by kernel_rfl, ?_⟩) ?_
      rotate_left
      · (intro w hSw; (try dsimp only at hSw); go_simp; with_reducible rfl)
      try simp only [Act.put, List.setIfInBounds_toArray, List.set_cons_zero, List.set_cons_succ]
      refine instep_one (i := 11) (o := _) (by kernel_rfl) rfl (fun K1 hK1 => ?_)
      go_simp
      refine (no_nil _).mono ?_
      rintro e w' ⟨rfl, rfl⟩
      go_simp
      refine hK1.out _ _ (hD _ _) (fun _ => ?_)
      clear hK1 K1
      try simp only [Act.put, List.setIfInBounds_toArray, List.set_cons_zero, List.set_cons_succ]
      refine instep_one (i := 13) (o := _) (by kernel_rfl) rfl (fun K1 hK1 => ?_)
      go_simp
      refine (no_nil _).mono ?_
      rintro e w' ⟨rfl, rfl⟩
      go_simp
      refine hK1.out _ _ (hD _ _) (fun _ => ?_)
      clear hK1 K1
      try simp only [Act.put, List.setIfInBounds_toArray, List.set_cons_zero, List.set_cons_succ]
      refine ahead_take (i := 14) (oi := _) (v := ?_) rfl (by kernel_rfl) (by kernel_rfl) (by kernel_rfl) rfl (fun _ _ _ h => h) (hD _ _) (Or.inl ⟨by kernel_rfl, ?_⟩) ?_
      rotate_left
      · (intro w hSw; (try dsimp only at hSw); go_simp; with_reducible rfl)
      try simp only [Act.put, List.setIfInBounds_toArray, List.set_cons_zero, List.set_cons_succ]
      refine ahead_take (i := 15) (oi := _) (v := ?_) rfl (by kernel_rfl) (by kernel_rfl) (by kernel_rfl) rfl (fun _ _ _ h => h) (hD _ _) (Or.inl ⟨by kernel_rfl, ?_⟩) ?_
      rotate_left
      · (intro w hSw; (try dsimp only at hSw); go_simp; with_reducible rfl)
      try simp only [Act.put, List.setIfInBounds_toArray, List.set_cons_zero, List.set_cons_succ]
      refine ahead_take (i := 16) (oi := _) (v := ?_) rfl (by kernel_rfl) (by kernel_rfl) (by kernel_rfl) rfl (fun _ _ _ h => h) (hD _ _) (Or.inl ⟨by kernel_rfl, ?_⟩) ?_
      rotate_left
      · (intro w hSw; (try dsimp only at hSw); go_simp; with_reducible rfl)
      try simp only [Act.put, List.setIfInBounds_toArray, List.set_cons_zero, List.set_cons_succ]
      refine ahead_take (i := 17) (oi := _) (v := ?_) rfl (by kernel_rfl) (by kernel_rfl) (by kernel_rfl) rfl (fun _ _ _ h => h) (hD _ _) (Or.inl ⟨by kernel_rfl, ?_⟩) ?_
      rotate_left
      · (intro w hSw; (try dsimp only at hSw); go_simp; with_reducible rfl)
      try simp only [Act.put, List.setIfInBounds_toArray, List.set_cons_zero, List.set_cons_succ]
      refine ahead_take (i := 18) (oi := _) (v := ?_) rfl (by kernel_rfl) (by kernel_rfl) (by kernel_rfl) rfl (fun _ _ _ h => h) (hD _ _) (Or.inl ⟨by kernel_rfl, ?_⟩) ?_
      rotate_left
      · (intro w hSw; (try dsimp only at hSw); go_simp; with_reducible rfl)
      try simp only [Act.put, List.setIfInBounds_toArray, List.set_cons_zero, List.set_cons_succ]
      refine ahead_take (i := 19) (oi := _) (v := ?_) rfl (by kernel_rfl) (by kernel_rfl) (by kernel_rfl) rfl (fun _ _ _ h => h) (hD _ _) (Or.inl ⟨by kernel_rfl, ?_⟩) ?_
      rotate_left
      · (intro w hSw; (try dsimp only at hSw); go_simp; with_reducible rfl)
      try simp only [Act.put, List.setIfInBounds_toArray, List.set_cons_zero, List.set_cons_succ]
      refine ahead_take (i := 20) (oi := _) (v := ?_) rfl (by kernel_rfl) (by kernel_rfl) (by kernel_rfl) rfl (fun _ _ _ h => h) (hD _ _) (Or.inl ⟨by kernel_rfl, ?_⟩) ?_
      rotate_left
      · (intro w hSw; (try dsimp only at hSw); go_simp; with_reducible rfl)
      try simp only [Act.put, List.setIfInBounds_toArray, List.set_cons_zero, List.set_cons_succ]
      refine instep_one (i := 21) (o := _) (by kernel_rfl) rfl (fun K1 hK1 => ?_)
      rw [if_pos (by kernel_rfl)]
      refine wp_bs_row2 _ _ rfl (u := iv 1) (u' := .string (strOf [97, 98])) (v := iv 4) (v' := .string (strOf [99])) rfl rfl rfl rfl rfl rfl ?_
      have bS := HD.out.alloc (by simp) (.cells #[iv 1, .string (strOf [97, 98]), iv 4, .string (strOf [99])] 40)
      have HSa := Lib.hid (same_calls a2 (some ⟨w3.drew.heap.size, 0, none⟩) c2 2 [(1, [97, 98]), (4, [99])] [(1, [97, 98]), (4, [99])] _ (IN3.out.below bS) (rows2 w3.drew 1 4 [97, 98] [99] 40) (by decide) (by decide))
      have BS := Lib.hid bS
      clear bS
      refine hK1.out _ _ (hD _ _) (fun _ => ?_)
      clear hK1 K1
      try simp only [Act.put, List.setIfInBounds_toArray, List.set_cons_zero, List.set_cons_succ]
      refine instep_one (i := 22) (o := _) (by kernel_rfl) rfl (fun K1 hK1 => ?_)
      go_simp
      refine HSa.out.mono ?_
      rintro e w6 ⟨rfl, b6⟩
      have B6 := Lib.hid (BS.out.trans (b6.mono (by simp)))
      clear b6
      rw [show sameRows [(1, [97, 98]), (4, [99])] [(1, [97, 98]), (4, [99])] = true from decide_eq_true rfl]
      go_simp
      refine hK1.out _ _ (hD _ _) (fun _ => ?_)
      clear hK1 K1
      try simp only [Act.put, List.setIfInBounds_toArray, List.set_cons_zero, List.set_cons_succ]
      refine ahead_take (i := 23) (oi := _) (v := ?_) rfl (by kernel_rfl) (by kernel_rfl) (by kernel_rfl) rfl (fun _ _ _ h => h) (hD _ _) (Or.inl ⟨by kernel_rfl, ?_⟩) ?_
      rotate_left
      · (intro w hSw; (try dsimp only at hSw); go_simp; with_reducible rfl)
      try simp only [Act.put, List.setIfInBounds_toArray, List.set_cons_zero, List.set_cons_succ]
      refine ahead_take (i := 24) (oi := _) (v := ?_) rfl (by kernel_rfl) (by kernel_rfl) (by kernel_rfl) rfl (fun _ _ _ h => h) (hD _ _) (Or.inl ⟨by kernel_rfl, ?_⟩) ?_
      rotate_left
      · (intro w hSw; (try dsimp only at hSw); go_simp; with_reducible rfl)
      try simp only [Act.put, List.setIfInBounds_toArray, List.set_cons_zero, List.set_cons_succ]
      refine ahead_take (i := 25) (oi := _) (v := ?_) rfl (by kernel_rfl) (by kernel_rfl) (by kernel_rfl) rfl (fun _ _ _ h => h) (hD _ _) (Or.inl ⟨by kernel_rfl, ?_⟩) ?_
      rotate_left
      · (intro w hSw; (try dsimp only at hSw); go_simp; with_reducible rfl)
      try simp only [Act.put, List.setIfInBounds_toArray, List.set_cons_zero, List.set_cons_succ]
      refine instep_one (i := 26) (o := _) (by kernel_rfl) rfl (fun K1 hK1 => ?_)
      go_simp
      refine (no_fault bg 1 11 _ (FI.out.below B6.out) (by decide) (by decide)).mono ?_
      rintro e w' ⟨rfl, rfl⟩
      go_simp
      refine hK1.out _ _ (hD _ _) (fun _ => ?_)
      clear hK1 K1
      try simp only [Act.put, List.setIfInBounds_toArray, List.set_cons_zero, List.set_cons_succ]
      refine ahead_take (i := 27) (oi := _) (v := ?_) rfl (by kernel_rfl) (by kernel_rfl) (by kernel_rfl) rfl (fun _ _ _ h => h) (hD _ _) (Or.inl ⟨by kernel_rfl, ?_⟩) ?_
      rotate_left
      · (intro w hSw; (try dsimp only at hSw); go_simp; with_reducible rfl)
      try simp only [Act.put, List.setIfInBounds_toArray, List.set_cons_zero, List.set_cons_succ]
      refine ahead_take (i := 28) (oi := _) (v := ?_) rfl (by kernel_rfl) (by kernel_rfl) (by kernel_rfl) rfl (fun _ _ _ h => h) (hD _ _) (Or.inl ⟨by kernel_rfl, ?_⟩) ?_
      rotate_left
      · (intro w hSw; (try dsimp only at hSw); go_simp; with_reducible rfl)
      try simp only [Act.put, List.setIfInBounds_toArray, List.set_cons_zero, List.set_cons_succ]
      refine ahead_take (i := 29) (oi := _) (v := ?_) rfl (by kernel_rfl) (by kernel_rfl) (by kernel_rfl) rfl (fun _ _ _ h => h) (hD _ _) (Or.inl ⟨by kernel_rfl, ?_⟩) ?_
      rotate_left
      · (intro w hSw; (try dsimp only at hSw); go_simp; with_reducible rfl)
      try simp only [Act.put, List.setIfInBounds_toArray, List.set_cons_zero, List.set_cons_succ]
      refine ahead_take (i := 30) (oi := _) (v := ?_) rfl (by kernel_rfl) (by kernel_rfl) (by kernel_rfl) rfl (fun _ _ _ h => h) (hD _ _) (Or.inl ⟨by kernel_rfl, ?_⟩) ?_
      rotate_left
      · (intro w hSw; (try dsimp only at hSw); go_simp; with_reducible rfl)
      try simp only [Act.put, List.setIfInBounds_toArray, List.set_cons_zero, List.set_cons_succ]
      refine instep_one (i := 31) (o := _) (by kernel_rfl) rfl (fun K1 hK1 => ?_)
      go_simp
      refine (place_fault bg 1 11 _ (FI.out.below B6.out) (HG.out.below (B3.out.trans (B6.out.mono B3.out.size))).ty).mono ?_
      rintro e w7 ⟨rfl, b7⟩
      have B7 := Lib.hid b7
      clear b7
      go_simp
      refine hK1.out _ _ (hD _ _) (fun _ => ?_)
      clear hK1 K1
      try simp only [Act.put, List.setIfInBounds_toArray, List.set_cons_zero, List.set_cons_succ]
      refine ahead_take (i := 32) (oi := _) (v := ?_) rfl (by kernel_rfl) (by kernel_rfl) (by kernel_rfl) rfl (fun _ _ _ h => h) (hD _ _) (Or.inl ⟨by kernel_rfl, ?_⟩) ?_
      rotate_left
      · (intro w hSw; (try dsimp only at hSw); go_simp; with_reducible rfl)
      try simp only [Act.put, List.setIfInBounds_toArray, List.set_cons_zero, List.set_cons_succ]
      refine ahead_take (i := 33) (oi := _) (v := ?_) rfl (by kernel_rfl) (by kernel_rfl) (by kernel_rfl) rfl (fun _ _ _ h => h) (hD _ _) (Or.inl ⟨by kernel_rfl, ?_⟩) ?_
      rotate_left
      · (intro w hSw; (try dsimp only at hSw); go_simp; with_reducible rfl)
      try simp only [Act.put, List.setIfInBounds_toArray, List.set_cons_zero, List.set_cons_succ]
      refine ahead_take (i := 34) (oi := _) (v := ?_) rfl (by kernel_rfl) (by kernel_rfl) (by kernel_rfl) rfl (fun _ _ _ h => h) (hD _ _) (Or.inl ⟨by kernel_rfl, ?_⟩) ?_
      rotate_left
      · (intro w hSw; (try dsimp only at hSw); go_simp; with_reducible rfl)
      try simp only [Act.put, List.setIfInBounds_toArray, List.set_cons_zero, List.set_cons_succ]
      refine instep_done (by kernel_rfl) ?_ _
      go_wp2_with fail
      go_ret
      exact ⟨rfl, B3.out.trans ((B6.out.trans (B7.out.mono B6.out.size)).mono B3.out.size)⟩
end Go.Proofs.YtddjfeofmihgdaaDoor
