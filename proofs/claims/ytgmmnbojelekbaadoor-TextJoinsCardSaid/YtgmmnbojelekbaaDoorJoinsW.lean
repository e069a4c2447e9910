/- TextJoins: the walk. -/
import Derived.Test.YtgmmnbojelekbaaDoorBackW
import Derived.Test.YtgmmnbojelekbaaDoorCp
namespace Go.Proofs.YtgmmnbojelekbaaDoor
open Go.RowKit
set_option linter.unusedVariables false
set_option linter.unusedSimpArgs false

/-- A byte that is no sign of its own. -/
def plain1 (c : UInt8) : Bool := (decide (97 ≤ c.toNat) && decide (c.toNat ≤ 122)) || c == 32
theorem esc_plain : ∀ {l : List UInt8}, l.all plain1 = true → esc l = some l
  | [], _ => rfl
  | c :: l, h => by
    rw [List.all_cons, Bool.and_eq_true] at h
    have i := esc_plain h.2
    have hc : esc1 c = some [c] := by
      have h1 := h.1
      unfold plain1 at h1
      simp at h1
      unfold esc1 may sign3
      have n10 : c ≠ 10 := by rintro rfl; exact absurd h1 (by decide)
      have n92 : c ≠ 92 := by rintro rfl; exact absurd h1 (by decide)
      have n59 : c ≠ 59 := by rintro rfl; exact absurd h1 (by decide)
      have n44 : c ≠ 44 := by rintro rfl; exact absurd h1 (by decide)
      have n127 : c ≠ 127 := by rintro rfl; exact absurd h1 (by decide)
      have h32 : 32 ≤ c.toNat := by
        rcases h1 with h1 | rfl
        · omega
        · decide
      simp [n10, n92, n59, n44, n127, h32]
    rw [esc, hc, i]; rfl
theorem row_join {l m : List (List UInt8)} {a b : List UInt8} (hl : l ≠ []) (hm : m ≠ []) (ha : rowO l = some a) (hb : rowO m = some b) : rowO (l ++ m) = some (a ++ 44 :: b) := by
  unfold rowO at *
  rcases h1 : escAll l with _ | es
  · rw [h1] at ha; simp at ha
  · rcases h2 : escAll m with _ | fs
    · rw [h2] at hb; simp at hb
    · rw [h1] at ha; rw [h2] at hb
      simp at ha hb
      subst ha hb
      rw [escAll_append, h1, h2]
      show some (join 44 (es ++ fs)) = _
      rw [join_append]
      · intro e; exact hl (List.eq_nil_of_length_eq_zero (by rw [← escAll_length h1, e]; rfl))
      · intro e; exact hm (List.eq_nil_of_length_eq_zero (by rw [← escAll_length h2, e]; rfl))
theorem own_zero (w : World) : StrOwn w.heap.size (.slice (some ⟨w.heap.size, 0, none⟩) 0 0) [] (w.alloc (.cells #[] 9)) :=
  World.ownsRow_lit (base := w.heap.size) (e := 9) (size := 1) w #[] 0 (Nat.le_refl _) (by unfold maxLen; omega) rfl

set_option maxRecDepth 100000 in
set_option maxHeartbeats 4000000 in
theorem textJoins_walk (x : Addr) (a : Option Addr) (cap : Nat) (l : List ByteArray) (a' : Option Addr) (cap' : Nat) (m : List ByteArray) (w : World) (hx : Laid x w) (hl : StrsIn w a l) (hsm : Small l) (hm : StrsIn w a' m) (hsn : Small m) :
    Calls Tryd.prog 8 #[.slice a l.length cap, .slice a' m.length cap'] w fun e w' => e = .returned (.bool true) ∧ Below w.heap.size w w' := by
  have hf := few_calls a cap l w hl hsm
  have hg := few_calls a' cap' m w hm hsn
  rcases hb : fewB l with _ | _
  · rw [hb] at hf
    clear hb
    go_enter Tryd.func8, Tryd.ntmps8
    go_wp2_with fail
    refine (hf).mono ?_; rintro e w' ⟨rfl, rfl⟩
    go_wp2_with fail
    refine (alive_calls x w hx).mono ?_; rintro e w1 ⟨rfl, b1⟩
    go_wp2_with fail
    go_ret
    exact ⟨rfl, b1⟩
  · rw [hb] at hf
    rcases hc : fewB m with _ | _
    · rw [hc] at hg
      clear hb hc
      go_enter Tryd.func8, Tryd.ntmps8
      go_wp2_with fail
      refine (hf).mono ?_; rintro e w' ⟨rfl, rfl⟩
      go_wp2_with fail
      refine (hg).mono ?_; rintro e w' ⟨rfl, rfl⟩
      go_wp2_with fail
      refine (alive_calls x w hx).mono ?_; rintro e w1 ⟨rfl, b1⟩
      go_wp2_with fail
      go_ret
      exact ⟨rfl, b1⟩
    · rw [hc] at hg
      obtain ⟨f1, f2, f3⟩ := few_spec hb
      obtain ⟨g1, g2, g3⟩ := few_spec hc
      have F3 := Lib.hid f3
      have p1 := list_calls x a cap l w hx hl (by omega) (by omega)
      have p2 := fun (w : World) (hx : Laid x w) (hm : StrsIn w a' m) => list_calls x a' cap' m w hx hm (by omega) (by omega)
      have p3 := fun (w : World) (b : Option Addr) (c : Nat) (hx : Laid x w) (h : StrsIn w b (l ++ m)) => list_calls x b c (l ++ m) w hx h (by rw [List.length_append]; omega) (by rw [flat_append, List.length_append]; omega)
      have key : ∀ u v, (if l = [] then none else rowO (l.map bts)) = some u → (if m = [] then none else rowO (m.map bts)) = some v → (if l ++ m = [] then none else rowO ((l ++ m).map bts)) = some (u ++ 44 :: v) ∧ u.length ≤ 10000 ∧ v.length ≤ 10000 := fun u v h1 h2 => by
        by_cases e1 : l = []
        · rw [if_pos e1] at h1; cases h1
        · by_cases e2 : m = []
          · rw [if_pos e2] at h2; cases h2
          · rw [if_neg e1] at h1
            rw [if_neg e2] at h2
            rw [if_neg (by simp [e1]), List.map_append]
            have := row_len h1
            have := row_len h2
            exact ⟨row_join (by intro e; exact e1 (List.map_eq_nil_iff.1 e)) (by intro e; exact e2 (List.map_eq_nil_iff.1 e)) h1 h2, by omega, by omega⟩
      simp only [saidV_eq] at p1 p2 p3
      simp only [List.length_append] at p3
      generalize (if l = [] then none else rowO (l.map bts)) = O1 at p1 key
      generalize (if m = [] then none else rowO (m.map bts)) = O2 at p2 key
      generalize (if l ++ m = [] then none else rowO ((l ++ m).map bts)) = O3 at p3 key
      have KEY := Lib.hid key
      clear key hb hc f3 g3
      go_enter Tryd.func8, Tryd.ntmps8
      go_wp2_with fail
      refine (hf).mono ?_; rintro e w' ⟨rfl, rfl⟩
      go_wp2_with fail
      refine (hg).mono ?_; rintro e w' ⟨rfl, rfl⟩
      go_wp2_with fail
      refine (p1).mono ?_; rintro e w1 ⟨rfl, b1⟩
      have x1 := hx.below b1
      have l1 := hl.below b1
      have m1 := hm.below b1
      go_wp2_with fail
      refine (p2 w1 x1 m1).mono ?_; rintro e w2 ⟨rfl, b2⟩
      have x2 := x1.below b2
      have l2 := l1.below b2
      have m2 := m1.below b2
      have b02 := below_then b1 b2
      have Z := own_zero w2
      have l2' := l2.below (below_alloc w2 (.cells #[] 9))
      clear p1 p2 hf hg x1 l1 m1 b1 b2 hx hl hm
      go_wp2_with (at_builtin; refine wpList_app_strs rfl _ _ rfl w2.heap.size (.slice (some ⟨w2.heap.size, 0, none⟩) 0 0) [] rfl Z a cap l rfl l2' (by simp; omega) (by simp) ?_)
      intro v3 w3 o3 b3
      have bz : Below w2.heap.size w2 w3 := (below_alloc w2 (.cells #[] 9)).trans b3
      have m3 := m2.below bz
      clear Z
      go_wp2_with (at_builtin; refine wpList_app_strs rfl _ _ rfl w2.heap.size v3 l rfl (by simpa using o3) a' cap' m rfl m3 (by omega) bz.size ?_)
      intro v4 w4 o4 b4
      have by4 : Below w2.heap.size w2 w4 := bz.trans b4
      obtain ⟨a4, c4, rfl, i4, y4⟩ := o4.slice
      have x4 := x2.below by4
      have l4 := l2.below by4
      have b04 := below_then b02 by4
      clear o3 o4 bz b3 b4 by4 m3 m2 x2 l2 l2' b02
      go_wp2_with fail
      refine (p3 w4 a4 c4 x4 i4).mono ?_; rintro e w5 ⟨rfl, b5⟩
      have x5 := x4.below b5
      have l5 := l4.below b5
      have b05 := below_then b04 b5
      have n1 := no_errS O1 w5
      have n2 := no_errS O2 w5
      have n3 := no_errS O3 w5
      clear p3 x4 l4 i4 b5 b04
      go_upto_region 6 with fail
      go_cut [63] (fun c wc => c = .bool false ∧ wc = w5)
      case first =>
        rcases O1 with _ | u
        · rcases O2 with _ | v
          · have q1 : noI (none : Option (List UInt8)) = 11 := rfl
            go_wp2_with fail
            refine (n1).mono ?_; rintro e w' ⟨rfl, rfl⟩
            go_wp2_with fail
            refine (n2).mono ?_; rintro e w' ⟨rfl, rfl⟩
            go_wp2_with fail
            go_meet
            case rel => exact ⟨rfl, rfl⟩
          · have q1 : noI (none : Option (List UInt8)) = 11 := rfl
            have q2 : noI (some v) = 0 := rfl
            go_wp2_with fail
            refine (n1).mono ?_; rintro e w' ⟨rfl, rfl⟩
            go_wp2_with fail
            refine (n2).mono ?_; rintro e w' ⟨rfl, rfl⟩
            go_wp2_with fail
            go_meet
            case rel => exact ⟨rfl, rfl⟩
        · rcases O2 with _ | v
          · have q1 : noI (none : Option (List UInt8)) = 11 := rfl
            have q2 : noI (some u) = 0 := rfl
            go_wp2_with fail
            refine (n1).mono ?_; rintro e w' ⟨rfl, rfl⟩
            go_wp2_with fail
            refine (n2).mono ?_; rintro e w' ⟨rfl, rfl⟩
            go_wp2_with fail
            go_meet
            case rel => exact ⟨rfl, rfl⟩
          · obtain ⟨rfl, e1, e2⟩ := KEY.out u v rfl rfl
            have q1 : noI (some v) = 0 := rfl
            have q2 : noI (some u) = 0 := rfl
            have q3 : noI (some (u ++ 44 :: v)) = 0 := rfl
            have z1 : (strOf u ++ ⟨#[44]⟩).size ≤ 100000 := by
              rw [show (⟨#[44]⟩ : ByteArray) = strOf [44] from rfl, strOf_append, strOf_size, List.length_append]; simp; omega
            have z2 : (strOf v).size ≤ 100000 := by rw [strOf_size]; omega
            have z3 : (strOf u).size ≤ 100000 := by rw [strOf_size]; omega
            have q4 : ((strOf (u ++ 44 :: v)).toList == (strOf u ++ ⟨#[44]⟩ ++ strOf v).toList) = true := by
              rw [show (⟨#[44]⟩ : ByteArray) = strOf [44] from rfl, strOf_append, strOf_append]; simp
            have q5 : ((strOf (u ++ 44 :: v)).toList != (strOf u ++ ⟨#[44]⟩ ++ strOf v).toList) = false := by unfold bne; rw [q4]; rfl
            rw [show strS (some u) = strOf u from rfl, show strS (some v) = strOf v from rfl, show strS (some (u ++ 44 :: v)) = strOf (u ++ 44 :: v) from rfl]
            go_wp2_with fail
            refine (n1).mono ?_; rintro e w' ⟨rfl, rfl⟩
            go_wp2_with fail
            refine (n2).mono ?_; rintro e w' ⟨rfl, rfl⟩
            go_wp2_with fail
            refine (n3).mono ?_; rintro e w' ⟨rfl, rfl⟩
            go_wp2_with fail
            go_meet
            case rel => exact ⟨rfl, rfl⟩
      case rest =>
        obtain ⟨rfl, rfl⟩ := hcut
        clear n1 n2 n3
        go_wp2_with fail
        go_loopw [66] (fun i wr => ∃ k : Nat, k ≤ l.length ∧ i = iv k ∧ Below wc.heap.size wc wr) (fun i _ => l.length - (intOf i).toNat)
        case atStart => exact ⟨0, Nat.zero_le _, rfl, Below.refl _ _⟩
        case round =>
          obtain ⟨j, hj, rfl, bb⟩ := hrel
          by_cases hlt : j < l.length
          · have hlt' : (j : Int) < (l.length : Int) := by omega
            obtain ⟨bl, ol, rfl, hat⟩ := (l5.below bb).form hlt
            have ck := hat j hlt
            have hsz := F3.out _ (List.getElem_mem hlt)
            have xr := x5.below bb
            have p := escape_calls x l[j] (by omega) wr xr
            rw [saidV_eq] at p
            have fact : (bts l[j]).all plain1 = true → esc (bts l[j]) = some (bts l[j]) := esc_plain
            generalize esc (bts l[j]) = O at p fact
            have FACT := Lib.hid fact
            clear fact
            generalize l[j] = s at *
            go_wp2_with fail
            go_loop [13, 72] (fun q i => ∃ (k : Nat) (b : Bool), k ≤ s.size ∧ i = iv k ∧ q = .bool b ∧ Hid (((bts s).take k).all plain1 = b)) (fun _ i => s.size - (intOf i).toNat)
            case atStart => exact ⟨0, true, Nat.zero_le _, rfl, rfl, Lib.hid rfl⟩
            case round =>
              obtain ⟨k, b, hk, rfl, rfl, hq⟩ := hrel
              by_cases hks : k < s.size
              · have hsn := bts_take s k hks
                have hks' : (k : Int) < (s.size : Int) := by omega
                have ST := Lib.hid (show ∀ d, plain1 s[k] = d → ((bts s).take (k + 1)).all plain1 = (b && d) from fun d hd => by
                  rw [hsn, List.all_append, hq.out]; simp [hd])
                clear hsn
                generalize hc : s[k] = c at *
                rcases b with _ | _
                · go_wp2_with fail
                  go_round
                  case rel => exact ⟨k + 1, false, by omega, by go_num, rfl, Lib.hid (by rw [ST.out _ rfl]; rfl)⟩
                  case measure => simp [intOf]; omega
                · by_cases h97 : 97 ≤ c.toNat
                  · have h97' : (97 : Int) ≤ (c.toNat : Int) := by omega
                    by_cases h122 : c.toNat ≤ 122
                    · have h122' : (c.toNat : Int) ≤ 122 := by omega
                      have P := Lib.hid (ST.out true (by unfold plain1; simp [h97, h122]))
                      go_wp2_with fail
                      go_round
                      case rel => exact ⟨k + 1, true, by omega, by go_num, rfl, Lib.hid (by rw [P.out]; rfl)⟩
                      case measure => simp [intOf]; omega
                    · have h122' : (122 : Int) < (c.toNat : Int) := by omega
                      have h32 : ((c.toNat : Int) == 32) = false := by rw [beq_eq_false_iff_ne]; omega
                      have d122 : decide ((c.toNat : Int) ≤ 122) = false := decide_eq_false (by omega)
                      have P := Lib.hid (ST.out false (by unfold plain1; simp [h122]; rintro rfl; exact absurd h97 (by decide)))
                      go_wp2_with fail
                      go_round
                      case rel => exact ⟨k + 1, false, by omega, by go_num, rfl, Lib.hid (by rw [P.out]; rfl)⟩
                      case measure => simp [intOf]; omega
                  · have h97' : (c.toNat : Int) < 97 := by omega
                    by_cases h32 : c = 32
                    · have P := Lib.hid (ST.out true (by subst h32; decide))
                      subst h32
                      go_wp2_with fail
                      go_round
                      case rel => exact ⟨k + 1, true, by omega, by go_num, rfl, Lib.hid (by rw [P.out]; rfl)⟩
                      case measure => simp [intOf]; omega
                    · have P := Lib.hid (ST.out false (by unfold plain1; simp [h32, h97]))
                      have f32 : ((c.toNat : Int) == 32) = false := u8f (d := 32) h32
                      clear h32
                      go_wp2_with fail
                      go_round
                      case rel => exact ⟨k + 1, false, by omega, by go_num, rfl, Lib.hid (by rw [P.out]; rfl)⟩
                      case measure => simp [intOf]; omega
              · obtain rfl : k = s.size := by omega
                have ht : (bts s).take s.size = bts s := List.take_of_length_le (by rw [bts_length]; exact Nat.le_refl _)
                have hq2 := hq.out
                rw [ht] at hq2
                have HQ := Lib.hid hq2
                clear hq hq2 ht
                rcases b with _ | _
                · clear HQ
                  go_wp2_with fail
                  refine (p).mono ?_; rintro e w6 ⟨rfl, b6⟩
                  go_wp2_with fail
                  go_roundw
                  case rel => exact ⟨j + 1, by omega, by go_num, below_then' bb b6⟩
                  case measure => simp [intOf]; omega
                · obtain rfl := FACT.out HQ.out
                  have n6 := fun w => no_errS (some (bts s)) w
                  have q6 : noI (some (bts s)) = 0 := rfl
                  rw [show strS (some (bts s)) = s from strOf_bts s] at p
                  go_wp2_with fail
                  refine p.mono ?_; rintro e w6 ⟨rfl, b6⟩
                  go_wp2_with fail
                  refine (n6 w6).mono ?_; rintro e w' ⟨rfl, rfl⟩
                  go_wp2_with fail
                  go_roundw
                  case rel => exact ⟨j + 1, by omega, by go_num, below_then' bb b6⟩
                  case measure => simp [intOf]; omega
          · obtain rfl : j = l.length := by omega
            go_wp2_with fail
            refine (alive_calls x wr (x5.below bb)).mono ?_; rintro e w6 ⟨rfl, b6⟩
            go_wp2_with fail
            go_ret
            exact ⟨rfl, below_then b05 (below_then bb b6)⟩
end Go.Proofs.YtgmmnbojelekbaaDoor
