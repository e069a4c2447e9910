/- strings.IndexRune of a CR and a LF: no rune beyond ASCII is among them. -/
import Derived.Test.YtddjfeofmihgdaaDoorUc
import Derived.Stop.FmtQuoteTie
namespace Go.Proofs.YtddjfeofmihgdaaDoor
open Go.RowKit
set_option linter.unusedVariables false
set_option linter.unusedSimpArgs false

set_option maxRecDepth 100000 in
set_option maxHeartbeats 1000000 in
theorem crlf_bad (r : Int) (w : World) (h0 : 128 ≤ r) (h1 : r ≤ 1114111) (hr : r ≠ 65533) (hv : Lib.validRune r = true) (n : Nat) (hs : (Utf8.encode r).size = n) (hn : n = 3 ∨ n = 4) :
    Calls Tryd.prog 54 #[.string ⟨#[13, 10]⟩, .int .i32 r] w fun e w' => e = .returned (.int .i64 (-1)) ∧ w = w' := by
  have e1 : (r == 65533) = false := by simpa using hr
  have HV := Lib.hid (show ∀ w, Calls Tryd.prog 61 #[.int .i32 r] w fun e w' => e = .returned (.bool true) ∧ w = w' from
    fun w => (Tryd.utf8_ValidRune r w).mono (by rintro e w' ⟨rfl, rfl⟩; exact ⟨by rw [hv], rfl⟩))
  have hf : ¬ r < 128 := by omega
  clear hr hv
  rcases hn with rfl | rfl
  · go_enter Tryd.func54, Tryd.ntmps54
    go_wp2_with fail
    go_wp2_with fail
    refine (HV.out _).mono ?_; rintro e w1 ⟨rfl, rfl⟩
    go_wp2_with fail
    go_step3
    go_wp2_with fail
    refine wp_loop_rounds 1 ?_
    rw [rounds_succ]
    go_wp2_with fail
    rw [Exit.noGoto_ret]
    go_ret
    exact ⟨rfl, rfl⟩
  · go_enter Tryd.func54, Tryd.ntmps54
    go_wp2_with fail
    go_wp2_with fail
    refine (HV.out _).mono ?_; rintro e w1 ⟨rfl, rfl⟩
    go_wp2_with fail
    go_step3
    go_wp2_with fail
    refine wp_loop_rounds 1 ?_
    rw [rounds_succ]
    go_wp2_with fail
    rw [Exit.noGoto_ret]
    go_ret
    exact ⟨rfl, rfl⟩

set_option maxRecDepth 100000 in
set_option maxHeartbeats 1000000 in
theorem crlf_two (r : Int) (w : World) (h0 : 128 ≤ r) (h1 : r ≤ 1114111) (hr : r ≠ 65533) (hv : Lib.validRune r = true) (t : ByteArray) (ht : Utf8.encode r = t) (hs : t.size = 2) (c : UInt8) (hc : ∀ h : 1 < t.size, t[1] = c) (hc10 : c ≠ 10) :
    Calls Tryd.prog 54 #[.string ⟨#[13, 10]⟩, .int .i32 r] w fun e w' => e = .returned (.int .i64 (-1)) ∧ Below w.heap.size w w' := by
  have e1 : (r == 65533) = false := by simpa using hr
  have HV := Lib.hid (show ∀ w, Calls Tryd.prog 61 #[.int .i32 r] w fun e w' => e = .returned (.bool true) ∧ w = w' from
    fun w => (Tryd.utf8_ValidRune r w).mono (by rintro e w' ⟨rfl, rfl⟩; exact ⟨by rw [hv], rfl⟩))
  have HI := Lib.hid (show ∀ w, Calls Tryd.prog 60 #[.string ⟨#[]⟩, .int .u8 (c.toNat : Int)] w fun e w' => e = .returned (.int .i64 (-1)) ∧ w = w' from
    fun w => (Tryd.strings_IndexByte ⟨#[]⟩ (c.toNat : Int) w).mono (by rintro e w' ⟨rfl, rfl⟩; exact ⟨rfl, rfl⟩))
  have hf : ¬ r < 128 := by omega
  have hct : t[1] = c := hc (by omega)
  have hb : ((((⟨#[13, 10]⟩ : ByteArray)[1]'(by decide)).toNat : Int) != (c.toNat : Int)) = true := by
    have := u8f (d := 10) hc10
    rw [beq_eq_false_iff_ne] at this
    exact bne_iff_ne.2 fun e => this e.symm
  clear hr hv hc
  go_enter Tryd.func54, Tryd.ntmps54
  go_wp2_with fail
  go_wp2_with fail
  refine (HV.out _).mono ?_; rintro e w1 ⟨rfl, rfl⟩
  go_wp2_with fail
  go_step3
  go_wp2_with fail
  refine wp_loop_rounds 1 ?_
  rw [rounds_succ]
  go_wp2_with fail
  go_step3
  go_wp2_with fail
  (refine region_past (by kernel_rfl) (by kernel_rfl) ?_; (repeat (first | go_big_quiet_skip | (go_big_quiet_want; go_big_quiet_op; first | go_big_quiet_on | (apply Exists.intro; refine ⟨fun k => ?_, ?_⟩; (focus (first | fail)); go_big_quiet_on)))); refine wpQuiet_nil ?_; intro k)
  obtain ⟨w1, b1⟩ := k
  go_wp2_with fail
  (refine region_past (by kernel_rfl) (by kernel_rfl) ?_; (repeat (first | go_big_quiet_skip | (go_big_quiet_want; go_big_quiet_op; first | go_big_quiet_on | (apply Exists.intro; refine ⟨fun k => ?_, ?_⟩; (focus (first | (go_at_call 60; refine Past.calls_left (HI.out _)))); go_big_quiet_on)))); refine wpQuiet_nil ?_; intro k)
  go_wp2_with fail
  rw [Exit.noGoto_ret]
  go_wp2_with fail
  rw [Exit.noGoto_ret]
  go_ret
  exact ⟨rfl, b1.trans (k.below.mono b1.size)⟩

theorem sizeOf (b : ByteArray) (l : List UInt8) (h : b.data.toList = l) : b.size = l.length := by
  subst h; rfl
theorem encN (r : Int) (h0 : 0 ≤ r) : ((Utf8.encode r).data.toList).map (fun b => (b.toNat : Int)) = Lib.encodeRuneZ r := by
  have := Go.Extern.FmtText.encode_eq r.toNat
  rw [show ((r.toNat : Nat) : Int) = r by omega] at this
  exact this
theorem enc_size (r : Int) (h0 : 0 ≤ r) : (Utf8.encode r).size = (Lib.encodeRuneZ r).length := by
  rw [← encN r h0, List.length_map]; rfl

/-- No rune beyond ASCII (but U+FFFD, below) is a CR or a LF. -/
theorem crlf_most (r : Int) (w : World) (h0 : 128 ≤ r) (hr : r ≠ 65533) (hv : Lib.validRune r = true) :
    Calls Tryd.prog 54 #[.string ⟨#[13, 10]⟩, .int .i32 r] w fun e w' => e = .returned (.int .i64 (-1)) ∧ Below w.heap.size w w' := by
  have hv' := hv
  unfold Lib.validRune at hv'
  have hv2 := of_decide_eq_true hv'
  clear hv'
  have h1 : r ≤ 1114111 := by omega
  have hz := enc_size r (by omega)
  by_cases h2 : r ≤ 2047
  · have hN := encN r (by omega)
    rw [Lib.encodeRuneZ_two h0 h2] at hN hz
    generalize ht : Utf8.encode r = t at *
    have hs : t.size = 2 := hz
    refine crlf_two r w h0 h1 hr hv t ht hs (t[1]'(by omega)) (fun _ => rfl) ?_
    intro e
    have g : (t.data.toList.map (fun b => (b.toNat : Int)))[1]? = some (128 + r % 64) := by rw [hN]; rfl
    have g2 : t.data.toList[1]? = some (t[1]'(by omega)) := by
      rw [Array.getElem?_toList]
      exact Array.getElem?_eq_getElem ..
    rw [List.getElem?_map, g2, e] at g
    have g3 : ((10 : UInt8).toNat : Int) = 128 + r % 64 := Option.some.inj g
    have : ((10 : UInt8).toNat : Int) = 10 := rfl
    omega
  · have K : ∀ n, (Utf8.encode r).size = n → (n = 3 ∨ n = 4) → Calls Tryd.prog 54 #[.string ⟨#[13, 10]⟩, .int .i32 r] w fun e w' => e = .returned (.int .i64 (-1)) ∧ Below w.heap.size w w' := fun n a b =>
      (crlf_bad r w h0 h1 hr hv n a b).mono fun e w' ⟨he, hw⟩ => ⟨he, by rw [← hw]; exact Below.refl _ w⟩
    by_cases h3 : r ≤ 65535
    · rw [Lib.encodeRuneZ_three (by omega)] at hz
      exact K 3 hz (Or.inl rfl)
    · rw [Lib.encodeRuneZ_four (by omega) h1] at hz
      exact K 4 hz (Or.inr rfl)
end Go.Proofs.YtddjfeofmihgdaaDoor
