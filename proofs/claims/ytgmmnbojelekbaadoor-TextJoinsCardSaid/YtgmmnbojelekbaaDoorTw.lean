/- A row read: the document's. -/
import Derived.Test.YtgmmnbojelekbaaDoorTc
namespace Go.Proofs.YtgmmnbojelekbaaDoor
open Go.RowKit
set_option linter.unusedVariables false
set_option linter.unusedSimpArgs false

/-- The error's number of an answer. -/
def errN {α : Type} : Option α → Value
  | some _ => iv 0
  | none => iv 11

theorem StrOwn.low {w : World} {B B' : Nat} {v : Value} {l : List ByteArray} (h : StrOwn B' v l w) (hB : B ≤ B') : StrOwn B v l w :=
  ⟨h.1, h.2.imp id fun ⟨g, cap, cur, e, hb, r⟩ => ⟨g, cap, cur, e, Nat.le_trans hB hb, r⟩⟩

set_option maxRecDepth 100000 in
set_option maxHeartbeats 1000000 in
theorem unlistR_calls (s : ByteArray) (hs : s.size ≤ 100000) (w : World) :
    Calls Tryd.prog 19 #[.string s] w fun e w' => ∃ v, e = .returned (.tuple #[v, errN (unrowO (bts s))]) ∧ StrOwn w.heap.size v (strsO (unrowO (bts s))) w' ∧ Below w.heap.size w w' := by
  have SP := cutR_calls 44 (by decide) s hs w
  have hP : ∀ p ∈ cut 44 (bts s), p.length ≤ 100000 := fun p hp => Nat.le_trans (mem_cut_le (by decide) hp) (by rw [bts_length]; exact hs)
  have hPl : (cut 44 (bts s)).length ≤ 100001 := Nat.le_trans (cut_length_le (by decide) _) (by rw [bts_length]; omega)
  have hPn := cut_ne 44 (bts s)
  have hU : unrowO (bts s) = unescAll (cut 44 (bts s)) := rfl
  rw [hU]
  clear hU
  generalize cut 44 (bts s) = P at *
  go_enter Tryd.func19, Tryd.ntmps19
  go_wp2_with fail
  refine (SP).mono ?_; rintro e w1 ⟨v, rfl, own1, b1⟩
  obtain ⟨g, cap, rfl, hg⟩ := own1.form (by intro e; exact hPn (List.map_eq_nil_iff.1 e))
  rw [List.length_map] at own1 ⊢
  clear SP hPn
  have hlen : (P.map strOf).length = P.length := List.length_map _
  have hs1 := b1.size
  go_wp2_with fail
  go_loopw [5, 6] (fun v i wr => ∃ (k : Nat) (acc : List (List UInt8)), k ≤ P.length ∧ i = iv k ∧ acc.length = k ∧ Hid (unescAll P = (unescAll (P.drop k)).map (acc ++ ·)) ∧ StrOwn w1.heap.size v (acc.map strOf) wr ∧ Below w1.heap.size w1 wr) (fun _ i _ => P.length - (intOf i).toNat)
  case atStart => exact ⟨0, [], Nat.zero_le _, rfl, rfl, Lib.hid (by rcases h : unescAll P <;> simp [h]), StrOwn.nil _ _, Below.refl _ _⟩
  case round =>
    obtain ⟨k, acc, hk, rfl, ha, hu, hown, bb⟩ := hrel
    have bs := bb.size
    have BB := Lib.hid bb
    have HO := Lib.hid hown
    have HB := Lib.hid (show Below w.heap.size w wr from b1.trans (bb.mono hs1))
    have wider : ∀ (v : Value) (l : List ByteArray) (w' : World), StrOwn w1.heap.size v l w' → StrOwn w.heap.size v l w' := fun v l w' h => h.low hs1
    have WD := Lib.hid wider
    clear bb hown wider
    by_cases hlt : k < P.length
    · have hd : P.drop k = P[k] :: P.drop (k + 1) := List.drop_eq_getElem_cons hlt
      have hpl : (strOf P[k]).size ≤ 1000000 := by rw [strOf_size]; have := hP P[k] (List.getElem_mem hlt); omega
      obtain ⟨cc, fz⟩ := (own1.keep BB.out).cell hlen k (by omega)
      rw [List.getElem_map] at cc
      have ST := fun (h : unesc P[k] = none) => Lib.hid (unescAll_stop (p := P[k]) (by rw [← hd]; exact hu.out) h)
      have SN := fun (a : List UInt8) (h : unesc P[k] = some a) => Lib.hid (unescAll_step (p := P[k]) (a := a) (by rw [← hd]; exact hu.out) h)
      have U := unescapeR_calls (strOf P[k]) hpl wr
      rw [bts_strOf] at U
      clear hd fz
      rcases hx : unesc P[k] with _ | c
      · have HE := ST hx
        rw [hx, show toldRV none = .tuple #[.string ⟨#[]⟩, iv 11] from rfl] at U
        clear ST SN hx
        go_wp2_with fail
        refine (U).mono ?_; rintro e w' ⟨rfl, rfl⟩
        go_wp2_with fail
        go_ret2
        exact ⟨_, by rw [HE.out]; rfl, by rw [HE.out]; exact StrOwn.nil _ _, HB.out⟩
      · have HE := SN c hx
        rw [hx, show toldRV (some c) = .tuple #[.string (strOf c), iv 0] from rfl] at U
        clear ST SN hx
        go_wp2_with fail
        refine (U).mono ?_; rintro e w' ⟨rfl, rfl⟩
        go_wp2_with (first
          | (refine wpList_bs_str1 rfl _ rfl rfl ?_)
          | (at_builtin; refine wpList_app_str rfl _ _ rfl w1.heap.size u5 (acc.map strOf) rfl HO.out (strOf c) rfl (by rw [List.length_map]; omega) (by omega) ?_))
        intro v' w3 own3 hg3 b3
        have own4 : StrOwn w1.heap.size v' ((acc ++ [c]).map strOf) w3 := by
          rw [List.map_append]; simpa using own3
        clear own3
        go_wp2_with fail
        go_roundw
        case rel => exact ⟨k + 1, acc ++ [c], hlt, by go_num, by simp [ha], HE, own4, BB.out.trans b3⟩
        case measure => simp [intOf]; omega
    · obtain rfl : k = P.length := by omega
      have HE := Lib.hid (show unescAll P = some acc by rw [hu.out, List.drop_eq_nil_of_le (Nat.le_refl _)]; simp [unescAll])
      go_wp2_with fail
      go_ret2
      exact ⟨_, by rw [HE.out]; rfl, by rw [HE.out]; exact WD.out _ _ _ HO.out, HB.out⟩
end Go.Proofs.YtgmmnbojelekbaaDoor
