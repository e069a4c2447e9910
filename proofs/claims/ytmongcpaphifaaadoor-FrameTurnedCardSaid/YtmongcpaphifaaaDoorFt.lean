/- A few turned bytes turn the sum: plain numbers and lists. -/
import Derived.Test.YtmongcpaphifaaaDoorBackW
namespace Go.Proofs.YtmongcpaphifaaaDoor
set_option linter.unusedVariables false

theorem xor_left_cancel {a b c : Nat} (h : c ^^^ a = c ^^^ b) : a = b := by
  have h2 := congrArg (fun x => c ^^^ x) h
  simpa only [← Nat.xor_assoc, Nat.xor_self, Nat.zero_xor] using h2
theorem xor_right_cancel {a b c : Nat} (h : a ^^^ c = b ^^^ c) : a = b := by
  rw [Nat.xor_comm a, Nat.xor_comm b] at h; exact xor_left_cancel h
theorem top_set {a : Nat} (h : a < 2147483648) : 2147483648 ≤ a ^^^ 3988292384 := by
  have t : (a ^^^ 3988292384).testBit 31 = true := by
    rw [Nat.testBit_xor, Nat.testBit_lt_two_pow (i := 31) (by omega)]; decide
  exact Nat.ge_two_pow_of_testBit t
theorem stp_inj {a b : Nat} (ha : a < 4294967296) (hb : b < 4294967296) (h : stp a = stp b) : a = b := by
  unfold stp at h
  have ta := top_set (a := a / 2) (by omega)
  have tb := top_set (a := b / 2) (by omega)
  split at h <;> split at h
  · have := xor_right_cancel h; omega
  · omega
  · omega
  · omega
theorem stps_inj {a b : Nat} (ha : a < 4294967296) (hb : b < 4294967296) : ∀ k, stps k a = stps k b → a = b
  | 0, h => h
  | k + 1, h => stps_inj ha hb k (stp_inj (stps_lt ha k) (stps_lt hb k) h)
theorem mix_inj {a b c : Nat} (ha : a < 4294967296) (hb : b < 4294967296) (hc : c < 256) (h : mix a c = mix b c) : a = b :=
  xor_right_cancel (stps_inj (xor_lt32 ha (by omega)) (xor_lt32 hb (by omega)) 8 h)
theorem crcs_inj : ∀ (l : List UInt8) {a b : Nat}, a < 4294967296 → b < 4294967296 → crcs a l = crcs b l → a = b
  | [], _, _, _, _, h => h
  | c :: l, a, b, ha, hb, h => mix_inj ha hb c.toNat_lt (crcs_inj l (mix_lt ha c.toNat_lt) (mix_lt hb c.toNat_lt) h)
theorem stp_even (x z : Nat) : stp (x ^^^ 2 * z) = stp x ^^^ z := by
  have e1 : (x ^^^ 2 * z) / 2 = x / 2 ^^^ z := by rw [Nat.xor_div_two]; congr 1; omega
  have e2 : (x ^^^ 2 * z) % 2 = 1 ↔ x % 2 = 1 := by rw [Nat.xor_mod_two_eq_one]; omega
  unfold stp
  rw [e1]
  by_cases h : x % 2 = 1
  · rw [if_pos h, if_pos (e2.2 h), Nat.xor_assoc, Nat.xor_comm z, ← Nat.xor_assoc]
  · rw [if_neg h, if_neg (fun hh => h (e2.1 hh))]
theorem stps_comm (k : Nat) (x : Nat) : stps k (stp x) = stp (stps k x) := by
  induction k with
  | zero => rfl
  | succ k ih => rw [stps, ih]; rfl
theorem stps_even (k : Nat) : ∀ x z, stps k (x ^^^ 2 ^ k * z) = stps k x ^^^ z := by
  induction k with
  | zero => intro x z; simp [stps]
  | succ k ih =>
    intro x z
    have e : 2 ^ (k + 1) * z = 2 * (2 ^ k * z) := by rw [Nat.pow_succ, Nat.mul_comm (2 ^ k) 2, Nat.mul_assoc]
    rw [e, stps, ← stps_comm, stp_even, ih, stps_comm]; rfl
theorem stps_add (k x : Nat) : ∀ j, stps (j + k) x = stps j (stps k x)
  | 0 => by rw [Nat.zero_add]; rfl
  | j + 1 => by rw [show j + 1 + k = j + k + 1 by omega, stps, stps_add k x j]; rfl
theorem xor_low {b r : Nat} (hb : b < 256) : b ^^^ 256 * r = b + 256 * r := by
  have h1 : (b ^^^ 256 * r) / 256 = r := by
    have := Nat.xor_div_two_pow (a := b) (b := 256 * r) (n := 8)
    rw [show (2 : Nat) ^ 8 = 256 from rfl] at this
    rw [this, Nat.div_eq_of_lt hb, Nat.zero_xor]; omega
  have h2 : (b ^^^ 256 * r) % 256 = b := by
    have := Nat.xor_mod_two_pow (a := b) (b := 256 * r) (n := 8)
    rw [show (2 : Nat) ^ 8 = 256 from rfl] at this
    rw [this, Nat.mod_eq_of_lt hb, Nat.mul_mod_right, Nat.xor_zero]
  omega
theorem crcs_burst : ∀ (v : List UInt8) (y : Nat), crcs y v = stps (8 * v.length) (y ^^^ rdB v)
  | [], y => by simp [crcs, stps, rdB]
  | b :: v, y => by
    have e : crcs y (b :: v) = crcs (mix y b.toNat) v := rfl
    rw [e, crcs_burst v, mix, ← stps_even 8, show (2 : Nat) ^ 8 = 256 from rfl, Nat.xor_assoc, xor_low b.toNat_lt, List.length_cons, Nat.mul_add, stps_add]
    rfl
theorem rdB_inj {v v' : List UInt8} (h : v.length = v'.length) (e : rdB v = rdB v') : v = v' := by
  have h1 := leB_rdB v
  have h2 := leB_rdB v'
  rw [e, h] at h1
  exact h1.symm.trans h2
/-- At most four bytes are other ones: so is the sum. -/
theorem crc_turned (u v v' t : List UInt8) (hl : v.length = v'.length) (h4 : v.length ≤ 4) (h : crc (u ++ v ++ t) = crc (u ++ v' ++ t)) : v = v' := by
  unfold crc at h
  have h1 := xor_right_cancel h
  rw [crcs_append, crcs_append, crcs_append, crcs_append] at h1
  have c0 : crcs 4294967295 u < 4294967296 := crcs_lt (by omega)
  have h2 := crcs_inj t (crcs_lt c0) (crcs_lt c0) h1
  generalize crcs 4294967295 u = y at c0 h2
  rw [crcs_burst, crcs_burst, ← hl] at h2
  have p : (256 : Nat) ^ v.length ≤ 256 ^ 4 := Nat.pow_le_pow_right (by decide) h4
  rw [p32] at p
  have r1 := rdB_lt v
  have r2 := rdB_lt v'
  rw [← hl] at r2
  exact rdB_inj hl (xor_left_cancel (stps_inj (xor_lt32 c0 (by omega)) (xor_lt32 c0 (by omega)) _ h2))

/-! ### bytes that are turned -/
/-- Bytes from a place on, each changed by one. -/
def patch (L : List UInt8) (p : Nat) (cs : List UInt8) : List UInt8 := L.take p ++ List.zipWith (· ^^^ ·) (L.drop p) cs ++ L.drop (p + cs.length)
def quiet (cs : List UInt8) : Prop := ∀ c ∈ cs, c = 0
theorem zip_length {L cs : List UInt8} {p : Nat} (h : p + cs.length ≤ L.length) : (List.zipWith (· ^^^ ·) (L.drop p) cs).length = cs.length := by
  rw [List.length_zipWith, List.length_drop]; omega
theorem patch_length {L cs : List UInt8} {p : Nat} (h : p + cs.length ≤ L.length) : (patch L p cs).length = L.length := by
  unfold patch
  rw [List.length_append, List.length_append, zip_length h, List.length_take, List.length_drop]; omega
theorem patch_nil (L : List UInt8) (p : Nat) : patch L p [] = L := by unfold patch; simp
theorem zip_quiet : ∀ (L cs : List UInt8), cs.length ≤ L.length → quiet cs → List.zipWith (· ^^^ ·) L cs = L.take cs.length
  | _, [], _, _ => by simp
  | [], c :: cs, h, _ => by simp at h
  | a :: L, c :: cs, h, hq => by
    rw [List.zipWith_cons_cons, hq c List.mem_cons_self, zip_quiet L cs (by simpa using h) (fun d hd => hq d (List.mem_cons_of_mem _ hd)), List.length_cons, List.take_succ_cons]
    simp
theorem patch_quiet {L cs : List UInt8} {p : Nat} (h : p + cs.length ≤ L.length) (hq : quiet cs) : patch L p cs = L := by
  unfold patch
  rw [zip_quiet _ _ (by rw [List.length_drop]; omega) hq, ← List.drop_drop, List.append_assoc, List.take_append_drop, List.take_append_drop]
theorem zip_same : ∀ (L cs : List UInt8), cs.length ≤ L.length → List.zipWith (· ^^^ ·) L cs = L.take cs.length → quiet cs
  | _, [], _, _ => fun c hc => by simp at hc
  | [], c :: cs, h, _ => by simp at h
  | a :: L, c :: cs, h, he => by
    rw [List.zipWith_cons_cons, List.length_cons, List.take_succ_cons] at he
    injection he with h1 h2
    intro d hd
    rcases List.mem_cons.1 hd with rfl | hd
    · have : a ^^^ d = a ^^^ 0 := by rw [h1]; simp
      exact (UInt8.xor_right_inj a).1 this
    · exact zip_same L cs (by simpa using h) h2 d hd
theorem zip_front : ∀ (L Q cs : List UInt8), cs.length ≤ L.length → List.zipWith (· ^^^ ·) (L ++ Q) cs = List.zipWith (· ^^^ ·) L cs
  | _, _, [], _ => by simp
  | [], _, _ :: _, h => by simp at h
  | a :: L, Q, c :: cs, h => by rw [List.cons_append, List.zipWith_cons_cons, List.zipWith_cons_cons, zip_front L Q cs (by simpa using h)]
theorem zip_snoc : ∀ (L cs : List UInt8) (c : UInt8) (h : cs.length < L.length), List.zipWith (· ^^^ ·) L (cs ++ [c]) = List.zipWith (· ^^^ ·) L cs ++ [L[cs.length] ^^^ c]
  | [], _, _, h => by simp at h
  | a :: L, [], c, _ => by simp
  | a :: L, d :: cs, c, h => by
    rw [List.cons_append, List.zipWith_cons_cons, List.zipWith_cons_cons, zip_snoc L cs c (by simpa using h), List.cons_append]
    rfl
theorem patch_one {L : List UInt8} {p : Nat} {cs : List UInt8} {c : UInt8} (h : p + cs.length < L.length) :
    ∃ b, (patch L p cs)[p + cs.length]? = some b ∧ (patch L p cs).set (p + cs.length) (b ^^^ c) = patch L p (cs ++ [c]) := by
  have hz := zip_length (L := L) (cs := cs) (p := p) (by omega)
  have ht : (L.take p).length = p := by rw [List.length_take]; omega
  have hd : L.drop (p + cs.length) = L[p + cs.length] :: L.drop (p + cs.length + 1) := List.drop_eq_getElem_cons h
  have hl : (L.take p ++ List.zipWith (· ^^^ ·) (L.drop p) cs).length = p + cs.length := by rw [List.length_append, ht, hz]
  refine ⟨L[p + cs.length], ?_, ?_⟩
  · unfold patch
    rw [List.getElem?_append_right (by omega), hl, Nat.sub_self, hd]; rfl
  · unfold patch
    rw [List.set_append_right _ _ (by omega), hl, Nat.sub_self, hd, List.set_cons_zero]
    have e1 : List.zipWith (· ^^^ ·) (L.drop p) (cs ++ [c]) = List.zipWith (· ^^^ ·) (L.drop p) cs ++ [L[p + cs.length] ^^^ c] := by
      have h5 : cs.length < (L.drop p).length := by rw [List.length_drop]; omega
      rw [zip_snoc _ _ _ h5, List.getElem_drop]
    rw [e1, List.length_append, List.length_singleton, ← Nat.add_assoc]
    simp only [List.append_assoc, List.singleton_append]
theorem patch_take {L cs : List UInt8} {p k : Nat} (hk : k ≤ p) (h : p + cs.length ≤ L.length) : (patch L p cs).take k = L.take k := by
  unfold patch
  rw [List.append_assoc, List.take_append_of_le_length (by rw [List.length_take]; omega), List.take_take, Nat.min_eq_left hk]
theorem patch_drop {L cs : List UInt8} {p k : Nat} (hk : k ≤ p) (h : p + cs.length ≤ L.length) : (patch L p cs).drop k = patch (L.drop k) (p - k) cs := by
  unfold patch
  rw [List.append_assoc, List.drop_append_of_le_length (by rw [List.length_take]; omega), List.drop_take, List.drop_drop, List.drop_drop, show k + (p - k) = p by omega, show k + (p - k + cs.length) = p + cs.length by omega, List.append_assoc]
theorem patch_far {L cs : List UInt8} {p k : Nat} (hk : p + cs.length ≤ k) (h : p + cs.length ≤ L.length) : (patch L p cs).drop k = L.drop k := by
  unfold patch
  have hl : (L.take p ++ List.zipWith (· ^^^ ·) (L.drop p) cs).length = p + cs.length := by rw [List.length_append, zip_length h, List.length_take]; omega
  rw [List.drop_append, List.drop_eq_nil_of_le (by omega), hl, List.nil_append, List.drop_drop, show p + cs.length + (k - (p + cs.length)) = k by omega]
theorem patch_same {L cs : List UInt8} {p : Nat} (h : p + cs.length ≤ L.length) (e : patch L p cs = L) : quiet cs := by
  have e2 : L = L.take p ++ ((L.drop p).take cs.length ++ L.drop (p + cs.length)) := by rw [← List.drop_drop, List.take_append_drop, List.take_append_drop]
  have e3 : L.take p ++ (List.zipWith (· ^^^ ·) (L.drop p) cs ++ L.drop (p + cs.length)) = L.take p ++ ((L.drop p).take cs.length ++ L.drop (p + cs.length)) := by
    rw [← e2, ← List.append_assoc]; exact e
  have e4 := List.append_cancel_right (List.append_cancel_left e3)
  exact zip_same _ _ (by rw [List.length_drop]; omega) e4
theorem patch_mid {P F Q cs : List UInt8} {p : Nat} (h : p + cs.length ≤ F.length) : patch (P ++ (F ++ Q)) (P.length + p) cs = P ++ (patch F p cs ++ Q) := by
  have e1 : (P ++ (F ++ Q)).drop (P.length + p) = F.drop p ++ Q := by rw [← List.drop_drop, List.drop_left, List.drop_append_of_le_length (by omega)]
  have e2 : (P ++ (F ++ Q)).drop (P.length + p + cs.length) = F.drop (p + cs.length) ++ Q := by rw [Nat.add_assoc, ← List.drop_drop, List.drop_left, List.drop_append_of_le_length (by omega)]
  have e3 : (P ++ (F ++ Q)).take (P.length + p) = P ++ F.take p := by rw [List.take_length_add_append, List.take_append_of_le_length (by omega)]
  have e4 : List.zipWith (· ^^^ ·) (F.drop p ++ Q) cs = List.zipWith (· ^^^ ·) (F.drop p) cs := zip_front _ _ _ (by rw [List.length_drop]; omega)
  unfold patch
  rw [e1, e2, e3, e4]
  simp only [List.append_assoc]

theorem not_whole_turned {r cs Q : List UInt8} {at_ : Nat} (hr : r.length ≤ 30000) (h3 : 3 ≤ at_) (h4 : cs.length ≤ 4) (hs : at_ + cs.length ≤ r.length + 7) (hh : 7 ≤ at_ ∨ at_ + cs.length ≤ 7) (hn : ¬ quiet cs) :
    ¬ Whole (patch (frm r) at_ cs ++ Q) := fun hw => by
  obtain ⟨n, hd⟩ := whole_head hw
  have hF := frm_length r
  have hs' : at_ + cs.length ≤ (frm r).length := by omega
  have hD := patch_length hs'
  obtain ⟨g, gr, _⟩ := head_of_frame r [] hr
  rw [List.append_nil] at g gr
  have a3 : (patch (frm r) at_ cs ++ Q).take 3 = (frm r).take 3 := by
    rw [List.take_append_of_le_length (by omega), patch_take h3 hs']
  have hnr : n = r.length := by have h1 := hd.size; have h2 := g.size; rw [a3] at h1; omega
  subst hnr
  have a4 : ((patch (frm r) at_ cs ++ Q).drop 3).take 4 = ((patch (frm r) at_ cs).drop 3).take 4 := by
    rw [List.drop_append_of_le_length (by omega), List.take_append_of_le_length (by rw [List.length_drop]; omega)]
  have a7 : ((patch (frm r) at_ cs ++ Q).drop 7).take r.length = (patch (frm r) at_ cs).drop 7 := by
    rw [List.drop_append_of_le_length (by omega), List.take_append_of_le_length (by rw [List.length_drop]; omega), List.take_of_length_le (by rw [List.length_drop]; omega)]
  have r7 : (frm r).drop 7 = r := by rw [List.take_of_length_le (by rw [List.length_drop]; omega)] at gr; exact gr
  have hsum := hd.sum
  have gsum := g.sum
  rw [a3, a4, a7] at hsum
  rw [gr] at gsum
  rcases hh with hh | hh
  · have b1 : ((patch (frm r) at_ cs).drop 3).take 4 = ((frm r).drop 3).take 4 := by
      rw [patch_drop h3 hs']
      exact patch_take (by omega) (by rw [List.length_drop]; omega)
    rw [b1, gsum, patch_drop hh hs', r7] at hsum
    have hq : at_ - 7 + cs.length ≤ r.length := by omega
    have e2 : r = r.take (at_ - 7) ++ (r.drop (at_ - 7)).take cs.length ++ r.drop (at_ - 7 + cs.length) := by rw [← List.drop_drop, List.append_assoc, List.take_append_drop, List.take_append_drop]
    have l1 : ((frm r).take 3 ++ r.take (at_ - 7)) ++ (r.drop (at_ - 7)).take cs.length ++ r.drop (at_ - 7 + cs.length) = (frm r).take 3 ++ r := by
      rw [List.append_assoc] at e2
      simp only [List.append_assoc]
      rw [← e2]
    have r1 : ((frm r).take 3 ++ r.take (at_ - 7)) ++ List.zipWith (· ^^^ ·) (r.drop (at_ - 7)) cs ++ r.drop (at_ - 7 + cs.length) = (frm r).take 3 ++ patch r (at_ - 7) cs := by
      unfold patch; simp only [List.append_assoc]
    rw [← l1, ← r1] at hsum
    have hv : ((r.drop (at_ - 7)).take cs.length).length = cs.length := by rw [List.length_take, List.length_drop]; omega
    have he := crc_turned ((frm r).take 3 ++ r.take (at_ - 7)) ((r.drop (at_ - 7)).take cs.length) (List.zipWith (· ^^^ ·) (r.drop (at_ - 7)) cs) (r.drop (at_ - 7 + cs.length)) (hv.trans (zip_length hq).symm) (by rw [hv]; exact h4) hsum
    exact hn (zip_same _ _ (by rw [List.length_drop]; omega) he.symm)
  · have b7 : (patch (frm r) at_ cs).drop 7 = (frm r).drop 7 := patch_far hh hs'
    rw [b7, r7, ← gsum] at hsum
    have b4 := rdB_inj (by rw [List.length_take, List.length_take, List.length_drop, List.length_drop]; omega) hsum
    have e : patch (frm r) at_ cs = frm r := by
      have x1 := (List.take_append_drop 3 (patch (frm r) at_ cs)).symm
      have x2 := (List.take_append_drop 4 ((patch (frm r) at_ cs).drop 3)).symm
      have y1 := (List.take_append_drop 3 (frm r)).symm
      have y2 := (List.take_append_drop 4 ((frm r).drop 3)).symm
      rw [List.drop_drop, show 3 + 4 = 7 from rfl] at x2 y2
      rw [x1, x2, patch_take h3 hs', b4, b7, ← y2, ← y1]
    exact hn (patch_same hs' e)

theorem frames_split (l : List ByteArray) (k : Nat) (h : k < l.length) : frames l = frames (l.take k) ++ (frm (bts l[k]) ++ frames (l.drop (k + 1))) := by
  conv => lhs; rw [← List.take_append_drop k l, List.drop_eq_getElem_cons h]
  rw [frames_append, frames_cons]
theorem scan_turned {l : List ByteArray} {k at_ : Nat} {cs : List UInt8} (hf : fits l) (hk : k < l.length) (h3 : 3 ≤ at_) (h4 : cs.length ≤ 4) (hs : at_ + cs.length ≤ l[k].size + 7) (hh : 7 ≤ at_ ∨ at_ + cs.length ≤ 7) (hn : ¬ quiet cs) :
    IsScan (patch (frames l) ((frames (l.take k)).length + at_) cs) (l.take k) (patch (frm (bts l[k])) at_ cs ++ frames (l.drop (k + 1))) := by
  refine ⟨?_, fits_take hf k, not_whole_turned (by rw [bts_length]; exact fits_get hf k hk) h3 h4 (by rw [bts_length]; exact hs) hh hn⟩
  rw [frames_split l k hk, patch_mid (by rw [frm_length, bts_length]; exact hs)]
end Go.Proofs.YtmongcpaphifaaaDoor
