/- Which records bytes begin with: plain lists. -/
import Derived.Test.YtmongcpaphifaaaDoorFc
namespace Go.Proofs.YtmongcpaphifaaaDoor

/-- A whole frame begins some bytes. -/
def Whole (s : List UInt8) : Prop := ∃ r t : List UInt8, r.length ≤ 30000 ∧ s = frm r ++ t
/-- What tells it: the record's size, and the sum. -/
structure Head (s : List UInt8) (n : Nat) : Prop where
  h7 : 7 ≤ s.length
  size : rdB (s.take 3) = n + 1
  most : n ≤ 30000
  fit : 7 + n ≤ s.length
  sum : rdB ((s.drop 3).take 4) = crc (s.take 3 ++ (s.drop 7).take n)

theorem p24 : (256 : Nat) ^ 3 = 16777216 := by decide
theorem p32 : (256 : Nat) ^ 4 = 4294967296 := by decide
theorem Head.frame {s : List UInt8} {n : Nat} (h : Head s n) : s = frm ((s.drop 7).take n) ++ s.drop (7 + n) ∧ ((s.drop 7).take n).length = n := by
  have hl : ((s.drop 7).take n).length = n := by have := h.fit; rw [List.length_take, List.length_drop]; omega
  have t3 : (s.take 3).length = 3 := by have := h.h7; rw [List.length_take]; omega
  have t4 : ((s.drop 3).take 4).length = 4 := by have := h.h7; rw [List.length_take, List.length_drop]; omega
  have e1 : leB (n + 1) 3 = s.take 3 := by have := leB_rdB (s.take 3); rw [t3, h.size] at this; exact this
  have e2 : leB (crc (s.take 3 ++ (s.drop 7).take n)) 4 = (s.drop 3).take 4 := by have := leB_rdB ((s.drop 3).take 4); rw [t4, h.sum] at this; exact this
  refine ⟨?_, hl⟩
  unfold frm
  rw [hl, e1, e2]
  have a1 : s = s.take 3 ++ s.drop 3 := (List.take_append_drop 3 s).symm
  have a2 : s.drop 3 = (s.drop 3).take 4 ++ s.drop 7 := by have := (List.take_append_drop 4 (s.drop 3)).symm; rw [List.drop_drop] at this; exact this
  have a3 : s.drop 7 = (s.drop 7).take n ++ s.drop (7 + n) := by have := (List.take_append_drop n (s.drop 7)).symm; rw [List.drop_drop] at this; exact this
  conv => lhs; rw [a1, a2, a3]
  simp only [List.append_assoc]
theorem Head.whole {s : List UInt8} {n : Nat} (h : Head s n) : Whole s := ⟨(s.drop 7).take n, s.drop (7 + n), by rw [h.frame.2]; exact h.most, h.frame.1⟩
theorem head_of_frame (r t : List UInt8) (h : r.length ≤ 30000) : Head (frm r ++ t) r.length ∧ ((frm r ++ t).drop 7).take r.length = r ∧ (frm r ++ t).drop (7 + r.length) = t := by
  have c := crc_lt (leB (r.length + 1) 3 ++ r)
  generalize hc : crc (leB (r.length + 1) 3 ++ r) = C at c
  have e : frm r ++ t = leB (r.length + 1) 3 ++ (leB C 4 ++ (r ++ t)) := by unfold frm; rw [hc]; simp only [List.append_assoc]
  have d3 : (frm r ++ t).take 3 = leB (r.length + 1) 3 := by rw [e]; exact List.take_left' (leB_length _ _)
  have d3' : (frm r ++ t).drop 3 = leB C 4 ++ (r ++ t) := by rw [e]; exact List.drop_left' (leB_length _ _)
  have d7 : (frm r ++ t).drop 7 = r ++ t := by
    have : (frm r ++ t).drop 7 = ((frm r ++ t).drop 3).drop 4 := by rw [List.drop_drop]
    rw [this, d3']; exact List.drop_left' (leB_length _ _)
  have dr : ((frm r ++ t).drop 7).take r.length = r := by rw [d7]; exact List.take_left' rfl
  have dt : (frm r ++ t).drop (7 + r.length) = t := by
    rw [← List.drop_drop, d7]; exact List.drop_left' rfl
  have hl : (frm r ++ t).length = 7 + r.length + t.length := by rw [List.length_append, frm_length]; omega
  refine ⟨⟨by omega, ?_, h, by omega, ?_⟩, dr, dt⟩
  · rw [d3, rdB_leB, p24]; omega
  · rw [d3, d3', List.take_left' (leB_length _ _), rdB_leB, p32, dr, hc]; omega
theorem whole_head {s : List UInt8} (h : Whole s) : ∃ n, Head s n := by
  obtain ⟨r, t, hr, rfl⟩ := h
  exact ⟨_, (head_of_frame r t hr).1⟩

/-- The records are those with which the bytes begin, and some rest is left that begins with none. -/
structure IsScan (s : List UInt8) (l : List ByteArray) (rest : List UInt8) : Prop where
  all : s = frames l ++ rest
  fits : fits l
  stop : ¬ Whole rest
theorem frm_inj {r r' t t' : List UInt8} (h : r.length ≤ 30000) (h' : r'.length ≤ 30000) (e : frm r ++ t = frm r' ++ t') : r = r' ∧ t = t' := by
  obtain ⟨a, b, c⟩ := head_of_frame r t h
  obtain ⟨a', b', c'⟩ := head_of_frame r' t' h'
  rw [← e] at a' b' c'
  have e1 : r.length = r'.length := by have := a.size; have := a'.size; omega
  rw [← e1] at b' c'
  exact ⟨b.symm.trans b', c.symm.trans c'⟩
theorem scan_unique : ∀ {l l' : List ByteArray} {s rest rest' : List UInt8}, IsScan s l rest → IsScan s l' rest' → l = l' ∧ rest = rest'
  | [], [], s, rest, rest', h, h' => ⟨rfl, h.all.symm.trans h'.all⟩
  | [], r :: l', s, rest, rest', h, h' => by
    refine absurd ?_ h.stop
    have e := h.all.symm.trans h'.all
    exact ⟨bts r, frames l' ++ rest', by rw [bts_length]; exact h'.fits r List.mem_cons_self, by simpa [frames] using e⟩
  | r :: l, [], s, rest, rest', h, h' => by
    refine absurd ?_ h'.stop
    have e := h'.all.symm.trans h.all
    exact ⟨bts r, frames l ++ rest, by rw [bts_length]; exact h.fits r List.mem_cons_self, by simpa [frames] using e⟩
  | r :: l, r' :: l', s, rest, rest', h, h' => by
    have e := h.all.symm.trans h'.all
    have e2 : frm (bts r) ++ (frames l ++ rest) = frm (bts r') ++ (frames l' ++ rest') := by simpa [frames] using e
    obtain ⟨a, b⟩ := frm_inj (by rw [bts_length]; exact h.fits r List.mem_cons_self) (by rw [bts_length]; exact h'.fits r' List.mem_cons_self) e2
    obtain ⟨c, d⟩ := scan_unique (s := frames l ++ rest) ⟨rfl, fun s hs => h.fits s (List.mem_cons_of_mem _ hs), h.stop⟩ ⟨b, fun s hs => h'.fits s (List.mem_cons_of_mem _ hs), h'.stop⟩
    exact ⟨by rw [ba_ext a, c], d⟩
end Go.Proofs.YtmongcpaphifaaaDoor
