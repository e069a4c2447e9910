/- Sums: CRC-32 on numbers. -/
import Derived.Laws.BitsAllLaws
namespace Go.Proofs.YtmongcpaphifaaaDoor

/-- One step of a sum. -/
def stp (x : Nat) : Nat := if x % 2 = 1 then (x / 2) ^^^ 3988292384 else x / 2
def stps : Nat → Nat → Nat
  | 0, x => x
  | k + 1, x => stp (stps k x)
def mix (x b : Nat) : Nat := stps 8 (x ^^^ b)
def crcs (x : Nat) (l : List UInt8) : Nat := l.foldl (fun s b => mix s b.toNat) x
def crc (l : List UInt8) : Nat := crcs 4294967295 l ^^^ 4294967295

theorem xor_lt32 {a b : Nat} (ha : a < 4294967296) (hb : b < 4294967296) : a ^^^ b < 4294967296 := Nat.xor_lt_two_pow (n := 32) ha hb
theorem stp_lt {x : Nat} (h : x < 4294967296) : stp x < 4294967296 := by
  unfold stp; split
  · exact xor_lt32 (by omega) (by omega)
  · omega
theorem stps_lt {x : Nat} (h : x < 4294967296) : ∀ k, stps k x < 4294967296
  | 0 => h
  | k + 1 => stp_lt (stps_lt h k)
theorem mix_lt {x b : Nat} (h : x < 4294967296) (hb : b < 256) : mix x b < 4294967296 := stps_lt (xor_lt32 h (by omega)) 8
theorem crcs_lt {l : List UInt8} : ∀ {x : Nat}, x < 4294967296 → crcs x l < 4294967296 := by
  induction l with
  | nil => intro x h; exact h
  | cons b l ih => intro x h; exact ih (mix_lt h b.toNat_lt)
theorem crc_lt (l : List UInt8) : crc l < 4294967296 := xor_lt32 (crcs_lt (by omega)) (by omega)
theorem crcs_append (x : Nat) (l m : List UInt8) : crcs x (l ++ m) = crcs (crcs x l) m := by unfold crcs; rw [List.foldl_append]
theorem crcs_snoc (x : Nat) (l : List UInt8) (b : UInt8) : crcs x (l ++ [b]) = mix (crcs x l) b.toNat := by rw [crcs_append]; rfl

/-! ### numbers in bytes, the lowest first -/
def byteAt (n i : Nat) : UInt8 := UInt8.ofNat (n / 256 ^ i)
def leB (n k : Nat) : List UInt8 := (List.range k).map (byteAt n)
def rdB : List UInt8 → Nat
  | [] => 0
  | b :: l => b.toNat + 256 * rdB l
theorem leB_length (n k : Nat) : (leB n k).length = k := by simp [leB]
theorem leB_succ (n k : Nat) : leB n (k + 1) = byteAt n 0 :: leB (n / 256) k := by
  unfold leB
  rw [List.range_succ_eq_map, List.map_cons, List.map_map]
  congr 1
  apply List.map_congr_left
  intro i _
  simp only [Function.comp, byteAt, Nat.pow_succ, Nat.div_div_eq_div_mul]
  rw [Nat.mul_comm]
theorem rdB_leB (k : Nat) : ∀ n, rdB (leB n k) = n % 256 ^ k := by
  induction k with
  | zero => intro n; simp [leB, rdB, Nat.mod_one]
  | succ k ih =>
    intro n
    rw [leB_succ, rdB, ih, byteAt, UInt8.toNat_ofNat', Nat.pow_zero, Nat.div_one]
    rw [show 256 ^ (k + 1) = 256 * 256 ^ k by rw [Nat.pow_succ, Nat.mul_comm], Nat.mod_mul]
theorem rdB_lt : ∀ l : List UInt8, rdB l < 256 ^ l.length
  | [] => by simp [rdB]
  | b :: l => by
    have h1 := rdB_lt l
    have h2 := b.toNat_lt
    rw [rdB, List.length_cons, Nat.pow_succ]
    omega
theorem leB_rdB : ∀ l : List UInt8, leB (rdB l) l.length = l
  | [] => rfl
  | b :: l => by
    have h2 := b.toNat_lt
    rw [List.length_cons, leB_succ, rdB]
    have e1 : (b.toNat + 256 * rdB l) / 256 = rdB l := by omega
    rw [e1, leB_rdB l, byteAt, Nat.pow_zero, Nat.div_one]
    congr 1
    rw [← UInt8.toNat_inj, UInt8.toNat_ofNat']; omega
theorem rdB_snoc (l : List UInt8) (b : UInt8) : rdB (l ++ [b]) = rdB l + b.toNat * 256 ^ l.length := by
  induction l with
  | nil => simp [rdB]
  | cons c l ih =>
    have e : 256 * (b.toNat * 256 ^ l.length) = b.toNat * (256 ^ l.length * 256) := by rw [Nat.mul_left_comm, Nat.mul_comm 256]
    rw [List.cons_append, rdB, ih, rdB, List.length_cons, Nat.pow_succ, Nat.mul_add, e, Nat.add_assoc]
end Go.Proofs.YtmongcpaphifaaaDoor
