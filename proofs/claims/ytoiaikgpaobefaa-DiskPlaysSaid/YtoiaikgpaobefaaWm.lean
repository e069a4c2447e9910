/- What a Write and a Flush turn. -/
import Derived.Test.YtoiaikgpaobefaaWr
import Derived.Test.YtoiaikgpaobefaaCm
namespace Go.Proofs.Ytoiaikgpaobefaa
open Go.RowKit Go.Maps

theorem DM.writeN_bd (m : DM) (k len : Int) : 0 ≤ m.writeN k len ∧ m.writeN k len ≤ 16 := by
  unfold DM.writeN
  split
  · exact m.actN_bd
  · exact refN_bd _ _ _ _ _
theorem noN_of {k : Int} (h : 0 ≤ k ∧ k ≤ 16) : noN k = k := by unfold noN; rw [if_pos h]
theorem DM.write_lasts (m : DM) (k len : Int) (s : Sec) : (m.write k len s).lasts = m.lasts := by
  unfold DM.write; repeat' split
  all_goals first | rfl | exact m.acted_lasts
theorem DM.write_done (m : DM) (k len : Int) (s : Sec) (h : m.writeN k len = 0) : (m.write k len s).fresh = put m.fresh k s := by
  unfold DM.writeN at h
  unfold DM.write
  split at h
  · rename_i h1
    rw [if_pos h1]
    unfold DM.actN at h
    split at h
    · cases h
    · rename_i h2; rw [if_neg h2]
  · exact absurd h (by assumption)
theorem DM.write_not (m : DM) (k len : Int) (s : Sec) (h : m.writeN k len ≠ 0) : (m.write k len s).fresh = m.fresh := by
  unfold DM.writeN at h
  unfold DM.write
  split at h
  · rename_i h1
    rw [if_pos h1]
    unfold DM.actN at h
    split at h
    · rename_i h2; rw [if_pos h2]; exact m.acted_fresh
    · exact absurd rfl h
  · rename_i h1; rw [if_neg h1]

theorem DM.flushN_bd (m : DM) : 0 ≤ m.flushN ∧ m.flushN ≤ 16 := by
  unfold DM.flushN
  split
  · omega
  · exact m.actN_bd
theorem DM.flush_off_of (m : DM) (h : m.flushN ≠ 0) : m.flush.off = true := by
  unfold DM.flushN at h
  unfold DM.flush
  split at h
  · rename_i h1; rw [if_pos h1]; exact h1
  · rename_i h1
    rw [if_neg h1]
    unfold DM.actN at h
    split at h
    · rename_i h2; rw [if_pos h2]; unfold DM.acted; rw [if_pos h2]
    · exact absurd rfl h
theorem DM.flush_fresh (m : DM) (h : m.flushN = 0) (k : Int) : m.flush.fresh k = none := by
  unfold DM.flushN at h
  unfold DM.flush
  split at h
  · cases h
  · rename_i h1
    rw [if_neg h1]
    unfold DM.actN at h
    split at h
    · cases h
    · rename_i h2; rw [if_neg h2]; rfl

theorem Wrote_len {m : DM} (k len : Int) (s : Sec) : (m.write k len s).lasts.length = m.lasts.length := by rw [DM.write_lasts]

/-- What a crash leaves of a sector that is not dirty. -/
theorem crash_clean {m : DM} (hm : m.ok) (torn cut : Int) (kept : List Int) (k : Nat) (hk : k < m.lasts.length) (hf : m.fresh k = none) : (m.crash torn cut kept).now k = m.lasts.getD k zeroSec := by
  rw [crash_now hm torn cut kept k hk, hf]
  simp

end Go.Proofs.Ytoiaikgpaobefaa
