/- do: a call of both disks. -/
import Derived.Test.YtoiaikgpaobefaaTw
import Derived.Deep.RegionHeld3
namespace Go.Proofs.Ytoiaikgpaobefaa
open Go.RowKit Go.Maps
set_option linter.unusedVariables false

theorem noN_in {k : Int} (h0 : 0 ≤ k) (h : k ≤ 16) : noN k = k := by unfold noN; rw [if_pos ⟨h0, h⟩]
theorem writeN_bd (m : DM) (k l : Int) : 0 ≤ m.writeN k l ∧ m.writeN k l ≤ 16 := by
  unfold DM.writeN
  split
  · exact m.actN_bd
  · exact refN_bd _ _ _ _ _
theorem flushN_bd (m : DM) : 0 ≤ m.flushN ∧ m.flushN ≤ 16 := by
  unfold DM.flushN
  split
  · decide
  · exact m.actN_bd
theorem sec_of (a : AM) : a.sec = secOf a.bytes := rfl
theorem bytes_le (a : AM) : a.bytes.length ≤ 1073741824 := by
  unfold AM.bytes
  split
  · rw [List.length_replicate]; omega
  · rw [ofSec_length]; omega

/-- What a region of do reads. -/
def Seen (X b r g : Nat) (kind at_ an : Int) (u : UInt8) (ka : Option Addr) (kl kc : Nat) (w : World) : Prop :=
  w.cell? ⟨X, 0, none⟩ = some (.pointer (some ⟨b, 0, none⟩)) ∧ w.cell? ⟨X, 1, none⟩ = some (.pointer (some ⟨r, 0, none⟩)) ∧
  w.cell? ⟨g, 0, none⟩ = some (.int .i64 kind) ∧ w.cell? ⟨g, 1, none⟩ = some (.int .i64 at_) ∧ w.cell? ⟨g, 2, none⟩ = some (.int .i64 an) ∧ w.cell? ⟨g, 3, none⟩ = some (.int .u8 (u.toNat : Int)) ∧ w.cell? ⟨g, 4, none⟩ = some (.slice ka kl kc)
theorem only_cell {T : List Nat} {w w' : World} (ho : Only T w w') {a : Addr} {v : Value} (h : w.cell? a = some v) (hn : a.block ∉ T) : w'.cell? a = some v := by
  have hlt := World.block_lt_of_cell? w _ h
  rw [World.cell?_of_block (ho.block a.block hlt hn)]; exact h
theorem Seen.keep {X b r g : Nat} {kind at_ an : Int} {u : UInt8} {ka : Option Addr} {kl kc : Nat} {w w' : World} (h : Seen X b r g kind at_ an u ka kl kc w) {T : List Nat} (ho : Only T w w') (hX : X ∉ T) (hg : g ∉ T) : Seen X b r g kind at_ an u ka kl kc w' := by
  obtain ⟨h1, h2, h3, h4, h5, h6, h7⟩ := h
  exact ⟨only_cell ho h1 hX, only_cell ho h2 hX, only_cell ho h3 hg, only_cell ho h4 hg, only_cell ho h5 hg, only_cell ho h6 hg, only_cell ho h7 hg⟩
theorem Seen.made {w0 w : World} {X b L M r : Nat} {S : List Nat} {j K : Nat} {m : DM} (h : Two w0 w X b L M r S j K m) (kind at_ an : Int) (u : UInt8) (ka : Option Addr) (kl kc : Nat) :
    Seen X b r w.heap.size kind at_ an u ka kl kc (w.alloc (.cells #[.int .i64 kind, .int .i64 at_, .int .i64 an, .int .u8 (u.toNat : Int), .slice ka kl kc] 39)) := by
  have t1 := h.below ((Below.refl _ w).alloc (Nat.le_refl _) (.cells #[.int .i64 kind, .int .i64 at_, .int .i64 an, .int .u8 (u.toNat : Int), .slice ka kl kc] 39))
  have hr := heap_alloc_last w (.cells #[.int .i64 kind, .int .i64 at_, .int .i64 an, .int .u8 (u.toNat : Int), .slice ka kl kc] 39)
  refine ⟨t1.c0, t1.c1, ?_, ?_, ?_, ?_, ?_⟩ <;> (rw [cell_of_row _ _ _ _ _ _ hr]; rfl)

set_option maxRecDepth 100000 in
set_option maxHeartbeats 4000000 in
theorem do_2 {w0 w : World} {X b L M r : Nat} {S : List Nat} {j K : Nat} {m : DM} (h : Two w0 w X b L M r S j K m) (hK : K ≤ 1000) (at_ an : Int) (u : UInt8) (ka : Option Addr) (kc : Nat) (kept : List Int) :
    Calls Try.prog 14 #[.pointer (some ⟨X, 0, none⟩), .agg (AM.cells ⟨2, at_, an, u, ka, kc, kept⟩).toArray] w (Done w0 X (j + 1) (K + 1) (m.did ⟨2, at_, an, u, ka, kc, kept⟩)) := by
  have t1 := h.below ((Below.refl _ w).alloc (Nat.le_refl _) (.cells #[.int .i64 2, .int .i64 at_, .int .i64 an, .int .u8 (u.toNat : Int), .slice ka kept.length kc] 39))
  have s1 := Seen.made h 2 at_ an u ka kept.length kc
  have lX : X < w.heap.size := (Array.getElem?_eq_some_iff.1 h.x).1
  have lS := h.ref.lt
  have hq : noN m.flushN = m.flushN := noN_in (flushN_bd m).1 (flushN_bd m).2
  have E : m.did ⟨2, at_, an, u, ka, kc, kept⟩ = m.flush := by unfold DM.did; rw [if_neg (by simp), if_pos rfl]
  rw [E]
  clear E
  have LT := Lib.hid (show X ∉ [b, L, M] ∧ w.heap.size ∉ [b, L, M] ∧ X ∉ S ∧ w.heap.size ∉ S from by
    have := h.disk.ltb; have := h.disk.ltL; have := h.disk.ltM
    obtain ⟨n1, n2, n3⟩ := h.nx
    refine ⟨by simp [n1, n2, n3], by simp; omega, fun e => (h.ap X e).2.2.2 rfl, fun e => by have := lS _ e; omega⟩)
  clear lS h
  unfold AM.cells
  go_enter Try.func14, Try.ntmps14
  go_wp2_with fail
  generalize w.alloc (.cells #[.int .i64 2, .int .i64 at_, .int .i64 an, .int .u8 (u.toNat : Int), .slice ka kept.length kc] 39) = W at *
  have s1d : Seen X b r w.heap.size 2 at_ an u ka kept.length kc W.drew := s1
  have t1d : Two w0 W.drew X b L M r S j K m := t1.below (Below.refl _ _).drew
  have T1 := Lib.hid t1d
  have S1 := Lib.hid s1d
  clear t1 t1d s1 s1d
  go_region_held3 (fun w' => w'.cell? ⟨X, 0, none⟩ = some (.pointer (some ⟨b, 0, none⟩)) ∧ w'.cell? ⟨X, 1, none⟩ = some (.pointer (some ⟨r, 0, none⟩)) ∧
      w'.cell? ⟨w.heap.size, 0, none⟩ = some (.int .i64 2) ∧ w'.cell? ⟨w.heap.size, 1, none⟩ = some (.int .i64 at_) ∧ w'.cell? ⟨w.heap.size, 2, none⟩ = some (.int .i64 an) ∧ w'.cell? ⟨w.heap.size, 3, none⟩ = some (.int .u8 (u.toNat : Int)) ∧ w'.cell? ⟨w.heap.size, 4, none⟩ = some (.slice ka kept.length kc))
    (first | exact S3.out | exact S2.out | exact S1.out)
    (first
      | (go_at_call 23; refine (flush_any T1.out.disk).mono ?_; rintro e w2 ⟨rfl, d2, o2⟩; have S2 := Lib.hid (S1.out.keep o2 LT.out.1 LT.out.2.1); have D2 := Lib.hid d2; have O2 := Lib.hid o2; clear d2 o2)
      | (go_at_call 11; refine (no_any _ _).mono ?_; rintro e w' ⟨rfl, rfl⟩)
      | (go_at_call 32; refine (flush_ref (T1.out.refOf O2.out (by simp)) T1.out.disk.ok (by omega)).mono ?_; rintro e w3 ⟨rfl, S', r3, o3, n3⟩; have S3 := Lib.hid (S2.out.keep o3 LT.out.2.2.1 LT.out.2.2.2); have R3 := Lib.hid (And.intro r3 (And.intro o3 n3)); clear r3 o3 n3))
  go_wp2
  go_ret
  obtain ⟨r3, o3, n3⟩ := R3.out
  exact ⟨by simp, b, L, M, r, S', T1.out.both O2.out (by simp) (D2.out.mono (Nat.le_succ _)) (r3.mono (Nat.le_succ _)) o3 n3⟩

set_option maxRecDepth 100000 in
set_option maxHeartbeats 4000000 in
theorem do_3 {w0 w : World} {X b L M r : Nat} {S : List Nat} {j K : Nat} {m : DM} (h : Two w0 w X b L M r S j K m) (hj : j < maxLen) (hK : K ≤ 1000) (at_ an : Int) (hfn : Fits an) (u : UInt8) (ka : Option Addr) (kc : Nat) (kept : List Int) :
    Calls Try.prog 14 #[.pointer (some ⟨X, 0, none⟩), .agg (AM.cells ⟨3, at_, an, u, ka, kc, kept⟩).toArray] w (Done w0 X (j + 1) (K + 1) (m.did ⟨3, at_, an, u, ka, kc, kept⟩)) := by
  have t1 := h.below ((Below.refl _ w).alloc (Nat.le_refl _) (.cells #[.int .i64 3, .int .i64 at_, .int .i64 an, .int .u8 (u.toNat : Int), .slice ka kept.length kc] 39))
  have s1 := Seen.made h 3 at_ an u ka kept.length kc
  have lX : X < w.heap.size := (Array.getElem?_eq_some_iff.1 h.x).1
  have lS := h.ref.lt
  have LT := Lib.hid (show X ∉ [b, L, M] ∧ w.heap.size ∉ [b, L, M] ∧ X ∉ S ∧ w.heap.size ∉ S from by
    have := h.disk.ltb; have := h.disk.ltL; have := h.disk.ltM
    obtain ⟨n1, n2, n3⟩ := h.nx
    refine ⟨by simp [n1, n2, n3], by simp; omega, fun e => (h.ap X e).2.2.2 rfl, fun e => by have := lS _ e; omega⟩)
  have E : m.did ⟨3, at_, an, u, ka, kc, kept⟩ = { m with left := an } := by unfold DM.did; rw [if_neg (by simp), if_neg (by simp), if_pos rfl]
  rw [E]
  clear E
  clear lS h
  unfold AM.cells
  go_enter Try.func14, Try.ntmps14
  go_wp2_with fail
  generalize w.alloc (.cells #[.int .i64 3, .int .i64 at_, .int .i64 an, .int .u8 (u.toNat : Int), .slice ka kept.length kc] 39) = W at *
  have s1d : Seen X b r w.heap.size 3 at_ an u ka kept.length kc W.drew := s1
  have t1d : Two w0 W.drew X b L M r S j K m := t1.below (Below.refl _ _).drew
  have T1 := Lib.hid t1d
  have S1 := Lib.hid s1d
  clear t1 t1d s1 s1d
  have HF := Lib.hid hfn
  clear hfn
  go_region_held3 (fun w' => w'.cell? ⟨X, 0, none⟩ = some (.pointer (some ⟨b, 0, none⟩)) ∧ w'.cell? ⟨X, 1, none⟩ = some (.pointer (some ⟨r, 0, none⟩)) ∧
      w'.cell? ⟨w.heap.size, 0, none⟩ = some (.int .i64 3) ∧ w'.cell? ⟨w.heap.size, 1, none⟩ = some (.int .i64 at_) ∧ w'.cell? ⟨w.heap.size, 2, none⟩ = some (.int .i64 an) ∧ w'.cell? ⟨w.heap.size, 3, none⟩ = some (.int .u8 (u.toNat : Int)) ∧ w'.cell? ⟨w.heap.size, 4, none⟩ = some (.slice ka kept.length kc))
    (first | exact S2.out | exact S1.out)
    (first
      | (go_at_call 27; refine (limit_any T1.out.disk an HF.out).mono ?_; rintro e w2 ⟨rfl, d2, o2⟩; have S2 := Lib.hid (S1.out.keep (o2.mono (T := [b, L, M]) (by simp)) LT.out.1 LT.out.2.1); have D2 := Lib.hid d2; have O2 := Lib.hid (o2.mono (T := [b, L, M]) (by simp)); clear d2 o2))
  go_wp2_with fail
  have S2d := Lib.hid (show Seen X b r w.heap.size 3 at_ an u ka kept.length kc w2.drew from S2.out)
  have R2 := Lib.hid (T1.out.refOf O2.out (by simp))
  have X2 := Lib.hid (T1.out.xOf O2.out (by simp))
  go_region_held3 (fun w' => w'.cell? ⟨X, 0, none⟩ = some (.pointer (some ⟨b, 0, none⟩)) ∧ w'.cell? ⟨X, 1, none⟩ = some (.pointer (some ⟨r, 0, none⟩)) ∧
      w'.cell? ⟨w.heap.size, 0, none⟩ = some (.int .i64 3) ∧ w'.cell? ⟨w.heap.size, 1, none⟩ = some (.int .i64 at_) ∧ w'.cell? ⟨w.heap.size, 2, none⟩ = some (.int .i64 an) ∧ w'.cell? ⟨w.heap.size, 3, none⟩ = some (.int .u8 (u.toNat : Int)) ∧ w'.cell? ⟨w.heap.size, 4, none⟩ = some (.slice ka kept.length kc))
    (first | exact S3.out | exact S2d.out)
    (first
      | (go_at_call 33; refine (limit_ref (w := w2.drew) (R2.out.keep ((Only.refl [] _).drew) (by simp)) an).mono ?_; rintro e w3 ⟨rfl, r3, o3⟩; have S3 := Lib.hid (S2d.out.keep o3 (by have := LT.out.2.2.1; have := R2.out.self; simp; rintro rfl; contradiction) (by have := LT.out.2.2.2; have := R2.out.self; simp; intro e; exact LT.out.2.2.2 (by rw [e]; exact R2.out.self))); have R3 := Lib.hid (And.intro r3 o3); clear r3 o3))
  have c3 := S3.out.1
  go_wp2_with fail
  go_ret
  obtain ⟨r3, o3⟩ := R3.out
  refine ⟨by simp, b, L, M, r, S, T1.out.both O2.out (by simp) (D2.out.mono (Nat.le_succ _)) (r3.mono (Nat.le_succ _)) ?_ (fun y hy => .inl hy)⟩
  exact ((Only.refl _ _).drew).trans (o3.mono (by simp; exact fun _ => R2.out.self))

set_option maxRecDepth 100000 in
set_option maxHeartbeats 4000000 in
theorem do_0 {w0 w : World} {X b L M r : Nat} {S : List Nat} {j K : Nat} {m : DM} (h : Two w0 w X b L M r S j K m) (hj : j < maxLen) (hK : K ≤ 1000) (at_ an : Int) (u : UInt8) (ka : Option Addr) (kc : Nat) (kept : List Int) :
    Calls Try.prog 14 #[.pointer (some ⟨X, 0, none⟩), .agg (AM.cells ⟨0, at_, an, u, ka, kc, kept⟩).toArray] w (Done w0 X (j + 1) (K + 1) (m.did ⟨0, at_, an, u, ka, kc, kept⟩)) := by
  have t1 := h.below ((Below.refl _ w).alloc (Nat.le_refl _) (.cells #[.int .i64 0, .int .i64 at_, .int .i64 an, .int .u8 (u.toNat : Int), .slice ka kept.length kc] 39))
  have s1 := Seen.made h 0 at_ an u ka kept.length kc
  have lX : X < w.heap.size := (Array.getElem?_eq_some_iff.1 h.x).1
  have lS := h.ref.lt
  have LT := Lib.hid (show X ∉ [b, L, M] ∧ w.heap.size ∉ [b, L, M] ∧ X ∉ S ∧ w.heap.size ∉ S from by
    have := h.disk.ltb; have := h.disk.ltL; have := h.disk.ltM
    obtain ⟨n1, n2, n3⟩ := h.nx
    refine ⟨by simp [n1, n2, n3], by simp; omega, fun e => (h.ap X e).2.2.2 rfl, fun e => by have := lS _ e; omega⟩)
  have hq : noN (m.writeN at_ ((AM.bytes ⟨0, at_, an, u, ka, kc, kept⟩).length : Nat)) = m.writeN at_ ((AM.bytes ⟨0, at_, an, u, ka, kc, kept⟩).length : Nat) := noN_in (writeN_bd _ _ _).1 (writeN_bd _ _ _).2
  have E : m.did ⟨0, at_, an, u, ka, kc, kept⟩ = m.write at_ (AM.bytes ⟨0, at_, an, u, ka, kc, kept⟩).length (AM.sec ⟨0, at_, an, u, ka, kc, kept⟩) := by unfold DM.did; rw [if_pos rfl]
  rw [E]
  clear E
  have BL := Lib.hid (bytes_le ⟨0, at_, an, u, ka, kc, kept⟩)
  have HJ := Lib.hid hj
  clear lS h
  unfold AM.cells
  go_enter Try.func14, Try.ntmps14
  go_wp2_with fail
  generalize w.alloc (.cells #[.int .i64 0, .int .i64 at_, .int .i64 an, .int .u8 (u.toNat : Int), .slice ka kept.length kc] 39) = W at *
  have s1d : Seen X b r w.heap.size 0 at_ an u ka kept.length kc W.drew := s1
  have t1d : Two w0 W.drew X b L M r S j K m := t1.below (Below.refl _ _).drew
  have T1 := Lib.hid t1d
  have S1 := Lib.hid s1d
  clear t1 t1d s1 s1d
  clear hj
  go_region_held (fun w' => w'.cell? ⟨X, 0, none⟩ = some (.pointer (some ⟨b, 0, none⟩)) ∧ w'.cell? ⟨X, 1, none⟩ = some (.pointer (some ⟨r, 0, none⟩)) ∧
      w'.cell? ⟨w.heap.size, 0, none⟩ = some (.int .i64 0) ∧ w'.cell? ⟨w.heap.size, 1, none⟩ = some (.int .i64 at_) ∧ w'.cell? ⟨w.heap.size, 2, none⟩ = some (.int .i64 an) ∧ w'.cell? ⟨w.heap.size, 3, none⟩ = some (.int .u8 (u.toNat : Int)) ∧ w'.cell? ⟨w.heap.size, 4, none⟩ = some (.slice ka kept.length kc))
    (first | exact S5.out | exact S4.out | exact S3.out | exact S2.out | exact S1.out)
    (first
      | (go_at_call 30; refine (bytes_any (w := w3) ⟨0, at_, an, u, ka, kc, kept⟩).mono ?_; rintro e w4 ⟨gd, rfl, hgd, b4, gd4⟩; have S4 := Lib.hid (S3.out.keep (T := []) (Below.only b4) (by simp) (by simp)); have D4 := Lib.hid (D3.out.below b4); have O4 := Lib.hid (O3.out.trans (Below.only b4)); have kD := conv_bytes _ (AM.bytes ⟨0, at_, an, u, ka, kc, kept⟩).length rfl hgd; clear hgd b4 gd4)
      | (go_at_call 30; refine (bytes_any (w := W.drew) ⟨0, at_, an, u, ka, kc, kept⟩).mono ?_; rintro e w2 ⟨gb, rfl, hgb, b2, gb2⟩; have S2 := Lib.hid (S1.out.keep (T := []) (Below.only b2) (by simp) (by simp)); have D2 := Lib.hid (T1.out.disk.below b2); have O2 := Lib.hid (show Only [] W.drew w2 from Below.only b2); have HB := Lib.hid (And.intro hgb gb2); clear hgb b2 gb2)
      | (go_at_call 25; refine (write_any D2.out HJ.out at_ (some ⟨gb, 0, none⟩) _ _ (AM.sec ⟨0, at_, an, u, ka, kc, kept⟩) (AM.bytes_sec _) (fun hl => ⟨gb, 0, rfl, (by have := T1.out.disk.ltb; have := HB.out.2; omega), by rw [AM.sec, if_pos hl]; exact range_of_bytes HB.out.1⟩)).mono ?_; rintro e w3 ⟨rfl, d3, o3⟩; have S3 := Lib.hid (S2.out.keep (o3.mono (T := [b, L, M]) (by simp)) LT.out.1 LT.out.2.1); have D3 := Lib.hid d3; have O3 := Lib.hid ((O2.out.mono (T := [b, L, M]) (by simp)).trans (o3.mono (T := [b, L, M]) (by simp))); clear d3 o3)
      | (go_at_call 11; refine (no_any _ _).mono ?_; rintro e w' ⟨rfl, rfl⟩)
      | (go_at_call 31; refine (write_ref (w := w4) (T1.out.refOf O4.out (by simp)) T1.out.disk.ok (by omega) at_ (AM.bytes ⟨0, at_, an, u, ka, kc, kept⟩) BL.out).mono ?_; rintro e w5 ⟨rfl, S', r5, o5, n5⟩; have S5 := Lib.hid (S4.out.keep o5 LT.out.2.2.1 LT.out.2.2.2); have R5 := Lib.hid (And.intro r5 (And.intro o5 n5)); clear r5 o5 n5))
  go_wp2
  go_ret
  obtain ⟨r5, o5, n5⟩ := R5.out
  exact ⟨by simp, b, L, M, r, S', T1.out.both O4.out (by simp) D4.out r5 o5 n5⟩

theorem Two.more {w0 w : World} {X b L M r : Nat} {S : List Nat} {j K : Nat} {m : DM} (h : Two w0 w X b L M r S j K m) : Two w0 w X b L M r S (j + 1) (K + 1) m :=
  ⟨h.x, h.disk.mono (Nat.le_succ _), h.ref.mono (Nat.le_succ _), h.ap, h.nx, h.bel, h.new⟩

set_option maxRecDepth 100000 in
set_option maxHeartbeats 4000000 in
theorem do_1 {w0 w : World} {X b L M r : Nat} {S : List Nat} {j K : Nat} {m : DM} (h : Two w0 w X b L M r S j K m) (hj : j < maxLen) (hK : K ≤ 1000) (at_ an : Int) (u : UInt8) (ka : Option Addr) (kc : Nat) (kept : List Int) :
    Calls Try.prog 14 #[.pointer (some ⟨X, 0, none⟩), .agg (AM.cells ⟨1, at_, an, u, ka, kc, kept⟩).toArray] w (Done w0 X (j + 1) (K + 1) (m.did ⟨1, at_, an, u, ka, kc, kept⟩)) := by
  have t1 := h.below ((Below.refl _ w).alloc (Nat.le_refl _) (.cells #[.int .i64 1, .int .i64 at_, .int .i64 an, .int .u8 (u.toNat : Int), .slice ka kept.length kc] 39))
  have s1 := Seen.made h 1 at_ an u ka kept.length kc
  have lX : X < w.heap.size := (Array.getElem?_eq_some_iff.1 h.x).1
  have lS := h.ref.lt
  have LT := Lib.hid (show X ∉ [b, L, M] ∧ w.heap.size ∉ [b, L, M] ∧ X ∉ S ∧ w.heap.size ∉ S from by
    have := h.disk.ltb; have := h.disk.ltL; have := h.disk.ltM
    obtain ⟨n1, n2, n3⟩ := h.nx
    refine ⟨by simp [n1, n2, n3], by simp; omega, fun e => (h.ap X e).2.2.2 rfl, fun e => by have := lS _ e; omega⟩)
  have E : m.did ⟨1, at_, an, u, ka, kc, kept⟩ = m := by unfold DM.did; rw [if_neg (by simp), if_neg (by simp), if_neg (by simp), if_neg (by simp)]
  rw [E]
  clear E
  have n0 := noN_0
  have hq : noN (refN 1 m.lasts.length m.off at_ 0) = refN 1 m.lasts.length m.off at_ 0 := noN_in (refN_bd _ _ _ _ _).1 (refN_bd _ _ _ _ _).2
  have HQ := Lib.hid hq
  clear hq
  clear lS h
  unfold AM.cells
  go_enter Try.func14, Try.ntmps14
  go_wp2_with fail
  generalize w.alloc (.cells #[.int .i64 1, .int .i64 at_, .int .i64 an, .int .u8 (u.toNat : Int), .slice ka kept.length kc] 39) = W at *
  have s1d : Seen X b r w.heap.size 1 at_ an u ka kept.length kc W.drew := s1
  have t1d : Two w0 W.drew X b L M r S j K m := t1.below (Below.refl _ _).drew
  have T1 := Lib.hid t1d
  have S1 := Lib.hid s1d
  clear t1 t1d s1 s1d
  have RR := fun (w : World) (h : RefIn w r S m K) => read_ref h T1.out.disk.ok (by omega) at_
  by_cases hr : refN 1 m.lasts.length m.off at_ 0 = 0
  · rw [readV_ok hr] at RR
    have hk : 0 ≤ at_ ∧ at_ < m.lasts.length := by
      rcases Classical.em (0 ≤ at_ ∧ at_ < m.lasts.length) with h | h
      · exact h
      · rw [refN_out (by omega)] at hr; exact absurd hr (by decide)
    have hlen : (m.now at_).length = 256 := by
      obtain ⟨k, rfl⟩ := Int.eq_ofNat_of_zero_le hk.1
      exact now_length T1.out.disk.ok k (by omega)
    have HR := Lib.hid (And.intro hr hlen)
    clear hr hlen hk
    go_region_held3 (fun w' => w'.cell? ⟨X, 0, none⟩ = some (.pointer (some ⟨b, 0, none⟩)) ∧ w'.cell? ⟨X, 1, none⟩ = some (.pointer (some ⟨r, 0, none⟩)) ∧
      w'.cell? ⟨w.heap.size, 0, none⟩ = some (.int .i64 1) ∧ w'.cell? ⟨w.heap.size, 1, none⟩ = some (.int .i64 at_) ∧ w'.cell? ⟨w.heap.size, 2, none⟩ = some (.int .i64 an) ∧ w'.cell? ⟨w.heap.size, 3, none⟩ = some (.int .u8 (u.toNat : Int)) ∧ w'.cell? ⟨w.heap.size, 4, none⟩ = some (.slice ka kept.length kc))
      (first | exact S2.out | exact S1.out)
      (first
        | (go_at_call 20; refine (read_ok T1.out.disk at_ HR.out.1).mono ?_; rintro e w2 ⟨ga, rfl, ha, b2, ga1⟩; have S2 := Lib.hid (S1.out.keep (T := []) (Below.only b2) (by simp) (by simp)); have T2 := Lib.hid (T1.out.below b2); have HA := Lib.hid ha; clear ha b2 ga1))
    go_wp2_with fail
    have S2d := Lib.hid (show Seen X b r w.heap.size 1 at_ an u ka kept.length kc w2.drew from S2.out)
    have T2d := Lib.hid (show Two w0 w2.drew X b L M r S j K m from T2.out.below (Below.refl _ _).drew)
    go_region_held3 (fun w' => w'.cell? ⟨X, 0, none⟩ = some (.pointer (some ⟨b, 0, none⟩)) ∧ w'.cell? ⟨X, 1, none⟩ = some (.pointer (some ⟨r, 0, none⟩)) ∧
      w'.cell? ⟨w.heap.size, 0, none⟩ = some (.int .i64 1) ∧ w'.cell? ⟨w.heap.size, 1, none⟩ = some (.int .i64 at_) ∧ w'.cell? ⟨w.heap.size, 2, none⟩ = some (.int .i64 an) ∧ w'.cell? ⟨w.heap.size, 3, none⟩ = some (.int .u8 (u.toNat : Int)) ∧ w'.cell? ⟨w.heap.size, 4, none⟩ = some (.slice ka kept.length kc))
      (first | exact S2d.out)
      (first
        | (go_at_call 21; refine (RR _ T2d.out.ref).mono ?_; rintro e w' ⟨rfl, rfl⟩))
    have kA := conv_bytes (w := w2.drew) 256 256 HR.out.2 HA.out
    unfold strV
    generalize strOf (m.now at_) = Z at kA ⊢
    go_wp2_with (go_at_call 11; refine (no_any _ _).mono ?_; rintro e w' ⟨rfl, rfl⟩)
    refine bodyPost_ret (v := .bool true) (by simp [results, Try.results14, go_sem]) rfl ?_
    exact ⟨rfl, b, L, M, r, S, T2d.out.more⟩
  · have hr1 : 1 ≤ refN 1 m.lasts.length m.off at_ 0 := by have := (refN_bd 1 m.lasts.length m.off at_ 0).1; omega
    have RD := read_refused T1.out.disk at_ hr1
    rw [readV_bad rfl hr] at RR
    have hq := HQ.out
    generalize refN 1 m.lasts.length m.off at_ 0 = E at *
    clear hr hr1
    go_region_held3 (fun w' => w'.cell? ⟨X, 0, none⟩ = some (.pointer (some ⟨b, 0, none⟩)) ∧ w'.cell? ⟨X, 1, none⟩ = some (.pointer (some ⟨r, 0, none⟩)) ∧
      w'.cell? ⟨w.heap.size, 0, none⟩ = some (.int .i64 1) ∧ w'.cell? ⟨w.heap.size, 1, none⟩ = some (.int .i64 at_) ∧ w'.cell? ⟨w.heap.size, 2, none⟩ = some (.int .i64 an) ∧ w'.cell? ⟨w.heap.size, 3, none⟩ = some (.int .u8 (u.toNat : Int)) ∧ w'.cell? ⟨w.heap.size, 4, none⟩ = some (.slice ka kept.length kc))
      (first | exact S1.out)
      (first
        | (go_at_call 20; refine RD.mono ?_; rintro e w' ⟨rfl, rfl⟩))
    go_wp2_with fail
    have S2d := Lib.hid (show Seen X b r w.heap.size 1 at_ an u ka kept.length kc W.drew.drew from S1.out)
    have T2d := Lib.hid (show Two w0 W.drew.drew X b L M r S j K m from T1.out.below (Below.refl _ _).drew)
    go_region_held3 (fun w' => w'.cell? ⟨X, 0, none⟩ = some (.pointer (some ⟨b, 0, none⟩)) ∧ w'.cell? ⟨X, 1, none⟩ = some (.pointer (some ⟨r, 0, none⟩)) ∧
      w'.cell? ⟨w.heap.size, 0, none⟩ = some (.int .i64 1) ∧ w'.cell? ⟨w.heap.size, 1, none⟩ = some (.int .i64 at_) ∧ w'.cell? ⟨w.heap.size, 2, none⟩ = some (.int .i64 an) ∧ w'.cell? ⟨w.heap.size, 3, none⟩ = some (.int .u8 (u.toNat : Int)) ∧ w'.cell? ⟨w.heap.size, 4, none⟩ = some (.slice ka kept.length kc))
      (first | exact S2d.out)
      (first
        | (go_at_call 21; refine (RR _ T2d.out.ref).mono ?_; rintro e w' ⟨rfl, rfl⟩))
    have kN : ∀ w : World, (convert 47 9 (.slice none 0 0)).run Try.prog w = .ok (.string ⟨#[]⟩) w := fun w => by kernel_rfl
    rw [show strV [] = .string ⟨#[]⟩ from rfl]
    go_wp2_with (go_at_call 11; refine (no_any _ _).mono ?_; rintro e w' ⟨rfl, rfl⟩)
    go_ret
    exact ⟨by simp, b, L, M, r, S, T2d.out.more⟩

set_option maxRecDepth 100000 in
set_option maxHeartbeats 4000000 in
theorem do_else {w0 w : World} {X b L M r : Nat} {S : List Nat} {j K : Nat} {m : DM} (h : Two w0 w X b L M r S j K m) (hj : j < maxLen) (hK : K ≤ 1000) (kind : Int) (hk : kind ≠ 0 ∧ kind ≠ 1 ∧ kind ≠ 2 ∧ kind ≠ 3 ∧ kind ≠ 4) (at_ an : Int) (u : UInt8) (ka : Option Addr) (kc : Nat) (kept : List Int) :
    Calls Try.prog 14 #[.pointer (some ⟨X, 0, none⟩), .agg (AM.cells ⟨kind, at_, an, u, ka, kc, kept⟩).toArray] w (Done w0 X (j + 1) (K + 1) (m.did ⟨kind, at_, an, u, ka, kc, kept⟩)) := by
  have t1 := h.below ((Below.refl _ w).alloc (Nat.le_refl _) (.cells #[.int .i64 kind, .int .i64 at_, .int .i64 an, .int .u8 (u.toNat : Int), .slice ka kept.length kc] 39))
  have s1 := Seen.made h kind at_ an u ka kept.length kc
  have lX : X < w.heap.size := (Array.getElem?_eq_some_iff.1 h.x).1
  have lS := h.ref.lt
  have LT := Lib.hid (show X ∉ [b, L, M] ∧ w.heap.size ∉ [b, L, M] ∧ X ∉ S ∧ w.heap.size ∉ S from by
    have := h.disk.ltb; have := h.disk.ltL; have := h.disk.ltM
    obtain ⟨n1, n2, n3⟩ := h.nx
    refine ⟨by simp [n1, n2, n3], by simp; omega, fun e => (h.ap X e).2.2.2 rfl, fun e => by have := lS _ e; omega⟩)
  have E : m.did ⟨kind, at_, an, u, ka, kc, kept⟩ = m := by unfold DM.did; rw [if_neg hk.1, if_neg hk.2.2.1, if_neg hk.2.2.2.1, if_neg hk.2.2.2.2]
  rw [E]
  clear E
  have k0 : (kind == 0) = false := by simpa using hk.1
  have k1 : (kind == 1) = false := by simpa using hk.2.1
  have k2 : (kind == 2) = false := by simpa using hk.2.2.1
  have k3 : (kind == 3) = false := by simpa using hk.2.2.2.1
  have k4 : (kind == 4) = false := by simpa using hk.2.2.2.2
  clear hk
  clear lS h
  unfold AM.cells
  have T1 := Lib.hid t1
  have c0 := t1.c0
  clear t1 s1
  go_enter Try.func14, Try.ntmps14
  go_wp2_with fail
  go_ret
  exact ⟨by simp, b, L, M, r, S, T1.out.more⟩
end Go.Proofs.Ytoiaikgpaobefaa
