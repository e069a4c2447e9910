/- do: a crash of both disks. -/
import Derived.Test.YtoiaikgpaobefaaTo
import Derived.Deep.RegionWith
import Derived.Test.YtoiaikgpaobefaaGd
namespace Go.Proofs.Ytoiaikgpaobefaa
open Go.RowKit Go.Maps
set_option linter.unusedVariables false
set_option linter.unusedSimpArgs false

/-- Behind a crash of both. -/
theorem Two.turned {w0 W w3 w5 w6 : World} {X b L M r b2 L2 M2 r2 : Nat} {S S2 : List Nat} {j K : Nat} {m m' : DM} (h : Two w0 W X b L M r S j K m) (b3 : Below W.heap.size W w3) (d3 : DiskIn w3 b2 L2 M2 0 m') (g1 : W.heap.size ≤ b2) (g2 : W.heap.size ≤ L2) (g3 : W.heap.size ≤ M2)
    (b5 : Below w3.heap.size w3 w5) (r5 : RefIn w5 r2 S2 m' 0) (n5 : ∀ x ∈ S2, w3.heap.size ≤ x) (ho : Only [X] w5 w6) (hx : w6.heap[X]? = some (.cells #[.pointer (some ⟨b2, 0, none⟩), .pointer (some ⟨r2, 0, none⟩)] 36 (0, 0))) :
    Two w0 w6 X b2 L2 M2 r2 S2 (j + 1) (K + 1) m' := by
  have lX : X < W.heap.size := (Array.getElem?_eq_some_iff.1 h.x).1
  have s3 := b3.size
  have s0 := h.bel.size
  have lb := d3.ltb
  have lL := d3.ltL
  have lM := d3.ltM
  have hX := h.new.1
  have d5 := d3.below b5
  refine ⟨hx, (d5.keep ho (by simp; omega) (by simp; omega) (by simp; omega)).mono (Nat.zero_le _), (r5.keep ho (fun x hx => by have := n5 x hx; simp; omega)).mono (Nat.zero_le _), fun y hy => ?_, ⟨by omega, by omega, by omega⟩, ?_, hX, by omega, by omega, by omega, fun y hy => ?_⟩
  · have := n5 y hy; exact ⟨by omega, by omega, by omega, by omega⟩
  · exact Below.then_only (h.bel.trans ((b3.mono s0).trans (b5.mono (by omega)))) ho (by have := b5.size; omega) (by simpa using hX)
  · have := n5 y hy; omega
theorem two_sets {w : World} {X : Nat} {p q p' q' : Value} {t : TypeId} (h : w.heap[X]? = some (.cells #[p, q] t (0, 0))) :
    (((w.setCell ⟨X, 0, none⟩ p').setCell ⟨X, 1, none⟩ q').heap[X]? = some (.cells #[p', q'] t (0, 0)) ∧ Only [X] w ((w.setCell ⟨X, 0, none⟩ p').setCell ⟨X, 1, none⟩ q')) ∧
    (((w.setCell ⟨X, 1, none⟩ q').setCell ⟨X, 0, none⟩ p').heap[X]? = some (.cells #[p', q'] t (0, 0)) ∧ Only [X] w ((w.setCell ⟨X, 1, none⟩ q').setCell ⟨X, 0, none⟩ p')) := by
  refine ⟨⟨?_, ?_⟩, ?_, ?_⟩
  · have h1 := heap_setCell_same w X 0 _ _ p' h
    have h2 := heap_setCell_same _ X 1 _ _ q' h1
    simpa using h2
  · exact ((Only.refl _ _).setCell (by simp) _).setCell (by simp) _
  · have h1 := heap_setCell_same w X 1 _ _ q' h
    have h2 := heap_setCell_same _ X 0 _ _ p' h1
    simpa using h2
  · exact ((Only.refl _ _).setCell (by simp) _).setCell (by simp) _
theorem seen_frozen {w : World} {X : Nat} {c : Array Value} {t : TypeId} (h : w.heap[X]? = some (.cells c t (0, 0))) (i : Nat) : w.frozen? ⟨X, i, none⟩ = false := by simp [World.frozen?, h]

set_option maxRecDepth 100000 in
set_option maxHeartbeats 4000000 in
theorem do_4 {w0 w : World} {X b L M r : Nat} {S : List Nat} {j K : Nat} {m : DM} (h : Two w0 w X b L M r S j K m) (hj : j < maxLen) (hK : K ≤ 1000) (at_ an : Int) (u : UInt8) (ka : Option Addr) (kc : Nat) (kept : List Int) (hfa : Fits at_) (hin : IntsIn w ka kept) (hfk : ∀ k ∈ kept, Fits k) (hkl : kept.length ≤ 400) :
    Calls Try.prog 14 #[.pointer (some ⟨X, 0, none⟩), .agg (AM.cells ⟨4, at_, an, u, ka, kc, kept⟩).toArray] w (Done w0 X (j + 1) (K + 1) (m.did ⟨4, at_, an, u, ka, kc, kept⟩)) := by
  have t1 := h.below ((Below.refl _ w).alloc (Nat.le_refl _) (.cells #[.int .i64 4, .int .i64 at_, .int .i64 an, .int .u8 (u.toNat : Int), .slice ka kept.length kc] 39))
  have s1 := Seen.made h 4 at_ an u ka kept.length kc
  have lX : X < w.heap.size := (Array.getElem?_eq_some_iff.1 h.x).1
  have lS := h.ref.lt
  have LT := Lib.hid (show X ∉ [b, L, M] ∧ w.heap.size ∉ [b, L, M] ∧ X ∉ S ∧ w.heap.size ∉ S from by
    have := h.disk.ltb; have := h.disk.ltL; have := h.disk.ltM
    obtain ⟨n1, n2, n3⟩ := h.nx
    refine ⟨by simp [n1, n2, n3], by simp; omega, fun e => (h.ap X e).2.2.2 rfl, fun e => by have := lS _ e; omega⟩)
  have E : m.did ⟨4, at_, an, u, ka, kc, kept⟩ = m.crash at_ an kept := by unfold DM.did; rw [if_neg (by simp), if_neg (by simp), if_neg (by simp), if_pos rfl]
  rw [E]
  clear E
  have h0 := Lib.hid h
  clear lS h
  unfold AM.cells
  go_enter Try.func14, Try.ntmps14
  go_wp2_with fail
  have HW := Lib.hid (show IntsIn (w.alloc (.cells #[.int .i64 4, .int .i64 at_, .int .i64 an, .int .u8 (u.toNat : Int), .slice ka kept.length kc] 39)) ka kept from hin.keep ((Only.refl [] _).alloc _) (by simp))
  generalize w.alloc (.cells #[.int .i64 4, .int .i64 at_, .int .i64 an, .int .u8 (u.toNat : Int), .slice ka kept.length kc] 39) = W at *
  have s1d : Seen X b r w.heap.size 4 at_ an u ka kept.length kc W.drew := s1
  have t1d : Two w0 W.drew X b L M r S j K m := t1.below (Below.refl _ _).drew
  have hin1 : IntsIn W.drew ka kept := HW.out
  obtain ⟨q0, q1, q2, q3, q4, q5, q6⟩ := s1d
  have T1 := Lib.hid t1d
  have S1 := Lib.hid s1
  have HI := Lib.hid hin1
  have HX := Lib.hid t1d.x
  have HF := Lib.hid (And.intro hfa (And.intro hfk hkl))
  clear t1 t1d s1 hin1 hfa hfk hkl hin hj HW
  have hD : ∀ l, Ahead [26, 29] (fun w' => w'.cell? ⟨w.heap.size, 0, none⟩ = some (.int .i64 4) ∧ w'.cell? ⟨w.heap.size, 1, none⟩ = some (.int .i64 at_) ∧ w'.cell? ⟨w.heap.size, 2, none⟩ = some (.int .i64 an) ∧ w'.cell? ⟨w.heap.size, 3, none⟩ = some (.int .u8 (u.toNat : Int)) ∧ w'.cell? ⟨w.heap.size, 4, none⟩ = some (.slice ka kept.length kc)) (fun w' => w'.cell? ⟨X, 0, none⟩ = some (.pointer (some ⟨b, 0, none⟩)) ∧ w'.cell? ⟨X, 1, none⟩ = some (.pointer (some ⟨r, 0, none⟩))) l W.drew := fun l => ⟨⟨q2, q3, q4, q5, q6⟩, fun _ => ⟨q0, q1⟩⟩
  refine region_instep (D := Ahead [26, 29] (fun w' => w'.cell? ⟨w.heap.size, 0, none⟩ = some (.int .i64 4) ∧ w'.cell? ⟨w.heap.size, 1, none⟩ = some (.int .i64 at_) ∧ w'.cell? ⟨w.heap.size, 2, none⟩ = some (.int .i64 an) ∧ w'.cell? ⟨w.heap.size, 3, none⟩ = some (.int .u8 (u.toNat : Int)) ∧ w'.cell? ⟨w.heap.size, 4, none⟩ = some (.slice ka kept.length kc)) (fun w' => w'.cell? ⟨X, 0, none⟩ = some (.pointer (some ⟨b, 0, none⟩)) ∧ w'.cell? ⟨X, 1, none⟩ = some (.pointer (some ⟨r, 0, none⟩)))) (by kernel_rfl) ?_
  refine ahead_take (i := 0) (oi := _) (v := ?_) rfl (by kernel_rfl) (by kernel_rfl) (by kernel_rfl) rfl (fun _ _ _ h => h) (hD _) (Or.inl ⟨by rfl, ?_⟩) ?_
  rotate_left
  · (intro w hSw; (try dsimp only at hSw); go_simp; with_reducible rfl)
  try simp only [Act.put, List.setIfInBounds_toArray, List.set_cons_zero, List.set_cons_succ]
  refine ahead_take (i := 1) (oi := _) (v := ?_) rfl (by kernel_rfl) (by kernel_rfl) (by kernel_rfl) rfl (fun _ _ _ h => h) (hD _) (Or.inl ⟨by rfl, ?_⟩) ?_
  rotate_left
  · (intro w hSw; (try dsimp only at hSw); go_simp; with_reducible rfl)
  try simp only [Act.put, List.setIfInBounds_toArray, List.set_cons_zero, List.set_cons_succ]
  refine ahead_take (i := 2) (oi := _) (v := ?_) rfl (by kernel_rfl) (by kernel_rfl) (by kernel_rfl) rfl (fun _ _ _ h => h) (hD _) (Or.inl ⟨by rfl, ?_⟩) ?_
  rotate_left
  · (intro w hSw; (try dsimp only at hSw); go_simp; with_reducible rfl)
  try simp only [Act.put, List.setIfInBounds_toArray, List.set_cons_zero, List.set_cons_succ]
  refine ahead_take (i := 3) (oi := _) (v := ?_) rfl (by kernel_rfl) (by kernel_rfl) (by kernel_rfl) rfl (fun _ _ _ h => h) (hD _) (Or.inl ⟨by rfl, ?_⟩) ?_
  rotate_left
  · (intro w hSw; (try dsimp only at hSw); go_simp; with_reducible rfl)
  try simp only [Act.put, List.setIfInBounds_toArray, List.set_cons_zero, List.set_cons_succ]
  refine ahead_take (i := 4) (oi := _) (v := ?_) rfl (by kernel_rfl) (by kernel_rfl) (by kernel_rfl) rfl (fun _ _ _ h => h) (hD _) (Or.inl ⟨by rfl, ?_⟩) ?_
  rotate_left
  · (intro w hSw; (try dsimp only at hSw); go_simp; with_reducible rfl)
  try simp only [Act.put, List.setIfInBounds_toArray, List.set_cons_zero, List.set_cons_succ]
  refine ahead_takeX (i := 5) (oi := _) (v := ?_) rfl (by kernel_rfl) (by kernel_rfl) (by kernel_rfl) rfl (by kernel_rfl) (by kernel_rfl) (fun _ _ _ h => h) (hD _) (Or.inl ⟨by rfl, ?_⟩) ?_
  rotate_left
  · (intro w hSw; (try dsimp only at hSw); go_simp; with_reducible rfl)
  try simp only [Act.put, List.setIfInBounds_toArray, List.set_cons_zero, List.set_cons_succ]
  refine ahead_take (i := 6) (oi := _) (v := ?_) rfl (by kernel_rfl) (by kernel_rfl) (by kernel_rfl) rfl (fun _ _ _ h => h) (hD _) (Or.inl ⟨by rfl, ?_⟩) ?_
  rotate_left
  · (intro w hSw; (try dsimp only at hSw); go_simp; with_reducible rfl)
  try simp only [Act.put, List.setIfInBounds_toArray, List.set_cons_zero, List.set_cons_succ]
  refine ahead_take (i := 7) (oi := _) (v := ?_) rfl (by kernel_rfl) (by kernel_rfl) (by kernel_rfl) rfl (fun _ _ _ h => h) (hD _) (Or.inl ⟨by rfl, ?_⟩) ?_
  rotate_left
  · (intro w hSw; (try dsimp only at hSw); go_simp; with_reducible rfl)
  try simp only [Act.put, List.setIfInBounds_toArray, List.set_cons_zero, List.set_cons_succ]
  refine ahead_take (i := 8) (oi := _) (v := ?_) rfl (by kernel_rfl) (by kernel_rfl) (by kernel_rfl) rfl (fun _ _ _ h => h) (hD _) (Or.inl ⟨by rfl, ?_⟩) ?_
  rotate_left
  · (intro w hSw; (try dsimp only at hSw); go_simp; with_reducible rfl)
  try simp only [Act.put, List.setIfInBounds_toArray, List.set_cons_zero, List.set_cons_succ]
  refine ahead_take (i := 9) (oi := _) (v := ?_) rfl (by kernel_rfl) (by kernel_rfl) (by kernel_rfl) rfl (fun _ _ _ h => h) (hD _) (Or.inl ⟨by rfl, ?_⟩) ?_
  rotate_left
  · (intro w hSw; (try dsimp only at hSw); go_simp; with_reducible rfl)
  try simp only [Act.put, List.setIfInBounds_toArray, List.set_cons_zero, List.set_cons_succ]
  refine ahead_take (i := 10) (oi := _) (v := ?_) rfl (by kernel_rfl) (by kernel_rfl) (by kernel_rfl) rfl (fun _ _ _ h => h) (hD _) (Or.inl ⟨by rfl, ?_⟩) ?_
  rotate_left
  · (intro w hSw; (try dsimp only at hSw); go_simp; with_reducible rfl)
  try simp only [Act.put, List.setIfInBounds_toArray, List.set_cons_zero, List.set_cons_succ]
  refine ahead_take (i := 11) (oi := _) (v := ?_) rfl (by kernel_rfl) (by kernel_rfl) (by kernel_rfl) rfl (fun _ _ _ h => h) (hD _) (Or.inl ⟨by rfl, ?_⟩) ?_
  rotate_left
  · (intro w hSw; (try dsimp only at hSw); go_simp; with_reducible rfl)
  try simp only [Act.put, List.setIfInBounds_toArray, List.set_cons_zero, List.set_cons_succ]
  refine ahead_take (i := 13) (oi := _) (v := ?_) rfl (by kernel_rfl) (by kernel_rfl) (by kernel_rfl) rfl (fun _ _ _ h => h) (hD _) (Or.inl ⟨by rfl, ?_⟩) ?_
  rotate_left
  · (intro w hSw; (try dsimp only at hSw); go_simp; with_reducible rfl)
  try simp only [Act.put, List.setIfInBounds_toArray, List.set_cons_zero, List.set_cons_succ]
  refine ahead_take (i := 14) (oi := _) (v := ?_) rfl (by kernel_rfl) (by kernel_rfl) (by kernel_rfl) rfl (fun _ _ _ h => h) (hD _) (Or.inl ⟨by rfl, ?_⟩) ?_
  rotate_left
  · (intro w hSw; (try dsimp only at hSw); go_simp; with_reducible rfl)
  try simp only [Act.put, List.setIfInBounds_toArray, List.set_cons_zero, List.set_cons_succ]
  refine ahead_take (i := 15) (oi := _) (v := ?_) rfl (by kernel_rfl) (by kernel_rfl) (by kernel_rfl) rfl (fun _ _ _ h => h) (hD _) (Or.inl ⟨by rfl, ?_⟩) ?_
  rotate_left
  · (intro w hSw; (try dsimp only at hSw); go_simp; with_reducible rfl)
  try simp only [Act.put, List.setIfInBounds_toArray, List.set_cons_zero, List.set_cons_succ]
  refine ahead_takeX (i := 16) (oi := _) (v := ?_) rfl (by kernel_rfl) (by kernel_rfl) (by kernel_rfl) rfl (by kernel_rfl) (by kernel_rfl) (fun _ _ _ h => h) (hD _) (Or.inl ⟨by rfl, ?_⟩) ?_
  rotate_left
  · (intro w hSw; (try dsimp only at hSw); go_simp; with_reducible rfl)
  try simp only [Act.put, List.setIfInBounds_toArray, List.set_cons_zero, List.set_cons_succ]
  refine ahead_take (i := 17) (oi := _) (v := ?_) rfl (by kernel_rfl) (by kernel_rfl) (by kernel_rfl) rfl (fun _ _ _ h => h) (hD _) (Or.inl ⟨by rfl, ?_⟩) ?_
  rotate_left
  · (intro w hSw; (try dsimp only at hSw); go_simp; with_reducible rfl)
  try simp only [Act.put, List.setIfInBounds_toArray, List.set_cons_zero, List.set_cons_succ]
  refine ahead_take (i := 18) (oi := _) (v := ?_) rfl (by kernel_rfl) (by kernel_rfl) (by kernel_rfl) rfl (fun _ _ _ h => h) (hD _) (Or.inl ⟨by rfl, ?_⟩) ?_
  rotate_left
  · (intro w hSw; (try dsimp only at hSw); go_simp; with_reducible rfl)
  try simp only [Act.put, List.setIfInBounds_toArray, List.set_cons_zero, List.set_cons_succ]
  refine ahead_take (i := 19) (oi := _) (v := ?_) rfl (by kernel_rfl) (by kernel_rfl) (by kernel_rfl) rfl (fun _ _ _ h => h) (hD _) (Or.inl ⟨by rfl, ?_⟩) ?_
  rotate_left
  · (intro w hSw; (try dsimp only at hSw); go_simp; with_reducible rfl)
  try simp only [Act.put, List.setIfInBounds_toArray, List.set_cons_zero, List.set_cons_succ]
  refine ahead_take (i := 20) (oi := _) (v := ?_) rfl (by kernel_rfl) (by kernel_rfl) (by kernel_rfl) rfl (fun _ _ _ h => h) (hD _) (Or.inl ⟨by rfl, ?_⟩) ?_
  rotate_left
  · (intro w hSw; (try dsimp only at hSw); go_simp; with_reducible rfl)
  try simp only [Act.put, List.setIfInBounds_toArray, List.set_cons_zero, List.set_cons_succ]
  refine ahead_take (i := 21) (oi := _) (v := ?_) rfl (by kernel_rfl) (by kernel_rfl) (by kernel_rfl) rfl (fun _ _ _ h => h) (hD _) (Or.inl ⟨by rfl, ?_⟩) ?_
  rotate_left
  · (intro w hSw; (try dsimp only at hSw); go_simp; with_reducible rfl)
  try simp only [Act.put, List.setIfInBounds_toArray, List.set_cons_zero, List.set_cons_succ]
  refine ahead_take (i := 22) (oi := _) (v := ?_) rfl (by kernel_rfl) (by kernel_rfl) (by kernel_rfl) rfl (fun _ _ _ h => h) (hD _) (Or.inl ⟨by rfl, ?_⟩) ?_
  rotate_left
  · (intro w hSw; (try dsimp only at hSw); go_simp; with_reducible rfl)
  try simp only [Act.put, List.setIfInBounds_toArray, List.set_cons_zero, List.set_cons_succ]
  refine instep_one (i := 12) (o := _) (by kernel_rfl) rfl (fun K1 hK1 => ?_)
  go_simp
  refine (crash_any T1.out.disk at_ an HF.out.1 ka kc kept HI.out HF.out.2.1 (by have := HF.out.2.2; omega)).mono ?_
  rintro e w3 ⟨b2, L2, M2, rfl, d3, b3, g1, g2, g3⟩
  have HX3 := Lib.hid ((Below.only (S := []) b3).keep HX.out (by simp))
  have HI3 := Lib.hid (HI.out.keep (Below.only (S := []) b3) (by simp))
  have RF3 := Lib.hid (T1.out.ref.keep (Below.only (S := []) b3) (by simp))
  have S3 : Seen X b r w.heap.size 4 at_ an u ka kept.length kc w3 := (show Seen X b r w.heap.size 4 at_ an u ka kept.length kc W.drew from S1.out).keep (T := []) (Below.only b3) (by simp) (by simp)
  have hD3 : ∀ l, Ahead [26, 29] (fun w' => w'.cell? ⟨w.heap.size, 0, none⟩ = some (.int .i64 4) ∧ w'.cell? ⟨w.heap.size, 1, none⟩ = some (.int .i64 at_) ∧ w'.cell? ⟨w.heap.size, 2, none⟩ = some (.int .i64 an) ∧ w'.cell? ⟨w.heap.size, 3, none⟩ = some (.int .u8 (u.toNat : Int)) ∧ w'.cell? ⟨w.heap.size, 4, none⟩ = some (.slice ka kept.length kc)) (fun w' => w'.cell? ⟨X, 0, none⟩ = some (.pointer (some ⟨b, 0, none⟩)) ∧ w'.cell? ⟨X, 1, none⟩ = some (.pointer (some ⟨r, 0, none⟩))) l w3 := fun l => by
    obtain ⟨p0, p1, p2, p3, p4, p5, p6⟩ := S3
    exact ⟨⟨p2, p3, p4, p5, p6⟩, fun _ => ⟨p0, p1⟩⟩
  have D3 := Lib.hid (And.intro d3 (And.intro b3 (And.intro g1 (And.intro g2 g3))))
  clear d3 b3 g1 g2 g3
  go_simp
  refine hK1.out _ _ (hD3 _) (fun _ => ?_)
  clear hK1 K1
  try simp only [Act.put, List.setIfInBounds_toArray, List.set_cons_zero, List.set_cons_succ]
  refine instep_one (i := 23) (o := _) (by kernel_rfl) rfl (fun K1 hK1 => ?_)
  go_simp
  refine (crash_ref RF3.out T1.out.disk.ok (by omega) at_ an ka kc kept HI3.out (by have := HF.out.2.2; omega)).mono ?_
  rintro e w5 ⟨r2, S2, rfl, r5, b5, n5⟩
  have HX5 := Lib.hid ((Below.only (S := []) b5).keep HX3.out (by simp))
  have S5 : Seen X b r w.heap.size 4 at_ an u ka kept.length kc w5 := S3.keep (T := []) (Below.only b5) (by simp) (by simp)
  have hD5 : ∀ l, Ahead [26, 29] (fun w' => w'.cell? ⟨w.heap.size, 0, none⟩ = some (.int .i64 4) ∧ w'.cell? ⟨w.heap.size, 1, none⟩ = some (.int .i64 at_) ∧ w'.cell? ⟨w.heap.size, 2, none⟩ = some (.int .i64 an) ∧ w'.cell? ⟨w.heap.size, 3, none⟩ = some (.int .u8 (u.toNat : Int)) ∧ w'.cell? ⟨w.heap.size, 4, none⟩ = some (.slice ka kept.length kc)) (fun w' => w'.cell? ⟨X, 0, none⟩ = some (.pointer (some ⟨b, 0, none⟩)) ∧ w'.cell? ⟨X, 1, none⟩ = some (.pointer (some ⟨r, 0, none⟩))) l w5 := fun l => by
    obtain ⟨p0, p1, p2, p3, p4, p5, p6⟩ := S5
    exact ⟨⟨p2, p3, p4, p5, p6⟩, fun _ => ⟨p0, p1⟩⟩
  have R5 := Lib.hid (And.intro r5 (And.intro b5 n5))
  clear r5 b5 n5
  go_simp
  refine hK1.out _ _ (hD5 _) (fun _ => ?_)
  clear hK1 K1
  try simp only [Act.put, List.setIfInBounds_toArray, List.set_cons_zero, List.set_cons_succ]
  refine ahead_take (i := 24) (oi := _) (v := ?_) rfl (by kernel_rfl) (by kernel_rfl) (by kernel_rfl) rfl (fun _ _ _ h => h) (hD5 _) (Or.inl ⟨by rfl, ?_⟩) ?_
  rotate_left
  · (intro w hSw; (try dsimp only at hSw); go_simp; with_reducible rfl)
  try simp only [Act.put, List.setIfInBounds_toArray, List.set_cons_zero, List.set_cons_succ]
  refine ahead_take (i := 25) (oi := _) (v := ?_) rfl (by kernel_rfl) (by kernel_rfl) (by kernel_rfl) rfl (fun _ _ _ h => h) (hD5 _) (Or.inl ⟨by rfl, ?_⟩) ?_
  rotate_left
  · (intro w hSw; (try dsimp only at hSw); go_simp; with_reducible rfl)
  try simp only [Act.put, List.setIfInBounds_toArray, List.set_cons_zero, List.set_cons_succ]
  have z0 : w5.cell? ⟨X, 0, none⟩ = some (.pointer (some ⟨b, 0, none⟩)) := S5.1
  have z1 : w5.cell? ⟨X, 1, none⟩ = some (.pointer (some ⟨r, 0, none⟩)) := S5.2.1
  have y0 := seen_frozen HX5.out 0
  have y1 := seen_frozen HX5.out 1
  have ts := two_sets (p' := .pointer (some ⟨b2, 0, none⟩)) (q' := .pointer (some ⟨r2, 0, none⟩)) HX5.out
  have o6 : Only [X] w5 (w5.setCell ⟨X, 0, none⟩ (.pointer (some ⟨b2, 0, none⟩))) := (Only.refl _ _).setCell (by simp) _
  have far : w.heap.size ∉ [X] := by simp; omega
  have hD6 : ∀ l : Array Bool, l.getD 26 true = true → Ahead [26, 29] (fun w' => w'.cell? ⟨w.heap.size, 0, none⟩ = some (.int .i64 4) ∧ w'.cell? ⟨w.heap.size, 1, none⟩ = some (.int .i64 at_) ∧ w'.cell? ⟨w.heap.size, 2, none⟩ = some (.int .i64 an) ∧ w'.cell? ⟨w.heap.size, 3, none⟩ = some (.int .u8 (u.toNat : Int)) ∧ w'.cell? ⟨w.heap.size, 4, none⟩ = some (.slice ka kept.length kc)) (fun w' => w'.cell? ⟨X, 0, none⟩ = some (.pointer (some ⟨b, 0, none⟩)) ∧ w'.cell? ⟨X, 1, none⟩ = some (.pointer (some ⟨r, 0, none⟩))) l (w5.setCell ⟨X, 0, none⟩ (.pointer (some ⟨b2, 0, none⟩))) := fun l hl => by
    obtain ⟨p0, p1, p2, p3, p4, p5, p6⟩ := S5
    exact ⟨⟨only_cell o6 p2 far, only_cell o6 p3 far, only_cell o6 p4 far, only_cell o6 p5 far, only_cell o6 p6 far⟩, fun h => by rw [h 26 (by simp)] at hl; cases hl⟩
  have hD7 : ∀ l : Array Bool, l.getD 26 true = true → Ahead [26, 29] (fun w' => w'.cell? ⟨w.heap.size, 0, none⟩ = some (.int .i64 4) ∧ w'.cell? ⟨w.heap.size, 1, none⟩ = some (.int .i64 at_) ∧ w'.cell? ⟨w.heap.size, 2, none⟩ = some (.int .i64 an) ∧ w'.cell? ⟨w.heap.size, 3, none⟩ = some (.int .u8 (u.toNat : Int)) ∧ w'.cell? ⟨w.heap.size, 4, none⟩ = some (.slice ka kept.length kc)) (fun w' => w'.cell? ⟨X, 0, none⟩ = some (.pointer (some ⟨b, 0, none⟩)) ∧ w'.cell? ⟨X, 1, none⟩ = some (.pointer (some ⟨r, 0, none⟩))) l ((w5.setCell ⟨X, 0, none⟩ (.pointer (some ⟨b2, 0, none⟩))).setCell ⟨X, 1, none⟩ (.pointer (some ⟨r2, 0, none⟩))) := fun l hl => by
    obtain ⟨p0, p1, p2, p3, p4, p5, p6⟩ := S5
    exact ⟨⟨only_cell ts.1.2 p2 far, only_cell ts.1.2 p3 far, only_cell ts.1.2 p4 far, only_cell ts.1.2 p5 far, only_cell ts.1.2 p6 far⟩, fun h => by rw [h 26 (by simp)] at hl; cases hl⟩
  have TS := Lib.hid ts.1
  clear ts o6
  refine instep_one (i := 26) (o := _) (by kernel_rfl) rfl (fun K1 hK1 => ?_)
  go_simp
  refine hK1.out _ _ (hD6 _ (by kernel_rfl)) (fun _ => ?_)
  clear hK1 K1
  try simp only [Act.put, List.setIfInBounds_toArray, List.set_cons_zero, List.set_cons_succ]
  refine ahead_take (i := 27) (oi := _) (v := ?_) rfl (by kernel_rfl) (by kernel_rfl) (by kernel_rfl) rfl (fun _ _ _ h => h) (hD6 _ (by kernel_rfl)) (Or.inl ⟨by rfl, ?_⟩) ?_
  rotate_left
  · (intro w hSw; (try dsimp only at hSw); go_simp; with_reducible rfl)
  try simp only [Act.put, List.setIfInBounds_toArray, List.set_cons_zero, List.set_cons_succ]
  refine ahead_take (i := 28) (oi := _) (v := ?_) rfl (by kernel_rfl) (by kernel_rfl) (by kernel_rfl) rfl (fun _ _ _ h => h) (hD6 _ (by kernel_rfl)) (Or.inl ⟨by rfl, ?_⟩) ?_
  rotate_left
  · (intro w hSw; (try dsimp only at hSw); go_simp; with_reducible rfl)
  try simp only [Act.put, List.setIfInBounds_toArray, List.set_cons_zero, List.set_cons_succ]
  refine instep_one (i := 29) (o := _) (by kernel_rfl) rfl (fun K1 hK1 => ?_)
  go_simp
  refine hK1.out _ _ (hD7 _ (by kernel_rfl)) (fun _ => ?_)
  clear hK1 K1
  try simp only [Act.put, List.setIfInBounds_toArray, List.set_cons_zero, List.set_cons_succ]
  refine instep_done (by kernel_rfl) ?_ _
  have HD := Lib.hid (And.intro hD (And.intro hD3 (And.intro hD5 (And.intro hD6 hD7))))
  clear hD hD3 hD5 hD6 hD7 q0 q1 q2 q3 q4 q5 q6 S3 S5
  have c7 := seen_frozen TS.out.1 0
  have c8 : ((w5.setCell ⟨X, 0, none⟩ (.pointer (some ⟨b2, 0, none⟩))).setCell ⟨X, 1, none⟩ (.pointer (some ⟨r2, 0, none⟩))).cell? ⟨X, 0, none⟩ = some (.pointer (some ⟨b2, 0, none⟩)) := by
    have := TS.out.1; simp [World.cell?, this]
  generalize hW7 : (w5.setCell ⟨X, 0, none⟩ (.pointer (some ⟨b2, 0, none⟩))).setCell ⟨X, 1, none⟩ (.pointer (some ⟨r2, 0, none⟩)) = w7 at *
  clear hW7 z0 z1 y0 y1
  go_wp2_with fail
  obtain ⟨d3, b3, g1, g2, g3⟩ := D3.out
  obtain ⟨r5, b5, n5⟩ := R5.out
  refine bodyPost_ret (v := .bool true) (by simp [results, Try.results14, go_sem]) rfl ?_
  exact ⟨rfl, b2, L2, M2, r2, S2, T1.out.turned b3 d3 g1 g2 g3 b5 r5 n5 TS.out.2 TS.out.1⟩
end Go.Proofs.Ytoiaikgpaobefaa
