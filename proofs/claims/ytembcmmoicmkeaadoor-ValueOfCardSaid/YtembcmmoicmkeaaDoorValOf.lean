/-
  The statement ValueOf as a walk: it returns true for every input and changes nothing that was there. Conditions: the strings have at most 2^47 - 4096 bytes, the numbers are ints; strconv's table lies in memory as the program text lays it.
-/
import Derived.Test.YtembcmmoicmkeaaDoorValWorks
import Derived.Test.YtembcmmoicmkeaaDoorRegSkip
namespace Go.Proofs.YtembcmmoicmkeaaDoor
open Go.RowKit

/-- A value and a column in boxes of our own, behind what was there. -/
structure OfI (w : World) (k n : Int) (s cn : ByteArray) (ck : Int) (nn uq nc : Bool) (w' : World) : Prop where
  a0 : w'.cell? ⟨w.heap.size, 0, none⟩ = some (.int .i64 k)
  a1 : w'.cell? ⟨w.heap.size, 1, none⟩ = some (.int .i64 n)
  a2 : w'.cell? ⟨w.heap.size, 2, none⟩ = some (.string s)
  b0 : w'.cell? ⟨w.heap.size + 1, 0, none⟩ = some (.string cn)
  b1 : w'.cell? ⟨w.heap.size + 1, 1, none⟩ = some (.int .i64 ck)
  b2 : w'.cell? ⟨w.heap.size + 1, 2, none⟩ = some (.bool nn)
  b3 : w'.cell? ⟨w.heap.size + 1, 3, none⟩ = some (.bool uq)
  b4 : w'.cell? ⟨w.heap.size + 1, 4, none⟩ = some (.bool nc)
  size : w.heap.size + 2 ≤ w'.heap.size
  below : Below w.heap.size w w'
section
variable {w : World} {k n : Int} {s cn : ByteArray} {ck : Int} {nn uq nc : Bool} {a b : World}
theorem ofI_new (w : World) (k n : Int) (s cn : ByteArray) (ck : Int) (nn uq nc : Bool) : OfI w k n s cn ck nn uq nc ((w.alloc (.cells #[.int .i64 k, .int .i64 n, .string s] 23)).alloc (.cells #[.string cn, .int .i64 ck, .bool nn, .bool uq, .bool nc] 25)) :=
  ⟨by simp, by simp, by simp, by simp, by simp, by simp, by simp, by simp, by simp, below_alloc2 _ _ _⟩
theorem ofI_drew (h : OfI w k n s cn ck nn uq nc a) : OfI w k n s cn ck nn uq nc a.drew := ⟨h.a0, h.a1, h.a2, h.b0, h.b1, h.b2, h.b3, h.b4, h.size, h.below.drew⟩
theorem ofI_drewN (h : OfI w k n s cn ck nn uq nc a) (q : Nat) : OfI w k n s cn ck nn uq nc (a.drewN q) :=
  ⟨h.a0, h.a1, h.a2, h.b0, h.b1, h.b2, h.b3, h.b4, h.size, ⟨h.below.os, h.below.tape, h.below.output, h.below.size, h.below.block⟩⟩
theorem ofI_next (h : OfI w k n s cn ck nn uq nc a) (hb : Below a.heap.size a b) : OfI w k n s cn ck nn uq nc b := by
  have hz := h.size
  have l0 : w.heap.size < a.heap.size := by omega
  have l1 : w.heap.size + 1 < a.heap.size := by omega
  exact ⟨(hb.cell l0).trans h.a0, (hb.cell l0).trans h.a1, (hb.cell l0).trans h.a2, (hb.cell l1).trans h.b0, (hb.cell l1).trans h.b1, (hb.cell l1).trans h.b2, (hb.cell l1).trans h.b3, (hb.cell l1).trans h.b4, Nat.le_trans hz hb.size, h.below.trans (hb.mono (by omega))⟩
theorem ofI_alloc (h : OfI w k n s cn ck nn uq nc a) (o : Obj) : OfI w k n s cn ck nn uq nc (a.alloc o) := ofI_next h (below_alloc _ _)
theorem ofS_of (h : OfI w k n s cn ck nn uq nc a) : a.cell? ⟨w.heap.size, 0, none⟩ = some (.int .i64 k) ∧ a.cell? ⟨w.heap.size, 1, none⟩ = some (.int .i64 n) ∧ a.cell? ⟨w.heap.size, 2, none⟩ = some (.string s) ∧ a.cell? ⟨w.heap.size + 1, 0, none⟩ = some (.string cn) ∧ a.cell? ⟨w.heap.size + 1, 1, none⟩ = some (.int .i64 ck) ∧ a.cell? ⟨w.heap.size + 1, 2, none⟩ = some (.bool nn) ∧ a.cell? ⟨w.heap.size + 1, 3, none⟩ = some (.bool uq) ∧ a.cell? ⟨w.heap.size + 1, 4, none⟩ = some (.bool nc) ∧ OfI w k n s cn ck nn uq nc a :=
  ⟨h.a0, h.a1, h.a2, h.b0, h.b1, h.b2, h.b3, h.b4, h⟩
theorem ofS_next {p0 p1 p2 p3 p4 p5 p6 p7 : Prop} (h : p0 ∧ p1 ∧ p2 ∧ p3 ∧ p4 ∧ p5 ∧ p6 ∧ p7 ∧ OfI w k n s cn ck nn uq nc a) (hb : Below a.heap.size a b) : a.cell? ⟨w.heap.size, 0, none⟩ = a.cell? ⟨w.heap.size, 0, none⟩ → b.cell? ⟨w.heap.size, 0, none⟩ = some (.int .i64 k) ∧ b.cell? ⟨w.heap.size, 1, none⟩ = some (.int .i64 n) ∧ b.cell? ⟨w.heap.size, 2, none⟩ = some (.string s) ∧ b.cell? ⟨w.heap.size + 1, 0, none⟩ = some (.string cn) ∧ b.cell? ⟨w.heap.size + 1, 1, none⟩ = some (.int .i64 ck) ∧ b.cell? ⟨w.heap.size + 1, 2, none⟩ = some (.bool nn) ∧ b.cell? ⟨w.heap.size + 1, 3, none⟩ = some (.bool uq) ∧ b.cell? ⟨w.heap.size + 1, 4, none⟩ = some (.bool nc) ∧ OfI w k n s cn ck nn uq nc b :=
  fun _ => ofS_of (ofI_next h.2.2.2.2.2.2.2.2 hb)
theorem tab_of {p0 p1 p2 p3 p4 p5 p6 p7 : Prop} (ht : Tab w) (h : p0 ∧ p1 ∧ p2 ∧ p3 ∧ p4 ∧ p5 ∧ p6 ∧ p7 ∧ OfI w k n s cn ck nn uq nc a) : Tab a := tab_below ht h.2.2.2.2.2.2.2.2.below
end
theorem vals_lit (w : World) (b : Nat) (k n : Int) (s : ByteArray) (t : TypeId) (hs : s.size ≤ 140737488351232) (hb : b = w.heap.size) : Vals (w.alloc (.cells #[.int .i64 k, .int .i64 n, .string s] t)).drew (some ⟨b, 0, none⟩) 1 (fun _ => ⟨k, n, s⟩) := by
  intro j hj
  obtain rfl : j = 0 := by omega
  subst hb
  exact ⟨hs, _, 0, rfl, by simp, by simp, by simp, by simp⟩

set_option maxRecDepth 100000 in
set_option maxHeartbeats 4000000 in
theorem of_great (k n : Int) (s cn : ByteArray) (ck : Int) (nn uq nc : Bool) (j : Int) (w : World) (hs : s.size ≤ 140737488351232) (hg : Hid (greatZ (fun _ => ⟨k, n, s⟩) 1 0 0 = true)) :
    Calls Tryd.prog 3 #[.agg #[.int .i64 k, .int .i64 n, .string s], .agg #[.string cn, .int .i64 ck, .bool nn, .bool uq, .bool nc], .int .i64 j] w fun e w' => e = .returned (.bool true) ∧ Below w.heap.size w w' := by
  have HB := Lib.hid (ofI_new w k n s cn ck nn uq nc)
  go_enter Tryd.func3, Tryd.ntmps3
  go_upto_region 1 with (fail)
  refine wp_region_held_drew (S := OfI w k n s cn ck nn uq nc) (by kernel_rfl) (ofI_drew HB.out) (fun hHeld => ?_)
  refine wpAnyH_take (i := 0) (v := .agg #[.int .i64 k, .int .i64 n, .string s]) rfl (by kernel_rfl) (by kernel_rfl) (by kernel_rfl) (fun _ _ _ h => h) (Or.inl ⟨by rfl, ?_⟩) hHeld ?_
  · intro w' hSw
    obtain ⟨a0, a1, a2, -, -, -, -, -, -, -⟩ := hSw
    go_simp
  simp only [Act.put, List.setIfInBounds_toArray, List.set_cons_zero, List.set_cons_succ]
  refine wpAnyH_ready (rs := [1]) (by kernel_rfl) (by simp) ?_
  refine AllReadyH.cons rfl (fun K hK => ?_) AllReadyH.nil
  go_simp
  refine hK.out _ _ (ofI_drew (ofI_alloc HB.out _)) (fun hHeld => ?_)
  clear hK K
  refine wpAnyH_ready (rs := [2]) (by kernel_rfl) (by simp) ?_
  refine AllReadyH.cons rfl (fun K hK => ?_) AllReadyH.nil
  go_simp
  refine (great_any _ 1 1 (fun _ => ⟨k, n, s⟩) _ (by omega) (vals_lit _ _ k n s _ hs (by simp))).mono ?_
  rw [hg.out]
  rintro e w' ⟨rfl, rfl⟩
  go_simp
  refine hK.out _ _ (ofI_drew (ofI_alloc HB.out _)) (fun hHeld => ?_)
  clear hK K
  refine wpAnyH_take (i := 3) (v := .bool true) rfl (by kernel_rfl) (by kernel_rfl) (by kernel_rfl) (fun _ _ _ h => h) (Or.inl ⟨by rfl, ?_⟩) hHeld ?_
  · intro w' hSw
    go_simp
  simp only [Act.put, List.setIfInBounds_toArray, List.set_cons_zero, List.set_cons_succ]
  refine wpAnyH_skip [4, 5, 6, 7, 8, 9, 10, 11, 12, 13, 14, 15, 16, 17, 18, 19, 20, 21, 22, 23, 24, 25, 26, 27, 28, 29, 30, 31, 32, 33, 34, 35, 36, 37, 38, 39, 40, 41, 42, 43, 44, 45, 46, 47, 48, 49, 50] 2 (by kernel_rfl) (by kernel_rfl) (fun _ _ _ _ h => h) (fun _ _ _ h => h) (by kernel_rfl) (by kernel_rfl) hHeld ?_
  refine wpAnyH_ready (rs := [51]) (by kernel_rfl) (by simp) ?_
  refine AllReadyH.cons rfl (fun K hK => ?_) AllReadyH.nil
  go_simp
  refine hK.out _ _ hHeld (fun hHeld => ?_)
  clear hK K
  refine wpAnyH_ready (rs := [52]) (by kernel_rfl) (by simp) ?_
  refine AllReadyH.cons rfl (fun K hK => ?_) AllReadyH.nil
  go_simp
  refine hK.out _ _ hHeld (fun hHeld => ?_)
  clear hK K
  refine wpAnyH_done (by kernel_rfl) ?_ _
  go_wp2_with fail
  go_ret
  exact ⟨rfl, hHeld.below⟩
end Go.Proofs.YtembcmmoicmkeaaDoor
