/-
  Layer 4, Compare: it returns how two values stand in the order ('cmpV') and changes nothing that was there. Condition: the strings have at most 2^47 - 4096 bytes.
-/
import Derived.Test.YtadbmjmikoggbaaValPrint
import Derived.Deep.RegionHeld3
namespace Go.Proofs.Ytadbmjmikoggbaa
open Go.RowKit

def foldB (s : ByteArray) : ByteArray := ⟨(foldL s.data.toList).toArray⟩
/-- How two values stand in the order: by kind, by number, by bytes. -/
def cmpV (k1 n1 : Int) (s1 : ByteArray) (k2 n2 : Int) (s2 : ByteArray) (nc : Bool) : Int :=
  if cmpI k1 k2 ≠ 0 then cmpI k1 k2 else if cmpI n1 n2 ≠ 0 then cmpI n1 n2 else if nc = true ∧ k1 = 2 then cmpS (foldB s1) (foldB s2) else cmpS s1 s2
theorem fold_b (s : ByteArray) (w : World) (hs : s.size ≤ 140737488351232) : Calls Try.prog 48 #[.string s] w fun e w' => e = .returned (.string (foldB s)) ∧ Below w.heap.size w w' := fold_any s w hs

/-- Two values in boxes of our own, behind what was there. -/
structure Two (w : World) (k1 n1 : Int) (s1 : ByteArray) (k2 n2 : Int) (s2 : ByteArray) (w' : World) : Prop where
  a0 : w'.cell? ⟨w.heap.size, 0, none⟩ = some (.int .i64 k1)
  a1 : w'.cell? ⟨w.heap.size, 1, none⟩ = some (.int .i64 n1)
  a2 : w'.cell? ⟨w.heap.size, 2, none⟩ = some (.string s1)
  b0 : w'.cell? ⟨w.heap.size + 1, 0, none⟩ = some (.int .i64 k2)
  b1 : w'.cell? ⟨w.heap.size + 1, 1, none⟩ = some (.int .i64 n2)
  b2 : w'.cell? ⟨w.heap.size + 1, 2, none⟩ = some (.string s2)
  size : w.heap.size + 2 ≤ w'.heap.size
  below : Below w.heap.size w w'
theorem two_new (w : World) (k1 n1 : Int) (s1 : ByteArray) (k2 n2 : Int) (s2 : ByteArray) : Two w k1 n1 s1 k2 n2 s2 ((w.alloc (.cells #[.int .i64 k1, .int .i64 n1, .string s1] 23)).alloc (.cells #[.int .i64 k2, .int .i64 n2, .string s2] 23)) :=
  ⟨by simp, by simp, by simp, by simp, by simp, by simp, by simp, below_alloc2 _ _ _⟩
theorem two_drew {w : World} {k1 n1 : Int} {s1 : ByteArray} {k2 n2 : Int} {s2 : ByteArray} {a : World} (h : Two w k1 n1 s1 k2 n2 s2 a) : Two w k1 n1 s1 k2 n2 s2 a.drew :=
  ⟨h.a0, h.a1, h.a2, h.b0, h.b1, h.b2, h.size, h.below.drew⟩
theorem two_next {w : World} {k1 n1 : Int} {s1 : ByteArray} {k2 n2 : Int} {s2 : ByteArray} {a b : World} (h : Two w k1 n1 s1 k2 n2 s2 a) (hb : Below a.heap.size a b) : Two w k1 n1 s1 k2 n2 s2 b := by
  have hz := h.size
  refine ⟨?_, ?_, ?_, ?_, ?_, ?_, Nat.le_trans hz hb.size, h.below.trans (hb.mono (by omega))⟩
  · rw [hb.cell (by show w.heap.size < _; omega)]; exact h.a0
  · rw [hb.cell (by show w.heap.size < _; omega)]; exact h.a1
  · rw [hb.cell (by show w.heap.size < _; omega)]; exact h.a2
  · rw [hb.cell (by show w.heap.size + 1 < _; omega)]; exact h.b0
  · rw [hb.cell (by show w.heap.size + 1 < _; omega)]; exact h.b1
  · rw [hb.cell (by show w.heap.size + 1 < _; omega)]; exact h.b2
/-- What a region that draws reads of the two: the strings, and all. -/
def TwoS (w : World) (k1 n1 : Int) (s1 : ByteArray) (k2 n2 : Int) (s2 : ByteArray) (w' : World) : Prop :=
  w'.cell? ⟨w.heap.size, 2, none⟩ = some (.string s1) ∧ w'.cell? ⟨w.heap.size + 1, 2, none⟩ = some (.string s2) ∧ Two w k1 n1 s1 k2 n2 s2 w'
theorem twoS_of {w : World} {k1 n1 : Int} {s1 : ByteArray} {k2 n2 : Int} {s2 : ByteArray} {a : World} (h : Two w k1 n1 s1 k2 n2 s2 a) :
    a.cell? ⟨w.heap.size, 2, none⟩ = some (.string s1) ∧ a.cell? ⟨w.heap.size + 1, 2, none⟩ = some (.string s2) ∧ Two w k1 n1 s1 k2 n2 s2 a := ⟨h.a2, h.b2, h⟩

set_option maxRecDepth 100000 in
set_option maxHeartbeats 1000000 in
theorem cmp_k (k1 n1 : Int) (s1 : ByteArray) (k2 n2 : Int) (s2 : ByteArray) (nc : Bool) (w : World) (hs1 : s1.size ≤ 140737488351232) (hs2 : s2.size ≤ 140737488351232) (r : Int) (H1 : Hid (r = cmpI k1 k2)) (t1 : (r != 0) = true) :
    Calls Try.prog 40 #[.agg #[.int .i64 k1, .int .i64 n1, .string s1], .agg #[.int .i64 k2, .int .i64 n2, .string s2], .bool nc] w fun e w' => e = .returned (.int .i64 r) ∧ Below w.heap.size w w' := by
  have HB := Lib.hid (two_new w k1 n1 s1 k2 n2 s2)
  go_enter Try.func40, Try.ntmps40
  go_wp2_with (go_at_call 46; refine (cmpI_any _ _ _).mono ?_; rw [← H1.out]; rintro e w' ⟨rfl, rfl⟩)
  go_ret
  exact ⟨rfl, HB.out.below⟩

set_option maxRecDepth 100000 in
set_option maxHeartbeats 1000000 in
theorem cmp_n (k1 n1 : Int) (s1 : ByteArray) (k2 n2 : Int) (s2 : ByteArray) (nc : Bool) (w : World) (hs1 : s1.size ≤ 140737488351232) (hs2 : s2.size ≤ 140737488351232) (r : Int) (H1 : Hid (0 = cmpI k1 k2)) (H2 : Hid (r = cmpI n1 n2)) (t1 : (r != 0) = true) :
    Calls Try.prog 40 #[.agg #[.int .i64 k1, .int .i64 n1, .string s1], .agg #[.int .i64 k2, .int .i64 n2, .string s2], .bool nc] w fun e w' => e = .returned (.int .i64 r) ∧ Below w.heap.size w w' := by
  have HB := Lib.hid (two_new w k1 n1 s1 k2 n2 s2)
  go_enter Try.func40, Try.ntmps40
  go_wp2_with (go_at_call 46; refine (cmpI_any _ _ _).mono ?_; (first | rw [← H1.out] | rw [← H2.out]); rintro e w' ⟨rfl, rfl⟩)
  go_ret
  exact ⟨rfl, HB.out.below⟩

set_option maxRecDepth 100000 in
set_option maxHeartbeats 1000000 in
theorem cmp_plain (k1 n1 : Int) (s1 : ByteArray) (k2 n2 : Int) (s2 : ByteArray) (nc : Bool) (w : World) (hs1 : s1.size ≤ 140737488351232) (hs2 : s2.size ≤ 140737488351232) (r : Int) (H1 : Hid (0 = cmpI k1 k2)) (H2 : Hid (0 = cmpI n1 n2)) (HR : Hid (r = cmpS s1 s2)) (hn : nc = false ∨ (nc = true ∧ (k1 == 2) = false)) :
    Calls Try.prog 40 #[.agg #[.int .i64 k1, .int .i64 n1, .string s1], .agg #[.int .i64 k2, .int .i64 n2, .string s2], .bool nc] w fun e w' => e = .returned (.int .i64 r) ∧ Below w.heap.size w w' := by
  have HB := Lib.hid (two_new w k1 n1 s1 k2 n2 s2)
  rcases hn with rfl | ⟨rfl, t3⟩
  all_goals
    go_enter Try.func40, Try.ntmps40
    go_wp2_with (first | (go_at_call 46; refine (cmpI_any _ _ _).mono ?_; (first | rw [← H1.out] | rw [← H2.out]); rintro e w' ⟨rfl, rfl⟩) | (go_at_call 47; refine (cmpS_any s1 s2 _).mono ?_; rw [← HR.out]; rintro e w' ⟨rfl, rfl⟩))
    go_ret
    exact ⟨rfl, HB.out.below⟩

set_option maxRecDepth 100000 in
set_option maxHeartbeats 4000000 in
theorem cmp_fold (n1 : Int) (s1 : ByteArray) (k2 n2 : Int) (s2 : ByteArray) (w : World) (hs1 : s1.size ≤ 140737488351232) (hs2 : s2.size ≤ 140737488351232) (r : Int) (x y : ByteArray) (H1 : Hid (0 = cmpI 2 k2)) (H2 : Hid (0 = cmpI n1 n2)) (HX : Hid (x = foldB s1)) (HY : Hid (y = foldB s2)) (HR : Hid (r = cmpS x y)) :
    Calls Try.prog 40 #[.agg #[.int .i64 2, .int .i64 n1, .string s1], .agg #[.int .i64 k2, .int .i64 n2, .string s2], .bool true] w fun e w' => e = .returned (.int .i64 r) ∧ Below w.heap.size w w' := by
  have HB := Lib.hid (two_new w 2 n1 s1 k2 n2 s2)
  go_enter Try.func40, Try.ntmps40
  go_wp2_with (go_at_call 46; refine (cmpI_any _ _ _).mono ?_; (first | rw [← H1.out] | rw [← H2.out]); rintro e w' ⟨rfl, rfl⟩)
  go_region_held3 (fun w' => w'.cell? ⟨w.heap.size, 2, none⟩ = some (.string s1) ∧ w'.cell? ⟨w.heap.size + 1, 2, none⟩ = some (.string s2) ∧ Two w 2 n1 s1 k2 n2 s2 w')
    (first | assumption | exact twoS_of HB.out | exact twoS_of (two_drew HB.out) | exact twoS_of (two_next (And.right (And.right (by assumption))) (by assumption)) | exact twoS_of (two_next (by assumption) (by assumption)))
    (first | (go_at_call 48; refine (fold_b _ _ (by assumption)).mono ?_; (first | rw [← HX.out] | rw [← HY.out]); rintro e w2 ⟨rfl, b2⟩) | (go_at_call 47; refine (cmpS_any _ _ _).mono ?_; rw [← HR.out]; rintro e w' ⟨rfl, rfl⟩))
  all_goals go_wp2
  all_goals go_ret
  all_goals exact ⟨rfl, Two.below (And.right (And.right (by assumption)))⟩

theorem compare_any (k1 n1 : Int) (s1 : ByteArray) (k2 n2 : Int) (s2 : ByteArray) (nc : Bool) (w : World) (hs1 : s1.size ≤ 140737488351232) (hs2 : s2.size ≤ 140737488351232) :
    Calls Try.prog 40 #[.agg #[.int .i64 k1, .int .i64 n1, .string s1], .agg #[.int .i64 k2, .int .i64 n2, .string s2], .bool nc] w fun e w' => e = .returned (.int .i64 (cmpV k1 n1 s1 k2 n2 s2 nc)) ∧ Below w.heap.size w w' := by
  unfold cmpV
  by_cases e1 : cmpI k1 k2 ≠ 0
  · rw [if_pos e1]
    exact cmp_k k1 n1 s1 k2 n2 s2 nc w hs1 hs2 _ (Lib.hid rfl) (by simpa using e1)
  rw [if_neg e1]
  have e1' : 0 = cmpI k1 k2 := (Decidable.not_not.1 e1).symm
  by_cases e2 : cmpI n1 n2 ≠ 0
  · rw [if_pos e2]
    exact cmp_n k1 n1 s1 k2 n2 s2 nc w hs1 hs2 _ (Lib.hid e1') (Lib.hid rfl) (by simpa using e2)
  rw [if_neg e2]
  have e2' : 0 = cmpI n1 n2 := (Decidable.not_not.1 e2).symm
  by_cases e3 : nc = true ∧ k1 = 2
  · rw [if_pos e3]
    obtain ⟨rfl, rfl⟩ := e3
    exact cmp_fold n1 s1 k2 n2 s2 w hs1 hs2 _ _ _ (Lib.hid e1') (Lib.hid e2') (Lib.hid rfl) (Lib.hid rfl) (Lib.hid rfl)
  rw [if_neg e3]
  refine cmp_plain k1 n1 s1 k2 n2 s2 nc w hs1 hs2 _ (Lib.hid e1') (Lib.hid e2') (Lib.hid rfl) ?_
  cases nc
  · exact .inl rfl
  · exact .inr ⟨rfl, by simp at e3; simpa using e3⟩
end Go.Proofs.Ytadbmjmikoggbaa
