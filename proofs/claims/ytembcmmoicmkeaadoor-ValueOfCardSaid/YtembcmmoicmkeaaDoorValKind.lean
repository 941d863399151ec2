/-
  Layer 4, Kind, Fits, Number, Text and the document's Kind and Fits: each returns its plain function ('kindS', 'fitsZ') and changes nothing that was there. Condition: strings have at most 2^63 - 1 bytes.
-/
import Derived.Test.YtembcmmoicmkeaaDoorValCheck
import Derived.Laws.Rows
import Derived.KernelRfl
namespace Go.Proofs.YtembcmmoicmkeaaDoor
open Go.RowKit

/-- The name of a kind. -/
def kindS (k : Int) : ByteArray :=
  if k = 0 then ⟨#[110, 117, 108, 108]⟩ else if k = 1 then ⟨#[105, 110, 116]⟩ else if k = 2 then ⟨#[116, 101, 120, 116]⟩ else if k = 3 then ⟨#[98, 108, 111, 98]⟩ else if k = 4 then ⟨#[97, 110, 121]⟩ else ⟨#[]⟩
theorem ret_s {a b : ByteArray} (h : a = b) : Ending.returned (.string a) = .returned (.string b) := by rw [h]

set_option maxRecDepth 100000 in
set_option maxHeartbeats 4000000 in
theorem kind_any (k : Int) (w : World) :
    Calls Tryd.prog 12 #[.int .i64 k] w fun e w' => e = .returned (.string (kindS k)) ∧ Below w.heap.size w w' := by
  obtain ⟨r, hr⟩ : ∃ r, r = kindS k := ⟨_, rfl⟩
  rw [← hr]
  have HR := Lib.hid hr; clear hr
  go_enter Tryd.func12, Tryd.ntmps12
  go_wp2
  all_goals (go_ret; refine ⟨ret_s ?_, Below.refl _ _⟩; rw [HR.out, kindS]; clear HR; go_light)
  all_goals simp only [beq_iff_eq, beq_eq_false_iff_ne, ne_eq] at *
  all_goals simp_all

set_option maxRecDepth 100000 in
set_option maxHeartbeats 4000000 in
theorem qkind_any (k : Int) (w : World) :
    Calls Tryd.prog 13 #[.int .i64 k] w fun e w' => e = .returned (.string (kindS k)) ∧ Below w.heap.size w w' := by
  obtain ⟨r, hr⟩ : ∃ r, r = kindS k := ⟨_, rfl⟩
  rw [← hr]
  have HR := Lib.hid hr; clear hr
  by_cases h0 : k < 0
  · have t0 : decide (k < 0) = true := by simpa using h0
    go_enter Tryd.func13, Tryd.ntmps13
    go_wp2
    go_ret
    refine ⟨ret_s ?_, Below.refl _ _⟩
    rw [HR.out, kindS, if_neg (by omega), if_neg (by omega), if_neg (by omega), if_neg (by omega), if_neg (by omega)]
  · have t0 : decide (k < 0) = false := by simpa using h0
    by_cases h4 : 4 < k
    · have t4 : decide (4 < k) = true := by simpa using h4
      go_enter Tryd.func13, Tryd.ntmps13
      go_wp2
      go_ret
      refine ⟨ret_s ?_, Below.refl _ _⟩
      rw [HR.out, kindS, if_neg (by omega), if_neg (by omega), if_neg (by omega), if_neg (by omega), if_neg (by omega)]
    · have hk : k = 0 ∨ k = 1 ∨ k = 2 ∨ k = 3 ∨ k = 4 := by omega
      clear t0
      rcases hk with rfl | rfl | rfl | rfl | rfl
      all_goals
        have HR' := HR.out
        simp [kindS] at HR'
        subst HR'
        clear HR
        go_enter Tryd.func13, Tryd.ntmps13
        go_wp2
        go_ret
        exact ⟨rfl, below_alloc _ _⟩

/-- What is wrong with a value in a column. -/
def fitsZ (ck : Int) (nn : Bool) (k n : Int) (s : ByteArray) : Int :=
  if checkZ k n s ≠ 0 then checkZ k n s else if k = 0 then (if nn then 16 else 0) else if ck ≠ 4 ∧ ck ≠ k then 14 else 0

set_option maxRecDepth 100000 in
set_option maxHeartbeats 4000000 in
theorem fits_any (cn : ByteArray) (ck : Int) (nn uq nc : Bool) (k n : Int) (s : ByteArray) (w : World) (hs : s.size ≤ 9223372036854775807) :
    Calls Tryd.prog 14 #[.agg #[.string cn, .int .i64 ck, .bool nn, .bool uq, .bool nc], .agg #[.int .i64 k, .int .i64 n, .string s]] w fun e w' => e = .returned (.int .i64 (fitsZ ck nn k n s)) ∧ Below w.heap.size w w' := by
  obtain ⟨r, hr⟩ : ∃ r, r = fitsZ ck nn k n s := ⟨_, rfl⟩
  rw [← hr]
  obtain ⟨c, hc⟩ : ∃ c, c = checkZ k n s := ⟨_, rfl⟩
  rw [fitsZ, ← hc] at hr
  have HR := Lib.hid hr; clear hr
  have HC := Lib.hid hc; clear hc
  obtain ⟨w2, hw2⟩ : ∃ w2, w2 = (w.alloc (.cells #[.string cn, .int .i64 ck, .bool nn, .bool uq, .bool nc] 25)).alloc (.cells #[.int .i64 k, .int .i64 n, .string s] 23) := ⟨_, rfl⟩
  have HB := Lib.hid (show Below w.heap.size w w2 from hw2 ▸ below_alloc2 w _ _)
  have HF := Lib.hid (show w2.cell? ⟨w.heap.size + 1, 0, none⟩ = some (.int .i64 k) ∧ w2.cell? ⟨w.heap.size, 1, none⟩ = some (.int .i64 ck) ∧ w2.cell? ⟨w.heap.size, 2, none⟩ = some (.bool nn) ∧ w2.heap.size = w.heap.size + 2 by subst hw2; simp)
  have HW := Lib.hid hw2; clear hw2
  go_enter Tryd.func14, Tryd.ntmps14
  go_wp2_with (go_at_call 8; refine (check_any k n s _ hs).mono ?_; rw [← HC.out, ← HW.out]; rintro e w1 ⟨rfl, hb⟩; have e0 := HF.out; rw [e0.2.2.2] at hb; have c0 := (hb.cell (p := ⟨w.heap.size + 1, 0, none⟩) (by simp)).trans e0.1; have c1 := (hb.cell (p := ⟨w.heap.size, 1, none⟩) (by simp)).trans e0.2.1; have c2 := (hb.cell (p := ⟨w.heap.size, 2, none⟩) (by simp)).trans e0.2.2.1; clear e0; have HBB := Lib.hid (HB.out.trans (hb.mono (by omega))); clear hb)
  all_goals (go_ret; refine ⟨ret_int ?_, HBB.out⟩; rw [HR.out]; clear HR HC HF HW HBB HB; go_light)
  all_goals simp only [beq_iff_eq, bne_iff_ne, beq_eq_false_iff_ne, bne_eq_false_iff_eq, Bool.not_eq_true', Bool.not_eq_false', decide_eq_true_eq, decide_eq_false_iff_not, ne_eq, Decidable.not_not] at *
  all_goals simp_all

set_option maxRecDepth 100000 in
set_option maxHeartbeats 4000000 in
theorem qfits_any (cn : ByteArray) (ck : Int) (nn uq nc : Bool) (k n : Int) (s : ByteArray) (w : World) (hs : s.size ≤ 9223372036854775807) :
    Calls Tryd.prog 15 #[.agg #[.string cn, .int .i64 ck, .bool nn, .bool uq, .bool nc], .agg #[.int .i64 k, .int .i64 n, .string s]] w fun e w' => e = .returned (.int .i64 (fitsZ ck nn k n s)) ∧ Below w.heap.size w w' := by
  obtain ⟨r, hr⟩ : ∃ r, r = fitsZ ck nn k n s := ⟨_, rfl⟩
  rw [← hr]
  obtain ⟨c, hc⟩ : ∃ c, c = checkZ k n s := ⟨_, rfl⟩
  rw [fitsZ, ← hc] at hr
  have HR := Lib.hid hr; clear hr
  have HC := Lib.hid hc; clear hc
  obtain ⟨w2, hw2⟩ : ∃ w2, w2 = (w.alloc (.cells #[.string cn, .int .i64 ck, .bool nn, .bool uq, .bool nc] 25)).alloc (.cells #[.int .i64 k, .int .i64 n, .string s] 23) := ⟨_, rfl⟩
  have HB := Lib.hid (show Below w.heap.size w w2 from hw2 ▸ below_alloc2 w _ _)
  have HF := Lib.hid (show w2.cell? ⟨w.heap.size + 1, 0, none⟩ = some (.int .i64 k) ∧ w2.cell? ⟨w.heap.size, 1, none⟩ = some (.int .i64 ck) ∧ w2.cell? ⟨w.heap.size, 2, none⟩ = some (.bool nn) ∧ w2.heap.size = w.heap.size + 2 by subst hw2; simp)
  have HW := Lib.hid hw2; clear hw2
  go_enter Tryd.func15, Tryd.ntmps15
  go_wp2_with (go_at_call 9; refine (qcheck_any k n s _ hs).mono ?_; rw [← HC.out, ← HW.out]; rintro e w1 ⟨rfl, hb⟩; have e0 := HF.out; rw [e0.2.2.2] at hb; have c0 := (hb.cell (p := ⟨w.heap.size + 1, 0, none⟩) (by simp)).trans e0.1; have c1 := (hb.cell (p := ⟨w.heap.size, 1, none⟩) (by simp)).trans e0.2.1; have c2 := (hb.cell (p := ⟨w.heap.size, 2, none⟩) (by simp)).trans e0.2.2.1; clear e0; have HBB := Lib.hid (HB.out.trans (hb.mono (by omega))); clear hb)
  all_goals (go_ret; refine ⟨ret_int ?_, HBB.out⟩; rw [HR.out]; clear HR HC HF HW HBB HB; go_light)
  all_goals simp only [beq_iff_eq, bne_iff_ne, beq_eq_false_iff_ne, bne_eq_false_iff_eq, Bool.not_eq_true', Bool.not_eq_false', decide_eq_true_eq, decide_eq_false_iff_not, ne_eq, Decidable.not_not] at *
  all_goals simp_all

theorem number_any (n : Int) (w : World) : Calls Tryd.prog 16 #[.int .i64 n] w fun e w' => e = .returned (.agg #[.int .i64 1, .int .i64 n, .string ⟨#[]⟩]) ∧ Below w.heap.size w w' := by
  go_enter Tryd.func16, Tryd.ntmps16
  go_wp2
  refine bodyPost_ret (results_cell_row rfl _ _ w.heap.size _ _ _ _ rfl (heap_alloc_new _ _) Tryd.underlying23 rfl (by kernel_rfl)) rfl ?_
  exact ⟨rfl, below_alloc _ _⟩
theorem textv_any (s : ByteArray) (w : World) : Calls Tryd.prog 17 #[.string s] w fun e w' => e = .returned (.agg #[.int .i64 2, .int .i64 0, .string s]) ∧ Below w.heap.size w w' := by
  go_enter Tryd.func17, Tryd.ntmps17
  go_wp2
  refine bodyPost_ret (results_cell_row rfl _ _ w.heap.size _ _ _ _ rfl (heap_alloc_new _ _) Tryd.underlying23 rfl (by kernel_rfl)) rfl ?_
  exact ⟨rfl, below_alloc _ _⟩
end Go.Proofs.YtembcmmoicmkeaaDoor
