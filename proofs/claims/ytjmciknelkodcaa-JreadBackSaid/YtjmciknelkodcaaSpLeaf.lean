/-
  Layer 10, the small functions of the program and of the document: valid, fixed, text, seal, Trailer, path and their like: each returns its plain function and changes nothing that was there. Condition: numbers are ints; a string has at most 2^63 - 1 bytes (text: 40; seal: 4096).
-/
import Derived.Test.YtjmciknelkodcaaSpMath
import Derived.Test.YtjmciknelkodcaaJhLeaf
namespace Go.Proofs.Ytjmciknelkodcaa
open Go.RowKit

theorem spvalid_any (s : ByteArray) (w : World) :
    Calls Try.prog 56 #[.string s] w fun e w' => e = .returned (.bool (okS s.data.toList)) ∧ w = w' := by
  obtain ⟨r, hr⟩ : ∃ r, r = okS s.data.toList := ⟨_, rfl⟩
  rw [← hr]
  have hl : s.data.toList.length = s.size := by simp
  have hrr : r = true ↔ 1 ≤ s.size ∧ s.size ≤ 40 := by rw [hr, ← hl]; exact okS_iff
  have HR := Lib.hid hrr
  clear hr hrr hl
  go_enter Try.func56, Try.ntmps56
  go_wp2
  all_goals go_ret
  all_goals refine ⟨ret_bool ?_, rfl⟩
  all_goals (rw [Bool.eq_iff_iff, HR.out]; simp only [decide_eq_true_iff, Bool.false_eq_true, false_iff]; omega)
theorem r10path_any (s : ByteArray) (w : World) :
    Calls Try.prog 32 #[.string s] w fun e w' => e = .returned (.bool (okS s.data.toList)) ∧ w = w' := by
  obtain ⟨r, hr⟩ : ∃ r, r = okS s.data.toList := ⟨_, rfl⟩
  rw [← hr]
  have hl : s.data.toList.length = s.size := by simp
  have hrr : r = true ↔ 1 ≤ s.size ∧ s.size ≤ 40 := by rw [hr, ← hl]; exact okS_iff
  have HR := Lib.hid hrr
  clear hr hrr hl
  go_enter Try.func32, Try.ntmps32
  go_wp2
  all_goals go_ret
  all_goals refine ⟨ret_bool ?_, rfl⟩
  all_goals (rw [Bool.eq_iff_iff, HR.out]; simp only [decide_eq_true_iff, Bool.false_eq_true, false_iff]; omega)
theorem spfixed_any (n : Int) (h1 : 0 ≤ n) (h2 : n ≤ 4294967295) (w : World) :
    Calls Try.prog 72 #[.int .i64 n] w fun e w' => e = .returned (.string (ba (fourL n.toNat))) ∧ Below w.heap.size w w' := by
  have k := fun w => vfixed_any n (by omega) (by omega) w
  rw [fixR, if_pos ⟨h1, h2⟩] at k
  go_enter Try.func72, Try.ntmps72
  go_wp2_with (go_at_call 61; refine (k _).mono ?_; rintro e w' ⟨rfl, hb⟩)
  go_ret
  exact ⟨rfl, hb⟩
theorem sfour_any (n : Int) (h1 : 0 ≤ n) (h2 : n ≤ 4294967295) (w : World) :
    Calls Try.prog 34 #[.int .i64 n] w fun e w' => e = .returned (.string (ba (fourL n.toNat))) ∧ Below w.heap.size w w' := by
  have k := rfour_any n (by omega) (by omega) w
  rw [fixR, if_pos ⟨h1, h2⟩] at k
  exact k
theorem ret_sb {a b : ByteArray} (h : a = b) : Ending.returned (.string a) = .returned (.string b) := by rw [h]
theorem ret_sbe {a b : ByteArray} {x : Int} (h : a = b) : Ending.returned (.tuple #[.string a, .int .i64 x]) = .returned (.tuple #[.string b, .int .i64 x]) := by rw [h]
theorem sptext_any (s : ByteArray) (hs : s.size ≤ 40) (w : World) :
    Calls Try.prog 58 #[.string s] w fun e w' => e = .returned (.string (ba (txS s.data.toList))) ∧ Below w.heap.size w w' := by
  have k := fun w => spfixed_any (s.size : Int) (by omega) (by omega) w
  have hb4 : (ba (fourL ((s.size : Int)).toNat)).size = 4 := rfl
  obtain ⟨x, hx⟩ : ∃ x, x = ba (fourL ((s.size : Int)).toNat) := ⟨_, rfl⟩
  rw [← hx] at k hb4
  have HX := Lib.hid hx
  clear hx
  go_enter Try.func58, Try.ntmps58
  go_wp2_with (go_at_call 72; refine (k _).mono ?_; rintro e w' ⟨rfl, hb⟩)
  go_ret
  refine ⟨ret_sb ?_, hb⟩
  rw [HX.out, Int.toNat_natCast, txS]
  have hl : s.data.toList.length = s.size := by simp
  rw [hl, ← ba_app, ba_back]
theorem r10text_any (s : ByteArray) (hs : s.size ≤ 40) (w : World) :
    Calls Try.prog 33 #[.string s] w fun e w' => e = .returned (.string (ba (txS s.data.toList))) ∧ Below w.heap.size w w' := by
  have k := fun w => sfour_any (s.size : Int) (by omega) (by omega) w
  have hb4 : (ba (fourL ((s.size : Int)).toNat)).size = 4 := rfl
  obtain ⟨x, hx⟩ : ∃ x, x = ba (fourL ((s.size : Int)).toNat) := ⟨_, rfl⟩
  rw [← hx] at k hb4
  have HX := Lib.hid hx
  clear hx
  go_enter Try.func33, Try.ntmps33
  go_wp2_with (go_at_call 34; refine (k _).mono ?_; rintro e w' ⟨rfl, hb⟩)
  go_ret
  refine ⟨ret_sb ?_, hb⟩
  rw [HX.out, Int.toNat_natCast, txS]
  have hl : s.data.toList.length = s.size := by simp
  rw [hl, ← ba_app, ba_back]
set_option maxHeartbeats 1000000 in
theorem spseal_any (s : ByteArray) (hs : s.size ≤ 4096) (k : Int) (h3 : 0 ≤ k) (h4 : k ≤ 100) (m : ByteArray) (hm : m.size = 8) (w : World) :
    Calls Try.prog 57 #[.string s, .int .i64 k, .string m] w fun e w' => e = .returned (.string (ba (seS s.data.toList k m.data.toList))) ∧ Below w.heap.size w w' := by
  have k1 := fun w => ssum_any k (by omega) (by omega) s (by omega) w
  have hb := sumZ_bd k s.data.toList
  obtain ⟨q, hq⟩ : ∃ q, q = sumZ k s.data.toList := ⟨_, rfl⟩
  rw [← hq] at k1 hb
  have k2 := fun w => spfixed_any q hb.1 hb.2 w
  have hb4 : (ba (fourL q.toNat)).size = 4 := rfl
  obtain ⟨x, hx⟩ : ∃ x, x = ba (fourL q.toNat) := ⟨_, rfl⟩
  rw [← hx] at k2 hb4
  have HX := Lib.hid hx
  have HQ := Lib.hid hq
  clear hx hq hb
  have e1 := app_size s x
  have e2 := app_size (s ++ x) m
  go_enter Try.func57, Try.ntmps57
  go_wp2_with (first | (go_at_call 45; refine (k1 _).mono ?_; rintro e w1 ⟨rfl, b1⟩) | (go_at_call 72; refine (k2 _).mono ?_; rintro e w2 ⟨rfl, b2⟩))
  go_ret
  refine ⟨ret_sb ?_, b1.trans (b2.mono b1.size)⟩
  rw [seS, ← ba_app, ← ba_app, ba_back, ba_back, HX.out, HQ.out]
end Go.Proofs.Ytjmciknelkodcaa
