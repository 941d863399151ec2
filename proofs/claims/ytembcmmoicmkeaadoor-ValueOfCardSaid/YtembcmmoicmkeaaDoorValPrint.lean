/-
  Layer 4, Print and the document's Print: both return a value as a literal ('printB') and change nothing that was there. Conditions: the string has at most 10000 bytes, the number is an int; strconv's table lies in memory as the program text lays it.
-/
import Derived.Test.YtembcmmoicmkeaaDoorValKind
import Derived.Test.YtembcmmoicmkeaaDoorFigRefText
namespace Go.Proofs.YtembcmmoicmkeaaDoor
open Go.RowKit

def quoteB (s : ByteArray) : ByteArray := ⟨(quoteL s.data.toList).toArray⟩
def hexB (s : ByteArray) : ByteArray := ⟨(hexL s.data.toList).toArray⟩
def itoaB (n : Int) : ByteArray := ⟨(Lib.itoa n).toArray⟩
theorem hexB_size (s : ByteArray) : (hexB s).size = 2 * s.size := by
  have := hexL_length s.data.toList
  show (hexL s.data.toList).toArray.size = _
  rw [List.size_toArray, this]; rfl
theorem quoteB_size (s : ByteArray) : (quoteB s).size ≤ 2 + 2 * s.size := by
  have := quoteM_length s.data.toList
  show (quoteL s.data.toList).toArray.size ≤ _
  rw [List.size_toArray]
  have h2 : s.data.toList.length = s.size := rfl
  rw [h2] at this
  have h3 : (quoteL s.data.toList).length = (quoteM s.data.toList).length + 1 := by simp [quoteL, quoteM]
  omega
/-- A value as a literal. -/
def printB (k n : Int) (s : ByteArray) : ByteArray :=
  if k = 0 then ⟨#[110, 117, 108, 108]⟩ else if k = 1 then itoaB n else if k = 2 then quoteB s else if k = 3 then ⟨#[120]⟩ ++ quoteB (hexB s) else ⟨#[]⟩
theorem quote_b (s : ByteArray) (w : World) (hs : s.size ≤ 30000) : Calls Tryd.prog 24 #[.string s] w fun e w' => e = .returned (.string (quoteB s)) ∧ Below w.heap.size w w' := quote_any s w (by omega)
theorem hex_b (s : ByteArray) (w : World) (hs : s.size ≤ 30000) : Calls Tryd.prog 25 #[.string s] w fun e w' => e = .returned (.string (hexB s)) ∧ Below w.heap.size w w' := hex_any s w (by omega)
theorem text_b (n : Int) (h0 : -9223372036854775808 ≤ n) (h1 : n ≤ 9223372036854775807) (w : World) (ht : Tab w) : Calls Tryd.prog 23 #[.int .i64 n] w fun e w' => e = .returned (.string (itoaB n)) ∧ Below w.heap.size w w' := text_any n h0 h1 w ht
theorem rquote_b (s : ByteArray) (w : World) (hs : s.size ≤ 30000) : Calls Tryd.prog 27 #[.string s] w fun e w' => e = .returned (.string (quoteB s)) ∧ w = w' := rquote_any s w hs
theorem rhex_b (s : ByteArray) (w : World) (hs : s.size ≤ 30000) : Calls Tryd.prog 28 #[.string s] w fun e w' => e = .returned (.string (hexB s)) ∧ Below w.heap.size w w' := rhex_any s w hs
theorem rtext_b (n : Int) (h0 : -9223372036854775808 ≤ n) (h1 : n ≤ 9223372036854775807) (w : World) : Calls Tryd.prog 26 #[.int .i64 n] w fun e w' => e = .returned (.string (itoaB n)) ∧ Below w.heap.size w w' := rtext_any n h0 h1 w

set_option maxRecDepth 100000 in
set_option maxHeartbeats 4000000 in
theorem print_any (k n : Int) (s : ByteArray) (w : World) (hs : s.size ≤ 10000) (h0 : -9223372036854775808 ≤ n) (h1 : n ≤ 9223372036854775807) (ht : Tab w) :
    Calls Tryd.prog 10 #[.agg #[.int .i64 k, .int .i64 n, .string s]] w fun e w' => e = .returned (.string (printB k n s)) ∧ Below w.heap.size w w' := by
  obtain ⟨r, hr⟩ : ∃ r, r = printB k n s := ⟨_, rfl⟩
  rw [← hr]
  unfold printB at hr
  obtain ⟨w2, hw2⟩ : ∃ w2, w2 = w.alloc (.cells #[.int .i64 k, .int .i64 n, .string s] 23) := ⟨_, rfl⟩
  have hB2 : Below w.heap.size w w2 := hw2 ▸ below_alloc w _
  have HB := Lib.hid hB2
  have HT := Lib.hid (tab_below ht hB2)
  have HZ := Lib.hid (show w.heap.size ≤ w2.heap.size by rw [hw2]; simp)
  have H0 := Lib.hid h0; have H1 := Lib.hid h1
  clear ht hB2 h0 h1
  have HW := Lib.hid hw2; clear hw2
  by_cases k0 : k = 0
  · rw [if_pos k0] at hr; subst k0; subst hr
    go_enter Tryd.func10, Tryd.ntmps10
    go_wp2
    go_ret
    exact ⟨rfl, below_alloc _ _⟩
  rw [if_neg k0] at hr
  by_cases k1 : k = 1
  · rw [if_pos k1] at hr; subst k1; have HR := Lib.hid hr; clear hr
    go_enter Tryd.func10, Tryd.ntmps10
    go_wp2_with (go_at_call 23; rw [← HW.out]; refine (text_b n H0.out H1.out _ HT.out).mono ?_; rw [← HR.out]; rintro e w1 ⟨rfl, hb⟩)
    go_ret
    exact ⟨rfl, HB.out.trans (hb.mono HZ.out)⟩
  rw [if_neg k1] at hr
  by_cases k2 : k = 2
  · rw [if_pos k2] at hr; subst k2; have HR := Lib.hid hr; clear hr
    go_enter Tryd.func10, Tryd.ntmps10
    go_wp2_with (go_at_call 24; rw [← HW.out]; refine (quote_b s _ (by omega)).mono ?_; rw [← HR.out]; rintro e w1 ⟨rfl, hb⟩)
    go_ret
    exact ⟨rfl, HB.out.trans (hb.mono HZ.out)⟩
  rw [if_neg k2] at hr
  by_cases k3 : k = 3
  · rw [if_pos k3] at hr; subst k3
    obtain ⟨x, hx⟩ : ∃ x, x = hexB s := ⟨_, rfl⟩
    have hxs := hexB_size s
    rw [← hx] at hr hxs
    have HX := Lib.hid hx; clear hx
    obtain ⟨q, hq⟩ : ∃ q, q = quoteB x := ⟨_, rfl⟩
    have hqs := quoteB_size x
    rw [← hq] at hr hqs
    have HQ := Lib.hid hq; clear hq
    have HR := Lib.hid hr; clear hr
    go_enter Tryd.func10, Tryd.ntmps10
    go_wp2_with (go_at_call 25; rw [← HW.out]; refine (hex_b s _ (by omega)).mono ?_; rw [← HX.out]; rintro e w1 ⟨rfl, hb⟩)
    have HB1 := Lib.hid (HB.out.trans (hb.mono HZ.out))
    have HZ1 := Lib.hid (Nat.le_trans HZ.out hb.size)
    clear hb
    go_wp2_with (go_at_call 24; refine (quote_b x _ (by omega)).mono ?_; rw [← HQ.out]; rintro e w3 ⟨rfl, hb⟩)
    go_ret
    exact ⟨ret_s HR.out.symm, HB1.out.trans (hb.mono HZ1.out)⟩
  rw [if_neg k3] at hr; subst hr
  go_enter Tryd.func10, Tryd.ntmps10
  have t0 : (k == 0) = false := by simpa using k0
  have t1 : (k == 1) = false := by simpa using k1
  have t2 : (k == 2) = false := by simpa using k2
  have t3 : (k == 3) = false := by simpa using k3
  clear k0 k1 k2 k3
  go_wp2
  go_ret
  exact ⟨rfl, below_alloc _ _⟩

set_option maxRecDepth 100000 in
set_option maxHeartbeats 4000000 in
theorem qprint_any (k n : Int) (s : ByteArray) (w : World) (hs : s.size ≤ 10000) (h0 : -9223372036854775808 ≤ n) (h1 : n ≤ 9223372036854775807) :
    Calls Tryd.prog 11 #[.agg #[.int .i64 k, .int .i64 n, .string s]] w fun e w' => e = .returned (.string (printB k n s)) ∧ Below w.heap.size w w' := by
  obtain ⟨r, hr⟩ : ∃ r, r = printB k n s := ⟨_, rfl⟩
  rw [← hr]
  unfold printB at hr
  obtain ⟨w2, hw2⟩ : ∃ w2, w2 = w.alloc (.cells #[.int .i64 k, .int .i64 n, .string s] 23) := ⟨_, rfl⟩
  have hB2 : Below w.heap.size w w2 := hw2 ▸ below_alloc w _
  have HB := Lib.hid hB2
  have HZ := Lib.hid (show w.heap.size ≤ w2.heap.size by rw [hw2]; simp)
  have H0 := Lib.hid h0; have H1 := Lib.hid h1
  clear hB2 h0 h1
  have HW := Lib.hid hw2; clear hw2
  by_cases k0 : k = 0
  · rw [if_pos k0] at hr; subst k0; subst hr
    go_enter Tryd.func11, Tryd.ntmps11
    go_wp2
    go_ret
    exact ⟨rfl, below_alloc _ _⟩
  rw [if_neg k0] at hr
  by_cases k1 : k = 1
  · rw [if_pos k1] at hr; subst k1; have HR := Lib.hid hr; clear hr
    go_enter Tryd.func11, Tryd.ntmps11
    go_wp2_with (go_at_call 26; rw [← HW.out]; refine (rtext_b n H0.out H1.out _).mono ?_; rw [← HR.out]; rintro e w1 ⟨rfl, hb⟩)
    go_ret
    exact ⟨rfl, HB.out.trans (hb.mono HZ.out)⟩
  rw [if_neg k1] at hr
  by_cases k2 : k = 2
  · rw [if_pos k2] at hr; subst k2; have HR := Lib.hid hr; clear hr
    go_enter Tryd.func11, Tryd.ntmps11
    go_wp2_with (go_at_call 27; rw [← HW.out]; refine (rquote_b s _ (by omega)).mono ?_; rw [← HR.out]; rintro e w1 ⟨rfl, rfl⟩)
    go_ret
    exact ⟨rfl, HB.out⟩
  rw [if_neg k2] at hr
  by_cases k3 : k = 3
  · rw [if_pos k3] at hr; subst k3
    obtain ⟨x, hx⟩ : ∃ x, x = hexB s := ⟨_, rfl⟩
    have hxs := hexB_size s
    rw [← hx] at hr hxs
    have HX := Lib.hid hx; clear hx
    obtain ⟨q, hq⟩ : ∃ q, q = quoteB x := ⟨_, rfl⟩
    have hqs := quoteB_size x
    rw [← hq] at hr hqs
    have HQ := Lib.hid hq; clear hq
    have HR := Lib.hid hr; clear hr
    go_enter Tryd.func11, Tryd.ntmps11
    go_wp2_with (go_at_call 28; rw [← HW.out]; refine (rhex_b s _ (by omega)).mono ?_; rw [← HX.out]; rintro e w1 ⟨rfl, hb⟩)
    have HB1 := Lib.hid (HB.out.trans (hb.mono HZ.out))
    clear hb
    go_wp2_with (go_at_call 27; refine (rquote_b x _ (by omega)).mono ?_; rw [← HQ.out]; rintro e w3 ⟨rfl, rfl⟩)
    go_ret
    exact ⟨ret_s HR.out.symm, HB1.out⟩
  rw [if_neg k3] at hr; subst hr
  go_enter Tryd.func11, Tryd.ntmps11
  have t0 : (k == 0) = false := by simpa using k0
  have t1 : (k == 1) = false := by simpa using k1
  have t2 : (k == 2) = false := by simpa using k2
  have t3 : (k == 3) = false := by simpa using k3
  clear k0 k1 k2 k3
  go_wp2
  go_ret
  exact ⟨rfl, below_alloc _ _⟩
end Go.Proofs.YtembcmmoicmkeaaDoor
