/-
  Layer 4, the leaves: cmp.Compare of ints and of strings, the document's ints and texts: each returns -1, 0 or 1 by the order and changes nothing. Condition: none (ints are ints).
-/
import Derived.Test.YtadbmjmikoggbaaFigLeaf
import Derived.Laws.Cover1
namespace Go.Proofs.Ytadbmjmikoggbaa
open Go.RowKit

/-- The order of two ints, as a number. -/
def cmpI (a b : Int) : Int := if a < b then -1 else if b < a then 1 else 0

theorem nanI_any (a : Int) (w : World) : Calls Try.prog 55 #[.int .i64 a] w fun e w' => e = .returned (.bool false) ∧ w = w' := by
  go_enter Try.func55, Try.ntmps55
  go_wp2
  go_ret
  exact ⟨by simp, rfl⟩
theorem nanS_any (a : ByteArray) (w : World) : Calls Try.prog 56 #[.string a] w fun e w' => e = .returned (.bool false) ∧ w = w' := by
  go_enter Try.func56, Try.ntmps56
  go_wp2
  go_ret
  exact ⟨by simp, rfl⟩

theorem cmpI_any (a b : Int) (w : World) : Calls Try.prog 46 #[.int .i64 a, .int .i64 b] w fun e w' => e = .returned (.int .i64 (cmpI a b)) ∧ w = w' := by
  obtain ⟨r, hr⟩ : ∃ r, r = cmpI a b := ⟨_, rfl⟩
  rw [← hr]
  unfold cmpI at hr
  by_cases h1 : a < b
  · have t1 : decide (a < b) = true := by simpa using h1
    rw [if_pos h1] at hr; subst hr
    go_enter Try.func46, Try.ntmps46
    go_wp2_with (go_at_call 55; refine (nanI_any _ _).mono ?_; rintro e w' ⟨rfl, rfl⟩)
    go_ret
    exact ⟨rfl, rfl⟩
  · have t1 : decide (a < b) = false := by simpa using h1
    rw [if_neg h1] at hr
    by_cases h2 : b < a
    · have t2 : decide (b < a) = true := by simpa using h2
      rw [if_pos h2] at hr; subst hr
      go_enter Try.func46, Try.ntmps46
      go_wp2_with (go_at_call 55; refine (nanI_any _ _).mono ?_; rintro e w' ⟨rfl, rfl⟩)
      go_ret
      exact ⟨rfl, rfl⟩
    · have t2 : decide (b < a) = false := by simpa using h2
      rw [if_neg h2] at hr; subst hr
      go_enter Try.func46, Try.ntmps46
      go_wp2_with (go_at_call 55; refine (nanI_any _ _).mono ?_; rintro e w' ⟨rfl, rfl⟩)
      go_ret
      exact ⟨rfl, rfl⟩

theorem qints_any (a b : Int) (w : World) : Calls Try.prog 52 #[.int .i64 a, .int .i64 b] w fun e w' => e = .returned (.int .i64 (cmpI a b)) ∧ w = w' := by
  obtain ⟨r, hr⟩ : ∃ r, r = cmpI a b := ⟨_, rfl⟩
  rw [← hr]
  unfold cmpI at hr
  by_cases h1 : a < b
  · have t1 : decide (a < b) = true := by simpa using h1
    rw [if_pos h1] at hr; subst hr
    go_enter Try.func52, Try.ntmps52
    go_wp2
    go_ret
    exact ⟨rfl, rfl⟩
  · have t1 : decide (a < b) = false := by simpa using h1
    rw [if_neg h1] at hr
    by_cases h2 : b < a
    · have t2 : decide (b < a) = true := by simpa using h2
      rw [if_pos h2] at hr; subst hr
      go_enter Try.func52, Try.ntmps52
      go_wp2
      go_ret
      exact ⟨rfl, rfl⟩
    · have t2 : decide (b < a) = false := by simpa using h2
      rw [if_neg h2] at hr; subst hr
      go_enter Try.func52, Try.ntmps52
      go_wp2
      go_ret
      exact ⟨rfl, rfl⟩

/-- The order of two strings, byte by byte, as a number. -/
def cmpS (a b : ByteArray) : Int := if Op.bytesLess a.toList b.toList then -1 else if a.toList == b.toList then 0 else 1
theorem cmpS_any (a b : ByteArray) (w : World) : Calls Try.prog 47 #[.string a, .string b] w fun e w' => e = .returned (.int .i64 (cmpS a b)) ∧ w = w' := by
  obtain ⟨r, hr⟩ : ∃ r, r = cmpS a b := ⟨_, rfl⟩
  rw [← hr]
  unfold cmpS at hr
  rcases h1 : Op.bytesLess a.toList b.toList with _ | _
  · rw [h1] at hr
    rcases h2 : a.toList == b.toList with _ | _
    · rw [h2] at hr
      have h3 : (!(Op.bytesLess a.toList b.toList || a.toList == b.toList)) = true := by rw [h1, h2]; rfl
      obtain rfl : r = 1 := by simpa using hr
      clear hr
      have H := Lib.hid h2; clear h2
      go_enter Try.func47, Try.ntmps47
      go_wp2_with (go_at_call 56; refine (nanS_any _ _).mono ?_; rintro e w' ⟨rfl, rfl⟩)
      all_goals first | (go_ret; exact ⟨rfl, rfl⟩) | skip
      all_goals exfalso; simp_all [H.out]
    · rw [h2] at hr
      have h3 : (!(Op.bytesLess a.toList b.toList || a.toList == b.toList)) = false := by rw [h1, h2]; rfl
      obtain rfl : r = 0 := by simpa using hr
      clear hr
      have H := Lib.hid h2; clear h2
      go_enter Try.func47, Try.ntmps47
      go_wp2_with (go_at_call 56; refine (nanS_any _ _).mono ?_; rintro e w' ⟨rfl, rfl⟩)
      all_goals first | (go_ret; exact ⟨rfl, rfl⟩) | skip
      all_goals exfalso; simp_all [H.out]
  · rw [h1] at hr
    obtain rfl : r = -1 := by simpa using hr
    clear hr
    go_enter Try.func47, Try.ntmps47
    go_wp2_with (go_at_call 56; refine (nanS_any _ _).mono ?_; rintro e w' ⟨rfl, rfl⟩)
    go_ret
    exact ⟨rfl, rfl⟩
theorem qtexts_any (a b : ByteArray) (w : World) : Calls Try.prog 53 #[.string a, .string b] w fun e w' => e = .returned (.int .i64 (cmpS a b)) ∧ w = w' := by
  obtain ⟨r, hr⟩ : ∃ r, r = cmpS a b := ⟨_, rfl⟩
  rw [← hr]
  unfold cmpS at hr
  rcases h1 : Op.bytesLess a.toList b.toList with _ | _
  · rw [h1] at hr
    rcases h2 : a.toList == b.toList with _ | _
    · rw [h2] at hr
      have h3 : (!(Op.bytesLess a.toList b.toList || a.toList == b.toList)) = true := by rw [h1, h2]; rfl
      obtain rfl : r = 1 := by simpa using hr
      clear hr
      have H := Lib.hid h2; clear h2
      go_enter Try.func53, Try.ntmps53
      go_wp2
      all_goals first | (go_ret; exact ⟨rfl, rfl⟩) | skip
      all_goals exfalso; simp_all [H.out]
    · rw [h2] at hr
      have h3 : (!(Op.bytesLess a.toList b.toList || a.toList == b.toList)) = false := by rw [h1, h2]; rfl
      obtain rfl : r = 0 := by simpa using hr
      clear hr
      have H := Lib.hid h2; clear h2
      go_enter Try.func53, Try.ntmps53
      go_wp2
      all_goals first | (go_ret; exact ⟨rfl, rfl⟩) | skip
      all_goals exfalso; simp_all [H.out]
  · rw [h1] at hr
    obtain rfl : r = -1 := by simpa using hr
    clear hr
    go_enter Try.func53, Try.ntmps53
    go_wp2
    go_ret
    exact ⟨rfl, rfl⟩
end Go.Proofs.Ytadbmjmikoggbaa
