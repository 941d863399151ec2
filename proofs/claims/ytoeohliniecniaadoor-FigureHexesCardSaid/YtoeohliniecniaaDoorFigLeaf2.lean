/-
  isLetter of layer 1, and Letter and Digit of the document's answers: each returns its plain function of the byte and leaves the world alone. Condition: the byte is from 0 to 255.
-/
import Derived.Test.YtoeohliniecniaaDoorFigLeaf
namespace Go.Proofs.YtoeohliniecniaaDoor
open Go.RowKit
set_option maxHeartbeats 400000

def letB (c : Int) : Bool := decide ((97 ≤ c ∧ c ≤ 122) ∨ (65 ≤ c ∧ c ≤ 90) ∨ c = 95)
theorem low_hi {c : Int} (h : 65 ≤ c ∧ c ≤ 90) : lowI c = c + 32 := by simp [lowI, h]
theorem low_eq {c : Int} (h : ¬ (65 ≤ c ∧ c ≤ 90)) : lowI c = c := by simp only [lowI, if_neg h]
theorem low_bd (c : Int) (hc : 0 ≤ c ∧ c ≤ 255) : 0 ≤ lowI c ∧ lowI c ≤ 255 := by unfold lowI; split <;> omega

theorem isLetter_any (c : Int) (hc : 0 ≤ c ∧ c ≤ 255) (w : World) : Calls Tryd.prog 30 #[.int .u8 c] w fun e w' => e = .returned (.bool (letB c)) ∧ w = w' := by
  have hlb := low_bd c hc
  by_cases h1 : c = 95
  · have e : letB c = true := by simp [letB]; omega
    have E := Lib.hid e; clear e
    have t1 : (c == 95) = true := by simpa using h1
    clear h1
    go_enter Tryd.func30, Tryd.ntmps30
    go_wp2
    go_ret
    exact ⟨ret_bool E.out.symm, rfl⟩
  · have t1 : (c == 95) = false := by simpa using h1
    by_cases h2 : 97 ≤ lowI c
    · by_cases h3 : lowI c ≤ 122
      · have e : letB c = true := by
          by_cases hh : 65 ≤ c ∧ c ≤ 90
          · rw [low_hi hh] at h2 h3; simp [letB]; omega
          · rw [low_eq hh] at h2 h3; simp [letB]; omega
        have E := Lib.hid e; clear e h1
        go_enter Tryd.func30, Tryd.ntmps30
        go_wp2_with (go_at_call 35; refine (lower_any c hc _).mono ?_; rintro e w' ⟨rfl, rfl⟩)
        go_ret
        exact ⟨ret_bool E.out.symm, rfl⟩
      · have e : letB c = false := by
          by_cases hh : 65 ≤ c ∧ c ≤ 90
          · rw [low_hi hh] at h2 h3; simp [letB]; omega
          · rw [low_eq hh] at h2 h3; simp [letB]; omega
        have E := Lib.hid e; clear e h1
        have t3 : decide (lowI c ≤ 122) = false := by simpa using h3
        go_enter Tryd.func30, Tryd.ntmps30
        go_wp2_with (go_at_call 35; refine (lower_any c hc _).mono ?_; rintro e w' ⟨rfl, rfl⟩)
        go_ret
        exact ⟨ret_bool E.out.symm, rfl⟩
    · have e : letB c = false := by
        by_cases hh : 65 ≤ c ∧ c ≤ 90
        · rw [low_hi hh] at h2; simp [letB]; omega
        · rw [low_eq hh] at h2; simp [letB]; omega
      have E := Lib.hid e; clear e h1
      go_enter Tryd.func30, Tryd.ntmps30
      go_wp2_with (go_at_call 35; refine (lower_any c hc _).mono ?_; rintro e w' ⟨rfl, rfl⟩)
      go_ret
      exact ⟨ret_bool E.out.symm, rfl⟩

theorem digit_any (c : Int) (w : World) : Calls Tryd.prog 32 #[.int .u8 c] w fun e w' => e = .returned (.bool (isDigB c)) ∧ w = w' := by
  by_cases h1 : 48 ≤ c
  · by_cases h2 : c ≤ 57
    · have E := Lib.hid (show isDigB c = true by simp [isDigB, h1, h2])
      go_enter Tryd.func32, Tryd.ntmps32
      go_wp2
      go_ret
      exact ⟨ret_bool E.out.symm, rfl⟩
    · have E := Lib.hid (show isDigB c = false by simp [isDigB]; omega)
      go_enter Tryd.func32, Tryd.ntmps32
      go_wp2
      go_ret
      exact ⟨ret_bool E.out.symm, rfl⟩
  · have E := Lib.hid (show isDigB c = false by simp [isDigB]; omega)
    go_enter Tryd.func32, Tryd.ntmps32
    go_wp2
    go_ret
    exact ⟨ret_bool E.out.symm, rfl⟩

theorem letter_any (c : Int) (w : World) : Calls Tryd.prog 31 #[.int .u8 c] w fun e w' => e = .returned (.bool (letB c)) ∧ w = w' := by
  by_cases h1 : 97 ≤ c
  · have n1 : ¬ c ≤ 90 := by omega
    have t0 : (c == 95) = false := by simp; omega
    have g1 : 65 ≤ c := by omega
    by_cases h2 : c ≤ 122
    · have E := Lib.hid (show letB c = true by simp [letB]; omega)
      go_enter Tryd.func31, Tryd.ntmps31
      go_wp2
      go_ret
      exact ⟨ret_bool E.out.symm, rfl⟩
    · have E := Lib.hid (show letB c = false by simp [letB]; omega)
      go_enter Tryd.func31, Tryd.ntmps31
      go_wp2
      go_ret
      exact ⟨ret_bool E.out.symm, rfl⟩
  · by_cases h2 : 65 ≤ c
    · by_cases h3 : c ≤ 90
      · have E := Lib.hid (show letB c = true by simp [letB]; omega)
        go_enter Tryd.func31, Tryd.ntmps31
        go_wp2
        go_ret
        exact ⟨ret_bool E.out.symm, rfl⟩
      · have E := Lib.hid (show letB c = (c == 95) by
          by_cases h : c = 95
          · subst h; rfl
          · have : (c == 95) = false := by simpa using h
            rw [this]; simp [letB]; omega)
        go_enter Tryd.func31, Tryd.ntmps31
        go_wp2
        go_ret
        exact ⟨ret_bool E.out.symm, rfl⟩
    · have t0 : (c == 95) = false := by simp; omega
      have E := Lib.hid (show letB c = false by simp [letB]; omega)
      go_enter Tryd.func31, Tryd.ntmps31
      go_wp2
      go_ret
      exact ⟨ret_bool E.out.symm, rfl⟩
end Go.Proofs.YtoeohliniecniaaDoor
