/-
  The document's answer Text of layer 1: it returns the number in decimal ('Lib.itoa') and changes nothing that was there. Condition: the number is an int.
-/
import Derived.Test.YtadbmjmikoggbaaFigRefHex
namespace Go.Proofs.Ytadbmjmikoggbaa
open Go.RowKit

/-- u's digits that are still to come stand before what has come out. -/
def TextI (u m : Nat) (out : List UInt8) : Prop := if m = 0 then Lib.decDigits u = out else Lib.decDigits u = Lib.decDigits m ++ out
theorem textI_step {u m : Nat} {out : List UInt8} (h : TextI u m out) (hm : m ≠ 0) : TextI u (m / 10) (UInt8.ofNat (48 + m % 10) :: out) := by
  unfold TextI at h ⊢
  rw [if_neg hm] at h
  by_cases h10 : m < 10
  · rw [if_pos (by omega), h, Lib.decDigits_one h10, show m % 10 = m by omega]; rfl
  · rw [if_neg (by omega), h, Lib.decDigits, dif_neg h10]; simp
theorem textI_start (u : Nat) (h : u ≠ 0) : TextI u u [] := by unfold TextI; rw [if_neg h]; simp
theorem textI_end {u : Nat} {out : List UInt8} (h : TextI u 0 out) : Lib.decDigits u = out := by unfold TextI at h; rwa [if_pos rfl] at h
theorem dig_byte (k : Nat) (h : k < 10) : ((UInt8.ofNat (48 + k)).toNat : Int) = 48 + (k : Int) := by
  have := dig_val k h; omega

theorem textI_len {u m : Nat} {out : List UInt8} (h : TextI u m out) : out.length ≤ (Lib.decDigits u).length := by
  unfold TextI at h
  split at h
  · rw [h]; omega
  · rw [h]; simp
theorem dec_len (u : Nat) (h : u ≤ 9223372036854775808) : (Lib.decDigits u).length ≤ 21 := by
  by_cases h0 : u = 9223372036854775808
  · have := Lib.itoa_length_le (-(u : Int)) (by omega) (by omega)
    rw [Lib.itoa_neg u (by omega)] at this
    simp at this; omega
  · have := Lib.itoa_length_le (u : Int) (by omega) (by omega)
    rwa [Lib.itoa_nonneg] at this

end Go.Proofs.Ytadbmjmikoggbaa
