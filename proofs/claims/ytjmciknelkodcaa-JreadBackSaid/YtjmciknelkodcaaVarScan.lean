/-
  scan and Get of layer 2: each returns its plain function of the bytes ('scanF', 'getR') and leaves the world alone. Condition: the string has at most 2^63 - 1 bytes.
-/
import Derived.Test.YtjmciknelkodcaaVarLen
import Derived.Lib.EndianBits
import Derived.WalkArith
namespace Go.Proofs.Ytjmciknelkodcaa
open Go.RowKit

theorem byte_bd (x : UInt8) : 0 ≤ (x.toNat : Int) ∧ (x.toNat : Int) ≤ 255 := by have := x.toNat_lt; omega
theorem u8_m127 {c : Int} (h₀ : 0 ≤ c) (h₁ : c ≤ 255) : bits .and .u8 c 127 = c % 128 := bits_mask .u8 8 (by decide) wraps_u8 7 (by decide) c h₀ (by omega)
theorem u8_m128 : ∀ c : Fin 256, bits .and .u8 (c.val : Int) 128 = if c.val < 128 then 0 else 128 := by decide +kernel
theorem u8_m128' (c : UInt8) : bits .and .u8 (c.toNat : Int) 128 = if c.toNat < 128 then 0 else 128 := u8_m128 ⟨c.toNat, c.toNat_lt⟩
theorem u64_j7 {x y : Int} (hx₀ : 0 ≤ x) (hx₁ : x < 72057594037927936) (h₀ : 0 ≤ y) (h₁ : y < 128) : bits .or .u64 (x * 128) y = x * 128 + y :=
  bits_join .u64 64 (by decide) wraps_u64 7 (x * 128) y (by omega) (by omega) (by omega) h₀ (by omega) (by omega)
theorem u64_j8 {x y : Int} (hx₀ : 0 ≤ x) (hx₁ : x < 72057594037927936) (h₀ : 0 ≤ y) (h₁ : y < 256) : bits .or .u64 (x * 256) y = x * 256 + y :=
  bits_join .u64 64 (by decide) wraps_u64 8 (x * 256) y (by omega) (by omega) (by omega) h₀ (by omega) (by omega)
theorem pow_bd {y : Int} {k j : Nat} (h : y.toNat < 128 ^ k) (hk : k ≤ j) : y.toNat < 128 ^ j := Nat.lt_of_lt_of_le h (Nat.pow_le_pow_right (by decide) hk)
theorem ret_tri {a b c d : Int} {e f : Int} (h : a = b ∧ c = d ∧ e = f) : Ending.returned (.tuple #[.int .u64 a, .int .i64 c, .int .i64 e]) = .returned (.tuple #[.int .u64 b, .int .i64 d, .int .i64 f]) := by rw [h.1, h.2.1, h.2.2]
theorem drop_at (s : ByteArray) (k : Nat) (h : k < s.size) : s.data.toList.drop k = s[k] :: s.data.toList.drop (k + 1) := by
  obtain ⟨⟨l⟩⟩ := s
  exact List.drop_eq_getElem_cons h
theorem drop_all (s : ByteArray) (k : Nat) (h : s.size ≤ k) : s.data.toList.drop k = [] := by
  obtain ⟨⟨l⟩⟩ := s
  exact List.drop_eq_nil_of_le h

end Go.Proofs.Ytjmciknelkodcaa
