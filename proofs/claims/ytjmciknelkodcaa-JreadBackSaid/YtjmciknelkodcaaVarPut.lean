/-
  Put of layer 2 returns 'putL' of the number and changes nothing that was there. Condition: the number is a uint64.
-/
import Derived.Test.YtjmciknelkodcaaVarScan
import Derived.Deep.OwnRows
import Derived.Laws.IdiomStrings
import Derived.Below
namespace Go.Proofs.Ytjmciknelkodcaa
open Go.RowKit

theorem u64_m127 {z : Int} (h₀ : 0 ≤ z) (h₁ : z < 18446744073709551616) : bits .and .u64 z 127 = z % 128 := bits_mask .u64 64 (by decide) wraps_u64 7 (by decide) z h₀ (by omega)
theorem u64_o128 {y : Int} (h₀ : 0 ≤ y) (h₁ : y < 128) : bits .or .u64 128 y = 128 + y :=
  bits_join .u64 64 (by decide) wraps_u64 7 128 y (by omega) (by decide) (by omega) h₀ (by omega) (by omega)
theorem infoU8 : (Try.prog.info? 5).map (fun i => (i.zero, i.size, i.bytes)) = some (some (.int .u8 0), 1, 1) := by kernel_rfl
theorem ret_str {a b : ByteArray} (h : a = b) : Ending.returned (.string a) = .returned (.string b) := by rw [h]
def byteAt (l : List UInt8) (j : Nat) : Value := .int .u8 ((l.getD j 0).toNat : Int)
def rowF (l : List UInt8) (k j : Nat) : Value := if j < k then .int .u8 0 else byteAt l j

/-- The lowest of k + 1 groups. -/
theorem grp_at {l : List UInt8} {k x : Nat} (h : l.take (k + 1) = grp (k + 1) x) : l.take k = grp k (x / 128) ∧ (l.getD k 0).toNat = 128 + x % 128 ∧ k < l.length := by
  have hl := congrArg List.length h
  rw [grp_length, List.length_take] at hl
  have hk : k < l.length := by omega
  rw [grp, List.take_add_one, List.getElem?_eq_getElem hk, Option.toList_some] at h
  obtain ⟨h1, h2⟩ := List.append_inj h (by rw [grp_length, List.length_take]; omega)
  refine ⟨h1, ?_, hk⟩
  have h3 : l[k] = (128 + x % 128).toUInt8 := by simpa using h2
  rw [List.getD_eq_getElem?_getD, List.getElem?_eq_getElem hk, Option.getD_some, h3, u8_of (by omega)]
/-- The last byte, and what stands before it. -/
theorem put_big {n : Nat} (h : 72057594037927936 ≤ n) : (putL n).take 8 = grp 8 (n / 256) ∧ ((putL n).getD 8 0).toNat = n % 256 := by
  have e : putL n = grp 8 (n / 256) ++ [(n % 256).toUInt8] := by rw [putL, if_neg (by omega)]
  have hl := grp_length 8 (n / 256)
  rw [e]
  refine ⟨by rw [List.take_append_of_le_length (by omega), List.take_of_length_le (by omega)], ?_⟩
  rw [List.getD_eq_getElem?_getD, List.getElem?_append_right (by omega), hl]
  show ((n % 256).toUInt8).toNat = _
  rw [u8_of (by omega)]
theorem put_small {n : Nat} (h : n < 72057594037927936) : (putL n).take (lenN n - 1) = grp (lenN n - 1) (n / 128) ∧ ((putL n).getD (lenN n - 1) 0).toNat = n % 128 := by
  have e : putL n = grp (lenN n - 1) (n / 128) ++ [(n % 128).toUInt8] := by rw [putL, if_pos h]
  have hl := grp_length (lenN n - 1) (n / 128)
  rw [e]
  refine ⟨by rw [List.take_append_of_le_length (by omega), List.take_of_length_le (by omega)], ?_⟩
  rw [List.getD_eq_getElem?_getD, List.getElem?_append_right (by omega), hl, Nat.sub_self]
  show ((n % 128).toUInt8).toNat = _
  rw [u8_of (by omega)]

theorem row_next {wr : World} {b q : Nat} {l : List UInt8} {k : Nat} {v : Int} (h : wr.rowIs b 5 q (rowF l (k + 1))) (hv : v = ((l.getD k 0).toNat : Int)) : (wr.setCell ⟨b, k, none⟩ (.int .u8 v)).rowIs b 5 q (rowF l k) := by
  refine (h.set k _).congr fun j hj => ?_
  unfold rowF
  by_cases e : j = k
  · subst e; rw [if_pos rfl, if_neg (by omega), byteAt, hv]
  · by_cases h1 : j < k
    · rw [if_neg e, if_pos (by omega), if_pos h1]
    · rw [if_neg e, if_neg (by omega), if_neg h1]

end Go.Proofs.Ytjmciknelkodcaa
