/-
  The document's answers one, Put and Get of layer 2: each returns its plain function and changes nothing that was there. Condition: the number is a uint64; the string has at most 2^63 - 1 bytes.
-/
import Derived.Test.YtjmciknelkodcaaVarPut
import Derived.Deep.RegionWith
namespace Go.Proofs.Ytjmciknelkodcaa
open Go.RowKit

theorem box1 {W : World} {B : Nat} {v : Value} {t : TypeId} (h : W.heap[B]? = some (.cells #[v] t (0, 0))) : W.cell? ⟨B, 0, none⟩ = some v ∧ W.frozen? ⟨B, 0, none⟩ = false := by
  constructor <;> simp [World.cell?, World.frozen?, h]
theorem new1 (W : World) (v : Value) (t : TypeId) : (W.alloc (.cells #[v] t)).cell? ⟨W.heap.size, 0, none⟩ = some v ∧ (W.alloc (.cells #[v] t)).frozen? ⟨W.heap.size, 0, none⟩ = false :=
  box1 (Deep.blk_alloc_new _ _)
theorem one_str (w : World) (c : Int) (x : UInt8) (hx : (x.toNat : Int) = c) :
    (convert 63 9 (.slice (some ⟨w.heap.size, 0, none⟩) 1 1)).run Try.prog (w.alloc (.cells #[.int .u8 c] 5)) = .ok (.string ⟨#[x]⟩) (w.alloc (.cells #[.int .u8 c] 5)) := by
  have := run_convert_bytes_back (P := Try.prog) (w.alloc (.cells #[.int .u8 c] 5)) 63 9 5 ⟨w.heap.size, 0, none⟩ 1 [x] Try.underlying63 Try.underlying5 Try.underlying9 (fun j hj => by
    obtain rfl : j = 0 := by simp at hj; omega
    rw [Addr.add_lit, (new1 w (.int .u8 c) 5).1]
    simp [hx])
  exact this
theorem app_data (a b : ByteArray) : (a ++ b).data.toList = a.data.toList ++ b.data.toList := by simp
theorem app_size (a b : ByteArray) : (a ++ b).size = a.size + b.size := by simp
theorem ba_len (b : ByteArray) : b.data.toList.length = b.size := by simp
theorem one_size (x : UInt8) : (⟨#[x]⟩ : ByteArray).size = 1 := rfl

theorem one_any (z : Int) (h0 : 0 ≤ z) (h : z < 256) (w : World) :
    Calls Try.prog 67 #[.int .u64 z] w fun e w' => e = .returned (.string ⟨#[z.toNat.toUInt8]⟩) ∧ Below w.heap.size w w' := by
  have hc := one_str w z z.toNat.toUInt8 (by rw [u8_of (by omega)]; omega)
  go_enter Try.func67, Try.ntmps67
  go_wp2
  go_ret
  exact ⟨rfl, (Below.refl _ _).alloc (Nat.le_refl _) _⟩

/-- The groups of what is left. -/
def grpA (x : Nat) : List UInt8 := if x = 0 then [] else grp (lenN x) x
theorem grpA_step {x : Nat} (h : 0 < x) (h2 : x < 72057594037927936) : grpA x = grpA (x / 128) ++ [(128 + x % 128).toUInt8] := by
  unfold grpA
  rw [if_neg (by omega)]
  by_cases hx : x < 128
  · rw [if_pos (by omega), lenN_one hx, grp, grp]
  · rw [if_neg (by omega), lenN_step (by omega) h2, grp]
theorem put_grpA {n : Nat} (h : n < 72057594037927936) : putL n = grpA (n / 128) ++ [(n % 128).toUInt8] := by
  unfold grpA
  rw [putL, if_pos h]
  by_cases hx : n < 128
  · rw [if_pos (by omega), lenN_one hx]; rfl
  · rw [if_neg (by omega), lenN_step (by omega) h, Nat.add_sub_cancel]

end Go.Proofs.Ytjmciknelkodcaa
