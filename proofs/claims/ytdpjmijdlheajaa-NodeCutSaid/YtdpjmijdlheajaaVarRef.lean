/-
  The document's answers one, Put and Get of layer 2: each returns its plain function and changes nothing that was there. Condition: the number is a uint64; the string has at most 2^63 - 1 bytes.
-/
import Derived.Test.YtdpjmijdlheajaaVarPut
import Derived.Deep.RegionWith
namespace Go.Proofs.Ytdpjmijdlheajaa
open Go.RowKit

theorem box1 {W : World} {B : Nat} {v : Value} {t : TypeId} (h : W.heap[B]? = some (.cells #[v] t (0, 0))) : W.cell? ⟨B, 0, none⟩ = some v ∧ W.frozen? ⟨B, 0, none⟩ = false := by
  constructor <;> simp [World.cell?, World.frozen?, h]
theorem new1 (W : World) (v : Value) (t : TypeId) : (W.alloc (.cells #[v] t)).cell? ⟨W.heap.size, 0, none⟩ = some v ∧ (W.alloc (.cells #[v] t)).frozen? ⟨W.heap.size, 0, none⟩ = false :=
  box1 (Deep.blk_alloc_new _ _)
theorem one_str (w : World) (c : Int) (x : UInt8) (hx : (x.toNat : Int) = c) :
    (convert 56 9 (.slice (some ⟨w.heap.size, 0, none⟩) 1 1)).run Try.prog (w.alloc (.cells #[.int .u8 c] 5)) = .ok (.string ⟨#[x]⟩) (w.alloc (.cells #[.int .u8 c] 5)) := by
  have := run_convert_bytes_back (P := Try.prog) (w.alloc (.cells #[.int .u8 c] 5)) 56 9 5 ⟨w.heap.size, 0, none⟩ 1 [x] Try.underlying56 Try.underlying5 Try.underlying9 (fun j hj => by
    obtain rfl : j = 0 := by simp at hj; omega
    rw [Addr.add_lit, (new1 w (.int .u8 c) 5).1]
    simp [hx])
  exact this
theorem app_data (a b : ByteArray) : (a ++ b).data.toList = a.data.toList ++ b.data.toList := by simp
theorem app_size (a b : ByteArray) : (a ++ b).size = a.size + b.size := by simp
theorem ba_len (b : ByteArray) : b.data.toList.length = b.size := by simp
theorem one_size (x : UInt8) : (⟨#[x]⟩ : ByteArray).size = 1 := rfl

theorem one_any (z : Int) (h0 : 0 ≤ z) (h : z < 256) (w : World) :
    Calls Try.prog 62 #[.int .u64 z] w fun e w' => e = .returned (.string ⟨#[z.toNat.toUInt8]⟩) ∧ Below w.heap.size w w' := by
  have hc := one_str w z z.toNat.toUInt8 (by rw [u8_of (by omega)]; omega)
  go_enter Try.func62, Try.ntmps62
  go_wp2
  go_ret
  exact ⟨rfl, (Below.refl _ _).alloc (Nat.le_refl _) _⟩

/-- The groups of what is left. -/
def grpA (x : Nat) : List UInt8 := if x = 0 then [] else grp (lenN x) x
theorem grpA_step {x : Nat} (h : 0 < x) (h2 : x < 72057594037927936) : grpA x = grpA (x / 128) ++ [(128 + x % 128).toUInt8] := by
  unfold grpA
  rw [if_neg (by omega)]
  by_cases hx : x < 128
  · rw [if_pos (by omega), lenN_one hx, grp, grp]
  · rw [if_neg (by omega), lenN_step (by omega) h2, grp]
theorem put_grpA {n : Nat} (h : n < 72057594037927936) : putLV n = grpA (n / 128) ++ [(n % 128).toUInt8] := by
  unfold grpA
  rw [putLV, if_pos h]
  by_cases hx : n < 128
  · rw [if_pos (by omega), lenN_one hx]; rfl
  · rw [if_neg (by omega), lenN_step (by omega) h, Nat.add_sub_cancel]

set_option maxHeartbeats 2000000 in
set_option maxRecDepth 100000 in
theorem rput_big (z : Int) (h0 : 72057594037927936 ≤ z) (h : z < 18446744073709551616) (w : World) :
    Calls Try.prog 43 #[.int .u64 z] w fun e w' => e = .returned (.string ⟨(putLV z.toNat).toArray⟩) ∧ Below w.heap.size w w' := by
  have HP := Lib.hid (show putLV z.toNat = grp 8 (z / 256).toNat ++ [(z % 256).toNat.toUInt8] by
    rw [putLV, if_neg (by omega), show (z / 256).toNat = z.toNat / 256 by omega, show (z % 256).toNat = z.toNat % 256 by omega])
  obtain ⟨r, hr⟩ : ∃ r : ByteArray, r = ⟨(putLV z.toNat).toArray⟩ := ⟨_, rfl⟩
  rw [← hr]
  have HR := Lib.hid hr; clear hr
  go_enter Try.func43, Try.ntmps43
  go_wp2_with (go_at_call 62; refine (one_any _ (by omega) (by omega) _).mono ?_; rintro e w1 ⟨rfl, b1⟩)
  go_loopw [3, 4, 5] (fun s x i wr => ∃ (k : Nat) (out : ByteArray) (y : Int), k ≤ 8 ∧ i = .int .i64 k ∧ s = .string out ∧ x = .int .u64 y ∧ 0 ≤ y ∧ y < 18446744073709551616 ∧ out.size ≤ 1 + k ∧ Hid (putLV z.toNat = grp (8 - k) y.toNat ++ out.data.toList) ∧ Hid (Below w.heap.size w wr)) (fun _ _ i _ => 8 - (intOf i).toNat)
  case atStart => exact ⟨0, _, _, by omega, rfl, rfl, rfl, by omega, by omega, by rw [one_size]; omega, Lib.hid HP.out, Lib.hid b1⟩
  case round =>
    obtain ⟨k, out, y, hk, rfl, rfl, rfl, hy0, hy1, hle, hI, hB⟩ := hrel
    clear b1
    by_cases hlt : k < 8
    · go_wp2_with (go_at_call 62; refine (one_any _ (by omega) (by omega) _).mono ?_; rintro e w2 ⟨rfl, b2⟩)
      go_roundw
      case rel => exact ⟨k + 1, _, _, by omega, by go_num, rfl, rfl, by omega, by omega, by rw [app_size, one_size]; omega, Lib.hid (by
        rw [hI.out, show 8 - k = (8 - (k + 1)) + 1 by omega, grp, app_data, show (y / 128).toNat = y.toNat / 128 by omega, show (128 + y % 128).toNat = 128 + y.toNat % 128 by omega, List.append_assoc]), Lib.hid (hB.out.trans (b2.mono hB.out.size))⟩
      case measure => simp [intOf]; omega
    · go_wp2
      go_ret
      exact ⟨ret_str (by
        rw [HR.out, hI.out, show 8 - k = 0 by omega, grp]
        rfl), hB.out⟩

set_option maxHeartbeats 2000000 in
set_option maxRecDepth 100000 in
theorem rput_small (z : Int) (h0 : 0 ≤ z) (h : z < 72057594037927936) (w : World) :
    Calls Try.prog 43 #[.int .u64 z] w fun e w' => e = .returned (.string ⟨(putLV z.toNat).toArray⟩) ∧ Below w.heap.size w w' := by
  have HP := Lib.hid (show putLV z.toNat = grpA (z / 128).toNat ++ [(z % 128).toNat.toUInt8] by
    rw [put_grpA (by omega), show (z / 128).toNat = z.toNat / 128 by omega, show (z % 128).toNat = z.toNat % 128 by omega])
  obtain ⟨r, hr⟩ : ∃ r : ByteArray, r = ⟨(putLV z.toNat).toArray⟩ := ⟨_, rfl⟩
  rw [← hr]
  have HR := Lib.hid hr; clear hr
  go_enter Try.func43, Try.ntmps43
  go_wp2_with (go_at_call 62; refine (one_any _ (by omega) (by omega) _).mono ?_; rintro e w1 ⟨rfl, b1⟩)
  go_loopw [6, 7] (fun s x wr => ∃ (out : ByteArray) (y : Int), s = .string out ∧ x = .int .u64 y ∧ 0 ≤ y ∧ y < 72057594037927936 ∧ out.size ≤ 9 ∧ Hid (putLV z.toNat = grpA y.toNat ++ out.data.toList) ∧ Hid (Below w.heap.size w wr)) (fun _ x _ => (intOf x).toNat)
  case atStart => exact ⟨_, _, rfl, rfl, by omega, by omega, by rw [one_size]; omega, Lib.hid HP.out, Lib.hid b1⟩
  case round =>
    obtain ⟨out, y, rfl, rfl, hy0, hy1, hle, hI, hB⟩ := hrel
    clear b1
    by_cases hlt : 0 < y
    · go_wp2_with (go_at_call 62; refine (one_any _ (by omega) (by omega) _).mono ?_; rintro e w2 ⟨rfl, b2⟩)
      have HN := Lib.hid (show putLV z.toNat = grpA (y / 128).toNat ++ ((⟨#[(128 + y % 128).toNat.toUInt8]⟩ : ByteArray) ++ out).data.toList by
        rw [hI.out, grpA_step (by omega) (by omega), app_data, show (y / 128).toNat = y.toNat / 128 by omega, show (128 + y % 128).toNat = 128 + y.toNat % 128 by omega, List.append_assoc])
      go_roundw
      case rel => exact ⟨_, _, rfl, rfl, by omega, by omega, by
        have hN := congrArg List.length HN.out
        rw [putL_length, List.length_append, ba_len] at hN
        have h9 := lenN_le z.toNat
        exact Nat.le_trans (Nat.le_add_left _ _) (hN ▸ h9), HN, Lib.hid (hB.out.trans (b2.mono hB.out.size))⟩
      case measure => simp [intOf]; omega
    · go_wp2
      go_ret
      exact ⟨ret_str (by
        rw [HR.out, hI.out, show y.toNat = 0 by omega, grpA, if_pos rfl]
        rfl), hB.out⟩
theorem rput_any (z : Int) (h0 : 0 ≤ z) (h : z < 18446744073709551616) (w : World) :
    Calls Try.prog 43 #[.int .u64 z] w fun e w' => e = .returned (.string ⟨(putLV z.toNat).toArray⟩) ∧ Below w.heap.size w w' := by
  by_cases hb : 72057594037927936 ≤ z
  · exact rput_big z hb h w
  · exact rput_small z h0 (by omega) w
end Go.Proofs.Ytdpjmijdlheajaa
