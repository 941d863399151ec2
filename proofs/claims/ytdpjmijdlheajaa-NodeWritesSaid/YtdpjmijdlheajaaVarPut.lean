/-
  Put of layer 2 returns 'putL' of the number and changes nothing that was there. Condition: the number is a uint64.
-/
import Derived.Test.YtdpjmijdlheajaaVarScan
import Derived.Deep.OwnRows
import Derived.Laws.IdiomStrings
import Derived.Below
namespace Go.Proofs.Ytdpjmijdlheajaa
open Go.RowKit

theorem u64_m127 {z : Int} (h₀ : 0 ≤ z) (h₁ : z < 18446744073709551616) : bits .and .u64 z 127 = z % 128 := bits_mask .u64 64 (by decide) wraps_u64 7 (by decide) z h₀ (by omega)
theorem u64_o128 {y : Int} (h₀ : 0 ≤ y) (h₁ : y < 128) : bits .or .u64 128 y = 128 + y :=
  bits_join .u64 64 (by decide) wraps_u64 7 128 y (by omega) (by decide) (by omega) h₀ (by omega) (by omega)
theorem infoU8 : (Try.prog.info? 5).map (fun i => (i.zero, i.size, i.bytes)) = some (some (.int .u8 0), 1, 1) := by kernel_rfl
theorem ret_str {a b : ByteArray} (h : a = b) : Ending.returned (.string a) = .returned (.string b) := by rw [h]
def byteAt (l : List UInt8) (j : Nat) : Value := .int .u8 ((l.getD j 0).toNat : Int)
def rowF (l : List UInt8) (k j : Nat) : Value := if j < k then .int .u8 0 else byteAt l j

/-- The lowest of k + 1 groups. -/
theorem grp_at {l : List UInt8} {k x : Nat} (h : l.take (k + 1) = grp (k + 1) x) : l.take k = grp k (x / 128) ∧ (l.getD k 0).toNat = 128 + x % 128 ∧ k < l.length := by
  have hl := congrArg List.length h
  rw [grp_length, List.length_take] at hl
  have hk : k < l.length := by omega
  rw [grp, List.take_add_one, List.getElem?_eq_getElem hk, Option.toList_some] at h
  obtain ⟨h1, h2⟩ := List.append_inj h (by rw [grp_length, List.length_take]; omega)
  refine ⟨h1, ?_, hk⟩
  have h3 : l[k] = (128 + x % 128).toUInt8 := by simpa using h2
  rw [List.getD_eq_getElem?_getD, List.getElem?_eq_getElem hk, Option.getD_some, h3, u8_of (by omega)]
/-- The last byte, and what stands before it. -/
theorem put_big {n : Nat} (h : 72057594037927936 ≤ n) : (putLV n).take 8 = grp 8 (n / 256) ∧ ((putLV n).getD 8 0).toNat = n % 256 := by
  have e : putLV n = grp 8 (n / 256) ++ [(n % 256).toUInt8] := by rw [putLV, if_neg (by omega)]
  have hl := grp_length 8 (n / 256)
  rw [e]
  refine ⟨by rw [List.take_append_of_le_length (by omega), List.take_of_length_le (by omega)], ?_⟩
  rw [List.getD_eq_getElem?_getD, List.getElem?_append_right (by omega), hl]
  show ((n % 256).toUInt8).toNat = _
  rw [u8_of (by omega)]
theorem put_small {n : Nat} (h : n < 72057594037927936) : (putLV n).take (lenN n - 1) = grp (lenN n - 1) (n / 128) ∧ ((putLV n).getD (lenN n - 1) 0).toNat = n % 128 := by
  have e : putLV n = grp (lenN n - 1) (n / 128) ++ [(n % 128).toUInt8] := by rw [putLV, if_pos h]
  have hl := grp_length (lenN n - 1) (n / 128)
  rw [e]
  refine ⟨by rw [List.take_append_of_le_length (by omega), List.take_of_length_le (by omega)], ?_⟩
  rw [List.getD_eq_getElem?_getD, List.getElem?_append_right (by omega), hl, Nat.sub_self]
  show ((n % 128).toUInt8).toNat = _
  rw [u8_of (by omega)]

theorem row_next {wr : World} {b q : Nat} {l : List UInt8} {k : Nat} {v : Int} (h : wr.rowIs b 5 q (rowF l (k + 1))) (hv : v = ((l.getD k 0).toNat : Int)) : (wr.setCell ⟨b, k, none⟩ (.int .u8 v)).rowIs b 5 q (rowF l k) := by
  refine (h.set k _).congr fun j hj => ?_
  unfold rowF
  by_cases e : j = k
  · subst e; rw [if_pos rfl, if_neg (by omega), byteAt, hv]
  · by_cases h1 : j < k
    · rw [if_neg e, if_pos (by omega), if_pos h1]
    · rw [if_neg e, if_neg (by omega), if_neg h1]

set_option maxHeartbeats 2000000 in
set_option maxRecDepth 100000 in
theorem vput_any (z : Int) (h0 : 0 ≤ z) (h : z < 18446744073709551616) (w : World) :
    Calls Try.prog 56 #[.int .u64 z] w fun e w' => e = .returned (.string ⟨(putLV z.toNat).toArray⟩) ∧ Below w.heap.size w w' := by
  have hl := fun w => vlen_any z h0 h w
  obtain ⟨q, hq⟩ : ∃ q, lenN z.toNat = q + 1 := ⟨lenN z.toNat - 1, by have := lenN_ge z.toNat; omega⟩
  have hq8 : q ≤ 8 := by have := lenN_le z.toNat; omega
  have hmk := run_make_row' (P := Try.prog) 56 5 (.int .u8 0) 1 Try.underlying56 infoU8 rfl .i64 .i64 (q + 1) (by omega) (by omega) w
  obtain ⟨W1, hW1⟩ : ∃ W1, W1 = w.alloc (.cells (madeCells #[.int .u8 0] (q + 1)) 5) := ⟨_, rfl⟩
  rw [← hW1, show ((q + 1 : Nat) : Int) = (q : Int) + 1 by omega] at hmk
  have hrow : W1.rowIs w.heap.size 5 (q + 1) (rowF (putLV z.toNat) (q + 1)) := by
    rw [hW1]
    exact (World.rowIs_made w (.int .u8 0) (q + 1) 5).congr fun j hj => by rw [rowF, if_pos hj]
  have hB : Below w.heap.size w W1 := by rw [hW1]; exact (Below.refl _ _).alloc (Nat.le_refl _) _
  have hc : W1.cell? ⟨w.heap.size, q, none⟩ = some (.int .u8 0) := by
    have := hrow.cell (i := q) (by omega)
    rwa [rowF, if_pos (by omega)] at this
  have hf := hrow.frozen q
  rw [hq] at hl
  have HL := Lib.hid hl; have HROW := Lib.hid hrow; have HB := Lib.hid hB
  clear hl hrow hB hW1
  obtain ⟨l, hlst⟩ : ∃ l, l = putLV z.toNat := ⟨_, rfl⟩
  rw [← hlst] at HROW
  rw [← hlst]
  have HLST := Lib.hid hlst; have HQ := Lib.hid hq; clear hlst hq
  by_cases hb : 72057594037927936 ≤ z
  · have hq7 : 7 < q := by have := HQ.out; rw [lenN_big (by omega)] at this; omega
    have hw : IntKind.u8.wrap z = z % 256 := IntKind.wrap_u8 z
    have HS := Lib.hid (put_big (n := z.toNat) (by omega))
    rw [← HLST.out] at HS
    go_enter Try.func56, Try.ntmps56
    go_wp2_with (go_at_call 46; refine (HL.out _).mono ?_; rintro e w' ⟨rfl, rfl⟩)
    go_loopw [0, 5] (fun v i wr => ∃ (k : Nat) (x : Int), k ≤ q ∧ i = .int .i64 ((k : Int) - 1) ∧ v = .int .u64 x ∧ 0 ≤ x ∧ x < 18446744073709551616 ∧ Hid (l.take k = grp k x.toNat) ∧ Hid (wr.rowIs w.heap.size 5 (q + 1) (rowF l k)) ∧ Hid (Below w.heap.size w wr)) (fun _ i _ => (intOf i + 1).toNat)
    case atStart => exact ⟨q, _, by omega, by go_num, rfl, by omega, by omega, Lib.hid (by rw [show q = 8 by omega, HS.out.1]; congr 1; omega), Lib.hid (row_next HROW.out (by rw [show q = 8 by omega, HS.out.2]; omega)), Lib.hid (HB.out.setCell (p := ⟨w.heap.size, q, none⟩) (Nat.le_refl _) _)⟩
    case round =>
      obtain ⟨k, x, hk, rfl, rfl, hx0, hx1, hg, hr, hB⟩ := hrel
      clear hmk hc hf
      match k, hk, hg, hr with
      | 0, hk, hg, hr =>
        have hle : l.length = q + 1 := by rw [HLST.out, putL_length, HQ.out]
        have hcv := run_convert_bytes_back (P := Try.prog) wr 56 9 5 ⟨w.heap.size, 0, none⟩ (q + 1) l Try.underlying56 Try.underlying5 Try.underlying9 (fun j hj => by
          rw [Addr.add_lit, Nat.zero_add, hr.out.cell (by omega), rowF, if_neg (by omega), byteAt, List.getD_eq_getElem?_getD, List.getElem?_eq_getElem hj, Option.getD_some])
        rw [hle] at hcv
        go_wp2
        go_ret
        exact ⟨rfl, hB.out⟩
      | k + 1, hk, hg, hr =>
        obtain ⟨g1, g2, g3⟩ := grp_at hg.out
        have G1 := Lib.hid g1; have G2 := Lib.hid g2; clear g1 g2 g3
        have hc : wr.cell? ⟨w.heap.size, k, none⟩ = some (.int .u8 0) := by
          have := hr.out.cell (i := k) (by omega)
          rwa [rowF, if_pos (by omega)] at this
        have hf := hr.out.frozen k
        have e1 := u64_m127 hx0 hx1
        have e2 := u64_o128 (y := x % 128) (by omega) (by omega)
        have e3 : ((k + 1 : Nat) : Int) - 1 = k := by omega
        rw [e3]
        go_wp2
        go_roundw
        case rel => exact ⟨k, _, by omega, by go_num, rfl, by omega, by omega, Lib.hid (by rw [G1.out]; congr 1; omega), Lib.hid (row_next hr.out (by rw [G2.out]; omega)), Lib.hid (hB.out.setCell (p := ⟨w.heap.size, k, none⟩) (Nat.le_refl _) _)⟩
        case measure => simp [intOf]
  · have hq7 : q < 8 := by have := HQ.out; have := lenN_small (n := z.toNat) (by omega); omega
    have hw := u64_m127 h0 h
    have HS := Lib.hid (put_small (n := z.toNat) (by omega))
    rw [← HLST.out, HQ.out, Nat.add_sub_cancel] at HS
    go_enter Try.func56, Try.ntmps56
    go_wp2_with (go_at_call 46; refine (HL.out _).mono ?_; rintro e w' ⟨rfl, rfl⟩)
    go_loopw [0, 5] (fun v i wr => ∃ (k : Nat) (x : Int), k ≤ q ∧ i = .int .i64 ((k : Int) - 1) ∧ v = .int .u64 x ∧ 0 ≤ x ∧ x < 18446744073709551616 ∧ Hid (l.take k = grp k x.toNat) ∧ Hid (wr.rowIs w.heap.size 5 (q + 1) (rowF l k)) ∧ Hid (Below w.heap.size w wr)) (fun _ i _ => (intOf i + 1).toNat)
    case atStart => exact ⟨q, _, by omega, by go_num, rfl, by omega, by omega, Lib.hid (by rw [HS.out.1]; congr 1; omega), Lib.hid (row_next HROW.out (by rw [HS.out.2]; omega)), Lib.hid (HB.out.setCell (p := ⟨w.heap.size, q, none⟩) (Nat.le_refl _) _)⟩
    case round =>
      obtain ⟨k, x, hk, rfl, rfl, hx0, hx1, hg, hr, hB⟩ := hrel
      clear hmk hc hf
      match k, hk, hg, hr with
      | 0, hk, hg, hr =>
        have hle : l.length = q + 1 := by rw [HLST.out, putL_length, HQ.out]
        have hcv := run_convert_bytes_back (P := Try.prog) wr 56 9 5 ⟨w.heap.size, 0, none⟩ (q + 1) l Try.underlying56 Try.underlying5 Try.underlying9 (fun j hj => by
          rw [Addr.add_lit, Nat.zero_add, hr.out.cell (by omega), rowF, if_neg (by omega), byteAt, List.getD_eq_getElem?_getD, List.getElem?_eq_getElem hj, Option.getD_some])
        rw [hle] at hcv
        go_wp2
        go_ret
        exact ⟨rfl, hB.out⟩
      | k + 1, hk, hg, hr =>
        obtain ⟨g1, g2, g3⟩ := grp_at hg.out
        have G1 := Lib.hid g1; have G2 := Lib.hid g2; clear g1 g2 g3
        have hc : wr.cell? ⟨w.heap.size, k, none⟩ = some (.int .u8 0) := by
          have := hr.out.cell (i := k) (by omega)
          rwa [rowF, if_pos (by omega)] at this
        have hf := hr.out.frozen k
        have e1 := u64_m127 hx0 hx1
        have e2 := u64_o128 (y := x % 128) (by omega) (by omega)
        have e3 : ((k + 1 : Nat) : Int) - 1 = k := by omega
        rw [e3]
        go_wp2
        go_roundw
        case rel => exact ⟨k, _, by omega, by go_num, rfl, by omega, by omega, Lib.hid (by rw [G1.out]; congr 1; omega), Lib.hid (row_next hr.out (by rw [G2.out]; omega)), Lib.hid (hB.out.setCell (p := ⟨w.heap.size, k, none⟩) (Nat.le_refl _) _)⟩
        case measure => simp [intOf]
end Go.Proofs.Ytdpjmijdlheajaa
