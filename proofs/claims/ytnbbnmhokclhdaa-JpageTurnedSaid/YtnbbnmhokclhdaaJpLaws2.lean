/-
  The statement JpageTurned as a walk: it returns true for every input and changes nothing that was there.
-/
import Derived.Test.YtnbbnmhokclhdaaJpLaws1
import Derived.Laws.IdiomStrings
namespace Go.Proofs.Ytnbbnmhokclhdaa
open Go.RowKit

set_option maxHeartbeats 4000000 in
set_option maxRecDepth 100000 in
theorem pturned_any (n : Int) (h1 : -9223372036854775808 ≤ n) (h2 : n ≤ 9223372036854775807) (d : ByteArray) (hds : d.size ≤ 9223372036854775807)
    (t : Int) (h7 : -9223372036854775808 ≤ t) (h8 : t ≤ 9223372036854775807) (y : Int) (h9 : -9223372036854775808 ≤ y) (h10 : y ≤ 9223372036854775807) (w : World) :
    Calls Try.prog 5 #[.int .i64 n, .string d, .int .i64 t, .int .i64 y] w fun e w' => e = .returned (.bool true) ∧ Below w.heap.size w w' := by
  have hl : d.data.toList.length = d.size := by simp
  have HB := Lib.hid (Below.refl w.heap.size w)
  have k1 := fun w => pwrite_any n h1 h2 d hds n h1 h2 w
  by_cases hx : (okP n = true ∧ d.size = 512) ∧ ¬ y.tmod 256 = 0
  case neg =>
    obtain ⟨E, f, hw, hf⟩ : ∃ (E : List UInt8) (f : Int), wrP n d.data.toList n = (E, f) ∧ (f = 3 ∨ f = 12 ∨ (f = 0 ∧ y.tmod 256 = 0)) := by
      by_cases h : okP n = true
      · by_cases h' : d.size = 512
        · exact ⟨_, _, by rw [wrP, if_pos h, if_pos (by omega)], .inr (.inr ⟨rfl, Classical.not_not.1 fun e => hx ⟨⟨h, h'⟩, e⟩⟩)⟩
        · exact ⟨_, _, by rw [wrP, if_pos h, if_neg (by omega)], .inr (.inl rfl)⟩
      · exact ⟨_, _, by rw [wrP, if_neg h], .inl rfl⟩
    rw [hw] at k1
    simp only at k1
    obtain ⟨E', hE'⟩ : ∃ E' : ByteArray, E' = ⟨E.toArray⟩ := ⟨_, rfl⟩
    rw [← hE'] at k1
    clear hw hx hl hE'
    rcases hf with rfl | rfl | ⟨rfl, hy⟩
    all_goals go_enter Try.func5, Try.ntmps5
    all_goals go_wp2_with (first | (go_at_call 9; (with_reducible refine (works9_any _).mono ?_); rintro e w1 ⟨rfl, b1⟩; replace HB := Lib.hid (HB.out.trans (b1.mono HB.out.size)); clear b1) | (go_at_call 6; (with_reducible refine (k1 _).mono ?_); rintro e w2 ⟨rfl, b2⟩; replace HB := Lib.hid (HB.out.trans (b2.mono HB.out.size)); clear b2))
    all_goals go_ret
    all_goals exact ⟨rfl, HB.out⟩
  obtain ⟨⟨hok, h512⟩, hy⟩ := hx
  rw [wrP, if_pos hok, if_pos (by omega)] at k1
  simp only at k1
  obtain ⟨E, hE⟩ : ∃ E : ByteArray, E = ⟨(epL n d.data.toList n).toArray⟩ := ⟨_, rfl⟩
  rw [← hE] at k1
  have hEl : E.data.toList = epL n d.data.toList n := by rw [hE]
  have hE2 : E.size = 520 := by
    have : E.data.toList.length = 520 := by rw [hEl, epL_len, hl, h512]
    rw [← this]; simp
  have hzb : -256 < y.tmod 256 ∧ y.tmod 256 < 256 := by
    have a := Int.tmod_lt_of_pos y (show (0 : Int) < 256 by decide)
    have b := Int.lt_tmod_of_pos y (show (0 : Int) < 256 by decide)
    omega
  obtain ⟨z, hz⟩ : ∃ z, y.tmod 256 = z := ⟨_, rfl⟩
  rw [hz] at hy hzb
  obtain ⟨hz0, hz1⟩ := hzb
  have t3 : (z == 0) = false := beq_eq_false_iff_ne.2 hy
  have hw1 : IntKind.u64.wrap (E.size : Int) = (E.size : Int) := IntWalk.u64_in _ ⟨by omega, by omega⟩
  obtain ⟨u, hu⟩ : ∃ u, IntKind.u64.wrap t = u := ⟨_, rfl⟩
  have hu0 : 0 ≤ u ∧ u ≤ 18446744073709551615 := by rw [← hu, IntKind.wrap_u64]; omega
  obtain ⟨hu0, hu1⟩ := hu0
  obtain ⟨i, hi⟩ : ∃ i : Nat, u % (E.size : Int) = (i : Int) := ⟨(u % (E.size : Int)).toNat, by have := Int.emod_nonneg u (show (E.size : Int) ≠ 0 by omega); omega⟩
  have hi1 : i < E.size := by have := Int.emod_lt_of_pos u (show (0 : Int) < (E.size : Int) by omega); omega
  have hi520 : i < 520 := by omega
  have hw2 : IntKind.i64.wrap (i : Int) = (i : Int) := IntWalk.i64_in _ ⟨by omega, by omega⟩
  have hl0 : 0 < E.size := by omega
  have hl1 : E.size ≤ 20000 := by omega
  have HE2 := Lib.hid hE2; clear hE2
  go_enter Try.func5, Try.ntmps5
  go_wp2_with fail
  refine (works9_any _).mono ?_
  rintro e w1 ⟨rfl, b1⟩
  replace HB := Lib.hid (HB.out.trans (b1.mono HB.out.size))
  clear b1
  go_wp2_with fail
  refine (k1 _).mono ?_
  rintro e w2 ⟨rfl, b2⟩
  replace HB := Lib.hid (HB.out.trans (b2.mono HB.out.size))
  clear b2 k1
  have hrun := run_bytes_of_string (P := Try.prog) w2 9 30 5 E Try.underlying9 Try.underlying30 Try.underlying5
  obtain ⟨cap, hcap⟩ : ∃ cap, cap = grownCap w2 E.size 0 5 := ⟨_, rfl⟩
  rw [← hcap] at hrun
  have hB := bytesI_new E w2 cap
  have hW := (HB.out.drew).alloc (by exact HB.out.size) (.cells (bytesRow E cap) 5 ((bytesRow E cap).size, (bytesRow E cap).size + 1))
  have Hb1 := Lib.hid HB.out.size
  obtain ⟨W1, hW1⟩ : ∃ W1, W1 = w2.drew.alloc (.cells (bytesRow E cap) 5 ((bytesRow E cap).size, (bytesRow E cap).size + 1)) := ⟨_, rfl⟩
  rw [← hW1] at hrun hB hW
  clear hW1 hcap
  have HY := Lib.hid hB; have HW := Lib.hid hW
  clear hB hW HB
  have hil : i < E.data.toList.length := by simpa using hi1
  have hc := HY.out.cell i hil
  have hf := HY.out.free i hil
  obtain ⟨c8, hc8⟩ : ∃ c8, E.data.toList[i] = c8 := ⟨_, rfl⟩
  rw [hc8] at hc
  have hcb := byte_bd c8
  obtain ⟨v, hcc⟩ : ∃ v : Int, (c8.toNat : Int) = v := ⟨_, rfl⟩
  rw [hcc] at hc hcb
  obtain ⟨d8, hd⟩ : ∃ d8 : Int, (v + z) % 256 = d8 := ⟨_, rfl⟩
  have hw3 : IntKind.u8.wrap (v + z) = d8 := by rw [IntKind.wrap_u8]; exact hd
  have hw4 : IntKind.i64.wrap (v + z) = v + z := IntWalk.i64_in _ ⟨by omega, by omega⟩
  have hd8 : ((d8.toNat.toUInt8).toNat : Int) = d8 := by
    have : (d8.toNat.toUInt8).toNat = d8.toNat := by
      show d8.toNat % 256 = d8.toNat
      omega
    omega
  have hset := bytesI_set HY.out i d8.toNat.toUInt8
  have hne : d8.toNat.toUInt8 ≠ E.data.toList[i] := by
    intro e
    have := congrArg UInt8.toNat e
    rw [hc8] at this
    omega
  have hrd : rdP (E.data.toList.set i d8.toNat.toUInt8) n = ⟨0, [], 5⟩ := by
    simp only [hEl] at hne ⊢
    exact rd_turnedP n n (by omega) hi520 hne
  rw [hd8] at hset
  have hcv := bytesI_back hset cap
  rw [List.length_set, show E.data.toList.length = E.size by simp] at hcv
  obtain ⟨s', hs'⟩ : ∃ s' : ByteArray, s' = ⟨(E.data.toList.set i d8.toNat.toUInt8).toArray⟩ := ⟨_, rfl⟩
  rw [← hs'] at hcv
  have hl' : s'.data.toList = E.data.toList.set i d8.toNat.toUInt8 := by rw [hs']
  have HS1 := Lib.hid (show s'.size ≤ 9223372036854775807 by
    have : s'.size = s'.data.toList.length := by simp
    rw [this, hl', List.length_set]
    have : E.data.toList.length = E.size := by simp
    omega)
  rw [← hl'] at hrd
  have HRD := Lib.hid hrd
  have HW2 := Lib.hid (HW.out.setCell (p := ⟨w2.heap.size, i, none⟩) Hb1.out (.int .u8 d8))
  have HD := Lib.hid hd
  obtain ⟨hcb0, hcb1⟩ := hcb
  clear hrd hd hl' hs' hset hne hd8 hcc hc8 hE hEl
  have HR := Lib.hid (show rdP s'.data.toList n = ⟨0, (⟨#[]⟩ : ByteArray).data.toList, 5⟩ from HRD.out)
  go_wp2_with fail
  refine (pread_is (D := ⟨#[]⟩) HS1.out h1 h2 HR.out _).mono ?_
  rintro e w3 ⟨rfl, b3⟩
  go_wp2_with fail
  go_ret
  exact ⟨rfl, HW2.out.trans (b3.mono HW2.out.size)⟩
end Go.Proofs.Ytnbbnmhokclhdaa
