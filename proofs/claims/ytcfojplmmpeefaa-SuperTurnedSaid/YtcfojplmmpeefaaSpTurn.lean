/-
  Layer 10, the helper turned, and the walk of SuperTurned: it returns true for every input and changes nothing that was there.
-/
import Derived.Test.YtcfojplmmpeefaaSpLaws2
import Derived.Laws.IdiomStrings
namespace Go.Proofs.Ytcfojplmmpeefaa
open Go.RowKit

set_option maxHeartbeats 4000000 in
set_option maxRecDepth 100000 in
theorem s10turned_any (E : ByteArray) (hl0 : 0 < E.size) (hl1 : E.size ≤ 20000) (t : Int) (h7 : -9223372036854775808 ≤ t) (h8 : t ≤ 9223372036854775807) (y : Int) (h9 : -9223372036854775808 ≤ y) (h10 : y ≤ 9223372036854775807) (hy : y.tmod 256 ≠ 0) (w : World) :
    Calls Try.prog 18 #[.string E, .int .i64 t, .int .i64 y] w fun e w' => ∃ (s : List UInt8) (i : Nat) (c : UInt8) (hi : i < E.data.toList.length), e = .returned (.string (ba s)) ∧ s.length = E.size ∧ s = E.data.toList.set i c ∧ c ≠ E.data.toList[i] ∧ Below w.heap.size w w' := by
  have hl : E.data.toList.length = E.size := by simp
  have hzb : -256 < y.tmod 256 ∧ y.tmod 256 < 256 := by
    have a := Int.tmod_lt_of_pos y (show (0 : Int) < 256 by decide)
    have b := Int.lt_tmod_of_pos y (show (0 : Int) < 256 by decide)
    omega
  obtain ⟨z, hz⟩ : ∃ z, y.tmod 256 = z := ⟨_, rfl⟩
  rw [hz] at hy hzb
  obtain ⟨hz0, hz1⟩ := hzb
  have hw1 : IntKind.u64.wrap (E.size : Int) = (E.size : Int) := IntWalk.u64_in _ ⟨by omega, by omega⟩
  obtain ⟨u, hu⟩ : ∃ u, IntKind.u64.wrap t = u := ⟨_, rfl⟩
  have hu0 : 0 ≤ u ∧ u ≤ 18446744073709551615 := by rw [← hu, IntKind.wrap_u64]; omega
  obtain ⟨hu0, hu1⟩ := hu0
  obtain ⟨i, hi⟩ : ∃ i : Nat, u % (E.size : Int) = (i : Int) := ⟨(u % (E.size : Int)).toNat, by have := Int.emod_nonneg u (show (E.size : Int) ≠ 0 by omega); omega⟩
  have hi1 : i < E.size := by have := Int.emod_lt_of_pos u (show (0 : Int) < (E.size : Int) by omega); omega
  have hw2 : IntKind.i64.wrap (i : Int) = (i : Int) := IntWalk.i64_in _ ⟨by omega, by omega⟩
  have hrun := run_bytes_of_string (P := Try.prog) w 9 35 5 E Try.underlying9 Try.underlying35 Try.underlying5
  obtain ⟨cap, hcap⟩ : ∃ cap, cap = grownCap w E.size 0 5 := ⟨_, rfl⟩
  rw [← hcap] at hrun
  have hB := bytesI_new E w cap
  have hW := ((Below.refl w.heap.size w).drew).alloc (Nat.le_refl _) (.cells (bytesRow E cap) 5 ((bytesRow E cap).size, (bytesRow E cap).size + 1))
  have Hb1 := Lib.hid (Nat.le_refl w.heap.size)
  obtain ⟨W1, hW1⟩ : ∃ W1, W1 = w.drew.alloc (.cells (bytesRow E cap) 5 ((bytesRow E cap).size, (bytesRow E cap).size + 1)) := ⟨_, rfl⟩
  rw [← hW1] at hrun hB hW
  clear hW1 hcap
  have HY := Lib.hid hB; have HW := Lib.hid hW
  clear hB hW
  have hil : i < E.data.toList.length := by omega
  have hc := HY.out.cell i hil
  have hf := HY.out.free i hil
  obtain ⟨c8, hc8⟩ : ∃ c8, E.data.toList[i] = c8 := ⟨_, rfl⟩
  rw [hc8] at hc
  have hcb := byte_bd c8
  obtain ⟨v, hcc⟩ : ∃ v : Int, (c8.toNat : Int) = v := ⟨_, rfl⟩
  rw [hcc] at hc hcb
  obtain ⟨d8, hd⟩ : ∃ d8 : Int, (v + z) % 256 = d8 := ⟨_, rfl⟩
  have hw3 : IntKind.u8.wrap (v + z) = d8 := by rw [IntKind.wrap_u8]; exact hd
  have hw4 : IntKind.i64.wrap (v + z) = v + z := IntWalk.i64_in _ ⟨by omega, by omega⟩
  have hd8 : ((d8.toNat.toUInt8).toNat : Int) = d8 := by
    have : (d8.toNat.toUInt8).toNat = d8.toNat := by
      show d8.toNat % 256 = d8.toNat
      omega
    omega
  have hset := bytesI_set HY.out i d8.toNat.toUInt8
  have hne : d8.toNat.toUInt8 ≠ E.data.toList[i] := by
    intro e
    have := congrArg UInt8.toNat e
    rw [hc8] at this
    omega
  rw [hd8] at hset
  have hcv := bytesI_back hset cap
  rw [List.length_set, hl] at hcv
  obtain ⟨s', hs'⟩ : ∃ s' : ByteArray, s' = ⟨(E.data.toList.set i d8.toNat.toUInt8).toArray⟩ := ⟨_, rfl⟩
  have HE := Lib.hid (show ∃ (s : List UInt8) (i : Nat) (c : UInt8) (hi : i < E.data.toList.length), s' = ba s ∧ s.length = E.size ∧ s = E.data.toList.set i c ∧ c ≠ E.data.toList[i] from ⟨_, i, d8.toNat.toUInt8, hil, hs', by rw [List.length_set, hl], rfl, hne⟩)
  rw [← hs'] at hcv
  have HW2 := Lib.hid (HW.out.setCell (p := ⟨w.heap.size, i, none⟩) Hb1.out (.int .u8 d8))
  have HD := Lib.hid hd
  obtain ⟨hcb0, hcb1⟩ := hcb
  clear hd hs' hset hne hd8 hcc hc8
  go_enter Try.func18, Try.ntmps18
  go_wp2_with fail
  go_ret
  obtain ⟨s, i2, c, hi2, e1, e2, e3, e4⟩ := HE.out
  exact ⟨s, i2, c, hi2, ret_sb e1, e2, e3, e4, HW2.out⟩

theorem enc_len {L : List (List UInt8)} {s : List UInt8} (h : encS L = (s, 0)) : 24 ≤ s.length ∧ s.length ≤ 600 := by
  obtain ⟨hk, rfl⟩ := enc_ok h
  obtain ⟨h2, h12, hok, -⟩ := ckS_ok.1 hk
  have := bdS_len L fun p hp => (okS_iff.1 (hok p hp)).2
  rw [seS_len, hdS_len, show sjL.length = 8 from rfl]; omega
theorem tr_len {p s : List UInt8} (h : trS p = (s, 0)) : 24 ≤ s.length ∧ s.length ≤ 600 := by
  obtain ⟨hk, rfl⟩ := tr_ok h
  have := okS_iff.1 hk
  rw [seS_len, List.length_append, txS_len, show stL.length = 8 from rfl, show stF.length = 8 from rfl]; omega
theorem trS_len (p : List UInt8) : (trS p).1.length ≤ 600 := by
  by_cases h : okS p = true
  · exact (tr_len (p := p) (s := seS (stF ++ txS p) 13 stL) (by rw [trS, if_pos h])).2 |> fun x => by rw [trS, if_pos h]; exact x
  · rw [trS, if_neg h]; exact Nat.zero_le _
theorem encS_len (L : List (List UInt8)) : (encS L).1.length ≤ 600 := by
  by_cases h : ckS L = 0
  · exact (enc_len (L := L) (s := seS (hdS L) 11 sjL) (by rw [encS, if_pos h])).2 |> fun x => by rw [encS, if_pos h]; exact x
  · rw [encS, if_neg h]; exact Nat.zero_le _
/-- What the readers say of a string that is no encoding. -/
theorem decode_no {s : List UInt8} (hs : s.length ≤ 4096) (h : decS s = ([], 4)) (w : World) :
    Calls Try.prog 12 #[.string (ba s)] w fun e w' => ∃ a cap, e = .returned (.tuple #[.slice a 0 cap, .int .i64 4]) ∧ Below w.heap.size w w' := by
  refine (spdecode_any (ba s) (by rw [ba_size]; exact hs) w).mono fun e w' he => ?_
  obtain ⟨a, cap, he, -, hb⟩ := he
  rw [ba_list, h] at he
  exact ⟨a, cap, he, hb⟩
theorem named_no {s : List UInt8} (hs : s.length ≤ 4096) (h : namS s = ([], 4)) (w : World) :
    Calls Try.prog 13 #[.string (ba s)] w fun e w' => e = .returned (.tuple #[.string (ba []), .int .i64 4]) ∧ Below w.heap.size w w' := by
  have := spnamed_any (ba s) (by rw [ba_size]; exact hs) w
  rw [ba_list, h] at this
  exact this
theorem turned_dec {L : List (List UInt8)} {s : List UInt8} (h : encS L = (s, 0)) (t : Int) (h7 : -9223372036854775808 ≤ t) (h8 : t ≤ 9223372036854775807) (y : Int) (h9 : -9223372036854775808 ≤ y) (h10 : y ≤ 9223372036854775807) (hy : y.tmod 256 ≠ 0) (w : World) :
    Calls Try.prog 18 #[.string (ba s), .int .i64 t, .int .i64 y] w fun e w' => ∃ s2 : List UInt8, e = .returned (.string (ba s2)) ∧ Hid (s2.length ≤ 4096 ∧ decS s2 = ([], 4)) ∧ Below w.heap.size w w' := by
  have hl := enc_len h
  refine (s10turned_any (ba s) (by rw [ba_size]; omega) (by rw [ba_size]; omega) t h7 h8 y h9 h10 hy w).mono fun e w' he => ?_
  obtain ⟨s2, i, c, hi, he, h1, h2, h3, hb⟩ := he
  rw [ba_size] at h1
  exact ⟨s2, he, Lib.hid ⟨by omega, by rw [h2]; exact dec_turned h hi h3⟩, hb⟩
theorem turned_nam {p : List UInt8} {s : List UInt8} (h : trS p = (s, 0)) (t : Int) (h7 : -9223372036854775808 ≤ t) (h8 : t ≤ 9223372036854775807) (y : Int) (h9 : -9223372036854775808 ≤ y) (h10 : y ≤ 9223372036854775807) (hy : y.tmod 256 ≠ 0) (w : World) :
    Calls Try.prog 18 #[.string (ba s), .int .i64 t, .int .i64 y] w fun e w' => ∃ s2 : List UInt8, e = .returned (.string (ba s2)) ∧ Hid (s2.length ≤ 4096 ∧ namS s2 = ([], 4)) ∧ Below w.heap.size w w' := by
  have hl := tr_len h
  refine (s10turned_any (ba s) (by rw [ba_size]; omega) (by rw [ba_size]; omega) t h7 h8 y h9 h10 hy w).mono fun e w' he => ?_
  obtain ⟨s2, i, c, hi, he, h1, h2, h3, hb⟩ := he
  rw [ba_size] at h1
  exact ⟨s2, he, Lib.hid ⟨by omega, by rw [h2]; exact named_turned h hi h3⟩, hb⟩
end Go.Proofs.Ytcfojplmmpeefaa
