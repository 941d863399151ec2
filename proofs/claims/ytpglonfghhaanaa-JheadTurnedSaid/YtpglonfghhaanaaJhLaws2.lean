/-
  The statement JheadTurned as a walk: it returns true for every input and changes nothing that was there.
-/
import Derived.Test.YtpglonfghhaanaaJhLaws1
import Derived.Test.YtpglonfghhaanaaJhTurnM
import Derived.Laws.IdiomStrings
namespace Go.Proofs.Ytpglonfghhaanaa
open Go.RowKit

set_option maxHeartbeats 4000000 in
set_option maxRecDepth 100000 in
theorem hturned_any (a b c : Int) (h1 : -9223372036854775808 ≤ a) (h2 : a ≤ 9223372036854775807) (h3 : -9223372036854775808 ≤ b) (h4 : b ≤ 9223372036854775807) (h5 : -9223372036854775808 ≤ c) (h6 : c ≤ 9223372036854775807)
    (t : Int) (h7 : -9223372036854775808 ≤ t) (h8 : t ≤ 9223372036854775807) (y : Int) (h9 : -9223372036854775808 ≤ y) (h10 : y ≤ 9223372036854775807) (w : World) :
    Calls Try.prog 6 #[.agg #[.int .i64 a, .int .i64 b, .int .i64 c], .int .i64 t, .int .i64 y] w fun e w' => e = .returned (.bool true) ∧ Below w.heap.size w w' := by
  obtain ⟨E, hE⟩ : ∃ E : ByteArray, E = ⟨(wrH a b c).1.toArray⟩ := ⟨_, rfl⟩
  have k1 := fun w => jwrite_any a b c h1 h2 h3 h4 h5 h6 w
  rw [← hE] at k1
  have HN := Lib.hid (h8_new w (.int .i64 a) (.int .i64 b) (.int .i64 c) 23)
  by_cases hl : okH a b c = false ∨ y.tmod 256 = 0
  · obtain ⟨f, hf⟩ : ∃ f, f = (wrH a b c).2 := ⟨_, rfl⟩
    rw [← hf] at k1
    have hf' : f = 3 ∨ (f = 0 ∧ y.tmod 256 = 0) := by
      rcases hl with h | h
      · left; rw [hf, wrH, h]; rfl
      · rw [hf, wrH]
        split
        · exact .inr ⟨rfl, h⟩
        · exact .inl rfl
    clear hE hf hl
    rcases hf' with rfl | ⟨rfl, hy⟩
    · go_enter Try.func6, Try.ntmps6
      go_wp2_with (first | (go_at_call 9; (with_reducible refine (works8_any _).mono ?_); rintro e w1 ⟨rfl, b1⟩; replace HN := Lib.hid (h8_next HN.out b1); have c0 := HN.out.c0; have c1 := HN.out.c1; have c2 := HN.out.c2; clear b1) | (go_at_call 7; (with_reducible refine (k1 _).mono ?_); rintro e w2 ⟨rfl, b2⟩; replace HN := Lib.hid (h8_next HN.out b2); clear b2))
      go_ret
      exact ⟨rfl, HN.out.below⟩
    · go_enter Try.func6, Try.ntmps6
      go_wp2_with (first | (go_at_call 9; (with_reducible refine (works8_any _).mono ?_); rintro e w1 ⟨rfl, b1⟩; replace HN := Lib.hid (h8_next HN.out b1); have c0 := HN.out.c0; have c1 := HN.out.c1; have c2 := HN.out.c2; clear b1) | (go_at_call 7; (with_reducible refine (k1 _).mono ?_); rintro e w2 ⟨rfl, b2⟩; replace HN := Lib.hid (h8_next HN.out b2); clear b2))
      go_ret
      exact ⟨rfl, HN.out.below⟩
  · have hok : okH a b c = true := by cases h : okH a b c <;> simp_all
    have hy : y.tmod 256 ≠ 0 := fun h => hl (.inr h)
    clear hl
    rw [wrH, if_pos hok] at hE k1
    simp only at hE k1
    have hEl : E.data.toList = enL a b c := by rw [hE]
    have hE2 : E.size = 32 := by rw [hE]; rfl
    have hzb : -256 < y.tmod 256 ∧ y.tmod 256 < 256 := by
      have a := Int.tmod_lt_of_pos y (show (0 : Int) < 256 by decide)
      have b := Int.lt_tmod_of_pos y (show (0 : Int) < 256 by decide)
      omega
    obtain ⟨z, hz⟩ : ∃ z, y.tmod 256 = z := ⟨_, rfl⟩
    rw [hz] at hy hzb
    obtain ⟨hz0, hz1⟩ := hzb
    have t1 : (E.toList == []) = false := beq_eq_false_iff_ne.2 fun e => by
      rw [ByteArray.toList_eq, hEl] at e
      exact absurd e (by simp [enL, hdL, j8F])
    have t3 : (z == 0) = false := beq_eq_false_iff_ne.2 hy
    have hw1 : IntKind.u64.wrap (E.size : Int) = (E.size : Int) := IntWalk.u64_in _ ⟨by omega, by omega⟩
    obtain ⟨u, hu⟩ : ∃ u, IntKind.u64.wrap t = u := ⟨_, rfl⟩
    have hu0 : 0 ≤ u ∧ u ≤ 18446744073709551615 := by rw [← hu, IntKind.wrap_u64]; omega
    obtain ⟨hu0, hu1⟩ := hu0
    obtain ⟨i, hi⟩ : ∃ i : Nat, u % (E.size : Int) = (i : Int) := ⟨(u % (E.size : Int)).toNat, by have := Int.emod_nonneg u (show (E.size : Int) ≠ 0 by omega); omega⟩
    have hi1 : i < E.size := by have := Int.emod_lt_of_pos u (show (0 : Int) < (E.size : Int) by omega); omega
    have hi32 : i < 32 := by omega
    have hw2 : IntKind.i64.wrap (i : Int) = (i : Int) := IntWalk.i64_in _ ⟨by omega, by omega⟩
    have hl0 : 0 < E.size := by omega
    have hl1 : E.size ≤ 20000 := by omega
    have HE2 := Lib.hid hE2; clear hE2
    go_enter Try.func6, Try.ntmps6
    go_wp2_with fail
    refine (works8_any _).mono ?_
    rintro e w1 ⟨rfl, b1⟩
    replace HN := Lib.hid (h8_next HN.out b1)
    have c0 := HN.out.c0; have c1 := HN.out.c1; have c2 := HN.out.c2; clear b1
    go_wp2_with fail
    refine (k1 _).mono ?_
    rintro e w2 ⟨rfl, b2⟩
    replace HN := Lib.hid (h8_next HN.out b2)
    clear b2 c0 c1 c2 k1
    have hrun := run_bytes_of_string (P := Try.prog) w2 9 37 5 E Try.underlying9 Try.underlying37 Try.underlying5
    obtain ⟨cap, hcap⟩ : ∃ cap, cap = grownCap w2 E.size 0 5 := ⟨_, rfl⟩
    rw [← hcap] at hrun
    have hB := bytesI_new E w2 cap
    have hW := (HN.out.below.drew).alloc (by exact HN.out.below.size) (.cells (bytesRow E cap) 5 ((bytesRow E cap).size, (bytesRow E cap).size + 1))
    have Hb1 := Lib.hid HN.out.below.size
    obtain ⟨W1, hW1⟩ : ∃ W1, W1 = w2.drew.alloc (.cells (bytesRow E cap) 5 ((bytesRow E cap).size, (bytesRow E cap).size + 1)) := ⟨_, rfl⟩
    rw [← hW1] at hrun hB hW
    clear hW1 hcap
    have HB := Lib.hid hB; have HW := Lib.hid hW
    clear hB hW HN
    have hil : i < E.data.toList.length := by simpa using hi1
    have hc := HB.out.cell i hil
    have hf := HB.out.free i hil
    obtain ⟨c8, hc8⟩ : ∃ c8, E.data.toList[i] = c8 := ⟨_, rfl⟩
    rw [hc8] at hc
    have hcb := byte_bd c8
    obtain ⟨v, hcc⟩ : ∃ v : Int, (c8.toNat : Int) = v := ⟨_, rfl⟩
    rw [hcc] at hc hcb
    obtain ⟨d, hd⟩ : ∃ d : Int, (v + z) % 256 = d := ⟨_, rfl⟩
    have hw3 : IntKind.u8.wrap (v + z) = d := by rw [IntKind.wrap_u8]; exact hd
    have hw4 : IntKind.i64.wrap (v + z) = v + z := IntWalk.i64_in _ ⟨by omega, by omega⟩
    have hd8 : ((d.toNat.toUInt8).toNat : Int) = d := by
      have : (d.toNat.toUInt8).toNat = d.toNat := by
        show d.toNat % 256 = d.toNat
        omega
      omega
    have hset := bytesI_set HB.out i d.toNat.toUInt8
    have hne : d.toNat.toUInt8 ≠ E.data.toList[i] := by
      intro e
      have := congrArg UInt8.toNat e
      rw [hc8] at this
      omega
    have hrd : rdH (E.data.toList.set i d.toNat.toUInt8) = (⟨0, 0, 0⟩, if i < 8 ∨ 24 ≤ i then 4 else 5) := by
      simp only [hEl] at hne ⊢
      exact rd_turned a b c hi32 hne
    rw [hd8] at hset
    have hcv := bytesI_back hset cap
    rw [List.length_set, show E.data.toList.length = E.size by simp] at hcv
    obtain ⟨s', hs'⟩ : ∃ s' : ByteArray, s' = ⟨(E.data.toList.set i d.toNat.toUInt8).toArray⟩ := ⟨_, rfl⟩
    rw [← hs'] at hcv
    have hl' : s'.data.toList = E.data.toList.set i d.toNat.toUInt8 := by rw [hs']
    have HS1 := Lib.hid (show s'.size ≤ 9223372036854775807 by
      have : s'.size = s'.data.toList.length := by simp
      rw [this, hl', List.length_set]
      have : E.data.toList.length = E.size := by simp
      omega)
    rw [← hl'] at hrd
    have HRD := Lib.hid hrd
    have HW2 := Lib.hid (HW.out.setCell (p := ⟨w2.heap.size, i, none⟩) Hb1.out (.int .u8 d))
    have HD := Lib.hid hd
    obtain ⟨hcb0, hcb1⟩ := hcb
    clear hrd hd hl' hs' hset hne hd8 hcc hc8 hE hEl
    by_cases hi8 : i < 8
    · have g1 : decide ((i : Int) < 8) = true := decide_eq_true (by omega)
      have HR := Lib.hid (show rdH s'.data.toList = (⟨0, 0, 0⟩, 4) by rw [HRD.out, if_pos (.inl hi8)])
      go_wp2_with fail
      refine (jread_is HS1.out HR.out _).mono ?_
      rintro e w3 ⟨rfl, b3⟩
      go_wp2_with fail
      go_ret
      exact ⟨rfl, (HW2.out.trans (b3.mono HW2.out.size)).alloc (Nat.le_trans HW2.out.size b3.size) _⟩
    · have g1 : decide ((i : Int) < 8) = false := decide_eq_false (by omega)
      by_cases hi24 : 24 ≤ i
      · have g2 : decide ((24 : Int) ≤ (i : Int)) = true := decide_eq_true (by omega)
        have HR := Lib.hid (show rdH s'.data.toList = (⟨0, 0, 0⟩, 4) by rw [HRD.out, if_pos (.inr hi24)])
        go_wp2_with fail
        refine (jread_is HS1.out HR.out _).mono ?_
        rintro e w3 ⟨rfl, b3⟩
        go_wp2_with fail
        go_ret
        exact ⟨rfl, (HW2.out.trans (b3.mono HW2.out.size)).alloc (Nat.le_trans HW2.out.size b3.size) _⟩
      · have g2 : decide ((24 : Int) ≤ (i : Int)) = false := decide_eq_false (by omega)
        have HR := Lib.hid (show rdH s'.data.toList = (⟨0, 0, 0⟩, 5) by rw [HRD.out, if_neg (by omega)])
        go_wp2_with fail
        refine (jread_is HS1.out HR.out _).mono ?_
        rintro e w3 ⟨rfl, b3⟩
        go_wp2_with fail
        go_ret
        exact ⟨rfl, (HW2.out.trans (b3.mono HW2.out.size)).alloc (Nat.le_trans HW2.out.size b3.size) _⟩
end Go.Proofs.Ytpglonfghhaanaa
