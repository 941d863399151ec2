/-
  The statement SumTurned as a walk: it returns true for every input and changes nothing that was there.
-/
import Derived.Test.YtomokachmnjmpaaSumSum
import Derived.Laws.IdiomStrings
namespace Go.Proofs.Ytomokachmnjmpaa
open Go.RowKit

/-- A block of our own that holds a string's bytes. -/
structure BytesI (l : List UInt8) (b : Nat) (wr : World) : Prop where
  cell : ∀ j (h : j < l.length), wr.cell? ⟨b, j, none⟩ = some (.int .u8 ((l[j]).toNat : Int))
  free : ∀ j, j < l.length → wr.frozen? ⟨b, j, none⟩ = false
theorem bytesI_set {l : List UInt8} {b : Nat} {wr : World} (h : BytesI l b wr) (i : Nat) (d : UInt8) : BytesI (l.set i d) b (wr.setCell ⟨b, i, none⟩ (.int .u8 (d.toNat : Int))) := by
  refine ⟨fun j hj => ?_, fun j hj => ?_⟩
  · have hjl : j < l.length := by rw [List.length_set] at hj; exact hj
    by_cases e : j = i
    · subst e
      rw [World.cell?_setCell_same' _ _ _ (by rw [h.cell j hjl]; rfl), List.getElem_set_self]
    · rw [World.cell?_setCell_other (a := ⟨b, i, none⟩) (b := ⟨b, j, none⟩) (h := by intro e'; cases e'; exact e rfl), h.cell j hjl, List.getElem_set_ne (by omega)]
  · rw [List.length_set] at hj
    rw [World.frozen?_setCell]; exact h.free j hj
theorem bytesI_new (s : ByteArray) (w : World) (cap : Nat) : BytesI s.data.toList w.heap.size (w.drew.alloc (.cells (bytesRow s cap) 5 ((bytesRow s cap).size, (bytesRow s cap).size + 1))) := by
  have hsz : s.size ≤ (bytesRow s cap).size := by simp [bytesRow]
  refine ⟨fun j hj => ?_, fun j hj => ?_⟩
  · have hj' : j < s.size := by simpa using hj
    have e := World.cell?_alloc_mark w.drew (bytesRow s cap) 5 ((bytesRow s cap).size, (bytesRow s cap).size + 1) j
    exact e.trans ((bytesRow_at s cap j hj').trans (by simp))
  · have hj' : j < s.size := by simpa using hj
    refine (World.frozen?_alloc_mark w.drew (bytesRow s cap) 5 _ _ j).trans ?_
    simp; intro h; omega
theorem bytesI_back {l : List UInt8} {b : Nat} {wr : World} (h : BytesI l b wr) (cap : Nat) :
    (convert 31 9 (.slice (some ⟨b, 0, none⟩) l.length cap)).run Try.prog wr = .ok (.string ⟨l.toArray⟩) wr :=
  run_convert_bytes_back (P := Try.prog) wr 31 9 5 ⟨b, 0, none⟩ cap l Try.underlying31 Try.underlying5 Try.underlying9 (fun j hj => by
    rw [Addr.add_lit, Nat.zero_add]; exact h.cell j hj)

set_option maxRecDepth 100000 in
set_option maxHeartbeats 2000000 in
theorem turned_any (n : Int) (h1 : -9223372036854775808 ≤ n) (h2 : n ≤ 9223372036854775807) (s : ByteArray) (hs : s.size ≤ 9223372036854775807) (t : Int) (h3 : -9223372036854775808 ≤ t) (h4 : t ≤ 9223372036854775807)
    (y : Int) (h5 : -9223372036854775808 ≤ y) (h6 : y ≤ 9223372036854775807) (w : World) :
    Calls Try.prog 5 #[.int .i64 n, .string s, .int .i64 t, .int .i64 y] w fun e w' => e = .returned (.bool true) ∧ Below w.heap.size w w' := by
  by_cases hl : s.size = 0 ∨ 20000 < s.size ∨ y.tmod 256 = 0
  · go_enter Try.func5, Try.ntmps5
    go_wp2_with fail
    refine (works3_any _).mono ?_
    rintro e w1 ⟨rfl, b1⟩
    have HB := Lib.hid b1; clear b1
    rcases hl with hl | hl | hl
    · go_wp2_with fail
      all_goals (go_ret; exact ⟨rfl, HB.out⟩)
    · go_wp2_with fail
      all_goals (go_ret; exact ⟨rfl, HB.out⟩)
    · go_wp2_with fail
      all_goals (go_ret; exact ⟨rfl, HB.out⟩)
  · have hl0 : 0 < s.size := by omega
    have hl1 : s.size ≤ 20000 := by omega
    have hy : y.tmod 256 ≠ 0 := by omega
    clear hl
    have hzb : -256 < y.tmod 256 ∧ y.tmod 256 < 256 := by
      have a := Int.tmod_lt_of_pos y (show (0 : Int) < 256 by decide)
      have b := Int.lt_tmod_of_pos y (show (0 : Int) < 256 by decide)
      omega
    obtain ⟨z, hz⟩ : ∃ z, y.tmod 256 = z := ⟨_, rfl⟩
    rw [hz] at hy hzb
    obtain ⟨hz0, hz1⟩ := hzb
    have t1 : ((s.size : Int) == 0) = false := beq_eq_false_iff_ne.2 (by omega)
    have t2 : decide ((20000 : Int) < (s.size : Int)) = false := decide_eq_false (by omega)
    have t3 : (z == 0) = false := beq_eq_false_iff_ne.2 hy
    have hw1 : IntKind.u64.wrap (s.size : Int) = (s.size : Int) := IntWalk.u64_in _ ⟨by omega, by omega⟩
    obtain ⟨u, hu⟩ : ∃ u, IntKind.u64.wrap t = u := ⟨_, rfl⟩
    have hu0 : 0 ≤ u ∧ u ≤ 18446744073709551615 := by rw [← hu, IntKind.wrap_u64]; omega
    obtain ⟨hu0, hu1⟩ := hu0
    obtain ⟨i, hi⟩ : ∃ i : Nat, u % (s.size : Int) = (i : Int) := ⟨(u % (s.size : Int)).toNat, by have := Int.emod_nonneg u (show (s.size : Int) ≠ 0 by omega); omega⟩
    have hi1 : i < s.size := by have := Int.emod_lt_of_pos u (show (0 : Int) < s.size by omega); omega
    have hw2 : IntKind.i64.wrap (i : Int) = (i : Int) := IntWalk.i64_in _ ⟨by omega, by omega⟩
    go_enter Try.func5, Try.ntmps5
    go_wp2_with fail
    refine (works3_any _).mono ?_
    rintro e w1 ⟨rfl, b1⟩
    have hrun := run_bytes_of_string (P := Try.prog) w1 9 31 5 s Try.underlying9 Try.underlying31 Try.underlying5
    obtain ⟨cap, hcap⟩ : ∃ cap, cap = grownCap w1 s.size 0 5 := ⟨_, rfl⟩
    rw [← hcap] at hrun
    have hB := bytesI_new s w1 cap
    have hW := (b1.drew).alloc (by exact b1.size) (.cells (bytesRow s cap) 5 ((bytesRow s cap).size, (bytesRow s cap).size + 1))
    obtain ⟨W1, hW1⟩ : ∃ W1, W1 = w1.drew.alloc (.cells (bytesRow s cap) 5 ((bytesRow s cap).size, (bytesRow s cap).size + 1)) := ⟨_, rfl⟩
    rw [← hW1] at hrun hB hW
    clear hW1 hcap
    have HB := Lib.hid hB; have HW := Lib.hid hW; have Hb1 := Lib.hid b1
    clear hB hW b1
    have hil : i < s.data.toList.length := by simpa using hi1
    have hc := HB.out.cell i hil
    have hf := HB.out.free i hil
    obtain ⟨c8, hc8⟩ : ∃ c8, s.data.toList[i] = c8 := ⟨_, rfl⟩
    rw [hc8] at hc
    have hcb := byte_bd c8
    obtain ⟨c, hcc⟩ : ∃ c : Int, (c8.toNat : Int) = c := ⟨_, rfl⟩
    rw [hcc] at hc hcb
    obtain ⟨d, hd⟩ : ∃ d : Int, (c + z) % 256 = d := ⟨_, rfl⟩
    have hw3 : IntKind.u8.wrap (c + z) = d := by rw [IntKind.wrap_u8]; exact hd
    have hw4 : IntKind.i64.wrap (c + z) = c + z := IntWalk.i64_in _ ⟨by omega, by omega⟩
    have hd8 : ((d.toNat.toUInt8).toNat : Int) = d := by
      have : (d.toNat.toUInt8).toNat = d.toNat := by
        show d.toNat % 256 = d.toNat
        omega
      omega
    have hset := bytesI_set HB.out i d.toNat.toUInt8
    have hne : d.toNat.toUInt8 ≠ s.data.toList[i] := by
      intro e
      have := congrArg UInt8.toNat e
      rw [hc8] at this
      omega
    have hdif := sum_turned n s.data.toList i d.toNat.toUInt8 hil hne
    rw [hd8] at hset
    have hcv := bytesI_back hset cap
    rw [List.length_set, show s.data.toList.length = s.size by simp] at hcv
    obtain ⟨s', hs'⟩ : ∃ s' : ByteArray, s' = ⟨(s.data.toList.set i d.toNat.toUInt8).toArray⟩ := ⟨_, rfl⟩
    rw [← hs'] at hcv
    have hl' : s'.data.toList = s.data.toList.set i d.toNat.toUInt8 := by rw [hs']
    have hs1 : s'.size ≤ 9223372036854775807 := by
      have : s'.size = s'.data.toList.length := by simp
      rw [this, hl', List.length_set]
      simpa using hs
    rw [← hl'] at hdif
    have HW2 := Lib.hid (HW.out.setCell (p := ⟨w1.heap.size, i, none⟩) Hb1.out.size (.int .u8 d))
    obtain ⟨r, hr⟩ : ∃ r, sumZ n s.data.toList = r := ⟨_, rfl⟩
    obtain ⟨r', hr'⟩ : ∃ r', sumZ n s'.data.toList = r' := ⟨_, rfl⟩
    rw [hr, hr'] at hdif
    have t4 : (r' == r) = false := beq_eq_false_iff_ne.2 hdif
    have HR := Lib.hid hr; have HR' := Lib.hid hr'; have HS1 := Lib.hid hs1; have HD := Lib.hid hd
    obtain ⟨hcb0, hcb1⟩ := hcb
    clear hr hr' hs1 hd hl' hs' hset hne hd8 hcc hc8
    go_wp2_with fail
    refine (ssum_any n h1 h2 s' HS1.out _).mono ?_
    rintro e w3 ⟨rfl, b3⟩
    rw [HR'.out]
    have HB3 := Lib.hid (HW2.out.trans (b3.mono HW2.out.size)); clear b3
    go_wp2_with fail
    refine (ssum_any n h1 h2 s hs _).mono ?_
    rintro e w4 ⟨rfl, b4⟩
    rw [HR.out]
    have HB4 := Lib.hid (HB3.out.trans (b4.mono HB3.out.size)); clear b4
    go_wp2_with fail
    go_ret
    exact ⟨ret_bool (show (r' != r) = true by simp [bne, t4]), HB4.out⟩
end Go.Proofs.Ytomokachmnjmpaa
