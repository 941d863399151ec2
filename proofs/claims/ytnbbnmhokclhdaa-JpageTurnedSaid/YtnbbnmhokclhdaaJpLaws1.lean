/-
  Layer 9: works, and the statements JpageReads and JpageWrites as walks: each returns true for every input and changes nothing that was there.
-/
import Derived.Test.YtnbbnmhokclhdaaJpRead
import Derived.Test.YtnbbnmhokclhdaaSumTurn
namespace Go.Proofs.Ytnbbnmhokclhdaa
open Go.RowKit

theorem pread_is {s : ByteArray} (hs : s.size ≤ 9223372036854775807) {k : Int} (h3 : -9223372036854775808 ≤ k) (h4 : k ≤ 9223372036854775807) {n e : Int} {D : ByteArray} (h : rdP s.data.toList k = ⟨n, D.data.toList, e⟩) (w : World) :
    Calls Try.prog 8 #[.string s, .int .i64 k] w fun x w' => x = .returned (.tuple #[.int .i64 n, .string D, .int .i64 e]) ∧ Below w.heap.size w w' := by
  have := pread_any s hs k h3 h4 w
  rw [h] at this
  exact this
theorem qread_is {s : ByteArray} (hs : s.size ≤ 9223372036854775807) {k : Int} (h3 : -9223372036854775808 ≤ k) (h4 : k ≤ 9223372036854775807) {n e : Int} {D : ByteArray} (h : rdP s.data.toList k = ⟨n, D.data.toList, e⟩) (w : World) :
    Calls Try.prog 10 #[.string s, .int .i64 k] w fun x w' => x = .returned (.tuple #[.int .i64 n, .string D, .int .i64 e]) ∧ Below w.heap.size w w' := by
  have := qread_any s hs k h3 h4 w
  rw [h] at this
  exact this
theorem pconv (v : World) (b n : Nat) (h : ∀ j, j < n → v.cell? ⟨b, j, none⟩ = some (.int .u8 0)) :
    (convert 30 9 (.slice (some ⟨b, 0, none⟩) n n)).run Try.prog v = .ok (.string ⟨(List.replicate n (0 : UInt8)).toArray⟩) v := by
  have := run_convert_bytes_back (P := Try.prog) v 30 9 5 ⟨b, 0, none⟩ n (List.replicate n (0 : UInt8)) Try.underlying30 Try.underlying5 Try.underlying9 (fun j hj => by
    rw [Addr.add_lit, Nat.zero_add, h j (by simpa using hj), List.getElem_replicate]; rfl)
  rwa [List.length_replicate] at this

set_option maxHeartbeats 4000000 in
set_option maxRecDepth 100000 in
theorem works9_any (w : World) : Calls Try.prog 9 #[] w fun e w' => e = .returned (.bool true) ∧ Below w.heap.size w w' := by
  obtain ⟨m, hm⟩ : ∃ m : Nat, m = 512 := ⟨_, rfl⟩
  obtain ⟨D, hD⟩ : ∃ D : ByteArray, D = ⟨(List.replicate m (0 : UInt8)).toArray⟩ := ⟨_, rfl⟩
  have hDl : D.data.toList.length = 512 := by rw [hD, ← hm]; simp
  have hDs : D.size = 512 := by rw [← hDl]; simp
  obtain ⟨E, hE⟩ : ∃ E : ByteArray, E = ⟨(epL 1 D.data.toList 5).toArray⟩ := ⟨_, rfl⟩
  have hEl : E.data.toList = epL 1 D.data.toList 5 := by rw [hE]
  have hEs : E.size = 520 := by
    have : E.data.toList.length = 520 := by rw [hEl, epL_len, hDl]
    rw [← this]; simp
  have k1 := fun w => pwrite_any 1 (by decide) (by decide) D (by omega) 5 (by decide) (by decide) w
  rw [show wrP 1 D.data.toList 5 = (epL 1 D.data.toList 5, 0) by rw [wrP, if_pos (by decide), if_pos hDl]] at k1
  simp only at k1
  rw [← hE] at k1
  have k2 := fun w => pread_is (s := E) (by omega) (k := 5) (by decide) (by decide) (n := 1) (e := 0) (D := D) (by have := rd_wrP 5 (show okP 1 = true by decide) hDl []; rw [List.append_nil, ← hEl] at this; exact this) w
  have t1 : ((E.extract 0 4).toList == [0, 0, 0, 1]) = true := by
    rw [beq_iff_eq, ByteArray.toList_eq, ext_data, hEl, epL, pgL, List.append_assoc]
    rfl
  have i1 : (4 : Int) ≤ E.size := by omega
  have hmk := fun W => run_make_row' (P := Try.prog) 30 5 (.int .u8 0) 1 Try.underlying30 infoU8 rfl .i64 .i64 m (by omega) (by omega) W
  have hrow := World.rowIs_made w (.int .u8 0) m 5
  have q1 := pconv (w.alloc (.cells (madeCells #[.int .u8 0] m) 5)) w.heap.size m (fun j hj => hrow.cell hj)
  rw [← hD] at q1
  have hmi : (m : Int) = 512 := by omega
  simp only [hmi] at hmk
  have HB := Lib.hid (blw1 w (.cells (madeCells #[.int .u8 0] m) 5))
  clear hrow hD hDl hE hEl hDs hEs hm hmi
  go_enter Try.func9, Try.ntmps9
  go_wp2_with (first | (go_at_call 6; (with_reducible refine (k1 _).mono ?_); rintro e w1 ⟨rfl, b1⟩; replace HB := Lib.hid (HB.out.trans (b1.mono HB.out.size)); clear b1) | (go_at_call 8; (with_reducible refine (k2 _).mono ?_); rintro e w2 ⟨rfl, b2⟩; replace HB := Lib.hid (HB.out.trans (b2.mono HB.out.size)); clear b2))
  go_ret
  exact ⟨rfl, HB.out⟩

set_option maxHeartbeats 2000000 in
set_option maxRecDepth 100000 in
theorem preads_any (s : ByteArray) (hs : s.size ≤ 9223372036854775807) (k : Int) (h3 : -9223372036854775808 ≤ k) (h4 : k ≤ 9223372036854775807) (w : World) :
    Calls Try.prog 4 #[.string s, .int .i64 k] w fun e w' => e = .returned (.bool true) ∧ Below w.heap.size w w' := by
  by_cases hl : 3000 < s.size
  · have t1 : decide ((3000 : Int) < s.size) = true := decide_eq_true (by omega)
    go_enter Try.func4, Try.ntmps4
    go_wp2
    go_ret
    exact ⟨rfl, Below.refl _ _⟩
  have t1 : decide ((3000 : Int) < s.size) = false := decide_eq_false (by omega)
  obtain ⟨n, D, e, hr⟩ : ∃ (n : Int) (D : ByteArray) (e : Int), rdP s.data.toList k = ⟨n, D.data.toList, e⟩ := ⟨_, ⟨(rdP s.data.toList k).d.toArray⟩, _, rfl⟩
  have k1 := fun w => pread_is hs h3 h4 hr w
  have k2 := fun w => qread_is hs h3 h4 hr w
  clear hr
  have HB := Lib.hid (Below.refl w.heap.size w)
  go_enter Try.func4, Try.ntmps4
  go_wp2_with (first | (go_at_call 8; (with_reducible refine (k1 _).mono ?_); rintro e w1 ⟨rfl, b1⟩; replace HB := Lib.hid (HB.out.trans (b1.mono HB.out.size)); clear b1) | (go_at_call 10; (with_reducible refine (k2 _).mono ?_); rintro e w2 ⟨rfl, b2⟩; replace HB := Lib.hid (HB.out.trans (b2.mono HB.out.size)); clear b2) | (go_at_call 9; (with_reducible refine (works9_any _).mono ?_); rintro e w3 ⟨rfl, b3⟩; replace HB := Lib.hid (HB.out.trans (b3.mono HB.out.size)); clear b3))
  go_ret
  exact ⟨rfl, HB.out⟩

set_option maxHeartbeats 4000000 in
set_option maxRecDepth 100000 in
theorem pwrites_any (n : Int) (h1 : -9223372036854775808 ≤ n) (h2 : n ≤ 9223372036854775807) (d : ByteArray) (hd : d.size ≤ 9223372036854775807) (k : Int) (h3 : -9223372036854775808 ≤ k) (h4 : k ≤ 9223372036854775807) (w : World) :
    Calls Try.prog 3 #[.int .i64 n, .string d, .int .i64 k] w fun e w' => e = .returned (.bool true) ∧ Below w.heap.size w w' := by
  have hl : d.data.toList.length = d.size := by simp
  have HB := Lib.hid (Below.refl w.heap.size w)
  by_cases g : 2000 < d.size
  · have t1 : decide ((2000 : Int) < d.size) = true := decide_eq_true (by omega)
    go_enter Try.func3, Try.ntmps3
    go_wp2
    go_ret
    exact ⟨rfl, Below.refl _ _⟩
  have t1 : decide ((2000 : Int) < d.size) = false := decide_eq_false (by omega)
  have k1 := fun w => pwrite_any n h1 h2 d hd k h3 h4 w
  have k2 := fun w => qwrite_any n h1 h2 d hd k h3 h4 w
  by_cases hok : okP n = true ∧ d.size = 512
  · obtain ⟨hok, hds⟩ := hok
    obtain ⟨E, hE⟩ : ∃ E : ByteArray, E = ⟨(epL n d.data.toList k).toArray⟩ := ⟨_, rfl⟩
    have hEl : E.data.toList = epL n d.data.toList k := by rw [hE]
    have hEs : E.size = 520 := by
      have : E.data.toList.length = 520 := by rw [hEl, epL_len, hl, hds]
      rw [← this]; simp
    rw [wrP, if_pos hok, if_pos (by omega)] at k1 k2
    simp only at k1 k2
    rw [← hE] at k1 k2
    have k3 := fun w => pread_is (s := E ++ ⟨#[120]⟩) (by rw [app_size]; have : (⟨#[120]⟩ : ByteArray).size = 1 := rfl; omega) h3 h4 (n := n) (e := 0) (D := d) (by rw [app_data, hEl]; exact rd_wrP k hok (by omega) _) w
    have t2 : (E.size : Int) = 520 := by omega
    have t3 : E.size ≤ 600 := by omega
    clear hE hEl hEs hok hl
    go_enter Try.func3, Try.ntmps3
    go_wp2_with (first | (go_at_call 6; (with_reducible refine (k1 _).mono ?_); rintro e w1 ⟨rfl, b1⟩; replace HB := Lib.hid (HB.out.trans (b1.mono HB.out.size)); clear b1) | (go_at_call 7; (with_reducible refine (k2 _).mono ?_); rintro e w2 ⟨rfl, b2⟩; replace HB := Lib.hid (HB.out.trans (b2.mono HB.out.size)); clear b2) | (go_at_call 8; (with_reducible refine (k3 _).mono ?_); rintro e w3 ⟨rfl, b3⟩; replace HB := Lib.hid (HB.out.trans (b3.mono HB.out.size)); clear b3) | (go_at_call 9; (with_reducible refine (works9_any _).mono ?_); rintro e w4 ⟨rfl, b4⟩; replace HB := Lib.hid (HB.out.trans (b4.mono HB.out.size)); clear b4))
    go_ret
    exact ⟨rfl, HB.out⟩
  · have hw : wrP n d.data.toList k = ([], 3) ∨ wrP n d.data.toList k = ([], 12) := by
      by_cases h : okP n = true
      · exact .inr (by rw [wrP, if_pos h, if_neg (fun e => hok ⟨h, by omega⟩)])
      · exact .inl (by rw [wrP, if_neg h])
    have k3 := fun w => pread_is (s := ⟨#[120]⟩) (by decide) h3 h4 (n := 0) (e := 1) (D := ⟨#[]⟩) (by rw [rdP, if_pos (by decide)]) w
    rcases hw with hw | hw
    all_goals rw [hw] at k1 k2
    all_goals clear hw hok hl
    all_goals go_enter Try.func3, Try.ntmps3
    all_goals go_wp2_with (first | (go_at_call 6; (with_reducible refine (k1 _).mono ?_); rintro e w1 ⟨rfl, b1⟩; replace HB := Lib.hid (HB.out.trans (b1.mono HB.out.size)); clear b1) | (go_at_call 7; (with_reducible refine (k2 _).mono ?_); rintro e w2 ⟨rfl, b2⟩; replace HB := Lib.hid (HB.out.trans (b2.mono HB.out.size)); clear b2) | (go_at_call 8; (refine (k3 _).mono ?_); rintro e w3 ⟨rfl, b3⟩; replace HB := Lib.hid (HB.out.trans (b3.mono HB.out.size)); clear b3) | (go_at_call 9; (with_reducible refine (works9_any _).mono ?_); rintro e w4 ⟨rfl, b4⟩; replace HB := Lib.hid (HB.out.trans (b4.mono HB.out.size)); clear b4))
    all_goals go_ret
    all_goals exact ⟨rfl, HB.out⟩
end Go.Proofs.Ytnbbnmhokclhdaa
