/-
  Layer 8: works, and the statements JheadReads and JheadWrites as walks: each returns true for every input and changes nothing that was there.
-/
import Derived.Test.YtpglonfghhaanaaJhRead
namespace Go.Proofs.Ytpglonfghhaanaa
open Go.RowKit

theorem jread_is {s : ByteArray} (hs : s.size ≤ 9223372036854775807) {a b c e : Int} (h : rdH s.data.toList = (⟨a, b, c⟩, e)) (w : World) :
    Calls Try.prog 10 #[.string s] w fun x w' => x = .returned (.tuple #[.agg #[.int .i64 a, .int .i64 b, .int .i64 c], .int .i64 e]) ∧ Below w.heap.size w w' := by
  have := jread_any s hs w
  rw [h] at this
  exact this
theorem rread_is {s : ByteArray} (hs : s.size ≤ 9223372036854775807) {a b c e : Int} (h : rdH s.data.toList = (⟨a, b, c⟩, e)) (w : World) :
    Calls Try.prog 11 #[.string s] w fun x w' => x = .returned (.tuple #[.agg #[.int .i64 a, .int .i64 b, .int .i64 c], .int .i64 e]) ∧ Below w.heap.size w w' := by
  have := rread_any s hs w
  rw [h] at this
  exact this

set_option maxHeartbeats 2000000 in
set_option maxRecDepth 100000 in
theorem works8_any (w : World) : Calls Try.prog 9 #[] w fun e w' => e = .returned (.bool true) ∧ Below w.heap.size w w' := by
  obtain ⟨E, hE⟩ : ∃ E : ByteArray, E = ⟨(enL 2 5 9).toArray⟩ := ⟨_, rfl⟩
  have k1 := fun w => jwrite_any 2 5 9 (by decide) (by decide) (by decide) (by decide) (by decide) (by decide) w
  rw [show wrH 2 5 9 = (enL 2 5 9, 0) from rfl] at k1
  simp only at k1
  rw [← hE] at k1
  have k2 := fun w => jread_is (s := E) (by rw [hE]; decide) (a := 2) (b := 5) (c := 9) (e := 0) (by rw [hE]; have := rd_wr (a := 2) (b := 5) (c := 9) rfl []; rwa [List.append_nil] at this) w
  have hq := run_eqlH 2 5 9 2 5 9
  rw [show eq3 2 5 9 2 5 9 = true from rfl] at hq
  have hg := guardH
  clear hE
  go_enter Try.func9, Try.ntmps9
  go_wp2_with (first | (go_at_call 7; (with_reducible refine (k1 _).mono ?_); rintro e w1 ⟨rfl, b1⟩) | (go_at_call 10; (with_reducible refine (k2 _).mono ?_); rintro e w2 ⟨rfl, b2⟩))
  go_ret
  exact ⟨rfl, (b1.trans (b2.mono b1.size)).alloc (Nat.le_trans b1.size b2.size) _⟩

set_option maxHeartbeats 2000000 in
set_option maxRecDepth 100000 in
theorem hreads_any (s : ByteArray) (hs : s.size ≤ 9223372036854775807) (w : World) :
    Calls Try.prog 4 #[.string s] w fun e w' => e = .returned (.bool true) ∧ Below w.heap.size w w' := by
  obtain ⟨⟨a, b, c⟩, e, hr⟩ : ∃ (h : H8) (e : Int), rdH s.data.toList = (h, e) := ⟨_, _, rfl⟩
  have k1 := fun w => jread_is hs hr w
  have k2 := fun w => rread_is hs hr w
  clear hr
  go_enter Try.func4, Try.ntmps4
  go_wp2_with (first | (go_at_call 10; (with_reducible refine (k1 _).mono ?_); rintro e w1 ⟨rfl, b1⟩; have HX := Lib.hid (blk_new w1 27 #[.int .i64 a, .int .i64 b, .int .i64 c]); replace b1 := b1.alloc b1.size (.cells #[.int .i64 a, .int .i64 b, .int .i64 c] 27)) | (go_at_call 11; (with_reducible refine (k2 _).mono ?_); rintro e w2 ⟨rfl, b2⟩; have HY := blk_alloc (blk_below HX.out b2) (.cells #[.int .i64 a, .int .i64 b, .int .i64 c] 23); have y0 := blk_cell HY 0 rfl; have y1 := blk_cell HY 1 rfl; have y2 := blk_cell HY 2 rfl; have HB := Lib.hid ((b1.trans (b2.mono b1.size)).alloc (Nat.le_trans b1.size b2.size) (.cells #[.int .i64 a, .int .i64 b, .int .i64 c] 23)); clear b1 b2 HY) | (go_at_call 9; (with_reducible refine (works8_any _).mono ?_); rintro e w3 ⟨rfl, b3⟩))
  go_ret
  exact ⟨rfl, HB.out.trans (b3.mono HB.out.size)⟩

set_option maxHeartbeats 2000000 in
set_option maxRecDepth 100000 in
theorem hwrites_any (a b c : Int) (h1 : -9223372036854775808 ≤ a) (h2 : a ≤ 9223372036854775807) (h3 : -9223372036854775808 ≤ b) (h4 : b ≤ 9223372036854775807) (h5 : -9223372036854775808 ≤ c) (h6 : c ≤ 9223372036854775807) (s : ByteArray) (hs : s.size ≤ 9223372036854775807) (w : World) :
    Calls Try.prog 3 #[.agg #[.int .i64 a, .int .i64 b, .int .i64 c], .string s] w fun e w' => e = .returned (.bool true) ∧ Below w.heap.size w w' := by
  obtain ⟨E, hE⟩ : ∃ E : ByteArray, E = ⟨(wrH a b c).1.toArray⟩ := ⟨_, rfl⟩
  have k1 := fun w => jwrite_any a b c h1 h2 h3 h4 h5 h6 w
  have k2 := fun w => rwrite_any a b c h1 h2 h3 h4 h5 h6 w
  rw [← hE] at k1 k2
  have HN := Lib.hid (h8_new w (.int .i64 a) (.int .i64 b) (.int .i64 c) 23)
  by_cases hl : 1000 < s.size
  · have t1 : decide ((1000 : Int) < s.size) = true := decide_eq_true (by omega)
    generalize (wrH a b c).2 = f at k1 k2
    clear hE
    go_enter Try.func3, Try.ntmps3
    go_wp2_with (first | (go_at_call 7; (with_reducible refine (k1 _).mono ?_); rintro e w1 ⟨rfl, b1⟩; replace HN := Lib.hid (h8_next HN.out b1); have c0 := HN.out.c0; have c1 := HN.out.c1; have c2 := HN.out.c2; clear b1) | (go_at_call 8; (with_reducible refine (k2 _).mono ?_); rintro e w2 ⟨rfl, b2⟩; replace HN := Lib.hid (h8_next HN.out b2); clear b2 c0 c1 c2))
    go_ret
    exact ⟨rfl, HN.out.below⟩
  have t1 : decide ((1000 : Int) < s.size) = false := decide_eq_false (by omega)
  by_cases hok : okH a b c = true
  · rw [wrH, if_pos hok] at hE k1 k2
    simp only at hE k1 k2
    have hE2 : E.size = 32 := by rw [hE]; rfl
    have k3 := fun w => jread_is (s := E ++ s) (by rw [app_size]; omega) (a := a) (b := b) (c := c) (e := 0) (by rw [app_data, hE]; exact rd_wr hok _) w
    clear hE hok
    have t2 : (E.size : Int) = 32 := by omega
    have t3 : E.size + s.size ≤ 2000 := by omega
    go_enter Try.func3, Try.ntmps3
    go_wp2_with (first | (go_at_call 7; (with_reducible refine (k1 _).mono ?_); rintro e w1 ⟨rfl, b1⟩; replace HN := Lib.hid (h8_next HN.out b1); have c0 := HN.out.c0; have c1 := HN.out.c1; have c2 := HN.out.c2; clear b1) | (go_at_call 8; (with_reducible refine (k2 _).mono ?_); rintro e w2 ⟨rfl, b2⟩; replace HN := Lib.hid (h8_next HN.out b2); clear b2 c0 c1 c2) | (go_at_call 10; (with_reducible refine (k3 _).mono ?_); rintro e w3 ⟨rfl, b3⟩; replace HN := Lib.hid (h8_next (h8_next HN.out b3) (blw1 _ (.cells #[.int .i64 a, .int .i64 b, .int .i64 c] 27))); have c0 := HN.out.c0; have c1 := HN.out.c1; have c2 := HN.out.c2; clear b3) | (go_at_call 9; (with_reducible refine (works8_any _).mono ?_); rintro e w4 ⟨rfl, b4⟩; replace HN := Lib.hid (h8_next HN.out b4)))
    go_ret
    exact ⟨rfl, HN.out.below⟩
  · rw [wrH, if_neg hok] at hE k1 k2
    simp only at hE k1 k2
    clear hE hok
    go_enter Try.func3, Try.ntmps3
    go_wp2_with (first | (go_at_call 7; (with_reducible refine (k1 _).mono ?_); rintro e w1 ⟨rfl, b1⟩; replace HN := Lib.hid (h8_next HN.out b1); have c0 := HN.out.c0; have c1 := HN.out.c1; have c2 := HN.out.c2; clear b1) | (go_at_call 8; (with_reducible refine (k2 _).mono ?_); rintro e w2 ⟨rfl, b2⟩; replace HN := Lib.hid (h8_next HN.out b2); clear b2 c0 c1 c2) | (go_at_call 9; (with_reducible refine (works8_any _).mono ?_); rintro e w4 ⟨rfl, b4⟩; replace HN := Lib.hid (h8_next HN.out b4)))
    go_ret
    exact ⟨rfl, HN.out.below⟩
end Go.Proofs.Ytpglonfghhaanaa
