/-
  scan and Get of layer 2: each returns its plain function of the bytes ('scanF', 'getR') and leaves the world alone. Condition: the string has at most 2^63 - 1 bytes.
-/
import Derived.Test.YtdpjmijdlheajaaVarLen
import Derived.Lib.EndianBits
import Derived.WalkArith
namespace Go.Proofs.Ytdpjmijdlheajaa
open Go.RowKit

theorem byte_bd (x : UInt8) : 0 ≤ (x.toNat : Int) ∧ (x.toNat : Int) ≤ 255 := by have := x.toNat_lt; omega
theorem u8_m127 {c : Int} (h₀ : 0 ≤ c) (h₁ : c ≤ 255) : bits .and .u8 c 127 = c % 128 := bits_mask .u8 8 (by decide) wraps_u8 7 (by decide) c h₀ (by omega)
theorem u8_m128 : ∀ c : Fin 256, bits .and .u8 (c.val : Int) 128 = if c.val < 128 then 0 else 128 := by decide +kernel
theorem u8_m128' (c : UInt8) : bits .and .u8 (c.toNat : Int) 128 = if c.toNat < 128 then 0 else 128 := u8_m128 ⟨c.toNat, c.toNat_lt⟩
theorem u64_j7 {x y : Int} (hx₀ : 0 ≤ x) (hx₁ : x < 72057594037927936) (h₀ : 0 ≤ y) (h₁ : y < 128) : bits .or .u64 (x * 128) y = x * 128 + y :=
  bits_join .u64 64 (by decide) wraps_u64 7 (x * 128) y (by omega) (by omega) (by omega) h₀ (by omega) (by omega)
theorem u64_j8 {x y : Int} (hx₀ : 0 ≤ x) (hx₁ : x < 72057594037927936) (h₀ : 0 ≤ y) (h₁ : y < 256) : bits .or .u64 (x * 256) y = x * 256 + y :=
  bits_join .u64 64 (by decide) wraps_u64 8 (x * 256) y (by omega) (by omega) (by omega) h₀ (by omega) (by omega)
theorem pow_bd {y : Int} {k j : Nat} (h : y.toNat < 128 ^ k) (hk : k ≤ j) : y.toNat < 128 ^ j := Nat.lt_of_lt_of_le h (Nat.pow_le_pow_right (by decide) hk)
theorem ret_tri {a b c d : Int} {e f : Int} (h : a = b ∧ c = d ∧ e = f) : Ending.returned (.tuple #[.int .u64 a, .int .i64 c, .int .i64 e]) = .returned (.tuple #[.int .u64 b, .int .i64 d, .int .i64 f]) := by rw [h.1, h.2.1, h.2.2]
theorem drop_at (s : ByteArray) (k : Nat) (h : k < s.size) : s.data.toList.drop k = s[k] :: s.data.toList.drop (k + 1) := by
  obtain ⟨⟨l⟩⟩ := s
  exact List.drop_eq_getElem_cons h
theorem drop_all (s : ByteArray) (k : Nat) (h : s.size ≤ k) : s.data.toList.drop k = [] := by
  obtain ⟨⟨l⟩⟩ := s
  exact List.drop_eq_nil_of_le h

set_option maxHeartbeats 2000000 in
set_option maxRecDepth 100000 in
theorem vscan_any (s : ByteArray) (hs : s.size ≤ 9223372036854775807) (w : World) :
    Calls Try.prog 76 #[.string s] w fun e w' => e = .returned (.tuple #[.int .u64 (scanF 0 0 s.data.toList).1, .int .i64 (scanF 0 0 s.data.toList).2.1, .int .i64 (scanF 0 0 s.data.toList).2.2]) ∧ w = w' := by
  obtain ⟨r, hr⟩ : ∃ r, r = scanF 0 0 s.data.toList := ⟨_, rfl⟩
  rw [← hr]
  have HR := Lib.hid hr; clear hr
  go_enter Try.func76, Try.ntmps76
  go_wp2
  go_loop [5, 11] (fun x i => ∃ (k : Nat) (y : Int), k ≤ s.size ∧ k ≤ 8 ∧ i = .int .i64 k ∧ x = .int .u64 y ∧ 0 ≤ y ∧ Hid (y.toNat < 128 ^ k) ∧ Hid (r = scanF k y.toNat (s.data.toList.drop k))) (fun _ i => s.size - (intOf i).toNat)
  case atStart => exact ⟨0, 0, by omega, by omega, rfl, rfl, by omega, Lib.hid (by decide), Lib.hid (by rw [HR.out]; rfl)⟩
  case round =>
    obtain ⟨k, y, hk, hk8, rfl, rfl, hy, hb, hI⟩ := hrel
    by_cases hlt : k < s.size
    · have hc := byte_bd s[k]
      have hm := u8_m127 hc.1 hc.2
      have hm2 := u8_m128' s[k]
      have HD := Lib.hid (drop_at s k hlt)
      have hy8 : y < 72057594037927936 := by
        have := pow_bd hb.out hk8
        have e : (128 : Nat) ^ 8 = 72057594037927936 := by decide
        omega
      have hw1 : IntKind.u64.wrap ((s[k]).toNat : Int) = ((s[k]).toNat : Int) := IntWalk.u64_in _ ⟨by omega, by omega⟩
      have hw2 : IntKind.u64.wrap (((s[k]).toNat : Int) % 128) = ((s[k]).toNat : Int) % 128 := IntWalk.u64_in _ ⟨by omega, by omega⟩
      obtain ⟨hc0, hc1⟩ := hc
      by_cases h8 : k = 8
      · subst h8
        have hj := u64_j8 hy hy8 hc0 (by omega)
        go_wp2
        go_ret3
        exact ⟨ret_tri (by rw [hI.out, HD.out, scan_nine]; refine ⟨?_, ?_, ?_⟩ <;> simp <;> omega), rfl⟩
      · have hj := u64_j7 hy hy8 (y := ((s[k]).toNat : Int) % 128) (by omega) (by omega)
        have hy7 : y < 562949953421312 := by
          have := pow_bd hb.out (show k ≤ 7 by omega)
          have e : (128 : Nat) ^ 7 = 562949953421312 := by decide
          omega
        by_cases hx : (s[k]).toNat < 128
        · rw [if_pos hx] at hm2
          go_wp2
          go_ret3
          exact ⟨ret_tri (by rw [hI.out, HD.out, scan_last _ _ h8 hx]; refine ⟨?_, ?_, ?_⟩ <;> simp <;> omega), rfl⟩
        · rw [if_neg hx] at hm2
          go_wp2
          go_round
          case rel => exact ⟨k + 1, _, by omega, by omega, by go_num, rfl, by omega, Lib.hid (by
            have := hb.out
            rw [Nat.pow_succ]
            omega), Lib.hid (by
            rw [hI.out, HD.out, scan_more _ _ h8 (by omega)]
            congr 1
            omega)⟩
          case measure => simp [intOf]; omega
    · go_wp2
      go_ret3
      exact ⟨ret_tri (by rw [hI.out, drop_all s k (by omega), scan_nil]; exact ⟨rfl, rfl, rfl⟩), rfl⟩

set_option maxHeartbeats 2000000 in
set_option maxRecDepth 100000 in
theorem vget_any (s : ByteArray) (hs : s.size ≤ 9223372036854775807) (w : World) :
    Calls Try.prog 75 #[.string s] w fun e w' => e = .returned (.tuple #[.int .u64 (getR s.data.toList).1, .int .i64 (getR s.data.toList).2.1, .int .i64 (getR s.data.toList).2.2]) ∧ w = w' := by
  obtain ⟨m, k, e0, hr⟩ : ∃ m k e0, scanF 0 0 s.data.toList = (m, k, e0) := ⟨_, _, _, rfl⟩
  have hm := scan_lt s.data.toList 0 0 (by omega) (by decide)
  have hk := scan_len s.data.toList 0 0 (by omega)
  rw [hr] at hm hk
  have hm' : (m : Int) < 18446744073709551616 := by have : m < 18446744073709551616 := hm; omega
  have hk' : k ≤ 9 := hk
  have hs' := vscan_any s hs
  rw [hr] at hs'
  have hl := fun w => vlen_any (m : Int) (by omega) hm' w
  have hg : getR s.data.toList = if e0 = 0 then (if k = lenN m then (m, k, e0) else (0, 0, 4)) else (0, 0, 1) := by rw [getR, hr]
  rw [hg]
  have HS := Lib.hid hs'; have HL := Lib.hid hl
  clear hg hs' hl hm hk hm'
  have hll := lenN_le m
  obtain ⟨r, hlr⟩ : ∃ r, r = lenN m := ⟨_, rfl⟩
  have hr9 : r ≤ 9 := by omega
  rw [Int.toNat_natCast, ← hlr] at HL
  rw [← hlr]
  rcases scan_zero hr with rfl | ⟨rfl, rfl, rfl⟩
  · by_cases hkr : k = r
    · subst hkr
      clear hr hlr hll
      go_enter Try.func75, Try.ntmps75
      go_wp2_with (first | (go_at_call 76; refine (HS.out _).mono ?_; rintro e w' ⟨rfl, rfl⟩) | (go_at_call 46; refine (HL.out _).mono ?_; rintro e w' ⟨rfl, rfl⟩))
      go_ret3
      exact ⟨ret_tri (by simp), rfl⟩
    · clear hr hlr hll
      go_enter Try.func75, Try.ntmps75
      go_wp2_with (first | (go_at_call 76; refine (HS.out _).mono ?_; rintro e w' ⟨rfl, rfl⟩) | (go_at_call 46; refine (HL.out _).mono ?_; rintro e w' ⟨rfl, rfl⟩))
      go_ret3
      exact ⟨ret_tri (by simp [hkr]), rfl⟩
  · clear hr hlr hll
    go_enter Try.func75, Try.ntmps75
    go_wp2_with (first | (go_at_call 76; refine (HS.out _).mono ?_; rintro e w' ⟨rfl, rfl⟩) | (go_at_call 46; refine (HL.out _).mono ?_; rintro e w' ⟨rfl, rfl⟩))
    go_ret3
    exact ⟨ret_tri (by simp), rfl⟩
end Go.Proofs.Ytdpjmijdlheajaa
