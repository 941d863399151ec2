/-
  The document's answer Get of layer 2 returns 'getR' of the bytes and changes nothing that was there. Condition: the string has at most 2^63 - 1 bytes.
-/
import Derived.Test.YtdpjmijdlheajaaVarRef
import Derived.Lib.Strings
namespace Go.Proofs.Ytdpjmijdlheajaa
open Go.RowKit

theorem ext_data (s : ByteArray) (k : Nat) : (s.extract 0 k).data.toList = s.data.toList.take k := by
  rw [Lib.extract_data]; simp

theorem res_bad {s : ByteArray} {sc r : Nat × Nat × Int} {m k : Nat} (hr : r = if sc.2.2 = 0 then (if sc.2.1 = lenN sc.1 then sc else (0, 0, 4)) else (0, 0, 1)) (hk : sc = (m, k, 0))
    (hp : putLV m = s.data.toList.take k ↔ k = lenN m) (ht : (!putLV m == (s.extract 0 k).toList) = true) : r = (0, 0, 4) := by
  rw [Lib.extract_toList, List.drop_zero, Nat.sub_zero] at ht
  have hn : ¬ k = lenN m := fun e => by rw [hp.2 e] at ht; simp at ht
  rw [hr, hk, if_pos rfl, if_neg hn]
theorem res_good {s : ByteArray} {sc r : Nat × Nat × Int} {m k : Nat} (hr : r = if sc.2.2 = 0 then (if sc.2.1 = lenN sc.1 then sc else (0, 0, 4)) else (0, 0, 1)) (hk : sc = (m, k, 0))
    (hp : putLV m = s.data.toList.take k ↔ k = lenN m) (ht : (!putLV m == (s.extract 0 k).toList) = false) : r = (m, k, 0) := by
  rw [Lib.extract_toList, List.drop_zero, Nat.sub_zero] at ht
  have hn : k = lenN m := hp.1 (by simpa using ht)
  rw [hr, hk, if_pos rfl, if_pos hn]
theorem res_none {sc r : Nat × Nat × Int} (hr : r = if sc.2.2 = 0 then (if sc.2.1 = lenN sc.1 then sc else (0, 0, 4)) else (0, 0, 1)) (hk : sc = (0, 0, 1)) : r = (0, 0, 1) := by
  rw [hr, hk, if_neg (by decide)]
theorem ret_r {a b c : Int} {r : Nat × Nat × Int} {m k : Nat} {e : Int} (hr : r = (m, k, e)) (h1 : a = (m : Int)) (h2 : b = (k : Int)) (h3 : c = e) :
    Ending.returned (.tuple #[.int .u64 a, .int .i64 b, .int .i64 c]) = .returned (.tuple #[.int .u64 r.1, .int .i64 r.2.1, .int .i64 r.2.2]) := by rw [hr, h1, h2, h3]
theorem below_of_drew {w w1 : World} (h : Below w.drew.heap.size w.drew w1) : Below w.heap.size w w1 := (Below.refl _ w).drew.trans h

set_option maxHeartbeats 4000000 in
set_option maxRecDepth 100000 in
theorem rget_any (s : ByteArray) (hs : s.size ≤ 9223372036854775807) (w : World) :
    Calls Try.prog 52 #[.string s] w fun e w' => e = .returned (.tuple #[.int .u64 (getR s.data.toList).1, .int .i64 (getR s.data.toList).2.1, .int .i64 (getR s.data.toList).2.2]) ∧ Below w.heap.size w w' := by
  obtain ⟨r, hr⟩ : ∃ r, r = getR s.data.toList := ⟨_, rfl⟩
  rw [← hr]
  obtain ⟨sc, hsc⟩ : ∃ sc, sc = scanF 0 0 s.data.toList := ⟨_, rfl⟩
  rw [getR, ← hsc] at hr
  have HR := Lib.hid hr; have HSC := Lib.hid hsc; clear hr hsc
  go_enter Try.func52, Try.ntmps52
  go_wp2
  go_loop [5, 6] (fun x i => ∃ (k : Nat) (y : Int), k ≤ s.size ∧ k ≤ 8 ∧ i = .int .i64 k ∧ x = .int .u64 y ∧ 0 ≤ y ∧ Hid (y.toNat < 128 ^ k) ∧ Hid (sc = scanF k y.toNat (s.data.toList.drop k))) (fun _ i => 9 - (intOf i).toNat)
  case atStart => exact ⟨0, 0, by omega, by omega, rfl, rfl, by omega, Lib.hid (by decide), Lib.hid (by rw [HSC.out]; rfl)⟩
  case round =>
    obtain ⟨k, y, hk, hk8, rfl, rfl, hy, hb, hI⟩ := hrel
    by_cases hlt : k < s.size
    · obtain ⟨hc0, hc1⟩ := byte_bd s[k]
      have HD := Lib.hid (drop_at s k hlt)
      have hy8 : y < 72057594037927936 := by
        have := pow_bd hb.out hk8
        have e : (128 : Nat) ^ 8 = 72057594037927936 := by decide
        omega
      have hne : ((k : Int) == (s.size : Int)) = false := beq_eq_false_iff_ne.2 (by omega)
      have hw1 : IntKind.u64.wrap ((s[k]).toNat : Int) = ((s[k]).toNat : Int) := IntWalk.u64_in _ ⟨by omega, by omega⟩
      by_cases h8 : k = 8
      · subst h8
        obtain ⟨N, hN⟩ : ∃ N : Int, y * (256 : Int) + ((s[8]).toNat : Int) = N := ⟨_, rfl⟩
        have hN0 : 0 ≤ N := by omega
        have hN1 : N < 18446744073709551616 := by omega
        have HK := Lib.hid (show sc = (N.toNat, 9, 0) by rw [hI.out, HD.out, scan_nine]; refine Prod.ext ?_ rfl; show y.toNat * 256 + (s[8]).toNat = N.toNat; omega)
        have HP := Lib.hid (scan_put (l := s.data.toList) (m := N.toNat) (k := 9) (by rw [← HSC.out, HK.out]))
        have h9 : (9 : Int) ≤ (s.size : Int) := by omega
        have hw9 : IntKind.i64.wrap 9 = 9 := by decide
        go_wp2
        go_region_with (go_at_call 43; refine (rput_any _ (by assumption) (by assumption) _).mono ?_; rintro e w1 ⟨rfl, b1⟩)
        all_goals go_wp2
        all_goals first
          | (have ht : (!putLV N.toNat == (s.extract 0 9).toList) = true := by assumption
             go_ret3
             exact ⟨ret_r (res_bad HR.out HK.out HP.out ht) rfl rfl rfl, below_of_drew b1⟩)
          | (have ht : (!putLV N.toNat == (s.extract 0 9).toList) = false := by assumption
             go_ret3
             exact ⟨ret_r (res_good HR.out HK.out HP.out ht) (by omega) (by omega) rfl, below_of_drew b1⟩)
      · have hy7 : y < 562949953421312 := by
          have := pow_bd hb.out (show k ≤ 7 by omega)
          have e : (128 : Nat) ^ 7 = 562949953421312 := by decide
          omega
        obtain ⟨N, hN⟩ : ∃ N : Int, y * (128 : Int) + ((s[k]).toNat : Int) % (128 : Int) = N := ⟨_, rfl⟩
        have hN0 : 0 ≤ N := by omega
        have hN1 : N < 18446744073709551616 := by omega
        by_cases hx : (s[k]).toNat < 128
        · have HK := Lib.hid (show sc = (N.toNat, k + 1, 0) by rw [hI.out, HD.out, scan_last _ _ h8 hx]; refine Prod.ext ?_ rfl; show y.toNat * 128 + (s[k]).toNat = N.toNat; omega)
          have HP := Lib.hid (scan_put (l := s.data.toList) (m := N.toNat) (k := k + 1) (by rw [← HSC.out, HK.out]))
          have e1 : IntKind.i64.wrap ((k : Int) + 1) = (k : Int) + 1 := IntWalk.i64_in _ (by omega)
          have e4 : (k : Int) + 1 ≤ (s.size : Int) := by omega
          go_wp2
          go_region_with (go_at_call 43; refine (rput_any _ (by assumption) (by assumption) _).mono ?_; rintro e w1 ⟨rfl, b1⟩)
          all_goals go_wp2
          all_goals first
            | (have ht : (!putLV N.toNat == (s.extract 0 (k + 1)).toList) = true := by assumption
               go_ret3
               exact ⟨ret_r (res_bad HR.out HK.out HP.out ht) rfl rfl rfl, below_of_drew b1⟩)
            | (have ht : (!putLV N.toNat == (s.extract 0 (k + 1)).toList) = false := by assumption
               go_ret3
               exact ⟨ret_r (res_good HR.out HK.out HP.out ht) (by omega) (by omega) rfl, below_of_drew b1⟩)
        · go_wp2
          go_round
          case rel => exact ⟨k + 1, _, by omega, by omega, by go_num, rfl, by omega, Lib.hid (by
            have := hb.out
            rw [Nat.pow_succ]
            omega), Lib.hid (by
            rw [hI.out, HD.out, scan_more _ _ h8 (by omega)]
            congr 1
            omega)⟩
          case measure => simp [intOf]; omega
    · have heq : ((k : Int) == (s.size : Int)) = true := beq_iff_eq.2 (by omega)
      have HK := Lib.hid (show sc = (0, 0, 1) by rw [hI.out, drop_all s k (by omega), scan_nil])
      go_wp2
      go_ret3
      exact ⟨ret_r (res_none HR.out HK.out) rfl rfl rfl, Below.refl _ _⟩
end Go.Proofs.Ytdpjmijdlheajaa
