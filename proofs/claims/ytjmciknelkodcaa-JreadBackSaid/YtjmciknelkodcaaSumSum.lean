/-
  Sum of layer 3, the document's answer for it, and works: each returns its plain function of the nonce and the bytes and changes nothing that was there. Condition: the nonce is an int; the string has at most 2^63 - 1 bytes. And the statement SumOf as a walk.
-/
import Derived.Test.YtjmciknelkodcaaSumRun
namespace Go.Proofs.Ytjmciknelkodcaa
open Go.RowKit

theorem row_new (w : World) (n : Int) : (w.alloc (.cells #[.int .i64 (startZ n), .int .i64 0] 118)).rowIs w.heap.size 118 2 (pair2 (startZ n, 0)) :=
  World.rowIs_alloc w _ 118 _ fun i hi => by
    match i, hi with
    | 0, _ => rfl
    | 1, _ => rfl

set_option maxHeartbeats 2000000 in
set_option maxRecDepth 100000 in
theorem ssum_any (n : Int) (h1 : -9223372036854775808 ≤ n) (h2 : n ≤ 9223372036854775807) (s : ByteArray) (hs : s.size ≤ 9223372036854775807) (w : World) :
    Calls Try.prog 45 #[.int .i64 n, .string s] w fun e w' => e = .returned (.int .i64 (sumZ n s.data.toList)) ∧ Below w.heap.size w w' := by
  go_enter Try.func45, Try.ntmps45
  go_wp2_with fail
  refine (new_any n h1 h2 _).mono ?_
  rintro e w1 ⟨rfl, hw1⟩
  have B1 : Below w.heap.size w w1 := by rw [hw1]; exact (Below.refl _ _).alloc (Nat.le_refl _) _
  have R1 : w1.rowIs w.heap.size 118 2 (pair2 (startZ n, 0)) := by rw [hw1]; exact row_new w n
  have HB1 := Lib.hid B1; have HR1 := Lib.hid R1
  clear hw1 B1 R1
  go_wp2_with fail
  refine (add_any _ _ s hs _ HR1.out (start_in n)).mono ?_
  rintro e w2 ⟨rfl, r2, b2, z2⟩
  have HB2 := Lib.hid (HB1.out.trans b2); have HR2 := Lib.hid r2
  clear r2 b2 z2
  go_wp2_with fail
  refine (run_any _ _ _ HR2.out (adl_in _ _ (start_in n))).mono ?_
  rintro e w3 ⟨rfl, b3, z3⟩
  have HB3 := Lib.hid (b3 w.heap.size); clear b3 z3
  go_wp2_with fail
  go_ret
  exact ⟨rfl, HB2.out.trans HB3.out⟩

set_option maxHeartbeats 2000000 in
set_option maxRecDepth 100000 in
theorem rsum_any (n : Int) (h1 : -9223372036854775808 ≤ n) (h2 : n ≤ 9223372036854775807) (s : ByteArray) (hs : s.size ≤ 9223372036854775807) (w : World) :
    Calls Try.prog 35 #[.int .i64 n, .string s] w fun e w' => e = .returned (.int .i64 (sumZ n s.data.toList)) ∧ w = w' := by
  obtain ⟨r, hr⟩ : ∃ r, r = sumZ n s.data.toList := ⟨_, rfl⟩
  rw [← hr]
  have HR := Lib.hid hr; clear hr
  have HS := Lib.hid (start_tmod n)
  have hst := startZ_bd n
  have hb := tmod_bd n
  by_cases h : n.tmod 65521 < 0
  · go_enter Try.func35, Try.ntmps35
    go_wp2
    go_loop [5, 6, 7] (fun a b i => ∃ (k : Nat) (x y : Int), k ≤ s.size ∧ i = .int .i64 k ∧ a = .int .i64 x ∧ b = .int .i64 y ∧ 0 ≤ x ∧ x < 65521 ∧ 0 ≤ y ∧ y < 65521 ∧ Hid (r = endZ (adl (x, y) (s.data.toList.drop k)))) (fun _ _ i => s.size - (intOf i).toNat)
    case atStart => exact ⟨0, _, 0, by omega, rfl, rfl, rfl, by omega, by omega, by omega, by omega, Lib.hid (by rw [HR.out, sumZ, HS.out, if_pos h]; rfl)⟩
    case round =>
      obtain ⟨k, x, y, hk, rfl, rfl, rfl, hx0, hx1, hy0, hy1, hI⟩ := hrel
      by_cases hlt : k < s.size
      · obtain ⟨hc0, hc1⟩ := byte_bd s[k]
        have HD := Lib.hid (drop_at s k hlt)
        have e1 := tmod_pos (x := x + ((s[k]).toNat : Int)) (by omega)
        have e2 := tmod_pos (x := y + (x + ((s[k]).toNat : Int)) % 65521) (by omega)
        go_wp2
        go_round
        case rel => exact ⟨k + 1, _, _, by omega, by go_num, rfl, rfl, by omega, by omega, by omega, by omega, Lib.hid (by rw [hI.out, HD.out, adl_cons, stp_eq])⟩
        case measure => simp [intOf]; omega
      · go_wp2
        go_ret
        exact ⟨ret_int (by rw [hI.out, drop_all s k (by omega)]; rfl), rfl⟩
  · go_enter Try.func35, Try.ntmps35
    go_wp2
    go_loop [5, 6, 7] (fun a b i => ∃ (k : Nat) (x y : Int), k ≤ s.size ∧ i = .int .i64 k ∧ a = .int .i64 x ∧ b = .int .i64 y ∧ 0 ≤ x ∧ x < 65521 ∧ 0 ≤ y ∧ y < 65521 ∧ Hid (r = endZ (adl (x, y) (s.data.toList.drop k)))) (fun _ _ i => s.size - (intOf i).toNat)
    case atStart => exact ⟨0, _, 0, by omega, rfl, rfl, rfl, by omega, by omega, by omega, by omega, Lib.hid (by rw [HR.out, sumZ, HS.out, if_neg (by omega)]; rfl)⟩
    case round =>
      obtain ⟨k, x, y, hk, rfl, rfl, rfl, hx0, hx1, hy0, hy1, hI⟩ := hrel
      by_cases hlt : k < s.size
      · obtain ⟨hc0, hc1⟩ := byte_bd s[k]
        have HD := Lib.hid (drop_at s k hlt)
        have e1 := tmod_pos (x := x + ((s[k]).toNat : Int)) (by omega)
        have e2 := tmod_pos (x := y + (x + ((s[k]).toNat : Int)) % 65521) (by omega)
        go_wp2
        go_round
        case rel => exact ⟨k + 1, _, _, by omega, by go_num, rfl, rfl, by omega, by omega, by omega, by omega, Lib.hid (by rw [hI.out, HD.out, adl_cons, stp_eq])⟩
        case measure => simp [intOf]; omega
      · go_wp2
        go_ret
        exact ⟨ret_int (by rw [hI.out, drop_all s k (by omega)]; rfl), rfl⟩

theorem sum_a (w : World) : Calls Try.prog 45 #[.int .i64 1, .string ⟨#[97]⟩] w fun e w' => e = .returned (.int .i64 6422626) ∧ Below w.heap.size w w' :=
  (ssum_any 1 (by decide) (by decide) _ (by decide) w).mono fun e w' ⟨he, hb⟩ => ⟨he.trans (by rw [show sumZ 1 (⟨#[97]⟩ : ByteArray).data.toList = 6422626 by decide]), hb⟩
end Go.Proofs.Ytjmciknelkodcaa
