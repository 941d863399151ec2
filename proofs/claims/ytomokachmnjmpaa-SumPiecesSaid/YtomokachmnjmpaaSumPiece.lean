/-
  The statement SumPieces as a walk: it returns true for every input and changes nothing that was there.
-/
import Derived.Test.YtomokachmnjmpaaSumSum
namespace Go.Proofs.Ytomokachmnjmpaa
open Go.RowKit

theorem app_data (a b : ByteArray) : (a ++ b).data.toList = a.data.toList ++ b.data.toList := by simp
theorem app_size (a b : ByteArray) : (a ++ b).size = a.size + b.size := by simp
theorem row_keep {w w' : World} {b : Nat} {p : Int × Int} (h : w.rowIs b 37 2 (pair2 p)) (hb : Below w.heap.size w w') : w'.rowIs b 37 2 (pair2 p) := h.of_block (hb.block b h.lt)
theorem row_same {w w' : World} {b : Nat} {p : Int × Int} (h : w.rowIs b 37 2 (pair2 p)) (hb : w'.heap = w.heap) : w'.rowIs b 37 2 (pair2 p) := h.of_block (by rw [hb])

set_option maxRecDepth 100000 in
set_option maxHeartbeats 2000000 in
theorem pieces_any (n : Int) (h1 : -9223372036854775808 ≤ n) (h2 : n ≤ 9223372036854775807) (a : Option Addr) (len cap : Nat) (w : World)
    (ha : ∀ j, j < len → ∃ b off s, a = some ⟨b, off, none⟩ ∧ b < w.heap.size ∧ w.cell? ⟨b, off + j, none⟩ = some (.string s)) :
    Calls Try.prog 4 #[.int .i64 n, .slice a len cap] w fun e w' => e = .returned (.bool true) ∧ Below w.heap.size w w' := by
  have HA := Lib.hid ha; clear ha
  go_enter Try.func4, Try.ntmps4
  go_wp2_with fail
  refine (works3_any _).mono ?_
  rintro e w1 ⟨rfl, b1⟩
  go_wp2_with fail
  refine (new_any n h1 h2 _).mono ?_
  rintro e w2 ⟨rfl, hw2⟩
  have HR2 := Lib.hid (show w2.rowIs w1.heap.size 37 2 (pair2 (adl (startZ n, 0) ByteArray.empty.data.toList)) by rw [hw2]; exact row_new w1 n)
  have HB2 := Lib.hid (show Below w.heap.size w w2 by rw [hw2]; exact b1.alloc b1.size _)
  obtain ⟨b0, hb0⟩ : ∃ b0, b0 = w1.heap.size := ⟨_, rfl⟩
  have Hb0 := Lib.hid (show w.heap.size ≤ b0 by rw [hb0]; exact b1.size)
  rw [← hb0] at HR2
  rw [← hb0]
  clear hw2 b1 hb0
  go_wp2_with fail
  go_loopw [6, 7] (fun x i wr => ∃ (k : Nat) (all : ByteArray), k ≤ len ∧ k ≤ 100 ∧ i = .int .i64 k ∧ x = .string all ∧ all.size ≤ 20000 ∧ Hid (wr.rowIs b0 37 2 (pair2 (adl (startZ n, 0) all.data.toList))) ∧ Hid (Below w.heap.size w wr)) (fun _ i _ => len - (intOf i).toNat)
  case atStart => exact ⟨0, ByteArray.empty, Nat.zero_le _, by omega, rfl, rfl, by decide, HR2, HB2⟩
  case round =>
    obtain ⟨k, all, hk, hk1, rfl, rfl, hall, hR, hB⟩ := hrel
    clear HR2 HB2
    by_cases hlt : k < len ∧ k < 100
    · obtain ⟨hlt, hlt1⟩ := hlt
      obtain ⟨b, off, s, rfl, hbw, hcell⟩ := HA.out k hlt
      have hc : wr.cell? ⟨b, off + k, none⟩ = some (.string s) := by rw [hB.out.cell hbw]; exact hcell
      clear hcell
      by_cases hbig : 10000 < all.size
      · go_wp2_with fail
        go_ret
        exact ⟨rfl, hB.out⟩
      · by_cases hbig2 : 10000 < s.size
        · go_wp2_with fail
          go_ret
          exact ⟨rfl, hB.out⟩
        · have hsz := app_size all s
          obtain ⟨all', hall'⟩ : ∃ all', all ++ s = all' := ⟨_, rfl⟩
          rw [hall'] at hsz
          have HAD := Lib.hid (show all'.data.toList = all.data.toList ++ s.data.toList by rw [← hall', app_data])
          obtain ⟨r, hr⟩ : ∃ r, sumZ n all'.data.toList = r := ⟨_, rfl⟩
          have HR := Lib.hid hr
          have HE := Lib.hid (show endZ (adl (adl (startZ n, 0) all.data.toList) s.data.toList) = r by rw [← hr, HAD.out, sumZ, adl_app])
          clear hr
          have hs1 : s.size ≤ 9223372036854775807 := by omega
          have hs2 : all'.size ≤ 9223372036854775807 := by omega
          go_wp2_with fail
          refine (add_any _ _ s hs1 _ hR.out (adl_in _ _ (start_in n))).mono ?_
          rintro e w3 ⟨rfl, r3, b3, z3⟩
          have HR3 := Lib.hid r3
          have HB3 := Lib.hid (hB.out.trans (b3.mono Hb0.out)); clear r3 b3 z3
          go_wp2_with fail
          refine (run_any _ _ _ HR3.out (adl_in _ _ (adl_in _ _ (start_in n)))).mono ?_
          rintro e w4 ⟨rfl, b4, z4⟩
          have HR4 := Lib.hid (row_same HR3.out z4)
          have HB4 := Lib.hid (HB3.out.trans (b4 _)); clear b4 z4
          rw [HE.out]
          go_wp2_with fail
          refine (ssum_any n h1 h2 all' hs2 _).mono ?_
          rintro e w5 ⟨rfl, b5⟩
          rw [HR.out]
          have HR5 := Lib.hid (row_keep HR4.out b5)
          have HB5 := Lib.hid (HB4.out.trans (b5.mono HB4.out.size)); clear b5
          go_wp2_with fail
          go_roundw
          case rel => exact ⟨k + 1, all', by omega, by omega, by go_num, rfl, by omega, Lib.hid (by rw [HAD.out, adl_app]; exact HR5.out), HB5⟩
          case measure => simp [intOf]; omega
    · by_cases hlt2 : k < len
      · have t1 : decide ((k : Int) < 100) = false := decide_eq_false (by omega)
        go_wp2_with fail
        refine (add_nil _ _).mono ?_
        rintro e w3 ⟨rfl, rfl⟩
        go_wp2_with fail
        refine (run_nil _).mono ?_
        rintro e w4 ⟨rfl, rfl⟩
        go_wp2_with fail
        go_ret
        exact ⟨rfl, hB.out⟩
      · go_wp2_with fail
        refine (add_nil _ _).mono ?_
        rintro e w3 ⟨rfl, rfl⟩
        go_wp2_with fail
        refine (run_nil _).mono ?_
        rintro e w4 ⟨rfl, rfl⟩
        go_wp2_with fail
        go_ret
        exact ⟨rfl, hB.out⟩
end Go.Proofs.Ytomokachmnjmpaa
