/-
  The statement DiskWritten as a walk, at an offset that is not negative (case EN): it returns true and changes nothing that was there. Conditions: the law's own guards are not met.
-/
import Derived.Test.YtcpkbklnlnoonaaDoorDskWrLaw
namespace Go.Proofs.YtcpkbklnlnoonaaDoor
open Go.RowKit

set_option maxHeartbeats 8000000 in
set_option maxRecDepth 100000 in
theorem wr_en (f : ByteArray) (hf : f.size ≤ 3000) (a : Nat) (ha : a ≤ 20000) (d : ByteArray) (hd : d.size ≤ 3000) (h0 : d.size = 0) (z : Int) (hz0 : z < 0) (w : World) :
    Calls Tryd.prog 3 #[.string f, .int .i64 (a : Int), .string d, .int .i64 z] w fun e w' => e = .returned (.bool true) ∧ Below w.heap.size w w' := by
  have hfl : f.data.toList.length = f.size := by simp
  have hdl : d.data.toList.length = d.size := by simp
  have g1 : decide ((3000 : Int) < f.size) = false := decide_eq_false (by omega)
  have g2 : decide ((3000 : Int) < d.size) = false := decide_eq_false (by omega)
  have g3 : decide ((20000 : Int) < (a : Int)) = false := decide_eq_false (by omega)
  have g5 : ¬ ((a : Int) < 0) := by omega
  have g6 : decide ((a : Int) < 0) = false := decide_eq_false (by omega)
  have e0 : d.data.toList = [] := List.eq_nil_of_length_eq_zero (by omega)
  have HC3 := Lib.hid (show overL f.data.toList a d.data.toList = f.data.toList by rw [e0]; unfold overL; rw [if_pos rfl])
  have t1 : (d.toList == []) = true := beq_iff_eq.2 (by rw [ByteArray.toList_eq]; exact e0)
  have hBs : f.size ≤ 30000 := by omega
  have g4 : decide ((20000 : Int) < z) = false := decide_eq_false (by omega)
  have hbl : f.data.toList.length = f.size := by simp
  have HFL := Lib.hid hfl; have HDL := Lib.hid hdl; have HBL := Lib.hid hbl
  clear hfl hdl hbl e0
  go_enter Tryd.func3, Tryd.ntmps3
  go_wp2_with fail
  refine (works7_any _).mono ?_
  rintro e w1 ⟨rfl, b1⟩
  have HB := Lib.hid b1; clear b1
  go_wp2_with fail
  refine (own_new (-1) _).mono ?_
  rintro e w2 ⟨rfl, h2⟩
  have H2 := Lib.hid h2; clear h2
  go_wp2_with fail
  refine (own_create H2.out ⟨#[97]⟩ (by decide) rfl rfl (by decide)).mono ?_
  rw [show createZ (newS (-1)) (⟨#[97]⟩ : ByteArray).data.toList = createZ (newS (-1)) [97] from rfl]
  rintro e w3 ⟨m1, rfl, h3, hm1⟩
  have H3 := Lib.hid h3; clear h3
  rw [one_create.1]
  go_wp2_with fail
  refine (own_write H3.out ⟨#[97]⟩ (by decide) 0 (by decide) (by decide) f (by omega) (one_nodup one_create.2) one_create.2.down (one_create.2.flt _) (by omega)).mono ?_
  have hw1 := one_write one_create.2 0 f.data.toList (by decide) (by rw [HFL.out]; omega)
  rw [show (0 : Int).toNat = 0 from rfl, over_nil] at hw1
  rw [show (⟨#[97]⟩ : ByteArray).data.toList = [97] from rfl]
  generalize writeZ (createZ (newS (-1)) [97]).2 [97] 0 f.data.toList = r2 at hw1 ⊢
  rintro e w4 ⟨m2, rfl, h4, hm2⟩
  have H4 := Lib.hid h4; have HO := Lib.hid hw1.2
  rw [hw1.1]
  clear h4 hw1
  go_wp2_with fail
  refine (own_write H4.out ⟨#[97]⟩ (by decide) (a : Int) (by omega) (by omega) d (by omega) (one_nodup HO.out) HO.out.down (HO.out.flt _) (by omega)).mono ?_
  have hw2 := one_write HO.out (a : Int) d.data.toList (by omega) (by rw [HDL.out]; omega)
  rw [show ((a : Int)).toNat = a by omega, HC3.out] at hw2
  rw [show (⟨#[97]⟩ : ByteArray).data.toList = [97] from rfl]
  generalize writeZ r2.2 [97] (a : Int) d.data.toList = r3 at hw2 ⊢
  rintro e w5 ⟨m3, rfl, h5, hm3⟩
  have H5 := Lib.hid h5; have HO3 := Lib.hid hw2.2
  rw [hw2.1]
  clear h5 hw2 H4 HO H3 H2
  go_wp2_with fail
  refine (own_read H5.out ⟨#[97]⟩ (by decide) 0 0 1099511627776 (one_find HO3.out) (by decide) (by decide) (by decide) (by decide) HO3.out.down (one_beg HO3.out).down (HO3.out.flt _) (by omega)).mono ?_
  rw [one_read HO3.out (by rw [HBL.out]; omega), show bz f.data.toList = f from rfl]
  rintro e w6 ⟨rfl, m4, h6, hm4⟩
  have H6 := Lib.hid h6; have HO4 := Lib.hid (one_beg HO3.out)
  clear h6 H5
  go_wp2_with fail
  refine (own_trunc H6.out ⟨#[97]⟩ (by decide) z (one_nodup HO4.out) HO4.out.down (HO4.out.flt _) (by omega)).mono ?_
  rw [show (⟨#[97]⟩ : ByteArray).data.toList = [97] from rfl]
  rintro e w7 ⟨m5, rfl, h7, hm5⟩
  rw [one_trunc_neg HO4.out z hz0]
  have H7 := Lib.hid h7; clear h7
  go_wp2_with fail
  go_ret
  exact ⟨rfl, HB.out.trans (H7.out.below.mono HB.out.size)⟩
end Go.Proofs.YtcpkbklnlnoonaaDoor
