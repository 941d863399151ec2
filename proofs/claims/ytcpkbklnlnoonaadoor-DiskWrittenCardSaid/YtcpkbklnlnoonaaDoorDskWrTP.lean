/-
  The statement DiskWritten as a walk, at an offset that is not negative (case TP): it returns true and changes nothing that was there. Conditions: the law's own guards are not met.
-/
import Derived.Test.YtcpkbklnlnoonaaDoorDskWrLaw
namespace Go.Proofs.YtcpkbklnlnoonaaDoor
open Go.RowKit

set_option maxHeartbeats 8000000 in
set_option maxRecDepth 100000 in
theorem wr_tp (f : ByteArray) (hf : f.size ≤ 3000) (a : Nat) (ha : a ≤ 20000) (d : ByteArray) (hd : d.size ≤ 3000) (h0 : d.size ≠ 0) (ht : a + d.size < f.size + (a - f.size)) (y : Nat) (hy : y ≤ 20000) (w : World) :
    Calls Tryd.prog 3 #[.string f, .int .i64 (a : Int), .string d, .int .i64 (y : Int)] w fun e w' => e = .returned (.bool true) ∧ Below w.heap.size w w' := by
  have hfl : f.data.toList.length = f.size := by simp
  have hdl : d.data.toList.length = d.size := by simp
  have g1 : decide ((3000 : Int) < f.size) = false := decide_eq_false (by omega)
  have g2 : decide ((3000 : Int) < d.size) = false := decide_eq_false (by omega)
  have g3 : decide ((20000 : Int) < (a : Int)) = false := decide_eq_false (by omega)
  have g5 : ¬ ((a : Int) < 0) := by omega
  have g6 : decide ((a : Int) < 0) = false := decide_eq_false (by omega)
  have e0 : d.data.toList ≠ [] := fun e => h0 (by rw [← hdl, e]; rfl)
  have t1 : (d.toList == []) = false := beq_eq_false_iff_ne.2 (by rw [ByteArray.toList_eq]; exact e0)
  obtain ⟨n0, hn0⟩ : ∃ n0, n0 = a - f.size := ⟨_, rfl⟩
  obtain ⟨Z0, hZ0⟩ : ∃ Z : ByteArray, Z = ⟨(List.replicate n0 (0 : UInt8)).toArray⟩ := ⟨_, rfl⟩
  obtain ⟨j1, j2⟩ := zeros_run n0 (by omega) Z0 hZ0
  have x1 : IntKind.i64.wrap ((a : Int) - (f.size : Int)) = (a : Int) - (f.size : Int) := IntWalk.i64_in _ ⟨by omega, by omega⟩
  have x2 : max 0 ((a : Int) - (f.size : Int)) = (n0 : Int) := by omega
  obtain ⟨E0, hE0⟩ : ∃ E, f ++ Z0 = E := ⟨_, rfl⟩
  have hE0l : E0.data.toList = f.data.toList ++ List.replicate n0 0 := by rw [← hE0]; simp [hZ0]
  have hE0s : E0.size = f.size + n0 := by have : E0.data.toList.length = E0.size := by simp
                                          rw [← this, hE0l, List.length_append, List.length_replicate, hfl]
  have hZ0s : Z0.size ≤ 20000 := by rw [hZ0]; simp [ByteArray.size]; omega
  obtain ⟨en, hen⟩ : ∃ en, en = a + d.size := ⟨_, rfl⟩
  have x3 : IntKind.i64.wrap ((a : Int) + (d.size : Int)) = (en : Int) := by rw [show (a : Int) + (d.size : Int) = (en : Int) by omega]; exact IntWalk.i64_in _ ⟨by omega, by omega⟩
  obtain ⟨X, hX⟩ : ∃ X, E0.extract 0 a = X := ⟨_, rfl⟩
  have hXl : X.data.toList = E0.data.toList.take a := by rw [← hX, Lib.extract_data]; simp
  have hXs : X.size ≤ 23000 := by have : X.data.toList.length = X.size := by simp
                                  rw [← this, hXl, List.length_take]; omega
  obtain ⟨Y, hY⟩ : ∃ Y, X ++ d = Y := ⟨_, rfl⟩
  have hYl : Y.data.toList = E0.data.toList.take a ++ d.data.toList := by rw [← hY, ← hXl]; simp
  have hYs : Y.size ≤ 26000 := by have : Y.data.toList.length = Y.size := by simp
                                  have h2 : X.data.toList.length = X.size := by simp
                                  rw [← this, hYl, ← hXl, List.length_append, h2, hdl]; omega
  have hov := over_want f.data.toList d.data.toList a e0
  rw [hfl, ← hn0, ← hE0l, hdl, ← hen, show E0.data.toList.length = E0.size by simp, ← hYl] at hov
  have x4 : (a : Int) ≤ (E0.size : Int) := by omega
  have hE0b : E0.size ≤ 40000 := by omega
  have x5 : decide ((en : Int) < (E0.size : Int)) = true := decide_eq_true (by omega)
  have x6 : (en : Int) ≤ (E0.size : Int) := by omega
  have x9 : (en : Int) < (E0.size : Int) := by omega
  obtain ⟨T, hT⟩ : ∃ T, E0.extract en E0.size = T := ⟨_, rfl⟩
  have hTl : T.data.toList = E0.data.toList.drop en := by
    rw [← hT, Lib.extract_data]
    exact List.take_of_length_le (by simp)
  have hTs : T.size ≤ 23000 := by have : T.data.toList.length = T.size := by simp
                                  have h2 : E0.data.toList.length = E0.size := by simp
                                  rw [← this, hTl, List.length_drop, h2]; omega
  obtain ⟨B, hB⟩ : ∃ B, Y ++ T = B := ⟨_, rfl⟩
  have hBl : B.data.toList = Y.data.toList ++ T.data.toList := by rw [← hB]; simp
  have hBs : B.size ≤ 50000 := by have : B.data.toList.length = B.size := by simp
                                  have h2 : Y.data.toList.length = Y.size := by simp
                                  have h3 : T.data.toList.length = T.size := by simp
                                  rw [← this, hBl, List.length_append, h2, h3]; omega
  have HC3 := Lib.hid (show overL f.data.toList a d.data.toList = B.data.toList by rw [hov, if_pos (by omega), hBl, hTl])
  have g4 : decide ((20000 : Int) < (y : Int)) = false := decide_eq_false (by omega)
  have g7 : ¬ ((y : Int) < 0) := by omega
  have g8 : decide ((y : Int) < 0) = false := decide_eq_false (by omega)
  have hbl : B.data.toList.length = B.size := by simp
  obtain ⟨n1, hn1⟩ : ∃ n1, n1 = y - B.size := ⟨_, rfl⟩
  obtain ⟨Z1, hZ1⟩ : ∃ Z : ByteArray, Z = ⟨(List.replicate n1 (0 : UInt8)).toArray⟩ := ⟨_, rfl⟩
  obtain ⟨k1, k2⟩ := zeros_run n1 (by omega) Z1 hZ1
  have y1 : IntKind.i64.wrap ((y : Int) - (B.size : Int)) = (y : Int) - (B.size : Int) := IntWalk.i64_in _ ⟨by omega, by omega⟩
  have y2 : max 0 ((y : Int) - (B.size : Int)) = (n1 : Int) := by omega
  obtain ⟨C, hC⟩ : ∃ C, B ++ Z1 = C := ⟨_, rfl⟩
  have hCl : C.data.toList = B.data.toList ++ List.replicate n1 0 := by rw [← hC]; simp [hZ1]
  have hCs : C.size = B.size + n1 := by have : C.data.toList.length = C.size := by simp
                                        rw [← this, hCl, List.length_append, List.length_replicate, hbl]
  have hZ1s : Z1.size ≤ 20000 := by rw [hZ1]; simp [ByteArray.size]; omega
  obtain ⟨R, hR⟩ : ∃ R, C.extract 0 y = R := ⟨_, rfl⟩
  have hRl : R.data.toList = resizeL B.data.toList y := by
    rw [← hR, Lib.extract_data, resize_want, hCl, hbl, ← hn1]; simp
  have y3 : (y : Int) ≤ (C.size : Int) := by omega
  have HC5 := Lib.hid (show resizeL B.data.toList y = R.data.toList from hRl.symm)
  clear hCl hRl hn1 hZ1
  have HFL := Lib.hid hfl; have HDL := Lib.hid hdl; have HBL := Lib.hid hbl
  clear hfl hdl hbl e0 hn0 hZ0 hE0l hXl hYl hov hTl hBl hen hE0s ht
  go_enter Tryd.func3, Tryd.ntmps3
  go_wp2_with fail
  refine (works7_any _).mono ?_
  rintro e w1 ⟨rfl, b1⟩
  have HB := Lib.hid b1; clear b1
  go_wp2_with fail
  refine (own_new (-1) _).mono ?_
  rintro e w2 ⟨rfl, h2⟩
  have H2 := Lib.hid h2; clear h2
  go_wp2_with fail
  refine (own_create H2.out ⟨#[97]⟩ (by decide) rfl rfl (by decide)).mono ?_
  rw [show createZ (newS (-1)) (⟨#[97]⟩ : ByteArray).data.toList = createZ (newS (-1)) [97] from rfl]
  rintro e w3 ⟨m1, rfl, h3, hm1⟩
  have H3 := Lib.hid h3; clear h3
  rw [one_create.1]
  go_wp2_with fail
  refine (own_write H3.out ⟨#[97]⟩ (by decide) 0 (by decide) (by decide) f (by omega) (one_nodup one_create.2) one_create.2.down (one_create.2.flt _) (by omega)).mono ?_
  have hw1 := one_write one_create.2 0 f.data.toList (by decide) (by rw [HFL.out]; omega)
  rw [show (0 : Int).toNat = 0 from rfl, over_nil] at hw1
  rw [show (⟨#[97]⟩ : ByteArray).data.toList = [97] from rfl]
  generalize writeZ (createZ (newS (-1)) [97]).2 [97] 0 f.data.toList = r2 at hw1 ⊢
  rintro e w4 ⟨m2, rfl, h4, hm2⟩
  have H4 := Lib.hid h4; have HO := Lib.hid hw1.2
  rw [hw1.1]
  clear h4 hw1
  go_wp2_with fail
  refine (own_write H4.out ⟨#[97]⟩ (by decide) (a : Int) (by omega) (by omega) d (by omega) (one_nodup HO.out) HO.out.down (HO.out.flt _) (by omega)).mono ?_
  have hw2 := one_write HO.out (a : Int) d.data.toList (by omega) (by rw [HDL.out]; omega)
  rw [show ((a : Int)).toNat = a by omega, HC3.out] at hw2
  rw [show (⟨#[97]⟩ : ByteArray).data.toList = [97] from rfl]
  generalize writeZ r2.2 [97] (a : Int) d.data.toList = r3 at hw2 ⊢
  rintro e w5 ⟨m3, rfl, h5, hm3⟩
  have H5 := Lib.hid h5; have HO3 := Lib.hid hw2.2
  rw [hw2.1]
  clear h5 hw2 H4 HO H3 H2
  go_wp2_with fail
  refine (own_read H5.out ⟨#[97]⟩ (by decide) 0 0 1099511627776 (one_find HO3.out) (by decide) (by decide) (by decide) (by decide) HO3.out.down (one_beg HO3.out).down (HO3.out.flt _) (by omega)).mono ?_
  rw [one_read HO3.out (by rw [HBL.out]; omega), show bz B.data.toList = B from rfl]
  rintro e w6 ⟨rfl, m4, h6, hm4⟩
  have H6 := Lib.hid h6; have HO4 := Lib.hid (one_beg HO3.out)
  clear h6 H5
  go_wp2_with fail
  refine (own_trunc (own_below H6.out ((Below.refl _ _).alloc (Nat.le_refl _) _)) ⟨#[97]⟩ (by decide) (y : Int) (one_nodup HO4.out) HO4.out.down (HO4.out.flt _) (by omega)).mono ?_
  rw [show (⟨#[97]⟩ : ByteArray).data.toList = [97] from rfl]
  have hw3 := one_trunc HO4.out (y : Int) (by omega) (by omega)
  rw [show ((y : Int)).toNat = y by omega, HC5.out] at hw3
  generalize truncZ (begS r3.2) [97] (y : Int) = r4 at hw3 ⊢
  rintro e w7 ⟨m5, rfl, h7, hm5⟩
  have H7 := Lib.hid h7; have HO5 := Lib.hid hw3.2
  rw [hw3.1]
  clear h7 hw3
  go_wp2_with fail
  refine (own_content H7.out ⟨#[97]⟩ (by decide)).mono ?_
  rw [show (⟨#[97]⟩ : ByteArray).data.toList = [97] from rfl, one_cont HO5.out, show bz R.data.toList = R from rfl]
  rintro e w8 ⟨rfl, rfl⟩
  have HW := Lib.hid (HB.out.trans (H7.out.below.mono HB.out.size))
  have HWA := Lib.hid (HW.out.trans ((Below.alloc (Below.refl w8.heap.size w8) (Nat.le_refl _) (.cells (madeCells #[.int .u8 0] n1) 5)).mono HW.out.size))
  go_wp2_with fail
  go_ret
  exact ⟨rfl, HWA.out⟩
end Go.Proofs.YtcpkbklnlnoonaaDoor
