/-
  The statement DiskWritten as a walk: it returns true for every input and changes nothing that was there.
-/
import Derived.Test.YtcpkbklnlnoonaaDoorDskWrM
namespace Go.Proofs.YtcpkbklnlnoonaaDoor
open Go.RowKit

theorem zconv7 (v : World) (b n : Nat) (h : ∀ j, j < n → v.cell? ⟨b, j, none⟩ = some (.int .u8 0)) :
    (convert 30 9 (.slice (some ⟨b, 0, none⟩) n n)).run Tryd.prog v = .ok (.string ⟨(List.replicate n (0 : UInt8)).toArray⟩) v := by
  have := run_convert_bytes_back (P := Tryd.prog) v 30 9 5 ⟨b, 0, none⟩ n (List.replicate n (0 : UInt8)) (by kernel_rfl) (by kernel_rfl) (by kernel_rfl) (fun j hj => by
    rw [Addr.add_lit, Nat.zero_add, h j (by simpa using hj), List.getElem_replicate]; rfl)
  rwa [List.length_replicate] at this
/-- string(make([]byte, n)), in any world. -/
theorem zeros_run (n : Nat) (hn : n ≤ 1000000) (Z : ByteArray) (hZ : Z = ⟨(List.replicate n (0 : UInt8)).toArray⟩) :
    (∀ W, (Instr.makeSlice 30 (.int .i64 (n : Int)) (.int .i64 (n : Int))).run Tryd.prog W = .ok (.slice (some ⟨W.heap.size, 0, none⟩) n n) (W.alloc (.cells (madeCells #[.int .u8 0] n) 5))) ∧
    ∀ W : World, (convert 30 9 (.slice (some ⟨W.heap.size, 0, none⟩) n n)).run Tryd.prog (W.alloc (.cells (madeCells #[.int .u8 0] n) 5)) = .ok (.string Z) (W.alloc (.cells (madeCells #[.int .u8 0] n) 5)) := by
  refine ⟨fun W => run_make_row' (P := Tryd.prog) 30 5 (.int .u8 0) 1 (by kernel_rfl) u8_info rfl .i64 .i64 n (by omega) (by omega) W, fun W => ?_⟩
  rw [hZ]
  exact zconv7 _ W.heap.size n (fun j hj => (World.rowIs_made W (.int .u8 0) n 5).cell hj)

set_option maxHeartbeats 2000000 in
set_option maxRecDepth 100000 in
/-- Where a guard of the law is met. -/
theorem wr_great (f : ByteArray) (o : Int) (d : ByteArray) (z : Int) (w : World) (hg : 3000 < f.size ∨ 3000 < d.size ∨ 20000 < o ∨ 20000 < z) :
    Calls Tryd.prog 3 #[.string f, .int .i64 o, .string d, .int .i64 z] w fun e w' => e = .returned (.bool true) ∧ Below w.heap.size w w' := by
  rcases hg with h | h | h | h
  all_goals
    go_enter Tryd.func3, Tryd.ntmps3
    go_wp2_with fail
    refine (works7_any _).mono ?_
    rintro e w1 ⟨rfl, b1⟩
    go_wp2_with fail
    all_goals go_ret
    all_goals exact ⟨rfl, b1⟩

theorem over_nil (f : List UInt8) : overL [] 0 f = f := by
  unfold overL
  by_cases h : f = []
  · rw [if_pos h, h]
  · rw [if_neg h]
    have hl := resizeL_len [] (max 0 (0 + f.length))
    have e : (resizeL [] (max ([] : List UInt8).length (0 + f.length))).drop (0 + f.length) = [] := List.drop_of_length_le (by rw [resizeL_len]; simp)
    rw [e, List.take_zero, List.nil_append, List.append_nil]

set_option maxHeartbeats 4000000 in
set_option maxRecDepth 100000 in
theorem wr_neg (f : ByteArray) (hf : f.size ≤ 3000) (o : Int) (h1 : -9223372036854775808 ≤ o) (ho : o < 0) (d : ByteArray) (hd : d.size ≤ 3000) (z : Int) (hz : z ≤ 20000) (w : World) :
    Calls Tryd.prog 3 #[.string f, .int .i64 o, .string d, .int .i64 z] w fun e w' => e = .returned (.bool true) ∧ Below w.heap.size w w' := by
  have hfl : f.data.toList.length = f.size := by simp
  have g1 : decide ((3000 : Int) < f.size) = false := decide_eq_false (by omega)
  have g2 : decide ((3000 : Int) < d.size) = false := decide_eq_false (by omega)
  have g3 : decide ((20000 : Int) < o) = false := decide_eq_false (by omega)
  have g4 : decide ((20000 : Int) < z) = false := decide_eq_false (by omega)
  go_enter Tryd.func3, Tryd.ntmps3
  go_wp2_with fail
  refine (works7_any _).mono ?_
  rintro e w1 ⟨rfl, b1⟩
  have HB := Lib.hid b1; clear b1
  go_wp2_with fail
  refine (own_new (-1) _).mono ?_
  rintro e w2 ⟨rfl, h2⟩
  have H2 := Lib.hid h2; clear h2
  go_wp2_with fail
  refine (own_create H2.out ⟨#[97]⟩ (by decide) rfl rfl (by decide)).mono ?_
  rw [show createZ (newS (-1)) (⟨#[97]⟩ : ByteArray).data.toList = createZ (newS (-1)) [97] from rfl]
  rintro e w3 ⟨m1, rfl, h3, hm1⟩
  have H3 := Lib.hid h3; clear h3
  rw [one_create.1]
  go_wp2_with fail
  refine (own_write H3.out ⟨#[97]⟩ (by decide) 0 (by decide) (by decide) f (by omega) (one_nodup one_create.2) one_create.2.down (one_create.2.flt _) (by omega)).mono ?_
  have hw1 := one_write one_create.2 0 f.data.toList (by decide) (by omega)
  rw [show (0 : Int).toNat = 0 from rfl, over_nil] at hw1
  rw [show (⟨#[97]⟩ : ByteArray).data.toList = [97] from rfl]
  generalize writeZ (createZ (newS (-1)) [97]).2 [97] 0 f.data.toList = r2 at hw1 ⊢
  rintro e w4 ⟨m2, rfl, h4, hm2⟩
  have H4 := Lib.hid h4; have HO := Lib.hid hw1.2
  rw [hw1.1]
  clear h4 hw1
  go_wp2_with fail
  refine (own_write H4.out ⟨#[97]⟩ (by decide) o h1 (by omega) d (by omega) (one_nodup HO.out) HO.out.down (HO.out.flt _) (by omega)).mono ?_
  rw [show (⟨#[97]⟩ : ByteArray).data.toList = [97] from rfl]
  rintro e w5 ⟨m3, rfl, h5, hm3⟩
  rw [one_write_neg HO.out o _ ho]
  have H5 := Lib.hid h5; clear h5
  go_wp2_with fail
  go_ret
  exact ⟨rfl, HB.out.trans (H5.out.below.mono HB.out.size)⟩
end Go.Proofs.YtcpkbklnlnoonaaDoor
