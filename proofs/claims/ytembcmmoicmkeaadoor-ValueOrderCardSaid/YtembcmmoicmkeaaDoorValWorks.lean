/-
  Layer 4, the law's own examples: works returns true and changes nothing that was there. Condition: strconv's table lies in memory as the program text lays it.
-/
import Derived.Test.YtembcmmoicmkeaaDoorValRowsQ
namespace Go.Proofs.YtembcmmoicmkeaaDoor
open Go.RowKit

def exA : ByteArray := ⟨#[65, 98]⟩
def exB : ByteArray := ⟨#[97, 66]⟩
theorem ex_fold : cmpV 2 0 exA 2 0 exB true = 0 := by kernel_rfl
theorem ex_plain : cmpV 2 0 exA 2 0 exB false = -1 := by kernel_rfl
theorem ex_print : printB 2 0 exA = ⟨#[39, 65, 98, 39]⟩ := by kernel_rfl

theorem run_field_n (k n : Int) (s : ByteArray) (w : World) : Sem.run Tryd.prog (Instr.field 23 (.agg #[.int .i64 k, .int .i64 n, .string s]) 1) w = .ok (.int .i64 n) w := by
  simp [Instr.field, asAgg, go_sem]

set_option maxRecDepth 100000 in
set_option maxHeartbeats 1000000 in
theorem works4_any (w : World) (ht : Tab w) :
    Calls Tryd.prog 18 #[] w fun e w' => e = .returned (.bool true) ∧ Below w.heap.size w w' := by
  have HB := Lib.hid (two_new w 2 0 exA 2 0 exB)
  have HT := Lib.hid ht; clear ht
  go_enter Tryd.func18, Tryd.ntmps18
  go_wp2_with fail
  refine (compare_any 2 0 exA 2 0 exB true _ (by decide) (by decide)).mono ?_
  rw [ex_fold]
  rintro e w1 ⟨rfl, b1⟩
  have HB1 := Lib.hid (two_next HB.out b1); clear b1
  obtain ⟨a0, a1, a2, b0, b1, b2, -, -⟩ := HB1.out
  go_wp2_with fail
  refine (compare_any 2 0 exA 2 0 exB false _ (by decide) (by decide)).mono ?_
  rw [ex_plain]
  rintro e w2 ⟨rfl, b3⟩
  have HB2 := Lib.hid (two_next HB1.out b3)
  clear b3 a0 a1 a2 b0 b1 b2
  obtain ⟨a0, a1, a2, -, -, -, -, -⟩ := HB2.out
  go_wp2_with fail
  refine (print_any 2 0 exA _ (by decide) (by decide) (by decide) (tab_below HT.out HB2.out.below)).mono ?_
  rw [ex_print]
  rintro e w3 ⟨rfl, b3⟩
  have HB3 := Lib.hid (two_next HB2.out b3)
  clear b3 a0 a1 a2
  go_wp2_with fail
  refine (check_any 9 0 ⟨#[]⟩ _ (by decide)).mono ?_
  rw [show checkZ 9 0 ⟨#[]⟩ = 7 from rfl]
  rintro e w4 ⟨rfl, b3⟩
  have HB4 := Lib.hid (two_next HB3.out b3)
  clear b3
  go_wp2_with fail
  refine (number_any 5 _).mono ?_
  rintro e w5 ⟨rfl, b3⟩
  have HB5 := Lib.hid (two_next HB4.out b3)
  clear b3
  have HF := run_field_n 1 5 ⟨#[]⟩ w5
  go_wp2_with fail
  go_ret
  exact ⟨rfl, HB5.out.below⟩
end Go.Proofs.YtembcmmoicmkeaaDoor
