/-
  The statement ValueOf as a walk, where the value is not too long, and in all cases: it returns true for every input and changes nothing that was there. Conditions: the strings have at most 2^47 - 4096 bytes, the numbers are ints; strconv's table lies in memory as the program text lays it.
-/
import Derived.Test.YtembcmmoicmkeaaDoorValOf
namespace Go.Proofs.YtembcmmoicmkeaaDoor
open Go.RowKit

set_option maxRecDepth 100000 in
set_option maxHeartbeats 8000000 in
theorem of_small (k n : Int) (s cn : ByteArray) (ck : Int) (nn uq nc : Bool) (j : Int) (w : World) (hs : s.size ≤ 140737488351232) (HS1 : Hid (s.size ≤ 10000)) (HN : Hid (-9223372036854775808 ≤ n)) (HM : Hid (n ≤ 9223372036854775807)) (HT : Hid (Tab w)) (hg : Hid (greatZ (fun _ => ⟨k, n, s⟩) 1 0 0 = false)) :
    Calls Tryd.prog 3 #[.agg #[.int .i64 k, .int .i64 n, .string s], .agg #[.string cn, .int .i64 ck, .bool nn, .bool uq, .bool nc], .int .i64 j] w fun e w' => e = .returned (.bool true) ∧ Below w.heap.size w w' := by
  have HB := Lib.hid (ofI_new w k n s cn ck nn uq nc)
  have HSZ := Lib.hid (show s.size ≤ 9223372036854775807 by omega)
  obtain ⟨c, hc⟩ : ∃ c, c = checkZ k n s := ⟨_, rfl⟩
  obtain ⟨x, hx⟩ : ∃ c, c = printB k n s := ⟨_, rfl⟩
  obtain ⟨d, hd⟩ : ∃ c, c = kindS j := ⟨_, rfl⟩
  obtain ⟨f, hf⟩ : ∃ c, c = fitsZ ck nn k n s := ⟨_, rfl⟩
  have HC := Lib.hid hc; have HX := Lib.hid hx; have HJ := Lib.hid hd; have HF := Lib.hid hf
  clear hc hx hd hf
  go_enter Tryd.func3, Tryd.ntmps3
  go_upto_region 1 with (fail)
  go_region_held3 (fun w' => w'.cell? ⟨w.heap.size, 0, none⟩ = some (.int .i64 k) ∧ w'.cell? ⟨w.heap.size, 1, none⟩ = some (.int .i64 n) ∧ w'.cell? ⟨w.heap.size, 2, none⟩ = some (.string s) ∧ w'.cell? ⟨w.heap.size + 1, 0, none⟩ = some (.string cn) ∧ w'.cell? ⟨w.heap.size + 1, 1, none⟩ = some (.int .i64 ck) ∧ w'.cell? ⟨w.heap.size + 1, 2, none⟩ = some (.bool nn) ∧ w'.cell? ⟨w.heap.size + 1, 3, none⟩ = some (.bool uq) ∧ w'.cell? ⟨w.heap.size + 1, 4, none⟩ = some (.bool nc) ∧ OfI w k n s cn ck nn uq nc w')
    (first | assumption | exact ofS_of (ofI_drew HB.out) | exact ofS_of (ofI_drew (ofI_alloc HB.out _)) | exact ofS_of (ofI_next (And.right (And.right (And.right (And.right (And.right (And.right (And.right (And.right (by assumption))))))))) (by assumption)))
    (first | (go_at_call 7; ((with_reducible refine (great_any _ 1 1 (fun _ => ⟨k, n, s⟩) _ (by decide) (vals_lit _ _ k n s _ hs (by simp))).mono ?_); rw [hg.out]; rintro e w2 ⟨rfl, rfl⟩)) | (go_at_call 8; ((with_reducible refine (check_any k n s _ HSZ.out).mono ?_); rw [← HC.out]; rintro e w2 ⟨rfl, hb⟩)) | (go_at_call 9; ((with_reducible refine (qcheck_any k n s _ HSZ.out).mono ?_); rw [← HC.out]; rintro e w2 ⟨rfl, hb⟩)) | (go_at_call 10; ((with_reducible refine (print_any k n s _ HS1.out HN.out HM.out (tab_of HT.out (by assumption))).mono ?_); rw [← HX.out]; rintro e w2 ⟨rfl, hb⟩)) | (go_at_call 11; ((with_reducible refine (qprint_any k n s _ HS1.out HN.out HM.out).mono ?_); rw [← HX.out]; rintro e w2 ⟨rfl, hb⟩)) | (go_at_call 12; ((with_reducible refine (kind_any j _).mono ?_); rw [← HJ.out]; rintro e w2 ⟨rfl, hb⟩)) | (go_at_call 13; ((with_reducible refine (qkind_any j _).mono ?_); rw [← HJ.out]; rintro e w2 ⟨rfl, hb⟩)) | (go_at_call 14; ((with_reducible refine (fits_any cn ck nn uq nc k n s _ HSZ.out).mono ?_); rw [← HF.out]; rintro e w2 ⟨rfl, hb⟩)) | (go_at_call 15; ((with_reducible refine (qfits_any cn ck nn uq nc k n s _ HSZ.out).mono ?_); rw [← HF.out]; rintro e w2 ⟨rfl, hb⟩)) | (go_at_call 16; ((with_reducible refine (number_any j _).mono ?_); rintro e w2 ⟨rfl, hb⟩)) | (go_at_call 17; ((with_reducible refine (textv_any s _).mono ?_); rintro e w2 ⟨rfl, hb⟩)) | (go_at_call 18; ((with_reducible refine (works4_any _ (tab_of HT.out (by assumption))).mono ?_); rintro e w2 ⟨rfl, hb⟩)))
  all_goals
    rename_i hq
    have HQ := Lib.hid (And.right (And.right (And.right (And.right (And.right (And.right (And.right (And.right hq)))))))).below
    clear hq
    go_wp2_with fail
    go_ret
    exact ⟨rfl, HQ.out⟩

theorem of_any (k n : Int) (s cn : ByteArray) (ck : Int) (nn uq nc : Bool) (j : Int) (w : World) (hs : s.size ≤ 140737488351232) (h0 : -9223372036854775808 ≤ n) (h1 : n ≤ 9223372036854775807) (ht : Tab w) :
    Calls Tryd.prog 3 #[.agg #[.int .i64 k, .int .i64 n, .string s], .agg #[.string cn, .int .i64 ck, .bool nn, .bool uq, .bool nc], .int .i64 j] w fun e w' => e = .returned (.bool true) ∧ Below w.heap.size w w' := by
  cases hg : greatZ (fun _ => ⟨k, n, s⟩) 1 0 0 with
  | true => exact of_great k n s cn ck nn uq nc j w hs (Lib.hid hg)
  | false => exact of_small k n s cn ck nn uq nc j w hs (Lib.hid (greatZ_false _ 1 0 0 hg 0 (by decide)).1) (Lib.hid h0) (Lib.hid h1) (Lib.hid ht) (Lib.hid hg)
end Go.Proofs.YtembcmmoicmkeaaDoor
