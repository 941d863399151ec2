/-
  works of layer 1's statements: it returns true and changes nothing that was there. Condition: strconv's table of powers of ten lies in memory as its initialiser lays it ('Tab').
-/
import Derived.Test.YtoeohliniecniaaDoorFigText
namespace Go.Proofs.YtoeohliniecniaaDoor
open Go.RowKit Go.Shelf

theorem read_042 (w : World) : Calls Tryd.prog 10 #[.string ⟨#[48, 52, 50]⟩] w fun e w' => e = .returned (.tuple #[.int .i64 42, .int .i64 0]) ∧ Below w.heap.size w w' :=
  (read_any _ w (by decide)).mono fun e w' ⟨he, hb⟩ => ⟨he.trans (by rw [show readR (⟨#[48, 52, 50]⟩ : ByteArray).data.toList = (42, 0) by decide]), hb⟩
theorem unq_its (w : World) : Calls Tryd.prog 19 #[.string ⟨#[39, 105, 116, 39, 39, 115, 39]⟩] w fun e w' => e = .returned (.tuple #[.string ⟨#[105, 116, 39, 115]⟩, .int .i64 0]) ∧ Below w.heap.size w w' :=
  (unq_any _ w (by decide)).mono fun e w' ⟨he, hb⟩ => ⟨he.trans (by rw [show unqR (⟨#[39, 105, 116, 39, 39, 115, 39]⟩ : ByteArray).data.toList = ([105, 116, 39, 115], 0) by decide]), hb⟩
theorem text_m7 (w : World) (ht : Tab w) : Calls Tryd.prog 12 #[.int .i64 (-7)] w fun e w' => e = .returned (.string ⟨#[45, 55]⟩) ∧ Below w.heap.size w w' :=
  (text_any (-7) (by decide) (by decide) w ht).mono fun e w' ⟨he, hb⟩ => ⟨he.trans (by rw [show Lib.itoa (-7) = [45, 55] by rw [show (-7 : Int) = -((7 : Nat) : Int) from rfl, Lib.itoa_neg 7 (by decide), Lib.decDigits_one (by decide)]; rfl]), hb⟩
theorem quote_its (w : World) : Calls Tryd.prog 21 #[.string ⟨#[105, 116, 39, 115]⟩] w fun e w' => e = .returned (.string ⟨#[39, 105, 116, 39, 39, 115, 39]⟩) ∧ Below w.heap.size w w' :=
  (quote_any _ w (by decide)).mono fun e w' ⟨he, hb⟩ => ⟨he.trans (by rw [show quoteL (⟨#[105, 116, 39, 115]⟩ : ByteArray).data.toList = [39, 105, 116, 39, 39, 115, 39] by decide]), hb⟩
theorem hex_10 (w : World) : Calls Tryd.prog 25 #[.string ⟨#[10]⟩] w fun e w' => e = .returned (.string ⟨#[48, 97]⟩) ∧ Below w.heap.size w w' :=
  (hex_any _ w (by decide)).mono fun e w' ⟨he, hb⟩ => ⟨he.trans (by rw [show hexL (⟨#[10]⟩ : ByteArray).data.toList = [48, 97] by decide]), hb⟩
theorem name_a1 (w : World) : Calls Tryd.prog 15 #[.string ⟨#[97, 49]⟩] w fun e w' => e = .returned (.bool true) ∧ Below w.heap.size w w' :=
  (name_any _ w (by decide)).mono fun e w' ⟨he, hb⟩ => ⟨he.trans (by rw [show nameB (⟨#[97, 49]⟩ : ByteArray).data.toList = true by decide]), hb⟩

set_option maxRecDepth 100000 in
set_option maxHeartbeats 2000000 in
theorem works_any (w : World) (ht : Tab w) : Calls Tryd.prog 14 #[] w fun e w' => e = .returned (.bool true) ∧ Below w.heap.size w w' := by
  have HT := Lib.hid ht; clear ht
  go_enter Tryd.func14, Tryd.ntmps14
  go_wp2_with fail
  refine (read_042 _).mono ?_
  rintro e w1 ⟨rfl, b1⟩
  go_wp2_with fail
  refine (unq_its _).mono ?_
  rintro e w2 ⟨rfl, b2⟩
  go_wp2_with fail
  have B2 := b1.trans (b2.mono b1.size)
  refine (text_m7 _ (tab_below HT.out B2)).mono ?_
  rintro e w3 ⟨rfl, b3⟩
  have B3 := B2.trans (b3.mono B2.size)
  go_wp2_with fail
  refine (quote_its _).mono ?_
  rintro e w4 ⟨rfl, b4⟩
  have B4 := B3.trans (b4.mono B3.size)
  go_wp2_with fail
  refine (hex_10 _).mono ?_
  rintro e w5 ⟨rfl, b5⟩
  have B5 := B4.trans (b5.mono B4.size)
  go_wp2_with fail
  refine (name_a1 _).mono ?_
  rintro e w6 ⟨rfl, b6⟩
  go_wp2_with fail
  go_ret
  exact ⟨rfl, B5.trans (b6.mono B5.size)⟩
end Go.Proofs.YtoeohliniecniaaDoor
