/-
  The statements FigureTexts and FigureHexes as walks: each returns true for every input and changes nothing that was there. Conditions: the number is an int; the string is no longer than the model's greatest length; strconv's table of powers of ten lies in memory as its initialiser lays it ('Tab').
-/
import Derived.Test.YtoeohliniecniaaDoorFigRefText
import Derived.Test.YtoeohliniecniaaDoorFigRefUnhex
import Derived.Test.YtoeohliniecniaaDoorFigLaws1
namespace Go.Proofs.YtoeohliniecniaaDoor
open Go.RowKit Go.Shelf

set_option maxRecDepth 100000 in
set_option maxHeartbeats 2000000 in
theorem texts_any (n : Int) (s : ByteArray) (h0 : -9223372036854775808 ≤ n) (h1 : n ≤ 9223372036854775807) (w : World) (hs : s.size ≤ 9223372036854775807) (ht : Tab w) :
    Calls Tryd.prog 3 #[.int .i64 n, .string s] w fun e w' => e = .returned (.bool true) ∧ Below w.heap.size w w' := by
  have HT := Lib.hid ht; clear ht
  have H0 := Lib.hid h0; have H1 := Lib.hid h1; clear h0 h1
  by_cases hg : 3000 < s.size
  · have tg : decide (3000 < (s.size : Int)) = true := by simp; omega
    go_enter Tryd.func3, Tryd.ntmps3
    go_wp2_with fail
    refine (great_any _ _ hs).mono ?_
    rintro e w2 ⟨rfl, rfl⟩
    go_wp2_with fail
    go_ret
    exact ⟨rfl, Below.refl _ _⟩
  · have tg : decide (3000 < (s.size : Int)) = false := by simp; omega
    obtain ⟨f, hf⟩ : ∃ f : ByteArray, f = ⟨(Lib.itoa n).toArray⟩ := ⟨_, rfl⟩
    obtain ⟨u, hu⟩ : ∃ u : Int, u = (readR s.data.toList).1 := ⟨_, rfl⟩
    obtain ⟨v, hv⟩ : ∃ v : Int, v = (readR s.data.toList).2 := ⟨_, rfl⟩
    have HF := Lib.hid hf; have HU := Lib.hid hu; have HV := Lib.hid hv; clear hf hu hv
    go_enter Tryd.func3, Tryd.ntmps3
    go_wp2_with fail
    refine (great_any _ _ hs).mono ?_
    rintro e w1 ⟨rfl, rfl⟩
    go_wp2_with fail
    refine (read_any _ _ (by omega)).mono ?_
    rintro e w1 ⟨rfl, b1⟩
    rw [← HU.out, ← HV.out]
    go_wp2_with fail
    refine (rread_any _ _ (by omega)).mono ?_
    rintro e w2 ⟨rfl, rfl⟩
    rw [← HU.out, ← HV.out]
    go_wp2_with fail
    refine (text_any _ H0.out H1.out _ (tab_below HT.out b1)).mono ?_
    rintro e w3 ⟨rfl, b3⟩
    have B3 := b1.trans (b3.mono b1.size)
    rw [← HF.out]
    go_wp2_with fail
    refine (rtext_any _ H0.out H1.out _).mono ?_
    rintro e w4 ⟨rfl, b4⟩
    have B4 := B3.trans (b4.mono B3.size)
    rw [← HF.out]
    go_wp2_with fail
    refine (works_any _ (tab_below HT.out B4)).mono ?_
    rintro e w5 ⟨rfl, b5⟩
    go_wp2_with fail
    go_ret
    exact ⟨rfl, B4.trans (b5.mono B4.size)⟩

set_option maxRecDepth 100000 in
set_option maxHeartbeats 2000000 in
theorem hexes_any (s : ByteArray) (w : World) (hs : s.size ≤ 9223372036854775807) (ht : Tab w) :
    Calls Tryd.prog 6 #[.string s] w fun e w' => e = .returned (.bool true) ∧ Below w.heap.size w w' := by
  have HT := Lib.hid ht; clear ht
  by_cases hg : 3000 < s.size
  · have tg : decide (3000 < (s.size : Int)) = true := by simp; omega
    go_enter Tryd.func6, Tryd.ntmps6
    go_wp2_with fail
    refine (great_any _ _ hs).mono ?_
    rintro e w2 ⟨rfl, rfl⟩
    go_wp2_with fail
    go_ret
    exact ⟨rfl, Below.refl _ _⟩
  · have tg : decide (3000 < (s.size : Int)) = false := by simp; omega
    obtain ⟨f, hf⟩ : ∃ f : ByteArray, f = ⟨(hexL s.data.toList).toArray⟩ := ⟨_, rfl⟩
    obtain ⟨u, hu⟩ : ∃ u : ByteArray, u = ⟨(unhR s.data.toList).1.toArray⟩ := ⟨_, rfl⟩
    obtain ⟨v, hv⟩ : ∃ v : Int, v = (unhR s.data.toList).2 := ⟨_, rfl⟩
    have HF := Lib.hid hf; have HU := Lib.hid hu; have HV := Lib.hid hv; clear hf hu hv
    go_enter Tryd.func6, Tryd.ntmps6
    go_wp2_with fail
    refine (great_any _ _ hs).mono ?_
    rintro e w1 ⟨rfl, rfl⟩
    go_wp2_with fail
    refine (unhex_any _ _ (by omega)).mono ?_
    rintro e w1 ⟨rfl, b1⟩
    rw [← HU.out, ← HV.out]
    go_wp2_with fail
    refine (runh_any _ _ (by omega)).mono ?_
    rintro e w2 ⟨rfl, b2⟩
    have B2 := b1.trans (b2.mono b1.size)
    rw [← HU.out, ← HV.out]
    go_wp2_with fail
    refine (hex_any _ _ (by omega)).mono ?_
    rintro e w3 ⟨rfl, b3⟩
    have B3 := B2.trans (b3.mono B2.size)
    rw [← HF.out]
    go_wp2_with fail
    refine (rhex_any _ _ (by omega)).mono ?_
    rintro e w4 ⟨rfl, b4⟩
    have B4 := B3.trans (b4.mono B3.size)
    rw [← HF.out]
    go_wp2_with fail
    refine (works_any _ (tab_below HT.out B4)).mono ?_
    rintro e w5 ⟨rfl, b5⟩
    go_wp2_with fail
    go_ret
    exact ⟨rfl, B4.trans (b5.mono B4.size)⟩
end Go.Proofs.YtoeohliniecniaaDoor
