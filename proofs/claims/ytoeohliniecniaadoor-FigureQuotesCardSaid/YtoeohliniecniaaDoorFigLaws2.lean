/-
  The statements FigureNames and FigureQuotes as walks: each returns true for every input and changes nothing that was there. Conditions: the string is no longer than the model's greatest length; strconv's table of powers of ten lies in memory as its initialiser lays it ('Tab').
-/
import Derived.Test.YtoeohliniecniaaDoorFigRefQuote
import Derived.Test.YtoeohliniecniaaDoorFigLaws1
namespace Go.Proofs.YtoeohliniecniaaDoor
open Go.RowKit Go.Shelf

set_option maxRecDepth 100000 in
set_option maxHeartbeats 2000000 in
theorem names_any (s : ByteArray) (w : World) (hs : s.size ≤ 9223372036854775807) (ht : Tab w) :
    Calls Tryd.prog 4 #[.string s] w fun e w' => e = .returned (.bool true) ∧ Below w.heap.size w w' := by
  have HT := Lib.hid ht; clear ht
  by_cases hg : 3000 < s.size
  · have tg : decide (3000 < (s.size : Int)) = true := by simp; omega
    go_enter Tryd.func4, Tryd.ntmps4
    go_wp2_with fail
    refine (great_any _ _ hs).mono ?_
    rintro e w2 ⟨rfl, rfl⟩
    go_wp2_with fail
    go_ret
    exact ⟨rfl, Below.refl _ _⟩
  · have tg : decide (3000 < (s.size : Int)) = false := by simp; omega
    obtain ⟨f, hf⟩ : ∃ f : ByteArray, f = ⟨(foldL s.data.toList).toArray⟩ := ⟨_, rfl⟩
    have HF := Lib.hid hf; clear hf
    go_enter Tryd.func4, Tryd.ntmps4
    go_wp2_with fail
    refine (great_any _ _ hs).mono ?_
    rintro e w1 ⟨rfl, rfl⟩
    go_wp2_with fail
    refine (name_any _ _ (by omega)).mono ?_
    rintro e w1 ⟨rfl, b1⟩
    go_wp2_with fail
    refine (rname_any _ _ (by omega)).mono ?_
    rintro e w2 ⟨rfl, rfl⟩
    go_wp2_with fail
    refine (fold_any _ _ (by omega)).mono ?_
    rintro e w3 ⟨rfl, b3⟩
    have B3 := b1.trans (b3.mono b1.size)
    rw [← HF.out]
    go_wp2_with fail
    refine (rfold_any _ _ (by omega)).mono ?_
    rintro e w4 ⟨rfl, b4⟩
    have B4 := B3.trans (b4.mono B3.size)
    rw [← HF.out]
    go_wp2_with fail
    refine (works_any _ (tab_below HT.out B4)).mono ?_
    rintro e w5 ⟨rfl, b5⟩
    go_wp2_with fail
    go_ret
    exact ⟨rfl, B4.trans (b5.mono B4.size)⟩

set_option maxRecDepth 100000 in
set_option maxHeartbeats 2000000 in
theorem quotes_any (s : ByteArray) (w : World) (hs : s.size ≤ 9223372036854775807) (ht : Tab w) :
    Calls Tryd.prog 5 #[.string s] w fun e w' => e = .returned (.bool true) ∧ Below w.heap.size w w' := by
  have HT := Lib.hid ht; clear ht
  by_cases hg : 3000 < s.size
  · have tg : decide (3000 < (s.size : Int)) = true := by simp; omega
    go_enter Tryd.func5, Tryd.ntmps5
    go_wp2_with fail
    refine (great_any _ _ hs).mono ?_
    rintro e w2 ⟨rfl, rfl⟩
    go_wp2_with fail
    go_ret
    exact ⟨rfl, Below.refl _ _⟩
  · have tg : decide (3000 < (s.size : Int)) = false := by simp; omega
    obtain ⟨f, hf⟩ : ∃ f : ByteArray, f = ⟨(quoteL s.data.toList).toArray⟩ := ⟨_, rfl⟩
    obtain ⟨u, hu⟩ : ∃ u : ByteArray, u = ⟨(unqR s.data.toList).1.toArray⟩ := ⟨_, rfl⟩
    obtain ⟨v, hv⟩ : ∃ v : Int, v = (unqR s.data.toList).2 := ⟨_, rfl⟩
    have HF := Lib.hid hf; have HU := Lib.hid hu; have HV := Lib.hid hv; clear hf hu hv
    go_enter Tryd.func5, Tryd.ntmps5
    go_wp2_with fail
    refine (great_any _ _ hs).mono ?_
    rintro e w1 ⟨rfl, rfl⟩
    go_wp2_with fail
    refine (unq_any _ _ (by omega)).mono ?_
    rintro e w1 ⟨rfl, b1⟩
    rw [← HU.out, ← HV.out]
    go_wp2_with fail
    refine (runq_any _ _ (by omega)).mono ?_
    rintro e w2 ⟨rfl, rfl⟩
    rw [← HU.out, ← HV.out]
    go_wp2_with fail
    refine (quote_any _ _ (by omega)).mono ?_
    rintro e w3 ⟨rfl, b3⟩
    have B3 := b1.trans (b3.mono b1.size)
    rw [← HF.out]
    go_wp2_with fail
    refine (rquote_any _ _ (by omega)).mono ?_
    rintro e w4 ⟨rfl, rfl⟩
    rw [← HF.out]
    go_wp2_with fail
    refine (works_any _ (tab_below HT.out B3)).mono ?_
    rintro e w5 ⟨rfl, b5⟩
    go_wp2_with fail
    go_ret
    exact ⟨rfl, B3.trans (b5.mono B3.size)⟩
end Go.Proofs.YtoeohliniecniaaDoor
