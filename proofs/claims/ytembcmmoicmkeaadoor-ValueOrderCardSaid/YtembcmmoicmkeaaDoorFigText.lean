/-
  figure.Text: it returns the number in decimal ('Lib.itoa'), and changes nothing that was there. Conditions: the number is an int; strconv's table of powers of ten lies in memory as its initialiser lays it ('Tab').
-/
import Derived.Test.YtembcmmoicmkeaaDoorFigRead
import Derived.Test.YtembcmmoicmkeaaDoorFigUnq
import Derived.Test.YtembcmmoicmkeaaDoorFigQuote
import Derived.Test.YtembcmmoicmkeaaDoorFigHex
import Derived.Test.YtembcmmoicmkeaaDoorFigUnhex
import Derived.WalkSmall
import Derived.Lib.ItoaLen
namespace Go.Proofs.YtembcmmoicmkeaaDoor
open Go.RowKit Go.Shelf

def Tab (w : World) : Prop := Lib.TabIs Tryd.prog w "internal/strconv.uint64pow10" .u64 Lib.pow10Tab
theorem tab_global : Tryd.prog.globalNamed "internal/strconv.uint64pow10" = some 1 := by kernel_rfl
theorem tab_below {w w' : World} (h : Tab w) (hb : Below w.heap.size w w') : Tab w' := by
  have hlt : 1 < w.heap.size := by
    rcases Nat.lt_or_ge 1 w.heap.size with h' | h'
    · exact h'
    · unfold Tab Lib.TabIs World.var? at h
      rw [tab_global] at h
      simp [Array.getElem?_eq_none h'] at h
  exact var?_below hb tab_global hlt h
theorem grown_below (w : World) (q : Nat) (os : Array Obj) : Below w.heap.size w (Sort.grow (w.drewN q) os) :=
  ⟨rfl, rfl, rfl, by first | (simp [Sort.grow]; done) | (simp [Sort.grow]; omega), fun i hi => by
    show ((w.drewN q).heap ++ os)[i]? = _
    rw [Array.getElem?_append_left (by show i < w.heap.size; omega)]
    rfl⟩

theorem text_any (n : Int) (h0 : -9223372036854775808 ≤ n) (h1 : n ≤ 9223372036854775807) (w : World) (ht : Tab w) :
    Calls Tryd.prog 23 #[.int .i64 n] w fun e w' => e = .returned (.string ⟨(Lib.itoa n).toArray⟩) ∧ Below w.heap.size w w' := by
  have H0 := Lib.hid h0; have H1 := Lib.hid h1; have HT := Lib.hid ht
  clear h0 h1 ht
  go_enter Tryd.func23, Tryd.ntmps23
  go_wp2_with (go_at_call 35; refine (Tryd.strconv_Itoa _ H0.out H1.out _ HT.out).mono ?_; rintro e w' ⟨rfl, q, os, rfl⟩)
  go_ret
  exact ⟨rfl, grown_below _ _ _⟩
theorem quote_any (s : ByteArray) (w : World) (hs : s.size ≤ 70368744177660) :
    Calls Tryd.prog 24 #[.string s] w fun e w' => e = .returned (.string ⟨(quoteL s.data.toList).toArray⟩) ∧ Below w.heap.size w w' := callsIn_wide.1 (quote_in s w hs)
theorem hex_any (s : ByteArray) (w : World) (hs : s.size ≤ 70368744177664) :
    Calls Tryd.prog 25 #[.string s] w fun e w' => e = .returned (.string ⟨(hexL s.data.toList).toArray⟩) ∧ Below w.heap.size w w' := callsIn_wide.1 (hex_in s w hs)
theorem fold_any (s : ByteArray) (w : World) (hs : s.size ≤ 140737488351232) :
    Calls Tryd.prog 31 #[.string s] w fun e w' => e = .returned (.string ⟨(foldL s.data.toList).toArray⟩) ∧ Below w.heap.size w w' := callsIn_wide.1 (fold_in s w hs)
end Go.Proofs.YtembcmmoicmkeaaDoor
