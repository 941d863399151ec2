/-
  Layer 16, the program's reader (annexe/node): cell: the cell that it reads, and what it leaves; it changes the reader alone. Condition: at most 100000 bytes.
-/
import Derived.Test.YtdpjmijdlheajaaNpRead1
import Derived.Test.YtdpjmijdlheajaaNdValue
namespace Go.Proofs.Ytdpjmijdlheajaa
open Go.RowKit

def zC : Array Value := #[.string ⟨#[]⟩, .int .i64 0, .string ⟨#[]⟩, .int .i64 0]
/-- What holds in cell's own frame. -/
structure CI (w : World) (b g4 g5 : Nat) (l : List UInt8) (cs : Array Value) (W : World) : Prop where
  rd : R16 W b l
  b4 : Blk W g4 51 zC
  b5 : Blk W g5 51 cs
  gb : w.grownBy W (some b)
  h4 : w.heap.size ≤ g4
  h5 : w.heap.size ≤ g5
  ne : g4 ≠ g5
  hb : b < w.heap.size
section
variable {w W W' : World} {b g4 g5 : Nat} {l l' : List UInt8} {cs : Array Value}
theorem CI.step (h : CI w b g4 g5 l cs W) (hr : R16 W' b l') (hg : W.grownBy W' (some b)) : CI w b g4 g5 l' cs W' :=
  ⟨hr, blk_gby h.b4 hg (by have := h.h4; have := h.hb; omega), blk_gby h.b5 hg (by have := h.h5; have := h.hb; omega), Lib.grownBy_trans h.gb hg, h.h4, h.h5, h.ne, h.hb⟩
theorem CI.below (h : CI w b g4 g5 l cs W) (hb : Below W.heap.size W W') : CI w b g4 g5 l cs W' :=
  ⟨r16_below h.rd hb, blk_below h.b4 hb, blk_below h.b5 hb, Lib.grownBy_below h.gb hb, h.h4, h.h5, h.ne, h.hb⟩
theorem CI.set (h : CI w b g4 g5 l cs W) (i : Nat) (v : Value) : CI w b g4 g5 l (cs.setIfInBounds i v) (W.setCell ⟨g5, i, none⟩ v) :=
  ⟨r16_other h.rd (by have := h.h5; have := h.hb; omega) i v, blk_other h.b4 h.ne i v, blk_set h.b5 i v, gby_set h.gb h.h5 i v, h.h4, h.h5, h.ne, h.hb⟩
theorem CI.cells (h : CI w b g4 g5 l cs W) : (∀ i v, cs[i]? = some v → W.cell? ⟨g5, i, none⟩ = some v) ∧ (∀ i, W.frozen? ⟨g5, i, none⟩ = false) := ⟨fun i _ hv => blk_cell h.b5 i hv, fun i => blk_frozen h.b5 i⟩
/-- The result stored. -/
theorem CI.done (h : CI w b g4 g5 l cs W) (x0 x1 x2 x3 : Value) :
    Blk ((((W.setCell ⟨g4, 0, none⟩ x0).setCell ⟨g4, 1, none⟩ x1).setCell ⟨g4, 2, none⟩ x2).setCell ⟨g4, 3, none⟩ x3) g4 51 #[x0, x1, x2, x3] ∧
    R16 ((((W.setCell ⟨g4, 0, none⟩ x0).setCell ⟨g4, 1, none⟩ x1).setCell ⟨g4, 2, none⟩ x2).setCell ⟨g4, 3, none⟩ x3) b l ∧
    w.grownBy ((((W.setCell ⟨g4, 0, none⟩ x0).setCell ⟨g4, 1, none⟩ x1).setCell ⟨g4, 2, none⟩ x2).setCell ⟨g4, 3, none⟩ x3) (some b) := by
  have hne : b ≠ g4 := by have := h.h4; have := h.hb; omega
  exact ⟨blk_set (blk_set (blk_set (blk_set h.b4 0 x0) 1 x1) 2 x2) 3 x3, r16_other (r16_other (r16_other (r16_other h.rd hne _ _) hne _ _) hne _ _) hne _ _, gby_set (gby_set (gby_set (gby_set h.gb h.h4 _ _) h.h4 _ _) h.h4 _ _) h.h4 _ _⟩
end
theorem ci_start {w W : World} {b : Nat} {l : List UInt8} {cs : Array Value} (hb : b < w.heap.size) (hr : R16 W b l) (hg : (w.alloc (.cells zC 51)).grownBy W (some b)) : CI w b w.heap.size W.heap.size l cs (W.alloc (.cells cs 51)) := by
  have h4 := blk_gby (blk_new w 51 zC) hg (by omega)
  have hlt := blk_lt h4
  exact ⟨r16_below hr (blw1 _ _), blk_alloc h4 _, blk_new _ _ _, Lib.grownBy_allocR (gby_new hg) _, Nat.le_refl _, by omega, by omega, hb⟩
set_option maxRecDepth 100000 in
set_option maxHeartbeats 4000000 in
theorem cell_r (leaf : Bool) (b : Nat) (l : List UInt8) (w : World) (hl : l.length ≤ 100000) (h : R16 w b l) :
    Calls Try.prog 68 #[.pointer (some ⟨b, 0, none⟩), .bool leaf] w fun e w' => e = .returned (celV (celD leaf l).1) ∧ R16 w' b (celD leaf l).2 ∧ w.grownBy w' (some b) := by
  have hlt := blk_lt h
  have kA := size_r b l (w.alloc (.cells #[.string ⟨#[]⟩, .int .i64 0, .string ⟨#[]⟩, .int .i64 0] 51)) hl (r16_below h (blw1 _ _))
  obtain ⟨D, hD⟩ : ∃ D, D = celD leaf l := ⟨_, rfl⟩
  rw [← hD]
  unfold celD celK at hD
  have hz1 := sz_len l
  have hz2 := sz_le l
  obtain ⟨n1, hn1⟩ : ∃ n, n = (szN l).1 := ⟨_, rfl⟩
  obtain ⟨l1, hl1⟩ : ∃ n, n = (szN l).2 := ⟨_, rfl⟩
  rw [← hn1, ← hl1] at kA
  rw [← hn1, ← hl1] at hD
  rw [← hl1] at hz1
  rw [← hn1] at hz2
  simp only at hD
  have kB := fun W h => take_r b l1 n1 W (by omega) (by omega) h
  obtain ⟨key, hkey⟩ : ∃ n, n = l1.take n1 := ⟨_, rfl⟩
  obtain ⟨l2, hl2⟩ : ∃ n, n = l1.drop n1 := ⟨_, rfl⟩
  rw [← hkey, ← hl2] at kB
  rw [← hkey, ← hl2] at hD
  have hz3 : l2.length ≤ 100000 := by rw [hl2, List.length_drop]; omega
  clear hn1 hl1 hkey hl2 h
  cases leaf with
  | false =>
    rw [if_neg (by decide)] at hD
    subst hD
    go_enter Try.func68, Try.ntmps68
    go_upto_region 2 with (first
      | (go_at_call 74; (with_reducible refine kA.mono ?_); rintro e w2 ⟨rfl, hr2, hg2⟩; have HR2 := Lib.hid hr2; have HG2 := Lib.hid hg2; clear hr2 hg2)
      | (go_at_call 48; (with_reducible refine (kB _ HR2.out).mono ?_); rintro e w3 ⟨rfl, hr3, hg3⟩; have HR3 := Lib.hid hr3; have HG3 := Lib.hid (Lib.grownBy_trans HG2.out hg3); clear hr3 hg3))
    have HC := Lib.hid (ci_start (cs := #[.string (nb key), .int .i64 0, .string ⟨#[]⟩, .int .i64 0]) hlt HR3.out HG3.out)
    obtain ⟨W3, hW3⟩ : ∃ W3, W3 = w3.alloc (.cells #[.string (nb key), .int .i64 0, .string ⟨#[]⟩, .int .i64 0] 51) := ⟨_, rfl⟩
    obtain ⟨g5, hg5⟩ : ∃ g5, g5 = w3.heap.size := ⟨_, rfl⟩
    rw [← hW3, ← hg5]
    rw [← hW3, ← hg5] at HC
    clear hW3 hg5 HR3 HG3 HR2 HG2
    have c0 := HC.out.cells.1 0 _ rfl; have c1 := HC.out.cells.1 1 _ rfl; have c2 := HC.out.cells.1 2 _ rfl; have c3 := HC.out.cells.1 3 _ rfl
    have z0 := blk_cell HC.out.b4 0 rfl; have z1 := blk_cell HC.out.b4 1 rfl; have z2 := blk_cell HC.out.b4 2 rfl; have z3 := blk_cell HC.out.b4 3 rfl
    have y0 := blk_frozen HC.out.b4 0; have y1 := blk_frozen HC.out.b4 1; have y2 := blk_frozen HC.out.b4 2; have y3 := blk_frozen HC.out.b4 3
    go_wp2
    obtain ⟨q1, q2, q3⟩ := HC.out.done (.string (nb key)) (.int .i64 0) (.string ⟨#[]⟩) (.int .i64 0)
    refine bodyPost_ret (results_cell_row rfl _ _ w.heap.size _ _ _ _ rfl q1 Try.underlying51 rfl (by kernel_rfl)) rfl ?_
    exact ⟨rfl, q2, q3⟩
  | true =>
    rw [if_pos rfl] at hD
    have kC := fun W h => size_r b l2 W hz3 h
    have hz4 := sz_len l2
    have hz5 := sz_le l2
    obtain ⟨m, hm⟩ : ∃ n, n = (szN l2).1 := ⟨_, rfl⟩
    obtain ⟨l3, hl3⟩ : ∃ n, n = (szN l2).2 := ⟨_, rfl⟩
    rw [← hm, ← hl3] at kC hD
    rw [← hl3] at hz4
    rw [← hm] at hz5
    try simp only at hD
    obtain ⟨lc, hlc⟩ : ∃ n, n = min m 60 := ⟨_, rfl⟩
    have hmi : min (m : Int) 60 = (lc : Int) := by omega
    have kD := fun W h => take_r b l3 lc W (by omega) (by omega) h
    obtain ⟨loc, hloc⟩ : ∃ n, n = l3.take lc := ⟨_, rfl⟩
    obtain ⟨l4, hl4⟩ : ∃ n, n = l3.drop lc := ⟨_, rfl⟩
    have hz6 : l4.length ≤ 100000 := by rw [hl4, List.length_drop]; omega
    rw [← hloc, ← hl4] at kD
    have kE := fun W h => page_r b l4 W hz6 h
    have hD2 : D = if 60 < m then (⟨key, m, loc, pgN l4⟩, l4.drop 4) else (⟨key, m, loc, 0⟩, l4) := by
      rw [hD, hloc, hl4]
      by_cases h : 60 < m
      · rw [if_pos h, if_pos h, show lc = 60 by omega]
      · rw [if_neg h, if_neg h, show lc = m by omega]
    have HLC := Lib.hid hlc
    have HD2 := Lib.hid hD2
    clear hD hD2 hm hl3 hloc hl4 hlc
    go_enter Try.func68, Try.ntmps68
    go_upto_region 2 with (first
      | (go_at_call 74; (with_reducible refine kA.mono ?_); rintro e w2 ⟨rfl, hr2, hg2⟩; have HR2 := Lib.hid hr2; have HG2 := Lib.hid hg2; clear hr2 hg2)
      | (go_at_call 48; (with_reducible refine (kB _ HR2.out).mono ?_); rintro e w3 ⟨rfl, hr3, hg3⟩; have HR3 := Lib.hid hr3; have HG3 := Lib.hid (Lib.grownBy_trans HG2.out hg3); clear hr3 hg3))
    have HC := Lib.hid (ci_start (cs := #[.string (nb key), .int .i64 0, .string ⟨#[]⟩, .int .i64 0]) hlt HR3.out HG3.out)
    obtain ⟨W3, hW3⟩ : ∃ W3, W3 = w3.alloc (.cells #[.string (nb key), .int .i64 0, .string ⟨#[]⟩, .int .i64 0] 51) := ⟨_, rfl⟩
    obtain ⟨g5, hg5⟩ : ∃ g5, g5 = w3.heap.size := ⟨_, rfl⟩
    rw [← hW3, ← hg5]
    rw [← hW3, ← hg5] at HC
    clear hW3 hg5 HR3 HG3 HR2 HG2 kA kB
    have y1 := HC.out.cells.2 1
    go_upto_region 5 with (go_at_call 74; (with_reducible refine (kC _ HC.out.rd).mono ?_); rintro e w4 ⟨rfl, hr4, hg4⟩; have HC4 := Lib.hid (HC.out.step hr4 hg4); have y1 := HC4.out.cells.2 1; have x1 := HC4.out.cells.1 1 _ rfl; clear hr4 hg4)
    have HC5 := Lib.hid (HC4.out.set 1 (.int .i64 m))
    obtain ⟨W5, hW5⟩ : ∃ W, W = w4.setCell ⟨g5, 1, none⟩ (.int .i64 m) := ⟨_, rfl⟩
    rw [← hW5]
    rw [← hW5] at HC5
    clear hW5 HC HC4 kC y1 x1
    have c1 := HC5.out.cells.1 1 _ rfl
    go_upto_region 6 with (go_at_call 48; (with_reducible refine (kD _ HC5.out.rd).mono ?_); rintro e w6 ⟨rfl, hr6, hg6⟩; have HC6 := Lib.hid (HC5.out.step hr6 hg6); have y2 := HC6.out.cells.2 2; have x2 := HC6.out.cells.1 2 _ rfl; clear hr6 hg6)
    have HC7 := Lib.hid (HC6.out.set 2 (.string (nb loc)))
    obtain ⟨W7, hW7⟩ : ∃ W, W = w6.setCell ⟨g5, 2, none⟩ (.string (nb loc)) := ⟨_, rfl⟩
    rw [← hW7]
    rw [← hW7] at HC7
    clear hW7 HC5 HC6 kD c1 y2 x2
    have c0 := HC7.out.cells.1 0 _ rfl; have c1 := HC7.out.cells.1 1 _ rfl; have c2 := HC7.out.cells.1 2 _ rfl; have c3 := HC7.out.cells.1 3 _ rfl
    by_cases h60 : 60 < m
    · have hg := fun W => goes_any (nb key) (m : Int) (nb loc) 0 true (by rw [decide_eq_true]; omega) W
      have HDE := Lib.hid (show D = (⟨key, m, loc, pgN l4⟩, l4.drop 4) from by rw [HD2.out, if_pos h60])
      go_upto_region 7 with (go_at_call 47; (with_reducible refine (hg _).mono ?_); rintro e w8 ⟨rfl, hb8⟩; have HC8 := Lib.hid (HC7.out.below hb8); clear hb8)
      clear c0 c1 c2 c3
      go_upto_region 8 with (go_at_call 67; (with_reducible refine (kE _ HC8.out.rd).mono ?_); rintro e w9 ⟨rfl, hr9, hg9⟩; have HC9 := Lib.hid (HC8.out.step hr9 hg9); have y3 := HC9.out.cells.2 3; have x3 := HC9.out.cells.1 3 _ rfl; clear hr9 hg9)
      have HCX := Lib.hid (HC9.out.set 3 (.int .i64 (pgN l4)))
      obtain ⟨WX, hWX⟩ : ∃ W, W = w9.setCell ⟨g5, 3, none⟩ (.int .i64 (pgN l4)) := ⟨_, rfl⟩
      rw [← hWX]
      rw [← hWX] at HCX
      clear hWX HC7 HC8 HC9 kE y3 x3
      have c0 := HCX.out.cells.1 0 _ rfl; have c1 := HCX.out.cells.1 1 _ rfl; have c2 := HCX.out.cells.1 2 _ rfl; have c3 := HCX.out.cells.1 3 _ rfl
      have z0 := blk_cell HCX.out.b4 0 rfl; have z1 := blk_cell HCX.out.b4 1 rfl; have z2 := blk_cell HCX.out.b4 2 rfl; have z3 := blk_cell HCX.out.b4 3 rfl
      have y0 := blk_frozen HCX.out.b4 0; have y1 := blk_frozen HCX.out.b4 1; have y2 := blk_frozen HCX.out.b4 2; have y3 := blk_frozen HCX.out.b4 3
      go_wp2
      obtain ⟨q1, q2, q3⟩ := HCX.out.done (.string (nb key)) (.int .i64 m) (.string (nb loc)) (.int .i64 (pgN l4))
      refine bodyPost_ret (results_cell_row rfl _ _ w.heap.size _ _ _ _ rfl q1 Try.underlying51 rfl (by kernel_rfl)) rfl ?_
      rw [HDE.out]
      exact ⟨rfl, q2, q3⟩
    · have hg := fun W => goes_any (nb key) (m : Int) (nb loc) 0 false (by rw [decide_eq_false]; omega) W
      have HDE := Lib.hid (show D = (⟨key, m, loc, 0⟩, l4) from by rw [HD2.out, if_neg h60])
      go_upto_region 8 with (go_at_call 47; (with_reducible refine (hg _).mono ?_); rintro e w8 ⟨rfl, hb8⟩; have HCX := Lib.hid (HC7.out.below hb8); clear hb8)
      clear c0 c1 c2 c3
      have c0 := HCX.out.cells.1 0 _ rfl; have c1 := HCX.out.cells.1 1 _ rfl; have c2 := HCX.out.cells.1 2 _ rfl; have c3 := HCX.out.cells.1 3 _ rfl
      have z0 := blk_cell HCX.out.b4 0 rfl; have z1 := blk_cell HCX.out.b4 1 rfl; have z2 := blk_cell HCX.out.b4 2 rfl; have z3 := blk_cell HCX.out.b4 3 rfl
      have y0 := blk_frozen HCX.out.b4 0; have y1 := blk_frozen HCX.out.b4 1; have y2 := blk_frozen HCX.out.b4 2; have y3 := blk_frozen HCX.out.b4 3
      go_wp2
      obtain ⟨q1, q2, q3⟩ := HCX.out.done (.string (nb key)) (.int .i64 m) (.string (nb loc)) (.int .i64 0)
      refine bodyPost_ret (results_cell_row rfl _ _ w.heap.size _ _ _ _ rfl q1 Try.underlying51 rfl (by kernel_rfl)) rfl ?_
      rw [HDE.out]
      exact ⟨rfl, q2, q3⟩
end Go.Proofs.Ytdpjmijdlheajaa
