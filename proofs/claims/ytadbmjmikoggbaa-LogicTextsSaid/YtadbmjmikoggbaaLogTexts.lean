/-
  The statement LogicTexts as a walk: it returns true for every input and changes nothing that was there. Condition: the strings have at most 2^47 - 4096 bytes.
-/
import Derived.Test.YtadbmjmikoggbaaLogEq
namespace Go.Proofs.Ytadbmjmikoggbaa
open Go.RowKit

theorem cat_is (s1 s2 : ByteArray) (k n : Int) (s : ByteArray) (e : Int) (h1 : s1.size ≤ 140737488351232) (h2 : s2.size ≤ 140737488351232) (hr : catR 2 s1 2 s2 = ⟨k, n, s, e⟩) (w : World) :
    Calls Try.prog 29 #[.string ⟨#[124, 124]⟩, .agg #[.int .i64 2, .int .i64 0, .string s1], .agg #[.int .i64 2, .int .i64 0, .string s2], .bool false] w fun e' w' => e' = .returned (.tuple #[.agg #[.int .i64 k, .int .i64 n, .string s], .int .i64 e]) ∧ Below w.heap.size w w' := by
  have h := bin_cat ⟨#[124, 124]⟩ 2 0 s1 2 0 s2 false w (by decide) rfl rfl h1 h2
  rw [hr] at h
  exact h
theorem lg_retB {a b : Bool} (h : a = b) : Ending.returned (.bool a) = .returned (.bool b) := by rw [h]
theorem catR_long {s1 s2 : ByteArray} (h : 1000 < s1.size + s2.size) : catR 2 s1 2 s2 = ⟨0, 0, ⟨#[]⟩, 12⟩ := by rw [catR, if_neg (by omega), if_pos h]; rfl
theorem catR_ok {s1 s2 : ByteArray} (h : ¬ 1000 < s1.size + s2.size) : catR 2 s1 2 s2 = ⟨2, 0, s1 ++ s2, 0⟩ := by rw [catR, if_neg (by omega), if_neg h]
set_option maxHeartbeats 1000000 in
theorem texts_great (a b c : ByteArray) (w : World) (ha : a.size ≤ 140737488351232) (hb : b.size ≤ 140737488351232) (hc : c.size ≤ 140737488351232) (h : 1000 < a.size ∨ a.size ≤ 1000 ∧ 1000 < b.size ∨ a.size ≤ 1000 ∧ b.size ≤ 1000 ∧ 1000 < c.size) :
    Calls Try.prog 9 #[.string a, .string b, .string c] w fun e w' => e = .returned (.bool true) ∧ Below w.heap.size w w' := by
  rcases h with h | ⟨h1, h⟩ | ⟨h1, h2, h⟩
  all_goals
    go_enter Try.func9, Try.ntmps9
    go_wp2_with fail
    refine (works6_any _).mono ?_
    rintro e w1 ⟨rfl, b1⟩
    have HW := Lib.hid b1; clear b1
    go_wp2_with fail
    go_ret
    exact ⟨rfl, HW.out⟩
set_option maxRecDepth 100000 in
set_option maxHeartbeats 2000000 in
theorem texts_long (a b c x y s : ByteArray) (k n e : Int) (w : World) (ha : a.size ≤ 1000) (hb : b.size ≤ 1000) (hc : c.size ≤ 1000) 
    (hp : ∀ w, Calls Try.prog 29 #[.string ⟨#[124, 124]⟩, .agg #[.int .i64 2, .int .i64 0, .string a], .agg #[.int .i64 2, .int .i64 0, .string b], .bool false] w fun e' w' => e' = .returned (.tuple #[.agg #[.int .i64 0, .int .i64 0, .string ⟨#[]⟩], .int .i64 12]) ∧ Below w.heap.size w w')
    (hq : ∀ w, Calls Try.prog 29 #[.string ⟨#[124, 124]⟩, .agg #[.int .i64 2, .int .i64 0, .string b], .agg #[.int .i64 2, .int .i64 0, .string c], .bool false] w fun e' w' => e' = .returned (.tuple #[.agg #[.int .i64 k, .int .i64 n, .string s], .int .i64 e]) ∧ Below w.heap.size w w') :
    Calls Try.prog 9 #[.string a, .string b, .string c] w fun e w' => e = .returned (.bool true) ∧ Below w.heap.size w w' := by
    have hgd := guardV
    have HW := Lib.hid (Below.refl w.heap.size w)
    go_enter Try.func9, Try.ntmps9
    go_wp2_with fail
    refine (works6_any _).mono ?_
    rintro e' w1 ⟨rfl, b⟩
    replace HW := Lib.hid (blw_on HW.out b)
    clear b
    have HXx := Lib.hid (blk_new w1 23 #[.int .i64 2, .int .i64 0, .string a])
    replace HW := Lib.hid (blw_al HW.out (.cells #[.int .i64 2, .int .i64 0, .string a] 23))
    replace HXx := Lib.hid (blk_alloc HXx.out (.cells #[.int .i64 2, .int .i64 0, .string b] 23))
    have HXy := Lib.hid (show Blk ((w1.alloc (.cells #[.int .i64 2, .int .i64 0, .string a] 23)).alloc (.cells #[.int .i64 2, .int .i64 0, .string b] 23)) (w1.heap.size + 1) 23 #[.int .i64 2, .int .i64 0, .string b] from blk_at (by simp))
    replace HW := Lib.hid (blw_al HW.out (.cells #[.int .i64 2, .int .i64 0, .string b] 23))
    replace HXx := Lib.hid (blk_alloc HXx.out (.cells #[.int .i64 2, .int .i64 0, .string c] 23))
    replace HXy := Lib.hid (blk_alloc HXy.out (.cells #[.int .i64 2, .int .i64 0, .string c] 23))
    have HXz := Lib.hid (show Blk (((w1.alloc (.cells #[.int .i64 2, .int .i64 0, .string a] 23)).alloc (.cells #[.int .i64 2, .int .i64 0, .string b] 23)).alloc (.cells #[.int .i64 2, .int .i64 0, .string c] 23)) (w1.heap.size + 2) 23 #[.int .i64 2, .int .i64 0, .string c] from blk_at (by simp))
    replace HW := Lib.hid (blw_al HW.out (.cells #[.int .i64 2, .int .i64 0, .string c] 23))
    have x0 := blk_cell HXx.out 0 rfl
    have x1 := blk_cell HXx.out 1 rfl
    have x2 := blk_cell HXx.out 2 rfl
    have y0 := blk_cell HXy.out 0 rfl
    have y1 := blk_cell HXy.out 1 rfl
    have y2 := blk_cell HXy.out 2 rfl
    have z0 := blk_cell HXz.out 0 rfl
    have z1 := blk_cell HXz.out 1 rfl
    have z2 := blk_cell HXz.out 2 rfl
    go_wp2_with fail
    refine (hp _).mono ?_
    rintro e' w2 ⟨rfl, b⟩
    replace HW := Lib.hid (blw_on HW.out b)
    replace HXx := Lib.hid (blk_below HXx.out b)
    replace HXy := Lib.hid (blk_below HXy.out b)
    replace HXz := Lib.hid (blk_below HXz.out b)
    clear x0 x1 x2 y0 y1 y2 z0 z1 z2
    clear b
    replace HXx := Lib.hid (blk_alloc HXx.out (.cells #[.int .i64 0, .int .i64 0, .string ⟨#[]⟩] 23))
    replace HXy := Lib.hid (blk_alloc HXy.out (.cells #[.int .i64 0, .int .i64 0, .string ⟨#[]⟩] 23))
    replace HXz := Lib.hid (blk_alloc HXz.out (.cells #[.int .i64 0, .int .i64 0, .string ⟨#[]⟩] 23))
    have HXp := Lib.hid (blk_new w2 23 #[.int .i64 0, .int .i64 0, .string ⟨#[]⟩])
    replace HW := Lib.hid (blw_al HW.out (.cells #[.int .i64 0, .int .i64 0, .string ⟨#[]⟩] 23))
    have y0 := blk_cell HXy.out 0 rfl
    have y1 := blk_cell HXy.out 1 rfl
    have y2 := blk_cell HXy.out 2 rfl
    have z0 := blk_cell HXz.out 0 rfl
    have z1 := blk_cell HXz.out 1 rfl
    have z2 := blk_cell HXz.out 2 rfl
    go_wp2_with fail
    refine (hq _).mono ?_
    rintro e' w3 ⟨rfl, b⟩
    replace HW := Lib.hid (blw_on HW.out b)
    replace HXx := Lib.hid (blk_below HXx.out b)
    replace HXy := Lib.hid (blk_below HXy.out b)
    replace HXz := Lib.hid (blk_below HXz.out b)
    replace HXp := Lib.hid (blk_below HXp.out b)
    clear y0 y1 y2 z0 z1 z2
    clear b
    replace HXx := Lib.hid (blk_alloc HXx.out (.cells #[.int .i64 k, .int .i64 n, .string s] 23))
    replace HXy := Lib.hid (blk_alloc HXy.out (.cells #[.int .i64 k, .int .i64 n, .string s] 23))
    replace HXz := Lib.hid (blk_alloc HXz.out (.cells #[.int .i64 k, .int .i64 n, .string s] 23))
    replace HXp := Lib.hid (blk_alloc HXp.out (.cells #[.int .i64 k, .int .i64 n, .string s] 23))
    have HXq := Lib.hid (blk_new w3 23 #[.int .i64 k, .int .i64 n, .string s])
    replace HW := Lib.hid (blw_al HW.out (.cells #[.int .i64 k, .int .i64 n, .string s] 23))
    go_wp2_with fail
    go_ret
    exact ⟨rfl, HW.out⟩
set_option maxRecDepth 100000 in
set_option maxHeartbeats 2000000 in
theorem texts_long2 (a b c x y s : ByteArray) (k n e : Int) (w : World) (ha : a.size ≤ 1000) (hb : b.size ≤ 1000) (hc : c.size ≤ 1000) 
    (hp : ∀ w, Calls Try.prog 29 #[.string ⟨#[124, 124]⟩, .agg #[.int .i64 2, .int .i64 0, .string a], .agg #[.int .i64 2, .int .i64 0, .string b], .bool false] w fun e' w' => e' = .returned (.tuple #[.agg #[.int .i64 2, .int .i64 0, .string x], .int .i64 0]) ∧ Below w.heap.size w w')
    (hq : ∀ w, Calls Try.prog 29 #[.string ⟨#[124, 124]⟩, .agg #[.int .i64 2, .int .i64 0, .string b], .agg #[.int .i64 2, .int .i64 0, .string c], .bool false] w fun e' w' => e' = .returned (.tuple #[.agg #[.int .i64 0, .int .i64 0, .string ⟨#[]⟩], .int .i64 12]) ∧ Below w.heap.size w w') :
    Calls Try.prog 9 #[.string a, .string b, .string c] w fun e w' => e = .returned (.bool true) ∧ Below w.heap.size w w' := by
    have hgd := guardV
    have HW := Lib.hid (Below.refl w.heap.size w)
    go_enter Try.func9, Try.ntmps9
    go_wp2_with fail
    refine (works6_any _).mono ?_
    rintro e' w1 ⟨rfl, b⟩
    replace HW := Lib.hid (blw_on HW.out b)
    clear b
    have HXx := Lib.hid (blk_new w1 23 #[.int .i64 2, .int .i64 0, .string a])
    replace HW := Lib.hid (blw_al HW.out (.cells #[.int .i64 2, .int .i64 0, .string a] 23))
    replace HXx := Lib.hid (blk_alloc HXx.out (.cells #[.int .i64 2, .int .i64 0, .string b] 23))
    have HXy := Lib.hid (show Blk ((w1.alloc (.cells #[.int .i64 2, .int .i64 0, .string a] 23)).alloc (.cells #[.int .i64 2, .int .i64 0, .string b] 23)) (w1.heap.size + 1) 23 #[.int .i64 2, .int .i64 0, .string b] from blk_at (by simp))
    replace HW := Lib.hid (blw_al HW.out (.cells #[.int .i64 2, .int .i64 0, .string b] 23))
    replace HXx := Lib.hid (blk_alloc HXx.out (.cells #[.int .i64 2, .int .i64 0, .string c] 23))
    replace HXy := Lib.hid (blk_alloc HXy.out (.cells #[.int .i64 2, .int .i64 0, .string c] 23))
    have HXz := Lib.hid (show Blk (((w1.alloc (.cells #[.int .i64 2, .int .i64 0, .string a] 23)).alloc (.cells #[.int .i64 2, .int .i64 0, .string b] 23)).alloc (.cells #[.int .i64 2, .int .i64 0, .string c] 23)) (w1.heap.size + 2) 23 #[.int .i64 2, .int .i64 0, .string c] from blk_at (by simp))
    replace HW := Lib.hid (blw_al HW.out (.cells #[.int .i64 2, .int .i64 0, .string c] 23))
    have x0 := blk_cell HXx.out 0 rfl
    have x1 := blk_cell HXx.out 1 rfl
    have x2 := blk_cell HXx.out 2 rfl
    have y0 := blk_cell HXy.out 0 rfl
    have y1 := blk_cell HXy.out 1 rfl
    have y2 := blk_cell HXy.out 2 rfl
    have z0 := blk_cell HXz.out 0 rfl
    have z1 := blk_cell HXz.out 1 rfl
    have z2 := blk_cell HXz.out 2 rfl
    go_wp2_with fail
    refine (hp _).mono ?_
    rintro e' w2 ⟨rfl, b⟩
    replace HW := Lib.hid (blw_on HW.out b)
    replace HXx := Lib.hid (blk_below HXx.out b)
    replace HXy := Lib.hid (blk_below HXy.out b)
    replace HXz := Lib.hid (blk_below HXz.out b)
    clear x0 x1 x2 y0 y1 y2 z0 z1 z2
    clear b
    replace HXx := Lib.hid (blk_alloc HXx.out (.cells #[.int .i64 2, .int .i64 0, .string x] 23))
    replace HXy := Lib.hid (blk_alloc HXy.out (.cells #[.int .i64 2, .int .i64 0, .string x] 23))
    replace HXz := Lib.hid (blk_alloc HXz.out (.cells #[.int .i64 2, .int .i64 0, .string x] 23))
    have HXp := Lib.hid (blk_new w2 23 #[.int .i64 2, .int .i64 0, .string x])
    replace HW := Lib.hid (blw_al HW.out (.cells #[.int .i64 2, .int .i64 0, .string x] 23))
    have y0 := blk_cell HXy.out 0 rfl
    have y1 := blk_cell HXy.out 1 rfl
    have y2 := blk_cell HXy.out 2 rfl
    have z0 := blk_cell HXz.out 0 rfl
    have z1 := blk_cell HXz.out 1 rfl
    have z2 := blk_cell HXz.out 2 rfl
    go_wp2_with fail
    refine (hq _).mono ?_
    rintro e' w3 ⟨rfl, b⟩
    replace HW := Lib.hid (blw_on HW.out b)
    replace HXx := Lib.hid (blk_below HXx.out b)
    replace HXy := Lib.hid (blk_below HXy.out b)
    replace HXz := Lib.hid (blk_below HXz.out b)
    replace HXp := Lib.hid (blk_below HXp.out b)
    clear y0 y1 y2 z0 z1 z2
    clear b
    replace HXx := Lib.hid (blk_alloc HXx.out (.cells #[.int .i64 0, .int .i64 0, .string ⟨#[]⟩] 23))
    replace HXy := Lib.hid (blk_alloc HXy.out (.cells #[.int .i64 0, .int .i64 0, .string ⟨#[]⟩] 23))
    replace HXz := Lib.hid (blk_alloc HXz.out (.cells #[.int .i64 0, .int .i64 0, .string ⟨#[]⟩] 23))
    replace HXp := Lib.hid (blk_alloc HXp.out (.cells #[.int .i64 0, .int .i64 0, .string ⟨#[]⟩] 23))
    have HXq := Lib.hid (blk_new w3 23 #[.int .i64 0, .int .i64 0, .string ⟨#[]⟩])
    replace HW := Lib.hid (blw_al HW.out (.cells #[.int .i64 0, .int .i64 0, .string ⟨#[]⟩] 23))
    go_wp2_with fail
    go_ret
    exact ⟨rfl, HW.out⟩
set_option maxRecDepth 100000 in
set_option maxHeartbeats 2000000 in
theorem texts_over (a b c x y s : ByteArray) (k n e : Int) (w : World) (ha : a.size ≤ 1000) (hb : b.size ≤ 1000) (hc : c.size ≤ 1000) (hl : 1000 < a.size + b.size + c.size)
    (hp : ∀ w, Calls Try.prog 29 #[.string ⟨#[124, 124]⟩, .agg #[.int .i64 2, .int .i64 0, .string a], .agg #[.int .i64 2, .int .i64 0, .string b], .bool false] w fun e' w' => e' = .returned (.tuple #[.agg #[.int .i64 2, .int .i64 0, .string x], .int .i64 0]) ∧ Below w.heap.size w w')
    (hq : ∀ w, Calls Try.prog 29 #[.string ⟨#[124, 124]⟩, .agg #[.int .i64 2, .int .i64 0, .string b], .agg #[.int .i64 2, .int .i64 0, .string c], .bool false] w fun e' w' => e' = .returned (.tuple #[.agg #[.int .i64 2, .int .i64 0, .string y], .int .i64 0]) ∧ Below w.heap.size w w')
    (hr : ∀ w, Calls Try.prog 29 #[.string ⟨#[124, 124]⟩, .agg #[.int .i64 2, .int .i64 0, .string x], .agg #[.int .i64 2, .int .i64 0, .string c], .bool false] w fun e' w' => e' = .returned (.tuple #[.agg #[.int .i64 0, .int .i64 0, .string ⟨#[]⟩], .int .i64 12]) ∧ Below w.heap.size w w')
    (hs : ∀ w, Calls Try.prog 29 #[.string ⟨#[124, 124]⟩, .agg #[.int .i64 2, .int .i64 0, .string a], .agg #[.int .i64 2, .int .i64 0, .string y], .bool false] w fun e' w' => e' = .returned (.tuple #[.agg #[.int .i64 0, .int .i64 0, .string ⟨#[]⟩], .int .i64 12]) ∧ Below w.heap.size w w') :
    Calls Try.prog 9 #[.string a, .string b, .string c] w fun e w' => e = .returned (.bool true) ∧ Below w.heap.size w w' := by
    have hgd := guardV
    have e0 := run_eqlS 0 0 ⟨#[]⟩
    have HW := Lib.hid (Below.refl w.heap.size w)
    go_enter Try.func9, Try.ntmps9
    go_wp2_with fail
    refine (works6_any _).mono ?_
    rintro e' w1 ⟨rfl, b⟩
    replace HW := Lib.hid (blw_on HW.out b)
    clear b
    have HXx := Lib.hid (blk_new w1 23 #[.int .i64 2, .int .i64 0, .string a])
    replace HW := Lib.hid (blw_al HW.out (.cells #[.int .i64 2, .int .i64 0, .string a] 23))
    replace HXx := Lib.hid (blk_alloc HXx.out (.cells #[.int .i64 2, .int .i64 0, .string b] 23))
    have HXy := Lib.hid (show Blk ((w1.alloc (.cells #[.int .i64 2, .int .i64 0, .string a] 23)).alloc (.cells #[.int .i64 2, .int .i64 0, .string b] 23)) (w1.heap.size + 1) 23 #[.int .i64 2, .int .i64 0, .string b] from blk_at (by simp))
    replace HW := Lib.hid (blw_al HW.out (.cells #[.int .i64 2, .int .i64 0, .string b] 23))
    replace HXx := Lib.hid (blk_alloc HXx.out (.cells #[.int .i64 2, .int .i64 0, .string c] 23))
    replace HXy := Lib.hid (blk_alloc HXy.out (.cells #[.int .i64 2, .int .i64 0, .string c] 23))
    have HXz := Lib.hid (show Blk (((w1.alloc (.cells #[.int .i64 2, .int .i64 0, .string a] 23)).alloc (.cells #[.int .i64 2, .int .i64 0, .string b] 23)).alloc (.cells #[.int .i64 2, .int .i64 0, .string c] 23)) (w1.heap.size + 2) 23 #[.int .i64 2, .int .i64 0, .string c] from blk_at (by simp))
    replace HW := Lib.hid (blw_al HW.out (.cells #[.int .i64 2, .int .i64 0, .string c] 23))
    have x0 := blk_cell HXx.out 0 rfl
    have x1 := blk_cell HXx.out 1 rfl
    have x2 := blk_cell HXx.out 2 rfl
    have y0 := blk_cell HXy.out 0 rfl
    have y1 := blk_cell HXy.out 1 rfl
    have y2 := blk_cell HXy.out 2 rfl
    have z0 := blk_cell HXz.out 0 rfl
    have z1 := blk_cell HXz.out 1 rfl
    have z2 := blk_cell HXz.out 2 rfl
    go_wp2_with fail
    refine (hp _).mono ?_
    rintro e' w2 ⟨rfl, b⟩
    replace HW := Lib.hid (blw_on HW.out b)
    replace HXx := Lib.hid (blk_below HXx.out b)
    replace HXy := Lib.hid (blk_below HXy.out b)
    replace HXz := Lib.hid (blk_below HXz.out b)
    clear x0 x1 x2 y0 y1 y2 z0 z1 z2
    clear b
    replace HXx := Lib.hid (blk_alloc HXx.out (.cells #[.int .i64 2, .int .i64 0, .string x] 23))
    replace HXy := Lib.hid (blk_alloc HXy.out (.cells #[.int .i64 2, .int .i64 0, .string x] 23))
    replace HXz := Lib.hid (blk_alloc HXz.out (.cells #[.int .i64 2, .int .i64 0, .string x] 23))
    have HXp := Lib.hid (blk_new w2 23 #[.int .i64 2, .int .i64 0, .string x])
    replace HW := Lib.hid (blw_al HW.out (.cells #[.int .i64 2, .int .i64 0, .string x] 23))
    have y0 := blk_cell HXy.out 0 rfl
    have y1 := blk_cell HXy.out 1 rfl
    have y2 := blk_cell HXy.out 2 rfl
    have z0 := blk_cell HXz.out 0 rfl
    have z1 := blk_cell HXz.out 1 rfl
    have z2 := blk_cell HXz.out 2 rfl
    go_wp2_with fail
    refine (hq _).mono ?_
    rintro e' w3 ⟨rfl, b⟩
    replace HW := Lib.hid (blw_on HW.out b)
    replace HXx := Lib.hid (blk_below HXx.out b)
    replace HXy := Lib.hid (blk_below HXy.out b)
    replace HXz := Lib.hid (blk_below HXz.out b)
    replace HXp := Lib.hid (blk_below HXp.out b)
    clear y0 y1 y2 z0 z1 z2
    clear b
    replace HXx := Lib.hid (blk_alloc HXx.out (.cells #[.int .i64 2, .int .i64 0, .string y] 23))
    replace HXy := Lib.hid (blk_alloc HXy.out (.cells #[.int .i64 2, .int .i64 0, .string y] 23))
    replace HXz := Lib.hid (blk_alloc HXz.out (.cells #[.int .i64 2, .int .i64 0, .string y] 23))
    replace HXp := Lib.hid (blk_alloc HXp.out (.cells #[.int .i64 2, .int .i64 0, .string y] 23))
    have HXq := Lib.hid (blk_new w3 23 #[.int .i64 2, .int .i64 0, .string y])
    replace HW := Lib.hid (blw_al HW.out (.cells #[.int .i64 2, .int .i64 0, .string y] 23))
    have p0 := blk_cell HXp.out 0 rfl
    have p1 := blk_cell HXp.out 1 rfl
    have p2 := blk_cell HXp.out 2 rfl
    have z0 := blk_cell HXz.out 0 rfl
    have z1 := blk_cell HXz.out 1 rfl
    have z2 := blk_cell HXz.out 2 rfl
    go_wp2_with fail
    refine (hr _).mono ?_
    rintro e' w4 ⟨rfl, b⟩
    replace HW := Lib.hid (blw_on HW.out b)
    replace HXx := Lib.hid (blk_below HXx.out b)
    replace HXy := Lib.hid (blk_below HXy.out b)
    replace HXz := Lib.hid (blk_below HXz.out b)
    replace HXp := Lib.hid (blk_below HXp.out b)
    replace HXq := Lib.hid (blk_below HXq.out b)
    clear p0 p1 p2 z0 z1 z2
    clear b
    replace HXx := Lib.hid (blk_alloc HXx.out (.cells #[.int .i64 0, .int .i64 0, .string ⟨#[]⟩] 23))
    replace HXy := Lib.hid (blk_alloc HXy.out (.cells #[.int .i64 0, .int .i64 0, .string ⟨#[]⟩] 23))
    replace HXz := Lib.hid (blk_alloc HXz.out (.cells #[.int .i64 0, .int .i64 0, .string ⟨#[]⟩] 23))
    replace HXp := Lib.hid (blk_alloc HXp.out (.cells #[.int .i64 0, .int .i64 0, .string ⟨#[]⟩] 23))
    replace HXq := Lib.hid (blk_alloc HXq.out (.cells #[.int .i64 0, .int .i64 0, .string ⟨#[]⟩] 23))
    have HXr := Lib.hid (blk_new w4 23 #[.int .i64 0, .int .i64 0, .string ⟨#[]⟩])
    replace HW := Lib.hid (blw_al HW.out (.cells #[.int .i64 0, .int .i64 0, .string ⟨#[]⟩] 23))
    have x0 := blk_cell HXx.out 0 rfl
    have x1 := blk_cell HXx.out 1 rfl
    have x2 := blk_cell HXx.out 2 rfl
    have q0 := blk_cell HXq.out 0 rfl
    have q1 := blk_cell HXq.out 1 rfl
    have q2 := blk_cell HXq.out 2 rfl
    go_wp2_with fail
    refine (hs _).mono ?_
    rintro e' w5 ⟨rfl, b⟩
    replace HW := Lib.hid (blw_on HW.out b)
    replace HXx := Lib.hid (blk_below HXx.out b)
    replace HXy := Lib.hid (blk_below HXy.out b)
    replace HXz := Lib.hid (blk_below HXz.out b)
    replace HXp := Lib.hid (blk_below HXp.out b)
    replace HXq := Lib.hid (blk_below HXq.out b)
    replace HXr := Lib.hid (blk_below HXr.out b)
    clear x0 x1 x2 q0 q1 q2
    clear b
    replace HXx := Lib.hid (blk_alloc HXx.out (.cells #[.int .i64 0, .int .i64 0, .string ⟨#[]⟩] 23))
    replace HXy := Lib.hid (blk_alloc HXy.out (.cells #[.int .i64 0, .int .i64 0, .string ⟨#[]⟩] 23))
    replace HXz := Lib.hid (blk_alloc HXz.out (.cells #[.int .i64 0, .int .i64 0, .string ⟨#[]⟩] 23))
    replace HXp := Lib.hid (blk_alloc HXp.out (.cells #[.int .i64 0, .int .i64 0, .string ⟨#[]⟩] 23))
    replace HXq := Lib.hid (blk_alloc HXq.out (.cells #[.int .i64 0, .int .i64 0, .string ⟨#[]⟩] 23))
    replace HXr := Lib.hid (blk_alloc HXr.out (.cells #[.int .i64 0, .int .i64 0, .string ⟨#[]⟩] 23))
    have HXs := Lib.hid (blk_new w5 23 #[.int .i64 0, .int .i64 0, .string ⟨#[]⟩])
    replace HW := Lib.hid (blw_al HW.out (.cells #[.int .i64 0, .int .i64 0, .string ⟨#[]⟩] 23))
    have r0 := blk_cell HXr.out 0 rfl
    have r1 := blk_cell HXr.out 1 rfl
    have r2 := blk_cell HXr.out 2 rfl
    have s0 := blk_cell HXs.out 0 rfl
    have s1 := blk_cell HXs.out 1 rfl
    have s2 := blk_cell HXs.out 2 rfl
    go_wp2_with fail
    go_ret
    exact ⟨lg_retB (by simp; omega), HW.out⟩
set_option maxRecDepth 100000 in
set_option maxHeartbeats 2000000 in
theorem texts_ok (a b c x y s : ByteArray) (k n e : Int) (w : World) (ha : a.size ≤ 1000) (hb : b.size ≤ 1000) (hc : c.size ≤ 1000) (hl : a.size + b.size + c.size ≤ 1000)
    (hp : ∀ w, Calls Try.prog 29 #[.string ⟨#[124, 124]⟩, .agg #[.int .i64 2, .int .i64 0, .string a], .agg #[.int .i64 2, .int .i64 0, .string b], .bool false] w fun e' w' => e' = .returned (.tuple #[.agg #[.int .i64 2, .int .i64 0, .string x], .int .i64 0]) ∧ Below w.heap.size w w')
    (hq : ∀ w, Calls Try.prog 29 #[.string ⟨#[124, 124]⟩, .agg #[.int .i64 2, .int .i64 0, .string b], .agg #[.int .i64 2, .int .i64 0, .string c], .bool false] w fun e' w' => e' = .returned (.tuple #[.agg #[.int .i64 2, .int .i64 0, .string y], .int .i64 0]) ∧ Below w.heap.size w w')
    (hr : ∀ w, Calls Try.prog 29 #[.string ⟨#[124, 124]⟩, .agg #[.int .i64 2, .int .i64 0, .string x], .agg #[.int .i64 2, .int .i64 0, .string c], .bool false] w fun e' w' => e' = .returned (.tuple #[.agg #[.int .i64 2, .int .i64 0, .string (a ++ b ++ c)], .int .i64 0]) ∧ Below w.heap.size w w')
    (hs : ∀ w, Calls Try.prog 29 #[.string ⟨#[124, 124]⟩, .agg #[.int .i64 2, .int .i64 0, .string a], .agg #[.int .i64 2, .int .i64 0, .string y], .bool false] w fun e' w' => e' = .returned (.tuple #[.agg #[.int .i64 2, .int .i64 0, .string (a ++ b ++ c)], .int .i64 0]) ∧ Below w.heap.size w w') :
    Calls Try.prog 9 #[.string a, .string b, .string c] w fun e w' => e = .returned (.bool true) ∧ Below w.heap.size w w' := by
    have hgd := guardV
    have e0 := run_eqlS 2 0 (a ++ b ++ c)
    have HW := Lib.hid (Below.refl w.heap.size w)
    go_enter Try.func9, Try.ntmps9
    go_wp2_with fail
    refine (works6_any _).mono ?_
    rintro e' w1 ⟨rfl, b⟩
    replace HW := Lib.hid (blw_on HW.out b)
    clear b
    have HXx := Lib.hid (blk_new w1 23 #[.int .i64 2, .int .i64 0, .string a])
    replace HW := Lib.hid (blw_al HW.out (.cells #[.int .i64 2, .int .i64 0, .string a] 23))
    replace HXx := Lib.hid (blk_alloc HXx.out (.cells #[.int .i64 2, .int .i64 0, .string b] 23))
    have HXy := Lib.hid (show Blk ((w1.alloc (.cells #[.int .i64 2, .int .i64 0, .string a] 23)).alloc (.cells #[.int .i64 2, .int .i64 0, .string b] 23)) (w1.heap.size + 1) 23 #[.int .i64 2, .int .i64 0, .string b] from blk_at (by simp))
    replace HW := Lib.hid (blw_al HW.out (.cells #[.int .i64 2, .int .i64 0, .string b] 23))
    replace HXx := Lib.hid (blk_alloc HXx.out (.cells #[.int .i64 2, .int .i64 0, .string c] 23))
    replace HXy := Lib.hid (blk_alloc HXy.out (.cells #[.int .i64 2, .int .i64 0, .string c] 23))
    have HXz := Lib.hid (show Blk (((w1.alloc (.cells #[.int .i64 2, .int .i64 0, .string a] 23)).alloc (.cells #[.int .i64 2, .int .i64 0, .string b] 23)).alloc (.cells #[.int .i64 2, .int .i64 0, .string c] 23)) (w1.heap.size + 2) 23 #[.int .i64 2, .int .i64 0, .string c] from blk_at (by simp))
    replace HW := Lib.hid (blw_al HW.out (.cells #[.int .i64 2, .int .i64 0, .string c] 23))
    have x0 := blk_cell HXx.out 0 rfl
    have x1 := blk_cell HXx.out 1 rfl
    have x2 := blk_cell HXx.out 2 rfl
    have y0 := blk_cell HXy.out 0 rfl
    have y1 := blk_cell HXy.out 1 rfl
    have y2 := blk_cell HXy.out 2 rfl
    have z0 := blk_cell HXz.out 0 rfl
    have z1 := blk_cell HXz.out 1 rfl
    have z2 := blk_cell HXz.out 2 rfl
    go_wp2_with fail
    refine (hp _).mono ?_
    rintro e' w2 ⟨rfl, b⟩
    replace HW := Lib.hid (blw_on HW.out b)
    replace HXx := Lib.hid (blk_below HXx.out b)
    replace HXy := Lib.hid (blk_below HXy.out b)
    replace HXz := Lib.hid (blk_below HXz.out b)
    clear x0 x1 x2 y0 y1 y2 z0 z1 z2
    clear b
    replace HXx := Lib.hid (blk_alloc HXx.out (.cells #[.int .i64 2, .int .i64 0, .string x] 23))
    replace HXy := Lib.hid (blk_alloc HXy.out (.cells #[.int .i64 2, .int .i64 0, .string x] 23))
    replace HXz := Lib.hid (blk_alloc HXz.out (.cells #[.int .i64 2, .int .i64 0, .string x] 23))
    have HXp := Lib.hid (blk_new w2 23 #[.int .i64 2, .int .i64 0, .string x])
    replace HW := Lib.hid (blw_al HW.out (.cells #[.int .i64 2, .int .i64 0, .string x] 23))
    have y0 := blk_cell HXy.out 0 rfl
    have y1 := blk_cell HXy.out 1 rfl
    have y2 := blk_cell HXy.out 2 rfl
    have z0 := blk_cell HXz.out 0 rfl
    have z1 := blk_cell HXz.out 1 rfl
    have z2 := blk_cell HXz.out 2 rfl
    go_wp2_with fail
    refine (hq _).mono ?_
    rintro e' w3 ⟨rfl, b⟩
    replace HW := Lib.hid (blw_on HW.out b)
    replace HXx := Lib.hid (blk_below HXx.out b)
    replace HXy := Lib.hid (blk_below HXy.out b)
    replace HXz := Lib.hid (blk_below HXz.out b)
    replace HXp := Lib.hid (blk_below HXp.out b)
    clear y0 y1 y2 z0 z1 z2
    clear b
    replace HXx := Lib.hid (blk_alloc HXx.out (.cells #[.int .i64 2, .int .i64 0, .string y] 23))
    replace HXy := Lib.hid (blk_alloc HXy.out (.cells #[.int .i64 2, .int .i64 0, .string y] 23))
    replace HXz := Lib.hid (blk_alloc HXz.out (.cells #[.int .i64 2, .int .i64 0, .string y] 23))
    replace HXp := Lib.hid (blk_alloc HXp.out (.cells #[.int .i64 2, .int .i64 0, .string y] 23))
    have HXq := Lib.hid (blk_new w3 23 #[.int .i64 2, .int .i64 0, .string y])
    replace HW := Lib.hid (blw_al HW.out (.cells #[.int .i64 2, .int .i64 0, .string y] 23))
    have p0 := blk_cell HXp.out 0 rfl
    have p1 := blk_cell HXp.out 1 rfl
    have p2 := blk_cell HXp.out 2 rfl
    have z0 := blk_cell HXz.out 0 rfl
    have z1 := blk_cell HXz.out 1 rfl
    have z2 := blk_cell HXz.out 2 rfl
    go_wp2_with fail
    refine (hr _).mono ?_
    rintro e' w4 ⟨rfl, b⟩
    replace HW := Lib.hid (blw_on HW.out b)
    replace HXx := Lib.hid (blk_below HXx.out b)
    replace HXy := Lib.hid (blk_below HXy.out b)
    replace HXz := Lib.hid (blk_below HXz.out b)
    replace HXp := Lib.hid (blk_below HXp.out b)
    replace HXq := Lib.hid (blk_below HXq.out b)
    clear p0 p1 p2 z0 z1 z2
    clear b
    replace HXx := Lib.hid (blk_alloc HXx.out (.cells #[.int .i64 2, .int .i64 0, .string (a ++ b ++ c)] 23))
    replace HXy := Lib.hid (blk_alloc HXy.out (.cells #[.int .i64 2, .int .i64 0, .string (a ++ b ++ c)] 23))
    replace HXz := Lib.hid (blk_alloc HXz.out (.cells #[.int .i64 2, .int .i64 0, .string (a ++ b ++ c)] 23))
    replace HXp := Lib.hid (blk_alloc HXp.out (.cells #[.int .i64 2, .int .i64 0, .string (a ++ b ++ c)] 23))
    replace HXq := Lib.hid (blk_alloc HXq.out (.cells #[.int .i64 2, .int .i64 0, .string (a ++ b ++ c)] 23))
    have HXr := Lib.hid (blk_new w4 23 #[.int .i64 2, .int .i64 0, .string (a ++ b ++ c)])
    replace HW := Lib.hid (blw_al HW.out (.cells #[.int .i64 2, .int .i64 0, .string (a ++ b ++ c)] 23))
    have x0 := blk_cell HXx.out 0 rfl
    have x1 := blk_cell HXx.out 1 rfl
    have x2 := blk_cell HXx.out 2 rfl
    have q0 := blk_cell HXq.out 0 rfl
    have q1 := blk_cell HXq.out 1 rfl
    have q2 := blk_cell HXq.out 2 rfl
    go_wp2_with fail
    refine (hs _).mono ?_
    rintro e' w5 ⟨rfl, b⟩
    replace HW := Lib.hid (blw_on HW.out b)
    replace HXx := Lib.hid (blk_below HXx.out b)
    replace HXy := Lib.hid (blk_below HXy.out b)
    replace HXz := Lib.hid (blk_below HXz.out b)
    replace HXp := Lib.hid (blk_below HXp.out b)
    replace HXq := Lib.hid (blk_below HXq.out b)
    replace HXr := Lib.hid (blk_below HXr.out b)
    clear x0 x1 x2 q0 q1 q2
    clear b
    replace HXx := Lib.hid (blk_alloc HXx.out (.cells #[.int .i64 2, .int .i64 0, .string (a ++ b ++ c)] 23))
    replace HXy := Lib.hid (blk_alloc HXy.out (.cells #[.int .i64 2, .int .i64 0, .string (a ++ b ++ c)] 23))
    replace HXz := Lib.hid (blk_alloc HXz.out (.cells #[.int .i64 2, .int .i64 0, .string (a ++ b ++ c)] 23))
    replace HXp := Lib.hid (blk_alloc HXp.out (.cells #[.int .i64 2, .int .i64 0, .string (a ++ b ++ c)] 23))
    replace HXq := Lib.hid (blk_alloc HXq.out (.cells #[.int .i64 2, .int .i64 0, .string (a ++ b ++ c)] 23))
    replace HXr := Lib.hid (blk_alloc HXr.out (.cells #[.int .i64 2, .int .i64 0, .string (a ++ b ++ c)] 23))
    have HXs := Lib.hid (blk_new w5 23 #[.int .i64 2, .int .i64 0, .string (a ++ b ++ c)])
    replace HW := Lib.hid (blw_al HW.out (.cells #[.int .i64 2, .int .i64 0, .string (a ++ b ++ c)] 23))
    have r0 := blk_cell HXr.out 0 rfl
    have r1 := blk_cell HXr.out 1 rfl
    have r2 := blk_cell HXr.out 2 rfl
    have s0 := blk_cell HXs.out 0 rfl
    have s1 := blk_cell HXs.out 1 rfl
    have s2 := blk_cell HXs.out 2 rfl
    go_wp2_with fail
    go_ret
    exact ⟨rfl, HW.out⟩
theorem texts_any (a b c : ByteArray) (w : World) (ha : a.size ≤ 140737488351232) (hb : b.size ≤ 140737488351232) (hc : c.size ≤ 140737488351232) :
    Calls Try.prog 9 #[.string a, .string b, .string c] w fun e w' => e = .returned (.bool true) ∧ Below w.heap.size w w' := by
  by_cases hg : 1000 < a.size ∨ a.size ≤ 1000 ∧ 1000 < b.size ∨ a.size ≤ 1000 ∧ b.size ≤ 1000 ∧ 1000 < c.size
  · exact texts_great a b c w ha hb hc hg
  have h1 : a.size ≤ 1000 := by omega
  have h2 : b.size ≤ 1000 := by omega
  have h3 : c.size ≤ 1000 := by omega
  have sab : (a ++ b).size = a.size + b.size := ByteArray.size_append
  have sbc : (b ++ c).size = b.size + c.size := ByteArray.size_append
  by_cases hab : 1000 < a.size + b.size
  · exact texts_long a b c ⟨#[]⟩ ⟨#[]⟩ _ _ _ _ w h1 h2 h3 (cat_is a b 0 0 ⟨#[]⟩ 12 ha hb (catR_long hab)) (cat_is b c _ _ _ _ hb hc rfl)
  have hp := cat_is a b 2 0 (a ++ b) 0 ha hb (catR_ok hab)
  by_cases hbc : 1000 < b.size + c.size
  · exact texts_long2 a b c (a ++ b) ⟨#[]⟩ ⟨#[]⟩ 0 0 0 w h1 h2 h3 hp (cat_is b c 0 0 ⟨#[]⟩ 12 hb hc (catR_long hbc))
  have hq := cat_is b c 2 0 (b ++ c) 0 hb hc (catR_ok hbc)
  by_cases hl : 1000 < a.size + b.size + c.size
  · exact texts_over a b c (a ++ b) (b ++ c) ⟨#[]⟩ 0 0 0 w h1 h2 h3 hl hp hq (cat_is (a ++ b) c 0 0 ⟨#[]⟩ 12 (by omega) hc (catR_long (by omega))) (cat_is a (b ++ c) 0 0 ⟨#[]⟩ 12 ha (by omega) (catR_long (by omega)))
  · refine texts_ok a b c (a ++ b) (b ++ c) ⟨#[]⟩ 0 0 0 w h1 h2 h3 (by omega) hp hq (cat_is (a ++ b) c 2 0 (a ++ b ++ c) 0 (by omega) hc (catR_ok (by omega))) (cat_is a (b ++ c) 2 0 (a ++ b ++ c) 0 ha (by omega) ?_)
    rw [catR_ok (by omega), ByteArray.append_assoc]
end Go.Proofs.Ytadbmjmikoggbaa
