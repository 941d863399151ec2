/-
  Layer 16, the program's decode and Read (annexe/node): the node of a page, or that there is none; they change nothing that was there. Condition: at most 100000 bytes.
-/
import Derived.Test.YtdpjmijdlheajaaNpRead3
namespace Go.Proofs.Ytdpjmijdlheajaa
open Go.RowKit

/-- decode's own frame: the result's block, the reader's, the node's. -/
structure DI (w : World) (b g2 g4 : Nat) (cs : Array Value) (W : World) : Prop where
  b2 : Blk W g2 32 #[.bool false, .slice none 0 0, .slice none 0 0]
  b4 : Blk W g4 32 cs
  bw : Below w.heap.size w W
  h2 : w.heap.size ≤ g2
  hb : w.heap.size ≤ b
  n2 : b ≠ g2
  n4 : b ≠ g4
  n24 : g2 ≠ g4
  h4 : w.heap.size ≤ g4
section
variable {w W W' : World} {b g2 g4 : Nat} {cs : Array Value}
theorem DI.step (h : DI w b g2 g4 cs W) (hg : W.grownBy W' (some b)) : DI w b g2 g4 cs W' :=
  ⟨blk_gby h.b2 hg (Ne.symm h.n2), blk_gby h.b4 hg (Ne.symm h.n4), h.bw.trans (gby_below hg h.hb h.bw.size), h.h2, h.hb, h.n2, h.n4, h.n24, h.h4⟩
theorem DI.set (h : DI w b g2 g4 cs W) (i : Nat) (v : Value) : DI w b g2 g4 (cs.setIfInBounds i v) (W.setCell ⟨g4, i, none⟩ v) :=
  ⟨blk_other h.b2 h.n24 i v, blk_set h.b4 i v, h.bw.setCell h.h4 v, h.h2, h.hb, h.n2, h.n4, h.n24, h.h4⟩
end
theorem di_start {w W : World} {s : List UInt8} {cs : Array Value}
    (hg : ((w.alloc (.cells #[.bool false, .slice none 0 0, .slice none 0 0] 32)).alloc (.cells #[.string (nb s)] 92)).grownBy W (some (w.heap.size + 1))) :
    DI w (w.heap.size + 1) w.heap.size W.heap.size cs (W.alloc (.cells cs 32)) := by
  have hsz := hg.size
  simp only [World.size_alloc] at hsz
  have h2 := blk_gby (blk_alloc (blk_new w 32 #[.bool false, .slice none 0 0, .slice none 0 0]) (.cells #[.string (nb s)] 92)) hg (by omega)
  have hb := gby_below hg (B := w.heap.size) (by omega) (by simp; omega)
  exact ⟨blk_alloc h2 _, blk_new _ _ _, ((blw2 w _ _).trans hb).alloc (by omega) _, Nat.le_refl _, by omega, by omega, by omega, by omega, by omega⟩
theorem decode_end {w W : World} {b g2 g4 base : Nat} {leaf : Bool} {cv kv : Value} {L : List Cel} {K : List Int} (h : DI w b g2 g4 #[.bool leaf, cv, kv] W) (hc : W.ownsRow base 51 4 cv L.length (celsC L)) (hk : W.ownsRow base 3 1 kv K.length (kidsC K))
    (ne : cv.ownBlock = none ∨ cv.ownBlock ≠ kv.ownBlock) (l2 : g2 < base) (l4 : g4 < base) (hbs : base ≤ W.heap.size) : NJ w g4 g2 base 32 51 leaf cv kv L K W :=
  ⟨h.b4, h.b2, hc, hk, ne, l4, l2, Ne.symm h.n24, h.h4, h.h2, h.bw, hbs⟩
theorem own_lift {w : World} {base base' : Nat} {e : TypeId} {size n : Nat} {v : Value} {xs : List Value} (h : w.ownsRow base e size v n xs) (hb : base' ≤ base) : w.ownsRow base' e size v n xs := own_base h hb
set_option maxRecDepth 100000 in
set_option maxHeartbeats 4000000 in
theorem decode_any (s : List UInt8) (w : World) (hs : s.length ≤ 100000) :
    Calls Try.prog 26 #[.string (nb s)] w (NodQ (decN s) w) := by
  have hr0 : R16 ((w.alloc (.cells #[.bool false, .slice none 0 0, .slice none 0 0] 32)).alloc (.cells #[.string (nb s)] 92)) (w.heap.size + 1) s := by
    have := blk_new (w.alloc (.cells #[.bool false, .slice none 0 0, .slice none 0 0] 32)) 92 #[.string (nb s)]
    rw [World.size_alloc] at this
    exact this
  have kT := take_r (w.heap.size + 1) s 1 _ hs (by omega) hr0
  rw [show ((1 : Nat) : Int) = 1 from rfl] at kT
  have kN := fun W h => count_r (w.heap.size + 1) (s.drop 1) W (by rw [List.length_drop]; omega) h
  have hcn := cnt_le (s.drop 1)
  obtain ⟨D, hD⟩ : ∃ D, D = decN s := ⟨_, rfl⟩
  rw [← hD]
  unfold decN at hD
  obtain ⟨n, hn⟩ : ∃ n, n = cntN (s.drop 1) := ⟨_, rfl⟩
  obtain ⟨r, hr⟩ : ∃ r, r = (s.drop 1).drop 2 := ⟨_, rfl⟩
  have hrl : r.length ≤ 100000 := by rw [hr, List.length_drop, List.length_drop]; omega
  rw [← hn] at hcn
  rw [← hn, ← hr] at hD
  rw [← hr] at kN
  rw [← hn] at kN
  have ht : ((nb (s.take 1)).toList == [1]) = decide (s.take 1 = [1]) := by
    rw [nb_toList]
    by_cases h : s.take 1 = [1]
    · rw [h]; rfl
    · rw [decide_eq_false h]; simpa using h
  by_cases hlf : s.take 1 = [1]
  · rw [if_pos hlf] at hD
    rw [decide_eq_true hlf] at ht
    generalize nb (s.take 1) = T at kT ht
    have kC := fun W h => cells_r true (w.heap.size + 1) r n W hrl (by omega) h
    have hl2 := cels_le true n r
    obtain ⟨L, hL⟩ : ∃ L, L = celsD true n r := ⟨_, rfl⟩
    rw [← hL] at kC hD hl2
    subst hD
    clear hr0 hn hr hlf hL
    go_enter Try.func26, Try.ntmps26
    go_upto_region 3 with (go_at_call 48; (with_reducible refine kT.mono ?_); rintro e w2 ⟨rfl, hr2, hg2⟩; have HR2 := Lib.hid hr2; have HG2 := Lib.hid hg2; clear hr2 hg2)
    have HD := Lib.hid (di_start (cs := #[.bool true, .slice none 0 0, .slice none 0 0]) HG2.out)
    have HR3 := Lib.hid (r16_below HR2.out (blw1 w2 (.cells #[.bool true, .slice none 0 0, .slice none 0 0] 32)))
    have HSZ := Lib.hid (show w2.heap.size < (w2.alloc (.cells #[.bool true, .slice none 0 0, .slice none 0 0] 32)).heap.size from by simp)
    have HS2 := Lib.hid (show w.heap.size + 1 < w2.heap.size from blk_lt HR2.out)
    obtain ⟨W3, hW3⟩ : ∃ W3, W3 = w2.alloc (.cells #[.bool true, .slice none 0 0, .slice none 0 0] 32) := ⟨_, rfl⟩
    obtain ⟨g4, hg4⟩ : ∃ g, g = w2.heap.size := ⟨_, rfl⟩
    rw [← hW3, ← hg4]
    rw [← hW3, ← hg4] at HD HSZ
    rw [← hW3] at HR3
    rw [← hg4] at HS2
    clear hW3 hg4 HG2 HR2 kT
    go_upto_region 4 with (go_at_call 49; (with_reducible refine (kN _ HR3.out).mono ?_); rintro e w4 ⟨rfl, hr4, hg4⟩; have HR4 := Lib.hid hr4; have HD4 := Lib.hid (HD.out.step hg4); have HS4 := Lib.hid (Nat.lt_of_lt_of_le HSZ.out hg4.size); clear hr4 hg4)
    have c0 := blk_cell HD4.out.b4 0 rfl
    clear HD HR3 HSZ kN
    go_upto_region 6 with (fail)
    go_upto_region 7 with (go_at_call 51; (with_reducible refine (kC _ HR4.out).mono ?_); rintro e w6 ⟨a, cap, rfl, ho6, -, hg6⟩; have HO6 := Lib.hid ho6; have HD6 := Lib.hid (HD4.out.step hg6); have HS6 := Lib.hid hg6.size; have x1 := blk_cell HD6.out.b4 1 rfl; have y1 := blk_frozen HD6.out.b4 1; clear ho6 hg6)
    have HD7 := Lib.hid (HD6.out.set 1 (.slice a L.length cap))
    have HO7 := Lib.hid (ownsRow_setCell_below HO6.out (a := ⟨g4, 1, none⟩) HS4.out (.slice a L.length cap))
    have HJ := Lib.hid (decode_end (K := []) HD7.out HO7.out (World.ownsRow_nil _ _ _ _) (by
      cases hv : (Value.slice a L.length cap).ownBlock with
      | none => exact .inl rfl
      | some g => exact .inr (fun e => nomatch e)) (by have := HS2.out; have := HS4.out; omega) HS4.out (by rw [Deep.nblk_setCell]; exact HS6.out))
    obtain ⟨W7, hW7⟩ : ∃ W, W = w6.setCell ⟨g4, 1, none⟩ (.slice a L.length cap) := ⟨_, rfl⟩
    rw [← hW7]
    rw [← hW7] at HJ
    clear hW7 HD7 HO7 HO6 HD6 HD4 HR4 x1 y1 kC c0
    have j0 := blk_cell HJ.out.hx 0 rfl; have j1 := blk_cell HJ.out.hx 1 rfl; have j2 := blk_cell HJ.out.hx 2 rfl
    have z0 := blk_cell HJ.out.hr 0 rfl; have z1 := blk_cell HJ.out.hr 1 rfl; have z2 := blk_cell HJ.out.hr 2 rfl
    have y0 := blk_frozen HJ.out.hr 0; have y1 := blk_frozen HJ.out.hr 1; have y2 := blk_frozen HJ.out.hr 2
    go_wp2
    obtain ⟨W2, hW2, q1, q2⟩ := HJ.out.done
    rw [← hW2]
    refine bodyPost_ret (results_cell_row rfl _ _ w.heap.size _ _ _ _ rfl q1 Try.underlying32 rfl (by kernel_rfl)) rfl ?_
    exact q2
  · rw [if_neg hlf] at hD
    rw [decide_eq_false hlf] at ht
    generalize nb (s.take 1) = T at kT ht
    have kP := fun W h => pages_r (w.heap.size + 1) r (n + 1) W hrl (by omega) h
    rw [show ((n + 1 : Nat) : Int) = (n : Int) + 1 from rfl] at kP
    obtain ⟨K, hK⟩ : ∃ K, K = (pagesD (n + 1) r).1 := ⟨_, rfl⟩
    obtain ⟨r2, hr2⟩ : ∃ K, K = (pagesD (n + 1) r).2 := ⟨_, rfl⟩
    have hr2l : r2.length ≤ 100000 := by rw [hr2]; have := pages_rest (n + 1) r; omega
    rw [← hK, ← hr2] at kP hD
    have kC := fun W h => cells_r false (w.heap.size + 1) r2 n W hr2l (by omega) h
    have hl2 := cels_le false n r2
    obtain ⟨L, hL⟩ : ∃ L, L = celsD false n r2 := ⟨_, rfl⟩
    rw [← hL] at kC hD hl2
    subst hD
    have wn : IntKind.i64.wrap ((n : Int) + 1) = (n : Int) + 1 := IntWalk.i64_in _ ⟨by omega, by omega⟩
    clear hr0 hn hr hlf hL hK hr2
    go_enter Try.func26, Try.ntmps26
    go_upto_region 3 with (go_at_call 48; (with_reducible refine kT.mono ?_); rintro e w2 ⟨rfl, hr2, hg2⟩; have HR2 := Lib.hid hr2; have HG2 := Lib.hid hg2; clear hr2 hg2)
    have HD := Lib.hid (di_start (cs := #[.bool false, .slice none 0 0, .slice none 0 0]) HG2.out)
    have HR3 := Lib.hid (r16_below HR2.out (blw1 w2 (.cells #[.bool false, .slice none 0 0, .slice none 0 0] 32)))
    have HSZ := Lib.hid (show w2.heap.size < (w2.alloc (.cells #[.bool false, .slice none 0 0, .slice none 0 0] 32)).heap.size from by simp)
    have HS2 := Lib.hid (show w.heap.size + 1 < w2.heap.size from blk_lt HR2.out)
    obtain ⟨W3, hW3⟩ : ∃ W3, W3 = w2.alloc (.cells #[.bool false, .slice none 0 0, .slice none 0 0] 32) := ⟨_, rfl⟩
    obtain ⟨g4, hg4⟩ : ∃ g, g = w2.heap.size := ⟨_, rfl⟩
    rw [← hW3, ← hg4]
    rw [← hW3, ← hg4] at HD HSZ
    rw [← hW3] at HR3
    rw [← hg4] at HS2
    clear hW3 hg4 HG2 HR2 kT
    go_upto_region 4 with (go_at_call 49; (with_reducible refine (kN _ HR3.out).mono ?_); rintro e w4 ⟨rfl, hr4, hg4⟩; have HR4 := Lib.hid hr4; have HD4 := Lib.hid (HD.out.step hg4); have HS4 := Lib.hid (Nat.lt_of_lt_of_le HSZ.out hg4.size); clear hr4 hg4)
    have c0 := blk_cell HD4.out.b4 0 rfl
    clear HD HR3 HSZ kN
    go_upto_region 5 with (fail)
    go_upto_region 6 with (go_at_call 50; (with_reducible refine (kP _ HR4.out).mono ?_); rintro e w5 ⟨ka, kcap, rfl, ho5, hr5, hg5⟩; have HO5 := Lib.hid ho5; have HR5 := Lib.hid hr5; have HD5 := Lib.hid (HD4.out.step hg5); have HS5 := Lib.hid (Nat.lt_of_lt_of_le HS4.out hg5.size); have HT5 := Lib.hid hg5.size; have x1 := blk_cell HD5.out.b4 2 rfl; have y1 := blk_frozen HD5.out.b4 2; clear ho5 hg5 hr5)
    have HD6 := Lib.hid (HD5.out.set 2 (.slice ka K.length kcap))
    have HO6 := Lib.hid (ownsRow_setCell_below HO5.out (a := ⟨g4, 2, none⟩) HS4.out (.slice ka K.length kcap))
    have HR6 := Lib.hid (r16_other HR5.out (Ne.symm (by have := HS2.out; omega)) 2 (.slice ka K.length kcap) (g := g4))
    have HS6 := Lib.hid (show w5.heap.size = (w5.setCell ⟨g4, 2, none⟩ (.slice ka K.length kcap)).heap.size from by rw [Deep.nblk_setCell])
    obtain ⟨W6, hW6⟩ : ∃ W, W = w5.setCell ⟨g4, 2, none⟩ (.slice ka K.length kcap) := ⟨_, rfl⟩
    rw [← hW6]
    rw [← hW6] at HD6 HO6 HR6 HS6
    clear hW6 HD5 HO5 HR5 x1 y1 kP c0
    have c0 := blk_cell HD6.out.b4 0 rfl
    go_upto_region 7 with (go_at_call 51; (with_reducible refine (kC _ HR6.out).mono ?_); rintro e w7 ⟨a, cap, rfl, ho7, -, hg7⟩; have HO7 := Lib.hid ho7; have HK7 := Lib.hid (own_gby HO6.out hg7 (by have := HS2.out; have := HS4.out; omega)); have HD7 := Lib.hid (HD6.out.step hg7); have HT7 := Lib.hid hg7.size; have x1 := blk_cell HD7.out.b4 1 rfl; have y1 := blk_frozen HD7.out.b4 1; clear ho7 hg7)
    have HD8 := Lib.hid (HD7.out.set 1 (.slice a L.length cap))
    have HO8 := Lib.hid (ownsRow_setCell_below (own_lift HO7.out (by rw [← HS6.out]; exact HT5.out)) (a := ⟨g4, 1, none⟩) HS4.out (.slice a L.length cap))
    have HK8 := Lib.hid (ownsRow_setCell_below HK7.out (a := ⟨g4, 1, none⟩) HS4.out (.slice a L.length cap))
    have HJ := Lib.hid (decode_end HD8.out HO8.out HK8.out (by
      cases hv : (Value.slice a L.length cap).ownBlock with
      | none => exact .inl rfl
      | some g =>
        refine .inr (fun e => ?_)
        have h1 := (HO7.out.lt g hv).1
        have h2 := (HO6.out.lt g e.symm).2
        omega) (by have := HS2.out; have := HS4.out; omega) HS4.out (by rw [Deep.nblk_setCell]; have := HT5.out; have := HT7.out; have := HS6.out; omega))
    obtain ⟨W8, hW8⟩ : ∃ W, W = w7.setCell ⟨g4, 1, none⟩ (.slice a L.length cap) := ⟨_, rfl⟩
    rw [← hW8]
    rw [← hW8] at HJ
    clear hW8 HD8 HO8 HK8 HO7 HK7 HD7 HD6 HO6 HR6 HD4 HR4 x1 y1 kC c0
    have j0 := blk_cell HJ.out.hx 0 rfl; have j1 := blk_cell HJ.out.hx 1 rfl; have j2 := blk_cell HJ.out.hx 2 rfl
    have z0 := blk_cell HJ.out.hr 0 rfl; have z1 := blk_cell HJ.out.hr 1 rfl; have z2 := blk_cell HJ.out.hr 2 rfl
    have y0 := blk_frozen HJ.out.hr 0; have y1 := blk_frozen HJ.out.hr 1; have y2 := blk_frozen HJ.out.hr 2
    go_wp2
    obtain ⟨W2, hW2, q1, q2⟩ := HJ.out.done
    rw [← hW2]
    refine bodyPost_ret (results_cell_row rfl _ _ w.heap.size _ _ _ _ rfl q1 Try.underlying32 rfl (by kernel_rfl)) rfl ?_
    exact q2
end Go.Proofs.Ytdpjmijdlheajaa
