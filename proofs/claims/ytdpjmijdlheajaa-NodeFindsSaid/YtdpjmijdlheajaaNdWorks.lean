/-
  Layer 16, the law's works (annexelaw16): it says true, and changes nothing that was there. Condition: none.
-/
import Derived.Test.YtdpjmijdlheajaaNdSame
import Derived.Test.YtdpjmijdlheajaaNpFind
namespace Go.Proofs.Ytdpjmijdlheajaa
open Go.RowKit

def nod0 : Nod := ⟨true, [], []⟩
theorem right0 : RightN nod0 := ⟨(fun k h => absurd h (Nat.not_lt_zero k)), (fun k h => absurd h (Nat.not_lt_zero k)), by decide, fun _ => rfl, fun h => nomatch h⟩
theorem enc0 : encN nod0 = [1, 0, 0] := rfl
theorem wri0 : wriN nod0 = (1 :: List.replicate 511 0, 0) := by
  rw [wri_yes right0 (by rw [enc0]; decide), enc0]
  rfl
theorem siz0 : sizN nod0 = 3 := by rw [siz_yes right0, enc0]; rfl
theorem rd0 : rdN (1 :: List.replicate 511 0) = some nod0 := rd_iff.2 wri0
theorem sz0 : NdSz nod0 := ⟨by decide, by decide, fun k h => absurd h (Nat.not_lt_zero k), fun k h => absurd h (Nat.not_lt_zero k)⟩
theorem cls0 (w : World) (a : Option Addr) : Cls w a [] := fun j h => absurd h (Nat.not_lt_zero j)
theorem kds0 (w : World) (a : Option Addr) : Kds w a [] := fun j h => absurd h (Nat.not_lt_zero j)
set_option maxRecDepth 100000 in
set_option maxHeartbeats 4000000 in
theorem works16_any (w : World) : Calls Try.prog 15 #[] w fun e w' => e = .returned (.bool true) ∧ Below w.heap.size w w' := by
  obtain ⟨S, hS⟩ : ∃ S, S = nb (1 :: List.replicate 511 0) := ⟨_, rfl⟩
  obtain ⟨Z, hZ⟩ : ∃ Z, Z = nb (List.replicate 511 0) := ⟨_, rfl⟩
  obtain ⟨z1, z2⟩ := nzeros 511 (by omega) Z hZ
  rw [show ((511 : Nat) : Int) = 511 from rfl] at z1
  have hzs : Z.size = 511 := by rw [hZ, nb_size, List.length_replicate]
  have hcat : (⟨#[1]⟩ : ByteArray) ++ Z = S := by
    rw [hS, hZ, show (⟨#[1]⟩ : ByteArray) = nb [1] from rfl, nb_app]
    rfl
  have kw := fun W => write_nd nod0 none none 0 0 W sz0 (cls0 W none) (kds0 W none)
  rw [wri0] at kw
  simp only at kw
  rw [← hS] at kw
  have kr := fun W => read_any (1 :: List.replicate 511 0) W (by rw [List.length_cons, List.length_replicate]; decide)
  rw [rd0, ← hS] at kr
  have ks := fun ca ka cc kc W => size_leaf true nod0 rfl ca ka cc kc W sz0 (cls0 W ca) (kds0 W ka)
  rw [siz0] at ks
  have e1 := self_eq S
  clear hS hZ
  unfold RdQ ndV at kr
  simp only [nod0, List.length_nil] at kw kr ks
  go_enter Try.func15, Try.ntmps15
  go_upto_region 2 with (go_at_call 8; (with_reducible refine (kw _).mono ?_); rintro e w2 ⟨rfl, hb2⟩; have HB2 := Lib.hid hb2; clear hb2)
  go_upto_region 3 with (go_at_call 13; (with_reducible refine (kr _).mono ?_); rintro e w3 ⟨ca, cc, ka, kc, rfl, -, -, -, hb3⟩; have HB3 := Lib.hid (HB2.out.trans (hb3.mono HB2.out.size)); clear hb3)
  have hn := blk_new w3 32 #[.bool true, .slice ca 0 cc, .slice ka 0 kc]
  have HB4 := Lib.hid (HB3.out.alloc HB3.out.size (.cells #[.bool true, .slice ca 0 cc, .slice ka 0 kc] 32))
  generalize w3.alloc (.cells #[.bool true, .slice ca 0 cc, .slice ka 0 kc] 32) = w4 at *
  have HN := Lib.hid (fun W (h : Below w4.heap.size w4 W) => blk_below hn h)
  have c0 := blk_cell hn 0 rfl; have c1 := blk_cell hn 1 rfl; have c2 := blk_cell hn 2 rfl
  have y1 := z1 w4
  have y2 := z2 w4
  have hn5 := blk_alloc hn (.cells (madeCells #[.int .u8 0] 511) 5)
  have d0 := blk_cell hn5 0 rfl; have d1 := blk_cell hn5 1 rfl; have d2 := blk_cell hn5 2 rfl
  clear hn hn5 z1 z2
  go_wp2_with (go_at_call 11; (with_reducible refine (ks _ _ _ _ _).mono ?_); rintro e w6 ⟨rfl, hb6⟩; have HB6 := Lib.hid ((HB4.out.alloc HB4.out.size (.cells (madeCells #[.int .u8 0] 511) 5)).trans (hb6.mono (by have := HB4.out.size; simp; omega))); clear hb6)
  go_ret
  exact ⟨rfl, HB6.out⟩
end Go.Proofs.Ytdpjmijdlheajaa
