/-
  Layer 16, the program's Write (annexe/node): the page of a node, or why there is none; it changes nothing that was there. Condition: sizes of at most 2^60.
-/
import Derived.Test.YtdpjmijdlheajaaNpEncode
namespace Go.Proofs.Ytdpjmijdlheajaa
open Go.RowKit

theorem repeat_zero (d : Nat) : Lib.repeatL [(0 : UInt8)] d = List.replicate d 0 := by
  induction d with
  | zero => rfl
  | succ d ih => rw [Lib.repeatL, ih]; rfl
set_option maxRecDepth 100000 in
set_option maxHeartbeats 4000000 in
theorem write_leaf (leaf : Bool) (n : Nod) (hlf : leaf = n.leaf) (ca ka : Option Addr) (cc kc : Nat) (w : World) (hz : NdSz n) (hc : Cls w ca n.cells) (hk : Kds w ka n.kids) :
    Calls Try.prog 8 #[.agg #[.bool leaf, .slice ca n.cells.length cc, .slice ka n.kids.length kc]] w fun e w' => e = .returned (.tuple #[.string (nb (wriN n).1), .int .i64 (wriN n).2]) ∧ Below w.heap.size w w' := by
  obtain ⟨len, hlen⟩ : ∃ b, b = n.cells.length := ⟨_, rfl⟩
  obtain ⟨kn, hkn⟩ : ∃ b, b = n.kids.length := ⟨_, rfl⟩
  have hb := blk_new w 32 #[.bool leaf, .slice ca len cc, .slice ka kn kc]
  have hw := blw1 w (.cells #[.bool leaf, .slice ca len cc, .slice ka kn kc] 32)
  obtain ⟨w1, hw1⟩ : ∃ w1, w1 = w.alloc (.cells #[.bool leaf, .slice ca len cc, .slice ka kn kc] 32) := ⟨_, rfl⟩
  rw [← hw1] at hb hw
  have hc1 := cls_next hc hw
  have hk1 := kds_next hk hw
  have hR := fun W (hB : Below w1.heap.size w1 W) => size_leaf leaf n hlf ca ka cc kc W hz (cls_next hc1 hB) (kds_next hk1 hB)
  have hY := fun (hr : RightN n) W (hB : Below w1.heap.size w1 W) => encode_leaf leaf n hlf ca ka cc kc W hr (cls_next hc1 hB) (kds_next hk1 hB)
  rw [← hlen, ← hkn] at hR hY
  rw [← hlen, ← hkn]
  have HCF := Lib.hid (fun W (hB : Below w1.heap.size w1 W) => show W.cell? ⟨w.heap.size, 0, none⟩ = some (.bool leaf) ∧ W.cell? ⟨w.heap.size, 1, none⟩ = some (.slice ca len cc) ∧ W.cell? ⟨w.heap.size, 2, none⟩ = some (.slice ka kn kc) from by
    have h := blk_below hb hB
    exact ⟨blk_cell h 0 rfl, blk_cell h 1 rfl, blk_cell h 2 rfl⟩)
  have HB1 := Lib.hid hw; have HW1 := Lib.hid hw1
  clear hlf hlen hkn hc hk hc1 hk1 hz hb hw hw1
  obtain ⟨j0, j1, j2⟩ := HCF.out _ (Below.refl _ _)
  by_cases hr : RightN n
  · have hl := enc_len hr
    have hl2 := nb_size (encN n)
    have h3 : 3 ≤ (encN n).length := by
      unfold encN
      rw [List.length_append, List.length_append]
      have : (headL n).length = 3 := rfl
      omega
    rw [siz_yes hr] at hR
    obtain ⟨S, hS⟩ : ∃ S, S = nb (encN n) := ⟨_, rfl⟩
    have hY2 := hY hr
    rw [← hS] at hY2 hl2
    rw [← hl2] at hR
    have hss : S.size ≤ 12582912 := by omega
    have hs3 : 3 ≤ S.size := by omega
    have hs0 : ¬ (S.size : Int) = 0 := by omega
    have hs0' : ((S.size : Int) == 0) = false := by simpa using hs0
    by_cases hf : 512 < S.size
    · rw [wri_full hr (by omega)]
      have hf' : (512 : Int) < (S.size : Int) := by omega
      clear hY hS hl hl2 hr h3
      go_enter Try.func8, Try.ntmps8
      go_upto_region 1 with (fail)
      rw [← HW1.out]
      go_wp2_with (go_at_call 11; (with_reducible refine (hR _ (Below.refl _ _)).mono ?_); rintro e w2 ⟨rfl, hb2⟩; have HB2 := Lib.hid hb2; clear hb2)
      go_ret2
      exact ⟨rfl, HB1.out.trans (HB2.out.mono HB1.out.size)⟩
    · rw [wri_yes hr (by omega)]
      have hf' : ¬ (512 : Int) < (S.size : Int) := by omega
      obtain ⟨d, hd⟩ : ∃ d, d = 512 - S.size := ⟨_, rfl⟩
      have kr := fun W => Try.strings_Repeat ⟨#[0]⟩ d W (by omega) (by show 1 * d ≤ _; omega)
      obtain ⟨Z, hZ⟩ : ∃ Z, Z = nb (List.replicate d 0) := ⟨_, rfl⟩
      have hzr : (⟨(Lib.repeatL (⟨#[0]⟩ : ByteArray).data.toList d).toArray⟩ : ByteArray) = Z := by rw [hZ]; unfold nb; rw [← repeat_zero]
      rw [hzr] at kr
      have hzs : Z.size = d := by rw [hZ, nb_size, List.length_replicate]
      have wd : IntKind.i64.wrap (512 - (S.size : Int)) = (d : Int) := by rw [show 512 - (S.size : Int) = (d : Int) by omega]; exact IntWalk.i64_in _ ⟨by omega, by omega⟩
      have hds : (512 : Int) - (S.size : Int) = (d : Int) := by omega
      have HE := Lib.hid (show S ++ Z = nb (encN n ++ List.replicate (512 - (encN n).length) 0) from by rw [hS, hZ, nb_app, hd, hl2])
      have hcat : ¬ 9223372036854775807 < S.size + Z.size := by omega
      clear hY hS hl hl2 hr hZ hd hzr h3
      go_enter Try.func8, Try.ntmps8
      go_upto_region 1 with (fail)
      rw [← HW1.out]
      go_upto_region 6 with (go_at_call 11; (with_reducible refine (hR _ (Below.refl _ _)).mono ?_); rintro e w2 ⟨rfl, hb2⟩; have HB2 := Lib.hid hb2; obtain ⟨k0, k1, k2⟩ := HCF.out _ hb2; clear hb2)
      go_wp2_with (first
        | (go_at_call 19; (with_reducible refine (hY2 _ HB2.out).mono ?_); rintro e w3 ⟨rfl, hb3⟩; have HB3 := Lib.hid (HB2.out.trans (hb3.mono HB2.out.size)); clear hb3)
        | (go_at_call 20; (with_reducible refine (kr _).mono ?_); rintro e w4 ⟨rfl, hb4⟩; have HB4 := Lib.hid (HB3.out.trans (hb4.mono HB3.out.size)); clear hb4))
      go_ret2
      exact ⟨by rw [← HE.out]; rfl, HB1.out.trans (HB4.out.mono HB1.out.size)⟩
  · rw [wri_no hr]
    rw [siz_no hr] at hR
    clear hY hr
    go_enter Try.func8, Try.ntmps8
    go_upto_region 1 with (fail)
    rw [← HW1.out]
    go_wp2_with (go_at_call 11; (with_reducible refine (hR _ (Below.refl _ _)).mono ?_); rintro e w2 ⟨rfl, hb2⟩; have HB2 := Lib.hid hb2; clear hb2)
    go_ret2
    exact ⟨rfl, HB1.out.trans (HB2.out.mono HB1.out.size)⟩
theorem write_nd (n : Nod) (ca ka : Option Addr) (cc kc : Nat) (w : World) (hz : NdSz n) (hc : Cls w ca n.cells) (hk : Kds w ka n.kids) :
    Calls Try.prog 8 #[.agg #[.bool n.leaf, .slice ca n.cells.length cc, .slice ka n.kids.length kc]] w fun e w' => e = .returned (.tuple #[.string (nb (wriN n).1), .int .i64 (wriN n).2]) ∧ Below w.heap.size w w' :=
  write_leaf n.leaf n rfl ca ka cc kc w hz hc hk
end Go.Proofs.Ytdpjmijdlheajaa
