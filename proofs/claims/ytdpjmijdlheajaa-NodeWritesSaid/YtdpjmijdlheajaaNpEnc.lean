/-
  Layer 16, the program's fixed, counted, payload (annexe/node): the parts of an encoding; they change nothing that was there. Condition: the cell is valid; the number is one of a page, or of cells.
-/
import Derived.Test.YtdpjmijdlheajaaNpSz
import Derived.Test.YtdpjmijdlheajaaVarPut
import Derived.Test.YtdpjmijdlheajaaShelf
namespace Go.Proofs.Ytdpjmijdlheajaa
open Go.RowKit

theorem nvput_any (k : Nat) (h : k < 18446744073709551616) (w : World) :
    Calls Try.prog 56 #[.int .u64 (k : Int)] w fun e w' => e = .returned (.string (nb (putLV k))) ∧ Below w.heap.size w w' := vput_any (k : Int) (by omega) (by omega) w
set_option maxRecDepth 100000 in
set_option maxHeartbeats 2000000 in
theorem fixed_any (n : Int) (h1 : 0 ≤ n) (h2 : n ≤ 4294967295) (w : World) :
    Calls Try.prog 34 #[.int .i64 n] w fun e w' => e = .returned (.string (nb (fourL n.toNat))) ∧ Below w.heap.size w w' := by
  have hf := fun W => vfixed_any n (by omega) (by omega) W
  rw [show fixR n = (fourL n.toNat, 0) from by unfold fixR; rw [if_pos ⟨h1, by omega⟩]] at hf
  go_enter Try.func34, Try.ntmps34
  go_wp2_with (go_at_call 55; refine (hf _).mono ?_; rintro e w' ⟨rfl, hb⟩)
  go_ret
  exact ⟨rfl, hb⟩
set_option maxRecDepth 100000 in
set_option maxHeartbeats 2000000 in
theorem counted_any (l : List UInt8) (hl : l.length ≤ 100) (w : World) :
    Calls Try.prog 35 #[.string (nb l)] w fun e w' => e = .returned (.string (nb (putLV l.length ++ l))) ∧ Below w.heap.size w w' := by
  have hs := nb_size l
  have hp := fun W => nvput_any (nb l).size (by omega) W
  have hps : (nb (putLV (nb l).size)).size ≤ 9 := by rw [nb_size, putL_length]; exact lenN_le _
  obtain ⟨P, hP⟩ : ∃ P, P = nb (putLV (nb l).size) := ⟨_, rfl⟩
  rw [← hP] at hp hps
  have HE := Lib.hid (show P ++ nb l = nb (putLV l.length ++ l) from by rw [hP, hs, nb_app])
  have hss : (nb l).size ≤ 100 := by omega
  clear hP hs
  generalize nb l = S at *
  have wk : IntKind.u64.wrap (S.size : Int) = S.size := by rw [IntKind.wrap_u64]; omega
  rw [← HE.out]
  go_enter Try.func35, Try.ntmps35
  go_wp2_with (go_at_call 56; refine (hp _).mono ?_; rintro e w' ⟨rfl, hb⟩)
  go_ret
  exact ⟨rfl, hb⟩
def payL (c : Cel) : List UInt8 := putLV c.len.toNat ++ c.loc ++ (if 60 < c.len then fourL c.ov.toNat else [])
theorem pay_len {c : Cel} (h : CelOk true c) : (payL c).length ≤ 73 := by
  obtain ⟨h1, -, h2, h3, h4, -, -⟩ := h
  have h6 := lenN_le c.len.toNat
  unfold payL
  rw [List.length_append, List.length_append, putL_length]
  have h7 : (if 60 < c.len then fourL c.ov.toNat else []).length ≤ 4 := by split <;> simp [four_len]
  omega
set_option maxRecDepth 100000 in
set_option maxHeartbeats 4000000 in
theorem payload_any (c : Cel) (hok : CelOk true c) (w : World) :
    Calls Try.prog 36 #[.agg #[.string (nb c.key), .int .i64 c.len, .string (nb c.loc), .int .i64 c.ov]] w fun e w' => e = .returned (.string (nb (payL c))) ∧ Below w.heap.size w w' := by
  obtain ⟨key, n, loc, o⟩ := c
  obtain ⟨-, -, h2, h3, h4, -, h5⟩ := hok
  simp only at h2 h3 h4 h5
  obtain ⟨q, rfl⟩ := Int.eq_ofNat_of_zero_le h2
  have hls := nb_size loc
  have hp := fun W => nvput_any q (by omega) W
  have hps : (nb (putLV q)).size ≤ 9 := by rw [nb_size, putL_length]; exact lenN_le _
  obtain ⟨PM, hPM⟩ : ∃ P, P = nb (putLV q) := ⟨_, rfl⟩
  rw [← hPM] at hp hps
  obtain ⟨LO, hLO⟩ : ∃ P, P = nb loc := ⟨_, rfl⟩
  have hlo : LO.size ≤ 60 := by rw [hLO]; omega
  have HE := Lib.hid (show nb (payL ⟨key, q, loc, o⟩) = PM ++ LO ++ nb (if 60 < (q : Int) then fourL o.toNat else []) from by
    rw [hPM, hLO, nb_app, nb_app]; rfl)
  simp only
  rw [← hLO]
  generalize nb key = K at *
  clear h2 h4 hls hPM hLO
  have wm : IntKind.u64.wrap (q : Int) = q := by rw [IntKind.wrap_u64]; omega
  obtain ⟨R, hR⟩ : ∃ R, R = nb (payL ⟨key, q, loc, o⟩) := ⟨_, rfl⟩
  rw [← hR]
  rw [← hR] at HE
  clear hR
  have hbk := blk_new w 51 #[.string K, .int .i64 q, .string LO, .int .i64 o]
  have hw := blw1 w (.cells #[.string K, .int .i64 q, .string LO, .int .i64 o] 51)
  obtain ⟨wa, hwa⟩ : ∃ wa, wa = w.alloc (.cells #[.string K, .int .i64 q, .string LO, .int .i64 o] 51) := ⟨_, rfl⟩
  rw [← hwa] at hbk hw
  have HBK := Lib.hid (fun W (h : Below wa.heap.size wa W) => blk_below hbk h); have HW := Lib.hid hw; have HWA := Lib.hid hwa
  have HG := Lib.hid (fun W (h : Below wa.heap.size wa W) => show (W.cell? ⟨w.heap.size, 1, none⟩ = some (.int .i64 q) ∧ W.cell? ⟨w.heap.size, 2, none⟩ = some (.string LO)) ∧ Below wa.heap.size wa W from ⟨⟨blk_cell (HBK.out W h) 1 rfl, blk_cell (HBK.out W h) 2 rfl⟩, h⟩)
  clear hbk hw hwa
  have hcat : ¬ 9223372036854775807 < PM.size + LO.size := by omega
  go_enter Try.func36, Try.ntmps36
  go_upto_region 1 with (fail)
  rw [← HWA.out]
  go_region_held3 (fun v => (v.cell? ⟨w.heap.size, 1, none⟩ = some (.int .i64 q) ∧ v.cell? ⟨w.heap.size, 2, none⟩ = some (.string LO)) ∧ Below wa.heap.size wa v)
    (first | assumption | exact HG.out _ (Below.refl _ _) | exact HG.out _ (Below.refl _ _).drew | exact HG.out _ (Below.trans (And.right (by assumption)) (Below.mono (by assumption) (Below.size (And.right (by assumption))))))
    ((go_at_call 56; (with_reducible refine (hp _).mono ?_); rintro e w7 ⟨rfl, hb7⟩))
  have HB7 := Lib.hid (‹_ ∧ Below wa.heap.size wa w7›).2
  have hbk := HBK.out _ HB7.out
  have c0 := blk_cell hbk 0 rfl; have c1 := blk_cell hbk 1 rfl; have c2 := blk_cell hbk 2 rfl; have c3 := blk_cell hbk 3 rfl
  clear hbk
  by_cases h60 : 60 < (q : Int)
  · obtain ⟨q1, q2⟩ := h5 h60
    have kg := fun W => goes_any K q LO o true (by simp [h60]) W
    have kf := fun W => fixed_any o (by omega) (by omega) W
    have hf4 : (nb (fourL o.toNat)).size = 4 := by rw [nb_size, four_len]
    have HE2 := Lib.hid (show R = PM ++ LO ++ nb (fourL o.toNat) from by have := HE.out; rwa [if_pos h60] at this)
    obtain ⟨F, hF⟩ : ∃ F, F = nb (fourL o.toNat) := ⟨_, rfl⟩
    rw [← hF] at kf hf4 HE2
    clear hF
    go_upto_region 3 with (go_at_call 47; (with_reducible refine (kg _).mono ?_); rintro e w8 ⟨rfl, hb8⟩; have HB8 := Lib.hid (HB7.out.trans (hb8.mono HB7.out.size)); clear hb8)
    have hbk := HBK.out _ HB8.out
    have d3 := blk_cell hbk 3 rfl
    clear hbk
    go_wp2_with (go_at_call 34; (with_reducible refine (kf _).mono ?_); rintro e w9 ⟨rfl, hb9⟩; have HB9 := Lib.hid (HB8.out.trans (hb9.mono HB8.out.size)); clear hb9)
    go_ret
    exact ⟨by rw [HE2.out]; rfl, HW.out.trans (HB9.out.mono HW.out.size)⟩
  · have kg := fun W => goes_any K q LO o false (by simp [h60]) W
    have HE2 := Lib.hid (show R = PM ++ LO from by
      have h := HE.out
      rw [if_neg h60] at h
      rw [h]
      apply ByteArray.ext
      simp [nb])
    go_wp2_with (go_at_call 47; (with_reducible refine (kg _).mono ?_); rintro e w8 ⟨rfl, hb8⟩; have HB8 := Lib.hid (HB7.out.trans (hb8.mono HB7.out.size)); clear hb8)
    go_ret
    exact ⟨by rw [HE2.out]; rfl, HW.out.trans (HB8.out.mono HW.out.size)⟩
end Go.Proofs.Ytdpjmijdlheajaa
