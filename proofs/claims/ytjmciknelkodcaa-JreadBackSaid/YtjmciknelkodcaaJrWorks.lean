/-
  Layer 11: works and same of the law's package: works returns true; same tells two journals apart by their contents; both change nothing that was there.
-/
import Derived.Test.YtjmciknelkodcaaJrRead
import Derived.Test.YtjmciknelkodcaaJrPart
import Derived.Test.YtjmciknelkodcaaJrApp
namespace Go.Proofs.Ytjmciknelkodcaa
open Go.RowKit

theorem recs_two {v : World} {g : Nat} {t : TypeId} {n m : Int} {D E : ByteArray} {x y : List UInt8} (hD : D = ba x) (hE : E = ba y) (h : Blk v g t #[.int .i64 n, .string D, .int .i64 m, .string E]) : Recs v (some ⟨g, 0, none⟩) [⟨n, x⟩, ⟨m, y⟩] := by
  subst hD hE
  intro j hj
  refine ⟨g, 0, rfl, blk_lt h, ?_, ?_⟩
  · match j, hj with
    | 0, _ => exact blk_cell h 0 rfl
    | 1, _ => exact blk_cell h 2 rfl
  · match j, hj with
    | 0, _ => exact blk_cell h 1 rfl
    | 1, _ => exact blk_cell h 3 rfl

set_option maxRecDepth 100000 in
theorem works_math {Z : List UInt8} (hZ : Z.length = 512) : ∃ E : List UInt8, ptR [⟨3, Z⟩, ⟨1, Z⟩] 4 9 = (E, 0) ∧ E.length = 1072 ∧ ∃ X : List UInt8, rdJ (E ++ E.take 100) = ⟨1, 4, [⟨3, Z⟩, ⟨1, Z⟩], X⟩ := by
  have h1 : (wrP 3 Z 9).2 = 0 := by rw [wrP, if_pos (by decide), if_pos hZ]
  have h2 : (wrP 1 Z 9).2 = 0 := by rw [wrP, if_pos (by decide), if_pos hZ]
  have he : errR 9 [⟨3, Z⟩, ⟨1, Z⟩] = 0 := by
    rw [errR, if_pos h1, errR, if_pos h2, errR]
  have hp : (ptR [⟨3, Z⟩, ⟨1, Z⟩] 4 9).2 = 0 := by
    have h0 : (wrH (([⟨3, Z⟩, ⟨1, Z⟩] : List R11).length : Int) 4 9).2 = 0 := (by decide : (wrH 2 4 9).2 = 0)
    rw [ptR, if_pos h0, if_pos he]
  obtain ⟨E, hE⟩ : ∃ E, E = (ptR [⟨3, Z⟩, ⟨1, Z⟩] 4 9).1 := ⟨_, rfl⟩
  have hl := (ptR_ok hp).2.2.2
  rw [← hE] at hl
  have hl2 : ([⟨3, Z⟩, ⟨1, Z⟩] : List R11).length = 2 := rfl
  have hl : E.length = 1072 := by omega
  refine ⟨E, Prod.ext hE.symm hp, hl, ?_⟩
  have f1 := fs_pt hp (E.take 100)
  have f2 := fs_torn hp (i := 100) (by rw [← hE]; omega)
  rw [← hE] at f1 f2
  obtain ⟨f', hf', hstep⟩ := rdG_step (j := ⟨0, 0, []⟩) f1 (by simp) (f := (E ++ E.take 100).length + 1) (by omega)
  refine ⟨(namS (E.take 100)).1, ?_⟩
  rw [rdJ, hstep, rdG_none f2, endJ]
  have ha : addR [] [⟨3, Z⟩, ⟨1, Z⟩] = ([⟨3, Z⟩, ⟨1, Z⟩] : List R11) := by simp [addR, putR, hasR]
  simp [ha]

set_option maxRecDepth 100000 in
set_option maxHeartbeats 4000000 in
theorem works11_any (w : World) : Calls Try.prog 10 #[] w fun e w' => e = .returned (.bool true) ∧ Below w.heap.size w w' := by
  obtain ⟨m, hm⟩ : ∃ m : Nat, m = 512 := ⟨_, rfl⟩
  obtain ⟨Z, hZ⟩ : ∃ Z : List UInt8, Z = List.replicate m 0 := ⟨_, rfl⟩
  have hZl : Z.length = 512 := by rw [hZ, List.length_replicate, hm]
  obtain ⟨E, hE, hEl, X, hX⟩ := works_math hZl
  obtain ⟨D, hD⟩ : ∃ D, D = ba Z := ⟨_, rfl⟩
  have hmk := fun W => run_make_row' (P := Try.prog) 63 5 (.int .u8 0) 1 Try.underlying63 infoU8 rfl .i64 .i64 m (by omega) (by omega) W
  have q1 := conv_bytes (made_bytes w m) (n := m) (List.length_replicate ..)
  rw [← hZ, ← hD] at q1
  have hmi : (m : Int) = 512 := by omega
  simp only [hmi] at hmk
  have HB1 := Lib.hid (blw2 w (.cells (madeCells #[.int .u8 0] m) 5) (.cells #[.int .i64 3, .string D, .int .i64 1, .string D] 52))
  have HRC := Lib.hid (recs_two hD hD (blk_new (w.alloc (.cells (madeCells #[.int .u8 0] m) 5)) 52 #[.int .i64 3, .string D, .int .i64 1, .string D]))
  rw [World.size_alloc] at HRC
  have hIN : IntsR [⟨3, Z⟩, ⟨1, Z⟩] := by
    intro r hr
    have hb : r.n = 3 ∨ r.n = 1 := by
      simp at hr
      rcases hr with rfl | rfl
      · exact .inl rfl
      · exact .inr rfl
    have hd : r.d.length = 512 := by
      simp at hr
      rcases hr with rfl | rfl <;> exact hZl
    exact ⟨by omega, by omega⟩
  have kp := jpart_any (some ⟨w.heap.size + 1, 0, none⟩) 2 [⟨3, Z⟩, ⟨1, Z⟩] 4 9 (by decide) (by decide) (by decide) (by decide) _ (by simp) HRC.out hIN
  rw [hE] at kp
  simp only [List.length_cons, List.length_nil] at kp
  have hEz : (ba E).size = 1072 := by rw [ba_size, hEl]
  have kr := fun w => jread11_any (E ++ E.take 100) (by rw [List.length_append, List.length_take, hEl]; decide) w
  rw [hX] at kr
  simp only at kr
  have hcat : ba E ++ (ba E).extract 0 100 = ba (E ++ E.take 100) := by rw [sext_take, ba_app]
  obtain ⟨S, hS⟩ : ∃ S, S = ba E := ⟨_, rfl⟩
  rw [← hS] at kp hEz hcat
  rw [← hcat] at kr
  have hSi : (100 : Int) ≤ S.size := by omega
  have hSb : S.size ≤ 2000 := by omega
  have hSn : 100 ≤ S.size := by omega
  have HSZ := Lib.hid hEz
  obtain ⟨Y, hY⟩ : ∃ Y, Y = ba X := ⟨_, rfl⟩
  rw [← hY] at kr
  have kA := fun (a : Option Addr) (cap : Nat) (V : World) (h : Recs V a [⟨3, Z⟩, ⟨1, Z⟩]) => japply_any 1 4 a cap [⟨3, Z⟩, ⟨1, Z⟩] Y ⟨#[]⟩ (by decide) (by decide) V (by decide) (by simp) h
  obtain ⟨U, hU⟩ : ∃ U, U = ba (apL 4 [⟨3, Z⟩, ⟨1, Z⟩] (⟨#[]⟩ : ByteArray).data.toList) := ⟨_, rfl⟩
  have hUz : (U.size : Int) = 2048 := by
    have : U.size = 2048 := by rw [hU, ba_size, apL_len]; decide
    omega
  rw [← hU] at kA
  simp only [List.length_cons, List.length_nil] at kA
  have t1 : decide ((S.size : Int) < 100) = false := decide_eq_false (by omega)
  clear hEz hcat hS hE hEl hX hmi hm hIN hZ hY hD hU
  go_enter Try.func10, Try.ntmps10
  go_wp2_with (first
    | (go_at_call 12; (refine kp.mono ?_); rintro e w1 ⟨rfl, b1⟩; have HB2 := Lib.hid (HB1.out.trans (b1.mono HB1.out.size)); clear b1 HB1)
    | (go_at_call 8; (refine (kr _).mono ?_); rintro e w2 ⟨b2, a2, cap2, rfl, hrec2⟩; have HB3 := Lib.hid ((HB2.out.trans (b2.mono HB2.out.size)).alloc (Nat.le_trans HB2.out.size b2.size) (.cells #[.int .i64 1, .int .i64 4, .slice a2 2 cap2, .string Y] 25)); have hrec3 := recs_alloc hrec2 (.cells #[.int .i64 1, .int .i64 4, .slice a2 2 cap2, .string Y] 25); obtain ⟨b, off, rfl, hbw, c0, -⟩ := hrec3 0 (by simp); have HRC3 := Lib.hid hrec3; rw [Nat.zero_mul, Nat.add_zero] at c0; simp only [List.getElem_cons_zero] at c0; clear b2 hrec2 hrec3)
    | (go_at_call 17; (refine (kA _ _ _ HRC3.out).mono ?_); rintro e w4 ⟨rfl, b4⟩))
  go_ret
  exact ⟨rfl, HB3.out.trans (b4.mono HB3.out.size)⟩
end Go.Proofs.Ytjmciknelkodcaa
