/-
  Layer 5, collect over the reader's method mark: it returns as many fields as were asked for, or the first error ('marksS'), and changes the reader alone. Condition: at most 16 are asked for; at most 2^63 - 1 bytes.
-/
import Derived.Test.YtpkhbafgepdogaaRecValue
namespace Go.Proofs.Ytpkhbafgepdogaa
open Go.RowKit

/-- The cells of a row of fields. -/
def fldF (ms : List Nat) (j : Nat) : Value := .int .i64 (if j % 2 = 0 then kindM (ms.getD (j / 2) 0) else (sizeM (ms.getD (j / 2) 0) : Int))
theorem fld_snoc {w : World} {g n : Nat} {ms : List Nat} {m : Nat} (h : w.rowIs g 64 (n * 2) (fldF ms)) : ((w.setCell ⟨g, ms.length * 2, none⟩ (.int .i64 (kindM m))).setCell ⟨g, ms.length * 2 + 1, none⟩ (.int .i64 (sizeM m))).rowIs g 64 (n * 2) (fldF (ms ++ [m])) := by
  refine ((h.set (ms.length * 2) _).set (ms.length * 2 + 1) _).congr fun j hj => ?_
  unfold fldF
  by_cases h1 : j = ms.length * 2 + 1
  · rw [if_pos h1, if_neg (by omega), show j / 2 = ms.length by omega]; simp
  · rw [if_neg h1]
    by_cases h2 : j = ms.length * 2
    · rw [if_pos h2, if_pos (by omega), show j / 2 = ms.length by omega]; simp
    · rw [if_neg h2]
      have : (ms ++ [m]).getD (j / 2) 0 = ms.getD (j / 2) 0 := by
        by_cases h3 : j / 2 < ms.length
        · simp [List.getD, List.getElem?_append_left h3]
        · have h4 : ms.length + 1 ≤ j / 2 := by omega
          rw [List.getD_eq_getElem?_getD, List.getD_eq_getElem?_getD, List.getElem?_eq_none (l := ms) (by omega), List.getElem?_eq_none (l := ms ++ [m]) (by rw [List.length_append]; simp; omega)]
      rw [this]
theorem infoF : ∃ i, Try.prog.info? 64 = some i ∧ i.zero = some (.agg #[.int .i64 0, .int .i64 0]) ∧ i.size = 2 ∧ i.bytes = 16 := by
  obtain ⟨i, hi, hz⟩ := Option.map_eq_some_iff.1 (show (Try.prog.info? 64).map (fun i => (i.zero, i.size, i.bytes)) = some (some (.agg #[.int .i64 0, .int .i64 0]), 2, 16) by kernel_rfl)
  simp only [Prod.mk.injEq] at hz
  exact ⟨i, hi, hz⟩
theorem made_fld (n : Nat) (w : World) : (w.alloc (.cells (madeCells #[.int .i64 0, .int .i64 0] (n * 2)) 64)).rowIs w.heap.size 64 (n * 2) (fldF []) := by
  refine ⟨_, Deep.blk_alloc_new _ _, by rw [size_madeCells], fun j hj => ?_⟩
  unfold madeCells fldF
  rcases (show j % 2 = 0 ∨ j % 2 = 1 by omega) with h | h <;> simp [hj, h, kindM, sizeM]
theorem make_fld (n : Nat) (hn : n ≤ 16) (w : World) : (Instr.makeSlice 56 (.int .i64 (n : Int)) (.int .i64 (n : Int))).run Try.prog w = .ok (.slice (some ⟨w.heap.size, 0, none⟩) n n) (w.alloc (.cells (madeCells #[.int .i64 0, .int .i64 0] (n * 2)) 64)) := by
  obtain ⟨i, hi, hz, h2, hb⟩ := infoF
  have h := run_make (P := Try.prog) w 56 64 i _ Try.underlying56 hi hz .i64 .i64 (n : Int) (n : Int) (by omega) (by omega) (by rw [hb]; omega) (by omega)
  rw [h2, Int.toNat_natCast] at h
  exact h

theorem markS_len (l : List UInt8) : (markS l).2.1.length ≤ l.length := by
  unfold markS
  split
  · split <;> simp
  · simp

set_option maxRecDepth 100000 in
set_option maxHeartbeats 1000000 in
theorem collF_r (n : Nat) (hn : n ≤ 16) (b : Nat) (l : List UInt8) (f : Value) (w : World) (hs : l.length ≤ 9223372036854775807) (h : Rd w b l f) :
    Calls Try.prog 26 #[.int .i64 n, .func (.func 27) #[.pointer (some ⟨b, 0, none⟩)] #[]] w fun e w' => w.grownBy w' (some b) ∧
      ((marksS n [] l).2.2 = 0 → ∃ g, w.heap.size ≤ g ∧ e = .returned (.tuple #[.slice (some ⟨g, 0, none⟩) n n, .int .i64 0]) ∧ Rd w' b (marksS n [] l).2.1 f ∧ w'.rowIs g 64 (n * 2) (fldF (marksS n [] l).1)) ∧
      ((marksS n [] l).2.2 ≠ 0 → e = .returned (.tuple #[.slice none 0 0, .int .i64 (marksS n [] l).2.2]) ∧ ∃ l', Rd w' b l' f) := by
  have hbw := h.lt
  have hmk := make_fld n hn
  obtain ⟨R, hR⟩ : ∃ R, R = marksS n [] l := ⟨_, rfl⟩
  rw [← hR]
  have HR := Lib.hid hR; clear hR
  have HRD := Lib.hid (rd_alloc h (.cells (madeCells #[.int .i64 0, .int .i64 0] (n * 2)) 64))
  have HM := Lib.hid (made_fld n w)
  have HG := Lib.hid (World.grownBy_alloc w (.cells (madeCells #[.int .i64 0, .int .i64 0] (n * 2)) 64) (some b))
  clear h
  go_enter Try.func26, Try.ntmps26
  go_wp2
  generalize (w.alloc (.cells (madeCells #[.int .i64 0, .int .i64 0] (n * 2)) 64)) = W0 at HRD HM HG ⊢
  have hgb : b ≠ w.heap.size := by omega
  obtain ⟨g, hg⟩ : ∃ g, w.heap.size = g := ⟨_, rfl⟩
  rw [hg] at HM hgb ⊢
  have hwg : w.heap.size ≤ g := by omega
  clear hg hmk
  go_loopw [14] (fun i wr => ∃ (k : Nat) (ms : List Nat) (l' : List UInt8), k ≤ n ∧ i = .int .i64 k ∧ l'.length ≤ 9223372036854775807 ∧ Hid (ms.length = k) ∧ Hid (R = marksS (n - k) ms l') ∧ Hid (Rd wr b l' f) ∧ Hid (wr.rowIs g 64 (n * 2) (fldF ms)) ∧ Hid (w.grownBy wr (some b))) (fun i _ => n - (intOf i).toNat)
  case atStart => exact ⟨0, [], l, by omega, rfl, hs, Lib.hid rfl, HR, HRD, HM, HG⟩
  case round =>
    obtain ⟨k, ms, l', hk, rfl, hl', hkm, hz, hrd, hrow, hgr⟩ := hrel
    clear HR HRD HM HG
    by_cases hlt : k < n
    · have hm := mark_r b l' f wr hl' hrd.out
      have hml := markS_len l'
      have hz' := hz.out
      rw [show n - k = (n - (k + 1)) + 1 by omega, marksS] at hz'
      obtain ⟨x, hx⟩ : ∃ x, x = markS l' := ⟨_, rfl⟩
      rw [← hx] at hm hml hz'
      clear hx hz
      obtain ⟨m, l2, e⟩ := x
      simp only at hm hml hz'
      have hgl := hrow.out.lt
      by_cases h0 : e = 0
      · rw [if_pos h0] at hz'; subst h0
        have HZ := Lib.hid hz'; clear hz'
        go_wp2_with (go_at_call 27; refine hm.mono ?_; rintro e w1 ⟨rfl, q1, q2⟩; have hrow1 := World.rowIs.of_block hrow.out (q2.block g hgl (fun e => hgb (Option.some.inj e).symm)); have hgl1 := hrow1.lt; have g0 := hrow1.cell (i := k * 2) (by omega); have g1 := hrow1.cell (i := k * 2 + 1) (by omega); have g2 := hrow1.frozen (k * 2); have g3 := hrow1.frozen (k * 2 + 1))
        go_roundw
        case rel =>
          have hkm' := hkm.out
          refine ⟨k + 1, ms ++ [m], l2, by omega, by go_num, by omega, Lib.hid (by rw [List.length_append, hkm']; rfl), HZ, Lib.hid (rd_alloc (rd_other (rd_other q1 hgb _ _) hgb _ _) _), Lib.hid (World.rowIs.alloc ?_ _), Lib.hid (Lib.grownBy_allocR (grown_set (grown_set (Lib.grownBy_trans hgr.out q2) hwg _ _) hwg _ _) _)⟩
          rw [← hkm']; exact fld_snoc hrow1
        case measure => simp [intOf]; omega
      · rw [if_neg h0] at hz'
        have t1 : (e != 0) = true := by simpa using h0
        have HZ := Lib.hid hz'; clear hz'
        have H0 := Lib.hid h0; clear h0
        go_wp2_with (go_at_call 27; refine hm.mono ?_; rintro e w1 ⟨rfl, q1, q2⟩)
        go_ret2
        rw [HZ.out]
        exact ⟨Lib.grownBy_allocR (Lib.grownBy_trans hgr.out q2) _, fun h => absurd h H0.out, fun _ => ⟨rfl, l2, rd_alloc q1 _⟩⟩
    · have hz' := hz.out
      rw [show n - k = 0 by omega, marksS] at hz'
      have HZ := Lib.hid hz'; clear hz' hz
      go_wp2
      go_ret2
      rw [HZ.out]
      refine ⟨hgr.out, fun _ => ⟨g, hwg, rfl, hrd.out, hrow.out⟩, fun h => absurd rfl h⟩
end Go.Proofs.Ytpkhbafgepdogaa
