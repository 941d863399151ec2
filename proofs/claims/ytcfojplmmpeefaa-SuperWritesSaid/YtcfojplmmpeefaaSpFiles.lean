/-
  Layer 10, the reader's method files: it returns the files that it reads, in a slice of its own, and changes the reader alone. Condition: at most 4096 bytes.
-/
import Derived.Test.YtcfojplmmpeefaaSpClone
namespace Go.Proofs.Ytcfojplmmpeefaa
open Go.RowKit

/-- The strings of a slice. -/
def Strs (w : World) (a : Option Addr) (L : List (List UInt8)) : Prop := ∀ j (h : j < L.length), ∃ b off, a = some ⟨b, off, none⟩ ∧ b < w.heap.size ∧ w.cell? ⟨b, off + j, none⟩ = some (.string (ba L[j]))
theorem strs_below {w w' : World} {a : Option Addr} {L : List (List UInt8)} (h : Strs w a L) (hb : Below w.heap.size w w') : Strs w' a L := by
  intro j hj
  obtain ⟨b, off, e, hlt, hc⟩ := h j hj
  exact ⟨b, off, e, Nat.lt_of_lt_of_le hlt hb.size, by rw [hb.cell hlt]; exact hc⟩
theorem strs_grown {w w' : World} {a : Option Addr} {L : List (List UInt8)} {g : Nat} (h : Strs w a L) (hb : w.grownBy w' (some g)) (hne : ∀ b off, a = some ⟨b, off, none⟩ → b ≠ g) : Strs w' a L := by
  intro j hj
  obtain ⟨b, off, e, hlt, hc⟩ := h j hj
  have := hb.block b hlt (fun h => hne b off e (Option.some.inj h))
  refine ⟨b, off, e, Nat.lt_of_lt_of_le hlt hb.size, ?_⟩
  rw [← hc]
  simp only [World.cell?, this]
theorem strs_nil (w : World) (a : Option Addr) : Strs w a [] := fun j hj => absurd hj (Nat.not_lt_zero j)
/-- The cells of a row of strings. -/
def strF (L : List (List UInt8)) (j : Nat) : Value := .string (ba (L.getD j []))
theorem strF_snoc {w : World} {g n : Nat} {L : List (List UInt8)} (p : List UInt8) (h : w.rowIs g 9 n (strF L)) : (w.setCell ⟨g, L.length, none⟩ (.string (ba p))).rowIs g 9 n (strF (L ++ [p])) := by
  refine (h.set L.length _).congr fun j hj => ?_
  unfold strF
  by_cases h1 : j = L.length
  · rw [if_pos h1, h1]; simp
  · rw [if_neg h1]
    by_cases h3 : j < L.length
    · simp [List.getD, List.getElem?_append_left h3]
    · rw [List.getD_eq_getElem?_getD, List.getD_eq_getElem?_getD, List.getElem?_eq_none (l := L) (by omega), List.getElem?_eq_none (l := L ++ [p]) (by rw [List.length_append]; simp; omega)]
theorem strs_row {w : World} {g : Nat} {L : List (List UInt8)} (h : w.rowIs g 9 L.length (strF L)) : Strs w (some ⟨g, 0, none⟩) L := by
  intro j hj
  refine ⟨g, 0, rfl, h.lt, ?_⟩
  have := h.cell hj
  rw [Nat.zero_add, this]
  simp [strF, List.getD, List.getElem?_eq_getElem hj]
theorem infoS : ∃ i, Try.prog.info? 9 = some i ∧ i.zero = some (.string ByteArray.empty) ∧ i.size = 1 ∧ i.bytes = 16 := by
  obtain ⟨i, hi, hz⟩ := Option.map_eq_some_iff.1 (show (Try.prog.info? 9).map (fun i => (i.zero, i.size, i.bytes)) = some (some (.string ByteArray.empty), 1, 16) by kernel_rfl)
  simp only [Prod.mk.injEq] at hz
  exact ⟨i, hi, hz⟩
theorem made_str (n : Nat) (w : World) : (w.alloc (.cells (madeCells #[.string ByteArray.empty] n) 9)).rowIs w.heap.size 9 n (strF []) := by
  refine ⟨_, Deep.blk_alloc_new _ _, by rw [size_madeCells], fun j hj => ?_⟩
  unfold madeCells strF
  simp [hj, Nat.mod_one]
  rfl
theorem make_str (n : Nat) (hn : n ≤ 16) (w : World) : (Instr.makeSlice 22 (.int .i64 (n : Int)) (.int .i64 (n : Int))).run Try.prog w = .ok (.slice (some ⟨w.heap.size, 0, none⟩) n n) (w.alloc (.cells (madeCells #[.string ByteArray.empty] n) 9)) := by
  obtain ⟨i, hi, hz, h2, hb⟩ := infoS
  have h := run_make (P := Try.prog) w 22 9 i _ Try.underlying22 hi hz .i64 .i64 (n : Int) (n : Int) (by omega) (by omega) (by rw [hb]; omega) (by omega)
  rw [h2, Int.toNat_natCast, Nat.mul_one] at h
  exact h
theorem pths_len (k : Nat) (r : List UInt8) : (pths k r).1.length = k := by
  induction k with
  | zero => rfl
  | succ k ih => rw [pths, List.length_append, ih]; rfl
theorem pthP_le (l : List UInt8) : (pthP l).2.length ≤ l.length := by
  unfold pthP; split
  · simp
  · simp only [List.length_drop]; omega
theorem pths_le (k : Nat) (r : List UInt8) : (pths k r).2.length ≤ r.length := by
  induction k with
  | zero => exact Nat.le_refl _
  | succ k ih => rw [pths]; exact Nat.le_trans (pthP_le _) ih
theorem sgrown_set {a w : World} {row : Option Nat} (h : a.grownBy w row) {g : Nat} (hg : a.heap.size ≤ g) (i : Nat) (v : Value) : a.grownBy (w.setCell ⟨g, i, none⟩ v) row :=
  ⟨h.os, h.tape, h.output, by rw [World.size_setCell]; exact h.size, fun k hk hne => by
    rw [Below.heap_setCell w ⟨g, i, none⟩ v k (by show k ≠ g; omega)]; exact h.block k hk hne⟩

set_option maxRecDepth 100000 in
set_option maxHeartbeats 1000000 in
theorem spfiles_any (b : Nat) (l : List UInt8) (w : World) (hs : l.length ≤ 4096) (h : Rdr w b l) :
    Calls Try.prog 30 #[.pointer (some ⟨b, 0, none⟩)] w fun e w' => ∃ a cap, (flP l).length ≤ cap ∧ e = .returned (.slice a (flP l).length cap) ∧ Strs w' a (flP l) ∧ w.grownBy w' (some b) := by
  have hbw := blk_lt h
  have k1 := sptake_any b l 8 w hs (by decide) h
  have k2 := fun w (h : Rdr w b (l.drop 8)) => spnumber_any b (l.drop 8) w (by rw [List.length_drop]; omega) h
  have hbd := nmL_bd (l.drop 8)
  have e12 : (l.drop 8).drop 4 = l.drop 12 := by rw [List.drop_drop]
  rw [e12] at k2
  obtain ⟨r, hr⟩ : ∃ r, r = flP l := ⟨_, rfl⟩
  rw [← hr]
  rw [flP] at hr
  obtain ⟨n, hn⟩ : ∃ n, n = nmL (l.drop 8) := ⟨_, rfl⟩
  rw [← hn] at k2 hr hbd
  clear hn e12 h
  by_cases h12 : 12 < n
  · rw [if_pos h12] at hr; subst hr
    go_enter Try.func30, Try.ntmps30
    go_wp2_with (first | (go_at_call 39; refine k1.mono ?_; rintro e w1 ⟨rfl, hr, hg⟩) | (go_at_call 40; refine (k2 _ hr).mono ?_; rintro e w2 ⟨rfl, hr2, hg2⟩))
    go_ret
    exact ⟨none, 0, Nat.le_refl _, rfl, strs_nil _ _, Lib.grownBy_trans hg hg2⟩
  rw [if_neg h12] at hr
  obtain ⟨m, rfl⟩ : ∃ m : Nat, n = m := ⟨n.toNat, by omega⟩
  rw [Int.toNat_natCast] at hr
  have hql : (l.drop 12).length ≤ 4096 := by rw [List.length_drop]; omega
  generalize l.drop 12 = q at k2 hr hql
  have hm : m ≤ 12 := by omega
  have hrl : r.length = m := by rw [hr, pths_len]
  have HR := Lib.hid hr; clear hr
  rw [hrl]
  clear hrl
  have hmk := fun w => make_str m (by omega) w
  have k3 := fun k w (h : Rdr w b (pths k q).2) => sppath_any b (pths k q).2 w (Nat.le_trans (pths_le k q) hql) h
  go_enter Try.func30, Try.ntmps30
  go_wp2_with (first | (go_at_call 39; refine k1.mono ?_; rintro e w1 ⟨rfl, hr, hg⟩) | (go_at_call 40; refine (k2 _ hr).mono ?_; rintro e w2 ⟨rfl, hr2, hg2⟩))
  have HRD := Lib.hid (show Rdr _ b (pths 0 q).2 from blk_alloc hr2 (.cells (madeCells #[.string ByteArray.empty] m) 9))
  have HM := Lib.hid (show World.rowIs _ w2.heap.size 9 m (strF (pths 0 q).1) from made_str m w2)
  have HG := Lib.hid (Lib.grownBy_trans (Lib.grownBy_trans hg hg2) (World.grownBy_alloc w2 (.cells (madeCells #[.string ByteArray.empty] m) 9) (some b)))
  have hgb : b ≠ w2.heap.size := by have := blk_lt hr2; omega
  have hwg : w.heap.size ≤ w2.heap.size := (Lib.grownBy_trans hg hg2).size
  generalize (w2.alloc (.cells (madeCells #[.string ByteArray.empty] m) 9)) = W0 at HRD HM HG ⊢
  obtain ⟨g, hgg⟩ : ∃ g, w2.heap.size = g := ⟨_, rfl⟩
  rw [hgg] at HM hgb hwg ⊢
  clear hgg hmk hr hg hr2 hg2 k1 k2
  go_loopw [20] (fun i wr => ∃ (k : Nat), k ≤ m ∧ i = .int .i64 k ∧ Hid (Rdr wr b (pths k q).2) ∧ Hid (wr.rowIs g 9 m (strF (pths k q).1)) ∧ Hid (w.grownBy wr (some b))) (fun i _ => m - (intOf i).toNat)
  case atStart => exact ⟨0, by omega, rfl, HRD, HM, HG⟩
  case round =>
    obtain ⟨k, hk, rfl, hrd, hrow, hgr⟩ := hrel
    clear HRD HM HG
    by_cases hlt : k < m
    · have hgl := hrow.out.lt
      have hkl := pths_len k q
      have hp := k3 k
      have e1 : (pths (k + 1) q).1 = (pths k q).1 ++ [(pthP (pths k q).2).1] := rfl
      have e2 : (pths (k + 1) q).2 = (pthP (pths k q).2).2 := rfl
      have HK := Lib.hid (show ∀ w' : World, w'.rowIs g 9 m (strF (pths k q).1) → (w'.setCell ⟨g, k, none⟩ (.string (ba (pthP (pths k q).2).1))).rowIs g 9 m (strF (pths (k + 1) q).1) from fun w' h => by
        have := strF_snoc (pthP (pths k q).2).1 h
        rw [hkl] at this
        rw [e1]; exact this)
      rw [← e2] at hp
      clear e1 e2 hkl
      generalize pthP (pths k q).2 = x at hp HK
      go_wp2_with (go_at_call 41; refine (hp _ hrd.out).mono ?_; rintro e w1 ⟨rfl, q1, q2⟩; have hrow1 := World.rowIs.of_block hrow.out (q2.block g hgl (fun e => hgb (Option.some.inj e).symm)); have hgl1 := hrow1.lt; have g0 := hrow1.cell (i := k) (by omega); have g2 := hrow1.frozen k)
      go_roundw
      case rel =>
        exact ⟨k + 1, by omega, by go_num, Lib.hid (blk_other q1 hgb _ _), Lib.hid (HK.out _ hrow1), Lib.hid (sgrown_set (Lib.grownBy_trans hgr.out q2) hwg _ _)⟩
      case measure => simp [intOf]; omega
    · obtain rfl : k = m := by omega
      go_wp2
      go_ret
      refine ⟨_, _, Nat.le_refl _, rfl, ?_, hgr.out⟩
      rw [HR.out]
      refine strs_row ?_
      rw [pths_len]
      exact hrow.out
end Go.Proofs.Ytcfojplmmpeefaa
