/-
  Layer 4, Rows and the document's Rows: both return how two rows stand in the order ('rowsZ') and change nothing that was there. Condition: the strings have at most 30000 bytes (the document's; Rows: 2^47 - 4096), the slices' lengths are ints.
-/
import Derived.Test.YtembcmmoicmkeaaDoorValGreat
namespace Go.Proofs.YtembcmmoicmkeaaDoor
open Go.RowKit

/-- How two values stand in the order. -/
def cmpW (x y : Val) (nc : Bool) : Int := cmpV x.k x.n x.s y.k y.n y.s nc
/-- Whether the i-th value is compared without regard to case. -/
def ncAt (g : Nat → Bool) (ln i : Nat) : Bool := decide (i < ln) && g i
/-- One order, and where it says nothing another. -/
def thenZ (c d : Int) : Int := if c = 0 then d else c
/-- How two rows stand in the order, from the i-th value on. -/
def rowsZ (f1 f2 : Nat → Val) (g : Nat → Bool) (l1 l2 ln : Nat) : Nat → Nat → Int
  | 0, _ => cmpI l1 l2
  | m + 1, i => if i < l1 ∧ i < l2 then thenZ (cmpW (f1 i) (f2 i) (ncAt g ln i)) (rowsZ f1 f2 g l1 l2 ln m (i + 1)) else cmpI l1 l2
theorem rowsZ_step (f1 f2 : Nat → Val) (g : Nat → Bool) (l1 l2 ln m i : Nat) : rowsZ f1 f2 g l1 l2 ln (m + 1) i = if i < l1 ∧ i < l2 then thenZ (cmpW (f1 i) (f2 i) (ncAt g ln i)) (rowsZ f1 f2 g l1 l2 ln m (i + 1)) else cmpI l1 l2 := rfl
theorem rowsZ_end (f1 f2 : Nat → Val) (g : Nat → Bool) (l1 l2 ln m i : Nat) (h : ¬ (i < l1 ∧ i < l2)) : rowsZ f1 f2 g l1 l2 ln m i = cmpI l1 l2 := by
  cases m with
  | zero => rfl
  | succ m => rw [rowsZ_step, if_neg h]

/-- Two values in memory that was there, at b1, p1 and b2, p2. -/
structure RowI (w : World) (b1 p1 : Nat) (k1 n1 : Int) (s1 : ByteArray) (b2 p2 : Nat) (k2 n2 : Int) (s2 : ByteArray) (w' : World) : Prop where
  lt1 : b1 < w'.heap.size
  lt2 : b2 < w'.heap.size
  a0 : w'.cell? ⟨b1, p1, none⟩ = some (.int .i64 k1)
  a1 : w'.cell? ⟨b1, p1 + 1, none⟩ = some (.int .i64 n1)
  a2 : w'.cell? ⟨b1, p1 + 2, none⟩ = some (.string s1)
  b0 : w'.cell? ⟨b2, p2, none⟩ = some (.int .i64 k2)
  b1 : w'.cell? ⟨b2, p2 + 1, none⟩ = some (.int .i64 n2)
  b2 : w'.cell? ⟨b2, p2 + 2, none⟩ = some (.string s2)
  size : w.heap.size ≤ w'.heap.size
  below : Below w.heap.size w w'
section
variable {w : World} {b1 p1 : Nat} {k1 n1 : Int} {s1 : ByteArray} {b2 p2 : Nat} {k2 n2 : Int} {s2 : ByteArray} {a b : World}
theorem rowI_drew (h : RowI w b1 p1 k1 n1 s1 b2 p2 k2 n2 s2 a) : RowI w b1 p1 k1 n1 s1 b2 p2 k2 n2 s2 a.drew :=
  ⟨h.lt1, h.lt2, h.a0, h.a1, h.a2, h.b0, h.b1, h.b2, h.size, h.below.drew⟩
theorem rowI_drewN (h : RowI w b1 p1 k1 n1 s1 b2 p2 k2 n2 s2 a) (q : Nat) : RowI w b1 p1 k1 n1 s1 b2 p2 k2 n2 s2 (a.drewN q) :=
  ⟨h.lt1, h.lt2, h.a0, h.a1, h.a2, h.b0, h.b1, h.b2, h.size, ⟨h.below.os, h.below.tape, h.below.output, h.below.size, h.below.block⟩⟩
theorem rowI_next (h : RowI w b1 p1 k1 n1 s1 b2 p2 k2 n2 s2 a) (hb : Below a.heap.size a b) : RowI w b1 p1 k1 n1 s1 b2 p2 k2 n2 s2 b :=
  ⟨Nat.lt_of_lt_of_le h.lt1 hb.size, Nat.lt_of_lt_of_le h.lt2 hb.size, (hb.cell h.lt1).trans h.a0, (hb.cell h.lt1).trans h.a1, (hb.cell h.lt1).trans h.a2, (hb.cell h.lt2).trans h.b0, (hb.cell h.lt2).trans h.b1, (hb.cell h.lt2).trans h.b2, Nat.le_trans h.size hb.size, h.below.trans (hb.mono h.size)⟩
theorem rowS_of (h : RowI w b1 p1 k1 n1 s1 b2 p2 k2 n2 s2 a) :
    a.cell? ⟨b1, p1, none⟩ = some (.int .i64 k1) ∧ a.cell? ⟨b1, p1 + 1, none⟩ = some (.int .i64 n1) ∧ a.cell? ⟨b1, p1 + 2, none⟩ = some (.string s1) ∧ a.cell? ⟨b2, p2, none⟩ = some (.int .i64 k2) ∧ a.cell? ⟨b2, p2 + 1, none⟩ = some (.int .i64 n2) ∧ a.cell? ⟨b2, p2 + 2, none⟩ = some (.string s2) ∧ RowI w b1 p1 k1 n1 s1 b2 p2 k2 n2 s2 a := ⟨h.a0, h.a1, h.a2, h.b0, h.b1, h.b2, h⟩
end

set_option maxRecDepth 100000 in
set_option maxHeartbeats 2000000 in
theorem rows_any (a1 : Option Addr) (l1 p1 : Nat) (f1 : Nat → Val) (a2 : Option Addr) (l2 p2 : Nat) (f2 : Nat → Val) (an : Option Addr) (ln pn : Nat) (g : Nat → Bool) (w : World)
    (hl1 : l1 ≤ 140737488351232) (hl2 : l2 ≤ 140737488351232) (hln : ln ≤ 140737488351232) (h1 : Vals w a1 l1 f1) (h2 : Vals w a2 l2 f2) (h3 : Bools w an ln g) :
    Calls Tryd.prog 21 #[.slice a1 l1 p1, .slice a2 l2 p2, .slice an ln pn] w fun e w' => e = .returned (.int .i64 (rowsZ f1 f2 g l1 l2 ln l1 0)) ∧ Below w.heap.size w w' := by
  obtain ⟨r, hr⟩ : ∃ r, r = rowsZ f1 f2 g l1 l2 ln l1 0 := ⟨_, rfl⟩
  rw [← hr]
  have H1 := Lib.hid h1; have H2 := Lib.hid h2; have H3 := Lib.hid h3
  clear h1 h2 h3
  have HR := Lib.hid hr; clear hr
  go_enter Tryd.func21, Tryd.ntmps21
  go_wp2
  obtain ⟨m, hm, hm1, hm2, hm3⟩ : ∃ m : Nat, min (l1 : Int) l2 = m ∧ m ≤ l1 ∧ m ≤ l2 ∧ (l1 ≤ m ∨ l2 ≤ m) := ⟨min l1 l2, by omega, by omega, by omega, by omega⟩
  rw [hm]
  clear hm
  go_loopw [15] (fun i wr => ∃ k : Nat, k ≤ m ∧ i = .int .i64 k ∧ Hid (r = rowsZ f1 f2 g l1 l2 ln (l1 - k) k) ∧ Hid (Below w.heap.size w wr)) (fun i _ => m - (intOf i).toNat)
  case atStart => exact ⟨0, by omega, rfl, HR, Lib.hid (Below.refl _ _)⟩
  case round =>
    obtain ⟨k, hk, rfl, hz, hB⟩ := hrel
    clear HR
    by_cases hlt : k < m
    · have hz' := hz.out
      rw [show l1 - k = (l1 - (k + 1)) + 1 by omega, rowsZ_step, if_pos ⟨by omega, by omega⟩] at hz'
      obtain ⟨hs1, b1, o1, rfl, hb1, c10, c11, c12⟩ := vals_next H1.out hB.out k (by omega)
      obtain ⟨hs2, b2, o2, rfl, hb2, c20, c21, c22⟩ := vals_next H2.out hB.out k (by omega)
      obtain ⟨nc, hnc⟩ : ∃ nc, nc = ncAt g ln k := ⟨_, rfl⟩
      rw [← hnc] at hz'
      generalize f1 k = v1 at *
      generalize f2 k = v2 at *
      obtain ⟨k1, n1, s1⟩ := v1
      obtain ⟨k2, n2, s2⟩ := v2
      obtain ⟨c, hc⟩ : ∃ c, c = cmpW ⟨k1, n1, s1⟩ ⟨k2, n2, s2⟩ nc := ⟨_, rfl⟩
      rw [← hc] at hz'
      have HC := Lib.hid (show c = cmpV k1 n1 s1 k2 n2 s2 nc from hc); clear hc
      have HZ := Lib.hid hz'; clear hz' hz
      have HI := Lib.hid (show RowI w b1 (o1 + k * 3) k1 n1 s1 b2 (o2 + k * 3) k2 n2 s2 wr from ⟨hb1, hb2, c10, c11, c12, c20, c21, c22, hB.out.size, hB.out⟩)
      clear c10 c11 c12 c20 c21 c22
      by_cases hn : k < ln
      · obtain ⟨bn, on, rfl, hbn, cn⟩ := bools_next H3.out hB.out k hn
        obtain rfl : nc = g k := by rw [hnc, ncAt, decide_eq_true hn, Bool.true_and]
        clear hnc
        generalize g k = nc at *
        have i1 : k < l1 := by omega
        have i2 : k < l2 := by omega
        have j1 : (k : Int) < l1 := by omega
        have j2 : (k : Int) < l2 := by omega
        have j0 : (0 : Int) ≤ k := by omega
        go_upto_region 5 with (fail)
        go_region_held3 (fun w' => w'.cell? ⟨b1, o1 + k * 3, none⟩ = some (.int .i64 k1) ∧ w'.cell? ⟨b1, o1 + k * 3 + 1, none⟩ = some (.int .i64 n1) ∧ w'.cell? ⟨b1, o1 + k * 3 + 2, none⟩ = some (.string s1) ∧ w'.cell? ⟨b2, o2 + k * 3, none⟩ = some (.int .i64 k2) ∧ w'.cell? ⟨b2, o2 + k * 3 + 1, none⟩ = some (.int .i64 n2) ∧ w'.cell? ⟨b2, o2 + k * 3 + 2, none⟩ = some (.string s2) ∧ RowI w b1 (o1 + k * 3) k1 n1 s1 b2 (o2 + k * 3) k2 n2 s2 w')
          (first | assumption | exact rowS_of HI.out | exact rowS_of (rowI_drew HI.out) | exact rowS_of (rowI_drewN HI.out _) | exact rowS_of (rowI_next (And.right (And.right (And.right (And.right (And.right (And.right (by assumption))))))) (by assumption)))
          ((go_at_call 19; refine (compare_any k1 n1 s1 k2 n2 s2 nc _ hs1 hs2).mono ?_; rw [← HC.out]; rintro e w2 ⟨rfl, hb⟩))
        rename_i hq
        have HQ := Lib.hid hq.2.2.2.2.2.2.below
        clear hq hb
        by_cases e : c = 0
        · have t1 : (c != 0) = false := by simpa using e
          have HE := Lib.hid (show r = rowsZ f1 f2 g l1 l2 ln (l1 - (k + 1)) (k + 1) by rw [HZ.out, thenZ, if_pos e])
          clear e
          go_wp2
          go_roundw
          case rel => exact ⟨k + 1, by omega, by go_num, HE, HQ⟩
          case measure => simp [intOf]; omega
        · have t1 : (c != 0) = true := by simpa using e
          have HE := Lib.hid (show c = r by rw [HZ.out, thenZ, if_neg e])
          clear e
          go_wp2
          go_ret
          exact ⟨ret_int HE.out, HQ.out⟩
      · obtain rfl : nc = false := by rw [hnc, ncAt, decide_eq_false hn, Bool.false_and]
        clear hnc
        have i1 : k < l1 := by omega
        have i2 : k < l2 := by omega
        have j1 : (k : Int) < l1 := by omega
        have j2 : (k : Int) < l2 := by omega
        have j0 : (0 : Int) ≤ k := by omega
        go_upto_region 5 with (fail)
        go_region_held3 (fun w' => w'.cell? ⟨b1, o1 + k * 3, none⟩ = some (.int .i64 k1) ∧ w'.cell? ⟨b1, o1 + k * 3 + 1, none⟩ = some (.int .i64 n1) ∧ w'.cell? ⟨b1, o1 + k * 3 + 2, none⟩ = some (.string s1) ∧ w'.cell? ⟨b2, o2 + k * 3, none⟩ = some (.int .i64 k2) ∧ w'.cell? ⟨b2, o2 + k * 3 + 1, none⟩ = some (.int .i64 n2) ∧ w'.cell? ⟨b2, o2 + k * 3 + 2, none⟩ = some (.string s2) ∧ RowI w b1 (o1 + k * 3) k1 n1 s1 b2 (o2 + k * 3) k2 n2 s2 w')
          (first | assumption | exact rowS_of HI.out | exact rowS_of (rowI_drew HI.out) | exact rowS_of (rowI_drewN HI.out _) | exact rowS_of (rowI_next (And.right (And.right (And.right (And.right (And.right (And.right (by assumption))))))) (by assumption)))
          ((go_at_call 19; refine (compare_any k1 n1 s1 k2 n2 s2 false _ hs1 hs2).mono ?_; rw [← HC.out]; rintro e w2 ⟨rfl, hb⟩))
        rename_i hq
        have HQ := Lib.hid hq.2.2.2.2.2.2.below
        clear hq hb
        by_cases e : c = 0
        · have t1 : (c != 0) = false := by simpa using e
          have HE := Lib.hid (show r = rowsZ f1 f2 g l1 l2 ln (l1 - (k + 1)) (k + 1) by rw [HZ.out, thenZ, if_pos e])
          clear e
          go_wp2
          go_roundw
          case rel => exact ⟨k + 1, by omega, by go_num, HE, HQ⟩
          case measure => simp [intOf]; omega
        · have t1 : (c != 0) = true := by simpa using e
          have HE := Lib.hid (show c = r by rw [HZ.out, thenZ, if_neg e])
          clear e
          go_wp2
          go_ret
          exact ⟨ret_int HE.out, HQ.out⟩
    · have HE := Lib.hid (show r = cmpI l1 l2 by rw [hz.out, rowsZ_end _ _ _ _ _ _ _ _ (by omega)])
      clear hz
      go_wp2_with (go_at_call 29; refine (cmpI_any _ _ _).mono ?_; rw [← HE.out]; rintro e w' ⟨rfl, rfl⟩)
      go_ret
      exact ⟨rfl, hB.out⟩
end Go.Proofs.YtembcmmoicmkeaaDoor
