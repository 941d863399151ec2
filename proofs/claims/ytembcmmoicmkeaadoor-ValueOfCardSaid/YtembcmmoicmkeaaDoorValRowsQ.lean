/-
  Layer 4, the document's Rows: it returns how two rows stand in the order ('rowsZ') and changes nothing that was there. Condition: the strings have at most 30000 bytes, the slices' lengths are ints.
-/
import Derived.Test.YtembcmmoicmkeaaDoorValRows
import Derived.StillTailTactics
namespace Go.Proofs.YtembcmmoicmkeaaDoor
open Go.RowKit

section
variable {w : World} {b1 p1 : Nat} {k1 n1 : Int} {s1 : ByteArray} {b2 p2 : Nat} {k2 n2 : Int} {s2 : ByteArray} {a b : World} {bn on k : Nat} {nc : Bool}
theorem rowN_next (h : a.cell? ⟨bn, on + k, none⟩ = some (.bool nc) ∧ bn < a.heap.size ∧ a.cell? ⟨b1, p1, none⟩ = some (.int .i64 k1) ∧ a.cell? ⟨b1, p1 + 1, none⟩ = some (.int .i64 n1) ∧ a.cell? ⟨b1, p1 + 2, none⟩ = some (.string s1) ∧ a.cell? ⟨b2, p2, none⟩ = some (.int .i64 k2) ∧ a.cell? ⟨b2, p2 + 1, none⟩ = some (.int .i64 n2) ∧ a.cell? ⟨b2, p2 + 2, none⟩ = some (.string s2) ∧ RowI w b1 p1 k1 n1 s1 b2 p2 k2 n2 s2 a) (hb : Below a.heap.size a b) :
    b.cell? ⟨bn, on + k, none⟩ = some (.bool nc) ∧ bn < b.heap.size ∧ b.cell? ⟨b1, p1, none⟩ = some (.int .i64 k1) ∧ b.cell? ⟨b1, p1 + 1, none⟩ = some (.int .i64 n1) ∧ b.cell? ⟨b1, p1 + 2, none⟩ = some (.string s1) ∧ b.cell? ⟨b2, p2, none⟩ = some (.int .i64 k2) ∧ b.cell? ⟨b2, p2 + 1, none⟩ = some (.int .i64 n2) ∧ b.cell? ⟨b2, p2 + 2, none⟩ = some (.string s2) ∧ RowI w b1 p1 k1 n1 s1 b2 p2 k2 n2 s2 b :=
  ⟨(hb.cell h.2.1).trans h.1, Nat.lt_of_lt_of_le h.2.1 hb.size, rowS_of (rowI_next h.2.2.2.2.2.2.2.2 hb)⟩
end

set_option maxRecDepth 100000 in
set_option maxHeartbeats 2000000 in
theorem qrows_any (a1 : Option Addr) (l1 p1 : Nat) (f1 : Nat → Val) (a2 : Option Addr) (l2 p2 : Nat) (f2 : Nat → Val) (an : Option Addr) (ln pn : Nat) (g : Nat → Bool) (w : World)
    (hl1 : l1 ≤ 140737488351232) (hl2 : l2 ≤ 140737488351232) (hln : ln ≤ 140737488351232) (h1 : Vals w a1 l1 f1) (h2 : Vals w a2 l2 f2) (h3 : Bools w an ln g) (hz1 : ∀ j, j < l1 → (f1 j).s.size ≤ 30000) (hz2 : ∀ j, j < l2 → (f2 j).s.size ≤ 30000) :
    Calls Tryd.prog 22 #[.slice a1 l1 p1, .slice a2 l2 p2, .slice an ln pn] w fun e w' => e = .returned (.int .i64 (rowsZ f1 f2 g l1 l2 ln l1 0)) ∧ Below w.heap.size w w' := by
  obtain ⟨r, hr⟩ : ∃ r, r = rowsZ f1 f2 g l1 l2 ln l1 0 := ⟨_, rfl⟩
  rw [← hr]
  have H1 := Lib.hid h1; have H2 := Lib.hid h2; have H3 := Lib.hid h3
  have HZ1 := Lib.hid hz1; have HZ2 := Lib.hid hz2
  clear h1 h2 h3 hz1 hz2
  have HR := Lib.hid hr; clear hr
  go_enter Tryd.func22, Tryd.ntmps22
  go_wp2
  go_loopw [7] (fun i wr => ∃ k : Nat, k ≤ l1 ∧ k ≤ l2 ∧ i = .int .i64 k ∧ Hid (r = rowsZ f1 f2 g l1 l2 ln (l1 - k) k) ∧ Hid (Below w.heap.size w wr)) (fun i _ => l1 - (intOf i).toNat)
  case atStart => exact ⟨0, by omega, by omega, rfl, HR, Lib.hid (Below.refl _ _)⟩
  case round =>
    obtain ⟨k, hk, hk2, rfl, hz, hB⟩ := hrel
    clear HR
    by_cases hlt : k < l1 ∧ k < l2
    · obtain ⟨i1, i2⟩ := hlt
      have hz' := hz.out
      rw [show l1 - k = (l1 - (k + 1)) + 1 by omega, rowsZ_step, if_pos ⟨by omega, by omega⟩] at hz'
      have hs1 := HZ1.out k i1
      have hs2 := HZ2.out k i2
      obtain ⟨-, b1, o1, rfl, hb1, c10, c11, c12⟩ := vals_next H1.out hB.out k (by omega)
      obtain ⟨-, b2, o2, rfl, hb2, c20, c21, c22⟩ := vals_next H2.out hB.out k (by omega)
      obtain ⟨nc, hnc⟩ : ∃ nc, nc = ncAt g ln k := ⟨_, rfl⟩
      rw [← hnc] at hz'
      generalize f1 k = v1 at *
      generalize f2 k = v2 at *
      obtain ⟨k1, n1, s1⟩ := v1
      obtain ⟨k2, n2, s2⟩ := v2
      obtain ⟨c, hc⟩ : ∃ c, c = cmpW ⟨k1, n1, s1⟩ ⟨k2, n2, s2⟩ nc := ⟨_, rfl⟩
      rw [← hc] at hz'
      have HC := Lib.hid (show c = cmpV k1 n1 s1 k2 n2 s2 nc from hc); clear hc
      have HZ := Lib.hid hz'; clear hz' hz
      have HI := Lib.hid (show RowI w b1 (o1 + k * 3) k1 n1 s1 b2 (o2 + k * 3) k2 n2 s2 wr from ⟨hb1, hb2, c10, c11, c12, c20, c21, c22, hB.out.size, hB.out⟩)
      clear c10 c11 c12 c20 c21 c22
      by_cases hn : k < ln
      · obtain ⟨bn, on, rfl, hbn, cn⟩ := bools_next H3.out hB.out k hn
        obtain rfl : nc = g k := by rw [hnc, ncAt, decide_eq_true hn, Bool.true_and]
        clear hnc
        generalize g k = nc at *
        have j1 : (k : Int) < l1 := by omega
        have j2 : (k : Int) < l2 := by omega
        have j0 : (0 : Int) ≤ k := by omega
        have j3 : (k : Int) < ln := by omega
        go_upto_region 4 with (fail)
        go_region_held3 (fun w' => w'.cell? ⟨bn, on + k, none⟩ = some (.bool nc) ∧ bn < w'.heap.size ∧ w'.cell? ⟨b1, o1 + k * 3, none⟩ = some (.int .i64 k1) ∧ w'.cell? ⟨b1, o1 + k * 3 + 1, none⟩ = some (.int .i64 n1) ∧ w'.cell? ⟨b1, o1 + k * 3 + 2, none⟩ = some (.string s1) ∧ w'.cell? ⟨b2, o2 + k * 3, none⟩ = some (.int .i64 k2) ∧ w'.cell? ⟨b2, o2 + k * 3 + 1, none⟩ = some (.int .i64 n2) ∧ w'.cell? ⟨b2, o2 + k * 3 + 2, none⟩ = some (.string s2) ∧ RowI w b1 (o1 + k * 3) k1 n1 s1 b2 (o2 + k * 3) k2 n2 s2 w')
          (first | assumption | exact ⟨cn, hbn, rowS_of HI.out⟩ | exact ⟨cn, hbn, rowS_of (rowI_drew HI.out)⟩ | exact ⟨cn, hbn, rowS_of (rowI_drewN HI.out _)⟩ | exact rowN_next (by assumption) (by assumption))
          ((go_at_call 20; refine (qcompare_any k1 n1 s1 k2 n2 s2 nc _ hs1 hs2).mono ?_; rw [← HC.out]; rintro e w2 ⟨rfl, hb⟩))
        rename_i hq
        have HQ := Lib.hid hq.2.2.2.2.2.2.2.2.below
        clear hq hb
        by_cases e : c = 0
        · have t1 : (c != 0) = false := by simpa using e
          have HE := Lib.hid (show r = rowsZ f1 f2 g l1 l2 ln (l1 - (k + 1)) (k + 1) by rw [HZ.out, thenZ, if_pos e])
          clear e
          go_wp2
          go_roundw
          case rel => exact ⟨k + 1, by omega, by omega, by go_num, HE, HQ⟩
          case measure => simp [intOf]; omega
        · have t1 : (c != 0) = true := by simpa using e
          have HE := Lib.hid (show c = r by rw [HZ.out, thenZ, if_neg e])
          clear e
          go_wp2
          go_ret
          exact ⟨ret_int HE.out, HQ.out⟩
      · obtain rfl : nc = false := by rw [hnc, ncAt, decide_eq_false hn, Bool.false_and]
        clear hnc
        have j1 : (k : Int) < l1 := by omega
        have j2 : (k : Int) < l2 := by omega
        have j0 : (0 : Int) ≤ k := by omega
        have j3 : decide (k < ln) = false := by simpa using hn
        have j4 : ¬ (k : Int) < ln := by omega
        have j5 : decide ((k : Int) < ln) = false := by simpa using hn
        go_upto_region 4 with (fail)
        obtain ⟨-, -, c10, c11, c12, c20, c21, c22, -, -⟩ := HI.out
        go_still_tail 18, (by kernel_rfl)
        change wpList _ _ _ _ _ wr.drew
        have HI1 := Lib.hid (rowI_drew HI.out)
        generalize wr.drew = wq at *
        go_wp2_with fail
        refine (qcompare_any k1 n1 s1 k2 n2 s2 false _ hs1 hs2).mono ?_
        rw [← HC.out]
        rintro e w2 ⟨rfl, hb⟩
        have HQ := Lib.hid (rowI_next HI1.out hb).below
        clear hb c10 c11 c12 c20 c21 c22
        by_cases e : c = 0
        · have t1 : (c != 0) = false := by simpa using e
          have HE := Lib.hid (show r = rowsZ f1 f2 g l1 l2 ln (l1 - (k + 1)) (k + 1) by rw [HZ.out, thenZ, if_pos e])
          clear e
          go_wp2
          go_roundw
          case rel => exact ⟨k + 1, by omega, by omega, by go_num, HE, HQ⟩
          case measure => simp [intOf]; omega
        · have t1 : (c != 0) = true := by simpa using e
          have HE := Lib.hid (show c = r by rw [HZ.out, thenZ, if_neg e])
          clear e
          go_wp2
          go_ret
          exact ⟨ret_int HE.out, HQ.out⟩
    · have HE := Lib.hid (show r = cmpI l1 l2 by rw [hz.out, rowsZ_end _ _ _ _ _ _ _ _ (by omega)])
      clear hz
      by_cases hk3 : k < l1
      · have hk4 : ¬ k < l2 := by omega
        go_wp2_with (go_at_call 33; refine (qints_any _ _ _).mono ?_; rw [← HE.out]; rintro e w' ⟨rfl, rfl⟩)
        go_ret
        exact ⟨rfl, hB.out⟩
      · go_wp2_with (go_at_call 33; refine (qints_any _ _ _).mono ?_; rw [← HE.out]; rintro e w' ⟨rfl, rfl⟩)
        go_ret
        exact ⟨rfl, hB.out⟩
end Go.Proofs.YtembcmmoicmkeaaDoor
