/-
  The statement SumSwapped as a walk: it returns true for every input and changes nothing that was there.
-/
import Derived.Test.YtomokachmnjmpaaSumTurn
import Derived.Deep.RegionHeld3
namespace Go.Proofs.Ytomokachmnjmpaa
open Go.RowKit

structure SwI (l : List UInt8) (b : Nat) (w wr : World) : Prop where
  bytes : BytesI l b wr
  lt : b < wr.heap.size
  below : Below w.heap.size w wr
theorem cell_lt {w : World} {b i : Nat} {v : Value} (h : w.cell? ⟨b, i, none⟩ = some v) : b < w.heap.size := by
  by_cases hb : b < w.heap.size
  · exact hb
  · have : w.heap[b]? = none := by simp; omega
    simp [World.cell?, this] at h
theorem sw_drew {l : List UInt8} {b : Nat} {w wr : World} (h : SwI l b w wr) : SwI l b w wr.drew := ⟨⟨h.bytes.cell, h.bytes.free⟩, h.lt, h.below.drew⟩
theorem sw_next {l : List UInt8} {b : Nat} {w wr w2 : World} {C : World → Prop} (hc : ∀ v, BytesI l b v → C v) (h : SwI l b w wr) (hb : Below wr.heap.size wr w2) : C w2 ∧ SwI l b w w2 :=
  have hB : BytesI l b w2 := ⟨fun j hj => (hb.cell (p := ⟨b, j, none⟩) h.lt).trans (h.bytes.cell j hj), fun j hj => (hb.frozen (p := ⟨b, j, none⟩) h.lt).trans (h.bytes.free j hj)⟩
  ⟨hc _ hB, hB, Nat.lt_of_lt_of_le h.lt hb.size, h.below.trans (hb.mono h.below.size)⟩
theorem cut_two (l : List UInt8) (i : Nat) (h : i + 1 < l.length) : l = l.take i ++ l[i] :: l[i + 1] :: l.drop (i + 2) := by
  rw [← List.drop_eq_getElem_cons h, ← List.drop_eq_getElem_cons (by omega : i < l.length), List.take_append_drop]
theorem set_two (l : List UInt8) (i : Nat) (h : i + 1 < l.length) (x y : UInt8) : (l.set i y).set (i + 1) x = l.take i ++ y :: x :: l.drop (i + 2) := by
  apply List.ext_getElem
  · simp; omega
  · intro k h1 h2
    have hk : k < l.length := by simpa using h1
    rw [List.getElem_set, List.getElem_set, List.getElem_append]
    by_cases e1 : k < i
    · rw [if_neg (by omega), if_neg (by omega), dif_pos (by simp; omega)]
      simp
    · rw [dif_neg (by simp; omega)]
      have hm : min i l.length = i := by omega
      by_cases e2 : k = i
      · subst e2; rw [if_neg (by omega), if_pos rfl]; simp [hm]
      · by_cases e3 : k = i + 1
        · subst e3; rw [if_pos rfl]; simp [hm]
        · obtain ⟨d, rfl⟩ : ∃ d, k = i + 2 + d := ⟨k - (i + 2), by omega⟩
          rw [if_neg (by omega), if_neg (by omega)]
          simp [hm, show i + 2 + d - i = d + 1 + 1 by omega]
theorem swap_sum (n : Int) (l : List UInt8) (i : Nat) (h : i + 1 < l.length) (hd : l[i] ≠ l[i + 1]) : sumZ n ((l.set i l[i + 1]).set (i + 1) l[i]) ≠ sumZ n l := by
  have := sum_swapped n (l.take i) (l.drop (i + 2)) l[i] l[i + 1] hd
  rw [← cut_two l i h] at this
  rw [set_two l i h]
  exact this
theorem swap_same (l : List UInt8) (i : Nat) (h : i + 1 < l.length) (hd : l[i] = l[i + 1]) : (l.set i l[i + 1]).set (i + 1) l[i] = l := by
  rw [set_two l i h, ← hd]
  conv => rhs; rw [cut_two l i h, ← hd]

set_option maxRecDepth 100000 in
set_option maxHeartbeats 2000000 in
theorem swap_short (n : Int) (h1 : -9223372036854775808 ≤ n) (h2 : n ≤ 9223372036854775807) (s : ByteArray) (hs : s.size ≤ 9223372036854775807) (t : Int) (h3 : -9223372036854775808 ≤ t) (h4 : t ≤ 9223372036854775807)
    (hl : s.size < 2 ∨ 20000 < s.size) (w : World) :
    Calls Try.prog 6 #[.int .i64 n, .string s, .int .i64 t] w fun e w' => e = .returned (.bool true) ∧ Below w.heap.size w w' := by
  have hz := sumZ_nil n
  have HE := Lib.hid (fun W => ssum_any n h1 h2 ByteArray.empty (by decide) W)
  rw [show ByteArray.empty.data.toList = [] from rfl] at HE
  obtain ⟨r, hr⟩ : ∃ r, sumZ n [] = r := ⟨_, rfl⟩
  rw [hr] at hz HE
  obtain ⟨hz0, hz1⟩ := hz
  clear hr
  rcases hl with hl | hl
  · have t1 : decide ((s.size : Int) < 2) = true := decide_eq_true (by omega)
    go_enter Try.func6, Try.ntmps6
    go_wp2_with fail
    refine (works3_any _).mono ?_
    rintro e w1 ⟨rfl, b1⟩
    have HB := Lib.hid b1; clear b1
    go_wp2_with fail
    refine (HE.out _).mono ?_
    rintro e w2 ⟨rfl, b2⟩
    have HB2 := Lib.hid (HB.out.trans (b2.mono HB.out.size)); clear b2
    go_wp2_with fail
    refine (HE.out _).mono ?_
    rintro e w3 ⟨rfl, b3⟩
    have HB3 := Lib.hid (HB2.out.trans (b3.mono HB2.out.size)); clear b3
    go_wp2_with fail
    go_ret
    exact ⟨rfl, HB3.out⟩
  · have t1 : decide ((s.size : Int) < 2) = false := decide_eq_false (by omega)
    have t2 : decide ((20000 : Int) < (s.size : Int)) = true := decide_eq_true (by omega)
    go_enter Try.func6, Try.ntmps6
    go_wp2_with fail
    refine (works3_any _).mono ?_
    rintro e w1 ⟨rfl, b1⟩
    have HB := Lib.hid b1; clear b1
    go_wp2_with fail
    refine (HE.out _).mono ?_
    rintro e w2 ⟨rfl, b2⟩
    have HB2 := Lib.hid (HB.out.trans (b2.mono HB.out.size)); clear b2
    go_wp2_with fail
    refine (HE.out _).mono ?_
    rintro e w3 ⟨rfl, b3⟩
    have HB3 := Lib.hid (HB2.out.trans (b3.mono HB2.out.size)); clear b3
    go_wp2_with fail
    go_ret
    exact ⟨rfl, HB3.out⟩

set_option maxRecDepth 100000 in
set_option maxHeartbeats 2000000 in
theorem swap_long (n : Int) (h1 : -9223372036854775808 ≤ n) (h2 : n ≤ 9223372036854775807) (s : ByteArray) (hs : s.size ≤ 9223372036854775807) (t : Int) (h3 : -9223372036854775808 ≤ t) (h4 : t ≤ 9223372036854775807)
    (hl0 : 2 ≤ s.size) (hl1 : s.size ≤ 20000) (w : World) :
    Calls Try.prog 6 #[.int .i64 n, .string s, .int .i64 t] w fun e w' => e = .returned (.bool true) ∧ Below w.heap.size w w' := by
  have t1 : decide ((s.size : Int) < 2) = false := decide_eq_false (by omega)
  have t2 : decide ((20000 : Int) < (s.size : Int)) = false := decide_eq_false (by omega)
  have hw1 : IntKind.u64.wrap ((s.size : Int) - 1) = (s.size : Int) - 1 := IntWalk.u64_in _ ⟨by omega, by omega⟩
  obtain ⟨u, hu⟩ : ∃ u, IntKind.u64.wrap t = u := ⟨_, rfl⟩
  have hu0 : 0 ≤ u ∧ u ≤ 18446744073709551615 := by rw [← hu, IntKind.wrap_u64]; omega
  obtain ⟨hu0, hu1⟩ := hu0
  obtain ⟨i, hi⟩ : ∃ i : Nat, u % ((s.size : Int) - 1) = (i : Int) := ⟨(u % ((s.size : Int) - 1)).toNat, by have := Int.emod_nonneg u (show (s.size : Int) - 1 ≠ 0 by omega); omega⟩
  have hi1 : i + 1 < s.size := by have := Int.emod_lt_of_pos u (show (0 : Int) < (s.size : Int) - 1 by omega); omega
  have hw2 : IntKind.i64.wrap (i : Int) = (i : Int) := IntWalk.i64_in _ ⟨by omega, by omega⟩
  have hw3 : IntKind.i64.wrap ((i : Int) + 1) = (i : Int) + 1 := IntWalk.i64_in _ ⟨by omega, by omega⟩
  have hi2 : (i : Int) + 1 < (s.size : Int) := by omega
  go_enter Try.func6, Try.ntmps6
  go_wp2_with fail
  refine (works3_any _).mono ?_
  rintro e w1 ⟨rfl, b1⟩
  have hrun := run_bytes_of_string (P := Try.prog) w1 9 31 5 s Try.underlying9 Try.underlying31 Try.underlying5
  obtain ⟨cap, hcap⟩ : ∃ cap, cap = grownCap w1 s.size 0 5 := ⟨_, rfl⟩
  rw [← hcap] at hrun
  have hB := bytesI_new s w1 cap
  have hW := (b1.drew).alloc (by exact b1.size) (.cells (bytesRow s cap) 5 ((bytesRow s cap).size, (bytesRow s cap).size + 1))
  obtain ⟨W1, hW1⟩ : ∃ W1, W1 = w1.drew.alloc (.cells (bytesRow s cap) 5 ((bytesRow s cap).size, (bytesRow s cap).size + 1)) := ⟨_, rfl⟩
  rw [← hW1] at hrun hB hW
  clear hW1 hcap
  have hil : i + 1 < s.data.toList.length := by simpa using hi1
  have hc0 := hB.cell i (by omega)
  have hc1 := hB.cell (i + 1) hil
  have hf0 := hB.free i (by omega)
  have hf1 := hB.free (i + 1) hil
  have HB := Lib.hid hB; have HW := Lib.hid hW; have Hb1 := Lib.hid b1
  clear hB hW b1
  obtain ⟨x, hx⟩ : ∃ x, s.data.toList[i] = x := ⟨_, rfl⟩
  obtain ⟨y, hy⟩ : ∃ y, s.data.toList[i + 1] = y := ⟨_, rfl⟩
  rw [hx] at hc0
  rw [hy] at hc1
  have HX := Lib.hid hx; have HY := Lib.hid hy; clear hx hy
  go_wp2_with fail
  go_region
  go_wp2
  have hset := bytesI_set (bytesI_set HB.out i y) (i + 1) x
  have HW2 := Lib.hid (((HW.out.setCell (p := ⟨w1.heap.size, i, none⟩) Hb1.out.size (.int .u8 (y.toNat : Int))).setCell (p := ⟨w1.heap.size, i + 1, none⟩) Hb1.out.size (.int .u8 (x.toNat : Int))).drew)
  have hset2 : BytesI ((s.data.toList.set i y).set (i + 1) x) w1.heap.size ((W1.setCell ⟨w1.heap.size, i, none⟩ (.int .u8 (y.toNat : Int))).setCell ⟨w1.heap.size, i + 1, none⟩ (.int .u8 (x.toNat : Int))).drew := ⟨hset.cell, hset.free⟩
  clear hset hf0 hf1 hc0 hc1 hrun HW HB
  revert HW2 hset2
  generalize ((W1.setCell ⟨w1.heap.size, i, none⟩ (.int .u8 (y.toNat : Int))).setCell ⟨w1.heap.size, i + 1, none⟩ (.int .u8 (x.toNat : Int))).drew = W2
  intro HW2 hset2
  have HCV := Lib.hid (fun (wr : World) (h : BytesI ((s.data.toList.set i y).set (i + 1) x) w1.heap.size wr) => bytesI_back h cap)
  have HI := Lib.hid (show SwI ((s.data.toList.set i y).set (i + 1) x) w1.heap.size w W2 from ⟨hset2, by have := hset2.cell i (by simp; omega); exact cell_lt this, HW2.out⟩)
  have hcv := bytesI_back (wr := W2.drew) ⟨hset2.cell, hset2.free⟩ cap
  rw [List.length_set, List.length_set, show s.data.toList.length = s.size by simp] at hcv
  obtain ⟨s', hs'⟩ : ∃ s' : ByteArray, s' = ⟨((s.data.toList.set i y).set (i + 1) x).toArray⟩ := ⟨_, rfl⟩
  rw [← hs'] at hcv
  rw [List.length_set, List.length_set, show s.data.toList.length = s.size by simp, ← hs'] at HCV
  have hl' : s'.data.toList = (s.data.toList.set i y).set (i + 1) x := by rw [hs']
  have HS1 := Lib.hid (show s'.size ≤ 9223372036854775807 by
    have : s'.size = s'.data.toList.length := by simp
    rw [this, hl', List.length_set, List.length_set]
    simpa using hs)
  have ex : s[i] = x := by rw [← HX.out]; simp; rfl
  have ey : s[i + 1] = y := by rw [← HY.out]; simp; rfl
  obtain ⟨r, hr⟩ : ∃ r, sumZ n s.data.toList = r := ⟨_, rfl⟩
  obtain ⟨r', hr'⟩ : ∃ r', sumZ n s'.data.toList = r' := ⟨_, rfl⟩
  have HR := Lib.hid hr; have HR' := Lib.hid hr'
  have hq : (r' == r) = ((x.toNat : Int) == (y.toNat : Int)) := by
    by_cases e : x = y
    · have e2 : r' = r := by
        rw [← hr, ← hr', hl']
        have := swap_same s.data.toList i hil (by rw [HX.out, HY.out, e])
        rw [HX.out, HY.out] at this
        rw [this]
      rw [e2, e]; simp
    · have e2 : r' ≠ r := by
        rw [← hr, ← hr', hl']
        have := swap_sum n s.data.toList i hil (by rw [HX.out, HY.out]; exact e)
        rw [HX.out, HY.out] at this
        exact this
      have e3 : (x.toNat : Int) ≠ (y.toNat : Int) := fun h => e (UInt8.toNat_inj.1 (by omega))
      rw [beq_eq_false_iff_ne.2 e2, beq_eq_false_iff_ne.2 e3]
  clear hr hr' hl' hs' hset2 HX HY
  have hi3 : i < s.size := by omega
  have hi4 : (0 : Int) ≤ (i : Int) + 1 := by omega
  have HQ := Lib.hid hq; clear hq
  go_region_held3 (fun w' => (convert 31 9 (.slice (some ⟨w1.heap.size, 0, none⟩) s.size cap)).run Try.prog w' = .ok (.string s') w' ∧ SwI ((s.data.toList.set i y).set (i + 1) x) w1.heap.size w w')
    (first | assumption | exact ⟨hcv, sw_drew HI.out⟩ | exact sw_next HCV.out (And.right (by assumption)) (by assumption) | exact sw_next HCV.out (by assumption) (by assumption))
    (first | (go_at_call_of 7 s'; refine (ssum_any n h1 h2 s' HS1.out _).mono ?_; rintro e w2 ⟨rfl, b2⟩; rw [HR'.out]) | (go_at_call_of 7 s; refine (ssum_any n h1 h2 s hs _).mono ?_; rintro e w3 ⟨rfl, b3⟩; rw [HR.out]))
  all_goals go_wp2
  all_goals go_ret
  all_goals exact ⟨ret_bool (show ((r' == r) == ((x.toNat : Int) == (y.toNat : Int))) = true by rw [HQ.out]; exact beq_self_eq_true _), by first | exact SwI.below (And.right (by assumption)) | exact SwI.below (by assumption)⟩

theorem swapped_any (n : Int) (h1 : -9223372036854775808 ≤ n) (h2 : n ≤ 9223372036854775807) (s : ByteArray) (hs : s.size ≤ 9223372036854775807) (t : Int) (h3 : -9223372036854775808 ≤ t) (h4 : t ≤ 9223372036854775807) (w : World) :
    Calls Try.prog 6 #[.int .i64 n, .string s, .int .i64 t] w fun e w' => e = .returned (.bool true) ∧ Below w.heap.size w w' := by
  by_cases hl : s.size < 2 ∨ 20000 < s.size
  · exact swap_short n h1 h2 s hs t h3 h4 hl w
  · exact swap_long n h1 h2 s hs t h3 h4 (by omega) (by omega) w
end Go.Proofs.Ytomokachmnjmpaa
