/-
  Layer 11, first: the segment at the start of a string, or none: it changes nothing that was there. Condition: at most 2^20 bytes.
  Layer 8: valid, Write and the document's Right and Write: each returns its plain function and changes nothing that was there. Condition: the header's numbers are ints.
  Layer 8: Read and the document's Read: each returns its plain function of the bytes and changes nothing that was there. Condition: the string has at most 2^63 - 1 bytes.
  Layer 8: works, and the statements JheadReads and JheadWrites as walks: each returns true for every input and changes nothing that was there.
  Layer 9, the small functions and Write: valid, fixed, number, Write and the document's Write: each returns its plain function and changes nothing that was there. Condition: numbers are ints; a string has at most 2^63 - 1 bytes.
  Layer 9: strings.Clone returns its string and changes nothing that was there. Condition: at most 2^48 bytes.
  Layer 9: Read and the document's Read: each returns its plain function of the bytes and changes nothing that was there. Condition: the string has at most 2^63 - 1 bytes, the nonce is an int.
  Layer 9: works, and the statements JpageReads and JpageWrites as walks: each returns true for every input and changes nothing that was there.
  Layer 10, the small functions of the program and of the document: valid, fixed, text, seal, Trailer, path and their like: each returns its plain function and changes nothing that was there. Condition: numbers are ints; a string has at most 2^63 - 1 bytes (text: 40; seal: 4096).
  Layer 10, the reader's methods take, number, path and name: each returns what it reads from the bytes that are left, takes it off them, and changes the reader alone. Condition: at most 1048576 bytes.
-/
import Derived.OwnWalk
import Derived.Laws.IdiomStrings
import Derived.Lib.BufferOwn
import Derived.Test.YthfebcfdhmihcaaGreatDoorMh7
import Derived.Test.YthfebcfdhmihcaaGreatDoorMh6
import Derived.Test.YthfebcfdhmihcaaGreatDoorMh1
namespace Go.Proofs.YthfebcfdhmihcaaGreatDoor
open Go.RowKit

theorem okH_eq3 (a b c : Int) : eq3 a b c (clampZ a 2000) (clampZ b 2000) (clampZ c 4294967295) = okH a b c := by
  rw [Bool.eq_iff_iff, eq3_true, okH_iff]
  unfold clampZ
  omega

set_option maxHeartbeats 2000000 in
set_option maxRecDepth 100000 in
theorem valid_any (a b c : Int) (w : World) :
    Calls Tryz.prog 193 #[.agg #[.int .i64 a, .int .i64 b, .int .i64 c]] w fun e w' => e = .returned (.bool (okH a b c)) ∧ Below w.heap.size w w' := by
  have h1 := fun w => nearest_any a b c w
  have hk := okH_eq3 a b c
  generalize clampZ a 2000 = x at h1 hk
  generalize clampZ b 2000 = y at h1 hk
  generalize clampZ c 4294967295 = z at h1 hk
  have hq := run_eqlH a b c x y z
  have hg := guardH
  have HN := Lib.hid (h8_new w (.int .i64 a) (.int .i64 b) (.int .i64 c) 238)
  rw [hk] at hq
  clear hk
  go_enter Tryz.func193, Tryz.ntmps193
  go_upto_region 1 with (fail)
  revert HN
  generalize w.alloc (.cells #[.int .i64 a, .int .i64 b, .int .i64 c] 238) = W0
  intro HN
  go_region_held3 (fun v => v.cell? ⟨w.heap.size, 0, none⟩ = some (.int .i64 a) ∧ v.cell? ⟨w.heap.size, 1, none⟩ = some (.int .i64 b) ∧ v.cell? ⟨w.heap.size, 2, none⟩ = some (.int .i64 c) ∧ H8I w.heap.size (.int .i64 a) (.int .i64 b) (.int .i64 c) w v)
    (first | assumption | exact h8_of HN.out | exact h8_of (h8_drew HN.out) | exact h8_of (h8_next (And.right (And.right (And.right (by assumption)))) (by assumption)))
    ((go_at_call 211; refine (h1 _).mono ?_; rintro e w2 ⟨rfl, hb⟩))
  all_goals go_wp2
  all_goals go_ret
  all_goals exact ⟨rfl, H8I.below (And.right (And.right (And.right (by assumption))))⟩

set_option maxHeartbeats 2000000 in
set_option maxRecDepth 100000 in
theorem right_any (a b c : Int) (w : World) :
    Calls Tryz.prog 147 #[.agg #[.int .i64 a, .int .i64 b, .int .i64 c]] w fun e w' => e = .returned (.bool (okH a b c)) ∧ Below w.heap.size w w' := by
  obtain ⟨r, hr⟩ : ∃ r, r = okH a b c := ⟨_, rfl⟩
  rw [← hr]
  have HN := Lib.hid (h8_new w (.int .i64 a) (.int .i64 b) (.int .i64 c) 137)
  have hrr : r = true ↔ 0 ≤ a ∧ a ≤ 2000 ∧ 0 ≤ b ∧ b ≤ 2000 ∧ 0 ≤ c ∧ c ≤ 4294967295 := by rw [hr]; exact okH_iff
  have HR := Lib.hid hrr
  clear hr hrr
  go_enter Tryz.func147, Tryz.ntmps147
  go_wp2
  all_goals go_ret
  all_goals refine ⟨ret_bool ?_, HN.out.below⟩
  all_goals (rw [Bool.eq_iff_iff, HR.out]; simp only [decide_eq_true_iff, Bool.false_eq_true, false_iff]; omega)

end Go.Proofs.YthfebcfdhmihcaaGreatDoor

namespace Go.Proofs.YthfebcfdhmihcaaGreatDoor
open Go.RowKit

theorem ext_drop (s : ByteArray) (k : Nat) : (s.extract k s.size).data.toList = s.data.toList.drop k := by
  rw [Lib.extract_data]
  exact List.take_of_length_le (by simp)
theorem ext_mid (s : ByteArray) (k m : Nat) : (s.extract k m).data.toList = (s.data.toList.drop k).take (m - k) := by rw [Lib.extract_data]
theorem ext_le (s : ByteArray) (k m : Nat) (h : m ≤ s.size) : (s.extract k m).size ≤ s.size := by simp; omega

/-- The result's block stands, and nothing that was there has changed. -/
structure R8I (t : TypeId) (w wr : World) : Prop where
  res : Blk wr w.heap.size t #[.int .i64 0, .int .i64 0, .int .i64 0]
  below : Below w.heap.size w wr
theorem r8_new (t : TypeId) (w : World) : R8I t w (w.alloc (.cells #[.int .i64 0, .int .i64 0, .int .i64 0] t)) := ⟨blk_new _ _ _, blw1 _ _⟩
theorem r8_drew {t : TypeId} {w wr : World} (h : R8I t w wr) : R8I t w wr.drew := ⟨h.res, h.below.drew⟩
theorem r8_next {t : TypeId} {w wr w2 : World} (h : R8I t w wr) (hb : Below wr.heap.size wr w2) : R8I t w w2 := ⟨blk_below h.res hb, h.below.trans (hb.mono h.below.size)⟩
theorem r8_alloc {t : TypeId} {w wr : World} (h : R8I t w wr) (o : Obj) : R8I t w (wr.alloc o) := r8_next h (blw1 _ _)
theorem r8_lt {t : TypeId} {w wr : World} (h : R8I t w wr) : w.heap.size < wr.heap.size := blk_lt h.res

def ret8 (r : H8 × Int) : Ending := .returned (.tuple #[.agg #[.int .i64 r.1.a, .int .i64 r.1.b, .int .i64 r.1.c], .int .i64 r.2])

set_option maxHeartbeats 4000000 in
set_option maxRecDepth 100000 in
theorem jread_any (s : ByteArray) (hs : s.size ≤ 9223372036854775807) (w : World) :
    Calls Tryz.prog 168 #[.string s] w fun e w' => e = ret8 (rdH s.data.toList) ∧ Below w.heap.size w w' := by
  obtain ⟨r, hr⟩ : ∃ r, r = rdH s.data.toList := ⟨_, rfl⟩
  rw [← hr]
  have HN := Lib.hid (r8_new 238 w)
  have hl : s.data.toList.length = s.size := by simp
  by_cases h32 : s.size < 32
  · have HR := Lib.hid (show r = (⟨0, 0, 0⟩, 1) by rw [hr, rdH, if_pos (by omega)])
    clear hr hl
    go_enter Tryz.func168, Tryz.ntmps168
    go_wp2
    refine bodyPost_ret (results_pair rfl _ _ w.heap.size _ _ _ rfl HN.out.res Tryz.underlying238 rfl (by kernel_rfl)) rfl ?_
    exact ⟨by rw [HR.out]; rfl, HN.out.below⟩
  rw [rdH, if_neg (by omega)] at hr
  have i1 : (8 : Int) ≤ s.size := by omega
  have i2 : (32 : Int) ≤ s.size := by omega
  have i3 : (20 : Int) ≤ s.size := by omega
  have i4 : (12 : Int) ≤ s.size := by omega
  have i5 : (16 : Int) ≤ s.size := by omega
  have i6 : decide ((s.size : Int) < 32) = false := decide_eq_false (by omega)
  by_cases p1 : s.data.toList.take 8 = j8F
  case neg =>
    have t1 : ((s.extract 0 8).toList == [97, 110, 110, 120, 106, 114, 110, 108]) = false := beq_eq_false_iff_ne.2 (by rw [ByteArray.toList_eq, ext_data]; exact p1)
    have HR := Lib.hid (show r = (⟨0, 0, 0⟩, 4) by rw [hr, if_neg (fun h => p1 h.1)])
    clear hr hl p1
    go_enter Tryz.func168, Tryz.ntmps168
    go_wp2
    refine bodyPost_ret (results_pair rfl _ _ w.heap.size _ _ _ rfl HN.out.res Tryz.underlying238 rfl (by kernel_rfl)) rfl ?_
    exact ⟨by rw [HR.out]; rfl, HN.out.below⟩
  have t1 : ((s.extract 0 8).toList == [97, 110, 110, 120, 106, 114, 110, 108]) = true := beq_iff_eq.2 (by rw [ByteArray.toList_eq, ext_data]; exact p1)
  by_cases p2 : (s.data.toList.drop 24).take 8 = j8L
  case neg =>
    have t2 : ((s.extract 24 32).toList == [108, 110, 114, 106, 120, 110, 110, 97]) = false := beq_eq_false_iff_ne.2 (by rw [ByteArray.toList_eq, ext_mid]; exact p2)
    have HR := Lib.hid (show r = (⟨0, 0, 0⟩, 4) by rw [hr, if_neg (fun h => p2 h.2)])
    clear hr hl p1 p2
    go_enter Tryz.func168, Tryz.ntmps168
    go_wp2
    refine bodyPost_ret (results_pair rfl _ _ w.heap.size _ _ _ rfl HN.out.res Tryz.underlying238 rfl (by kernel_rfl)) rfl ?_
    exact ⟨by rw [HR.out]; rfl, HN.out.below⟩
  have t2 : ((s.extract 24 32).toList == [108, 110, 114, 106, 120, 110, 110, 97]) = true := beq_iff_eq.2 (by rw [ByteArray.toList_eq, ext_mid]; exact p2)
  rw [if_pos ⟨p1, p2⟩] at hr
  clear p1 p2
  have k0 := fun w => jnumber_any (s.extract 20 s.size) (by have := ext_le s 20 s.size (Nat.le_refl _); omega) w
  have k1 := fun w => jnumber_any (s.extract 8 s.size) (by have := ext_le s 8 s.size (Nat.le_refl _); omega) w
  have k2 := fun w => jnumber_any (s.extract 12 s.size) (by have := ext_le s 12 s.size (Nat.le_refl _); omega) w
  have k3 := fun w => jnumber_any (s.extract 16 s.size) (by have := ext_le s 16 s.size (Nat.le_refl _); omega) w
  have k4 := fun w => ssum_any 7 (by decide) (by decide) (s.extract 0 20) (by have := ext_le s 0 20 (by omega); omega) w
  rw [ext_drop] at k0 k1 k2 k3
  rw [ext_data] at k4
  obtain ⟨x, hx⟩ : ∃ x, x = nmL (s.data.toList.drop 8) := ⟨_, rfl⟩
  obtain ⟨y, hy⟩ : ∃ y, y = nmL (s.data.toList.drop 12) := ⟨_, rfl⟩
  obtain ⟨z, hz⟩ : ∃ z, z = nmL (s.data.toList.drop 16) := ⟨_, rfl⟩
  obtain ⟨p, hp⟩ : ∃ p, p = nmL (s.data.toList.drop 20) := ⟨_, rfl⟩
  obtain ⟨q, hq⟩ : ∃ q, q = sumZ 7 (s.data.toList.take 20) := ⟨_, rfl⟩
  rw [← hx, ← hy, ← hz, ← hp, ← hq] at hr
  rw [← hp] at k0
  rw [← hx] at k1
  rw [← hy] at k2
  rw [← hz] at k3
  rw [← hq] at k4
  clear hx hy hz hp hq
  by_cases p3 : p = q
  case neg =>
    have t3 : (p == q) = false := beq_eq_false_iff_ne.2 p3
    have HR := Lib.hid (show r = (⟨0, 0, 0⟩, 5) by rw [hr, if_neg p3])
    clear hr p3
    go_enter Tryz.func168, Tryz.ntmps168
    go_upto_region 5 with (fail)
    revert HN
    generalize w.alloc (.cells #[.int .i64 0, .int .i64 0, .int .i64 0] 238) = W0
    intro HN
    go_region_held3 (fun v => R8I 238 w v)
      (first | assumption | exact HN.out | exact r8_drew HN.out | exact r8_next (by assumption) (by assumption))
      (first | (go_at_call 191; (with_reducible refine (k0 _).mono ?_); rintro e w2 ⟨rfl, rfl⟩) | (go_at_call 192; (with_reducible refine (k4 _).mono ?_); rintro e w2 ⟨rfl, hb⟩))
    all_goals rename_i hS
    all_goals have hz := hS.res
    all_goals have z0 := blk_cell hz 0 rfl
    all_goals have z1 := blk_cell hz 1 rfl
    all_goals have z2 := blk_cell hz 2 rfl
    all_goals have z3 := blk_frozen hz 0
    all_goals have z4 := blk_frozen hz 1
    all_goals have z5 := blk_frozen hz 2
    all_goals have HB := Lib.hid hS.below
    all_goals have HZ := Lib.hid hz
    all_goals clear hS hz
    all_goals go_wp2
    all_goals refine bodyPost_ret (results_pair rfl _ _ w.heap.size _ _ _ rfl (blk_set (blk_set (blk_set HZ.out 0 _) 1 _) 2 _) Tryz.underlying238 rfl (by kernel_rfl)) rfl ?_
    all_goals exact ⟨by rw [HR.out]; rfl, blw_set (blw_set (blw_set HB.out (Nat.le_refl _) 0 _) (Nat.le_refl _) 1 _) (Nat.le_refl _) 2 _⟩
  subst p3
  rw [if_pos rfl] at hr
  have k5 := fun w => valid_any x y z w
  obtain ⟨ok, hok⟩ : ∃ ok, ok = okH x y z := ⟨_, rfl⟩
  rw [← hok] at hr k5
  clear hok
  have HR := Lib.hid hr
  clear hr hl
  go_enter Tryz.func168, Tryz.ntmps168
  go_upto_region 5 with (fail)
  revert HN
  generalize w.alloc (.cells #[.int .i64 0, .int .i64 0, .int .i64 0] 238) = W0
  intro HN
  go_region_held3 (fun v => R8I 238 w v)
    (first | assumption | exact HN.out | exact r8_drew HN.out | exact r8_next (by assumption) (by assumption))
    (first | (go_at_call 191; (with_reducible refine (k0 _).mono ?_); rintro e w2 ⟨rfl, rfl⟩) | (go_at_call 192; (with_reducible refine (k4 _).mono ?_); rintro e w2 ⟨rfl, hb⟩))
  rename_i hS
  have HN1 := Lib.hid hS
  clear hS HN hb
  go_upto_region 7 with (fail)
  go_region_held3 (fun v => R8I 238 w v)
    (first | assumption | exact HN1.out | exact r8_drew HN1.out | exact r8_next (by assumption) (by assumption) | exact r8_alloc HN1.out _ | exact r8_alloc (r8_drew HN1.out) _ | exact r8_alloc (by assumption) _ )
    (first | (go_at_call_of 191 (s.extract 8 s.size); (with_reducible refine (k1 _).mono ?_); rintro e w2 ⟨rfl, rfl⟩) | (go_at_call_of 191 (s.extract 12 s.size); (with_reducible refine (k2 _).mono ?_); rintro e w2 ⟨rfl, rfl⟩) | (go_at_call_of 191 (s.extract 16 s.size); (with_reducible refine (k3 _).mono ?_); rintro e w2 ⟨rfl, rfl⟩))
  all_goals rename_i hS
  all_goals have HG := Lib.hid (show Blk (w2.alloc (.cells #[.int .i64 x, .int .i64 y, .int .i64 z] 238)).drew w2.heap.size 238 #[.int .i64 x, .int .i64 y, .int .i64 z] from blk_new w2 238 _)
  all_goals have HS := Lib.hid hS
  all_goals have hne : w.heap.size < w2.heap.size := r8_lt HN1.out
  all_goals clear hS HN1 k0 k1 k2 k3 k4
  all_goals revert HS HG
  all_goals generalize (w2.alloc (.cells #[.int .i64 x, .int .i64 y, .int .i64 z] 238)).drew = W2
  all_goals generalize w2.heap.size = g at hne
  all_goals intro HG HS
  all_goals have g0 := blk_cell HG.out 0 rfl
  all_goals have g1 := blk_cell HG.out 1 rfl
  all_goals have g2 := blk_cell HG.out 2 rfl
  all_goals cases ok
  all_goals (
    go_wp2_with (first | (go_at_call 193; refine (k5 _).mono ?_; rintro e w5 ⟨rfl, b5⟩; have HG5 := Lib.hid (blk_below HG.out b5); have HS5 := Lib.hid (r8_next HS.out b5); clear g0 g1 g2 HG HS; have g0 := blk_cell HG5.out 0 rfl; have g1 := blk_cell HG5.out 1 rfl; have g2 := blk_cell HG5.out 2 rfl; have z0 := blk_cell HS5.out.res 0 rfl; have z1 := blk_cell HS5.out.res 1 rfl; have z2 := blk_cell HS5.out.res 2 rfl; have z3 := blk_frozen HS5.out.res 0; have z4 := blk_frozen HS5.out.res 1; have z5 := blk_frozen HS5.out.res 2))
    refine bodyPost_ret (results_pair rfl _ _ w.heap.size _ _ _ rfl (blk_set (blk_set (blk_set HS5.out.res 0 _) 1 _) 2 _) Tryz.underlying238 rfl (by kernel_rfl)) rfl ?_
    exact ⟨by rw [HR.out]; rfl, blw_set (blw_set (blw_set HS5.out.below (Nat.le_refl _) 0 _) (Nat.le_refl _) 1 _) (Nat.le_refl _) 2 _⟩)
set_option maxHeartbeats 4000000 in
set_option maxRecDepth 100000 in
theorem jhrread_any (s : ByteArray) (hs : s.size ≤ 9223372036854775807) (w : World) :
    Calls Tryz.prog 117 #[.string s] w fun e w' => e = ret8 (rdH s.data.toList) ∧ Below w.heap.size w w' := by
  obtain ⟨r, hr⟩ : ∃ r, r = rdH s.data.toList := ⟨_, rfl⟩
  rw [← hr]
  have HN := Lib.hid (r8_new 137 w)
  have hl : s.data.toList.length = s.size := by simp
  by_cases h32 : s.size < 32
  · have HR := Lib.hid (show r = (⟨0, 0, 0⟩, 1) by rw [hr, rdH, if_pos (by omega)])
    clear hr hl
    go_enter Tryz.func117, Tryz.ntmps117
    go_wp2
    refine bodyPost_ret (results_pair rfl _ _ w.heap.size _ _ _ rfl HN.out.res Tryz.underlying137 rfl (by kernel_rfl)) rfl ?_
    exact ⟨by rw [HR.out]; rfl, HN.out.below⟩
  rw [rdH, if_neg (by omega)] at hr
  have i1 : (8 : Int) ≤ s.size := by omega
  have i2 : (32 : Int) ≤ s.size := by omega
  have i3 : (20 : Int) ≤ s.size := by omega
  have i4 : (12 : Int) ≤ s.size := by omega
  have i5 : (16 : Int) ≤ s.size := by omega
  have i6 : decide ((s.size : Int) < 32) = false := decide_eq_false (by omega)
  by_cases p1 : s.data.toList.take 8 = j8F
  case neg =>
    have t1 : ((s.extract 0 8).toList == [97, 110, 110, 120, 106, 114, 110, 108]) = false := beq_eq_false_iff_ne.2 (by rw [ByteArray.toList_eq, ext_data]; exact p1)
    have HR := Lib.hid (show r = (⟨0, 0, 0⟩, 4) by rw [hr, if_neg (fun h => p1 h.1)])
    clear hr hl p1
    go_enter Tryz.func117, Tryz.ntmps117
    go_wp2
    refine bodyPost_ret (results_pair rfl _ _ w.heap.size _ _ _ rfl HN.out.res Tryz.underlying137 rfl (by kernel_rfl)) rfl ?_
    exact ⟨by rw [HR.out]; rfl, HN.out.below⟩
  have t1 : ((s.extract 0 8).toList == [97, 110, 110, 120, 106, 114, 110, 108]) = true := beq_iff_eq.2 (by rw [ByteArray.toList_eq, ext_data]; exact p1)
  by_cases p2 : (s.data.toList.drop 24).take 8 = j8L
  case neg =>
    have t2 : ((s.extract 24 32).toList == [108, 110, 114, 106, 120, 110, 110, 97]) = false := beq_eq_false_iff_ne.2 (by rw [ByteArray.toList_eq, ext_mid]; exact p2)
    have HR := Lib.hid (show r = (⟨0, 0, 0⟩, 4) by rw [hr, if_neg (fun h => p2 h.2)])
    clear hr hl p1 p2
    go_enter Tryz.func117, Tryz.ntmps117
    go_wp2
    refine bodyPost_ret (results_pair rfl _ _ w.heap.size _ _ _ rfl HN.out.res Tryz.underlying137 rfl (by kernel_rfl)) rfl ?_
    exact ⟨by rw [HR.out]; rfl, HN.out.below⟩
  have t2 : ((s.extract 24 32).toList == [108, 110, 114, 106, 120, 110, 110, 97]) = true := beq_iff_eq.2 (by rw [ByteArray.toList_eq, ext_mid]; exact p2)
  rw [if_pos ⟨p1, p2⟩] at hr
  clear p1 p2
  have k1 := fun w => rnumber_any (s.extract 8 12) (by have := ext_le s 8 12 (by omega); omega) w
  have k2 := fun w => rnumber_any (s.extract 12 16) (by have := ext_le s 12 16 (by omega); omega) w
  have k3 := fun w => rnumber_any (s.extract 16 20) (by have := ext_le s 16 20 (by omega); omega) w
  have k4 := fun w => rsum_any 7 (by decide) (by decide) (s.extract 0 20) (by have := ext_le s 0 20 (by omega); omega) w
  rw [ext_mid] at k1 k2 k3
  rw [ext_data] at k4
  have e1 : (numR ((s.data.toList.drop 8).take (12 - 8))).1 = nmL (s.data.toList.drop 8) := nmL_take _ (by rw [List.length_drop]; omega)
  have e2 : (numR ((s.data.toList.drop 12).take (16 - 12))).1 = nmL (s.data.toList.drop 12) := nmL_take _ (by rw [List.length_drop]; omega)
  have e3 : (numR ((s.data.toList.drop 16).take (20 - 16))).1 = nmL (s.data.toList.drop 16) := nmL_take _ (by rw [List.length_drop]; omega)
  rw [e1] at k1
  rw [e2] at k2
  rw [e3] at k3
  clear e1 e2 e3
  generalize (numR ((s.data.toList.drop 8).take (12 - 8))).2 = f1 at k1
  generalize (numR ((s.data.toList.drop 12).take (16 - 12))).2 = f2 at k2
  generalize (numR ((s.data.toList.drop 16).take (20 - 16))).2 = f3 at k3
  obtain ⟨x, hx⟩ : ∃ x, x = nmL (s.data.toList.drop 8) := ⟨_, rfl⟩
  obtain ⟨y, hy⟩ : ∃ y, y = nmL (s.data.toList.drop 12) := ⟨_, rfl⟩
  obtain ⟨z, hz⟩ : ∃ z, z = nmL (s.data.toList.drop 16) := ⟨_, rfl⟩
  have hq' := sumZ_bd 7 (s.data.toList.take 20)
  have hpq := nmL_eq (l := s.data.toList.drop 20) (by rw [List.length_drop]; omega) hq'.1 hq'.2
  obtain ⟨q, hq⟩ : ∃ q, q = sumZ 7 (s.data.toList.take 20) := ⟨_, rfl⟩
  rw [← hq] at hpq hq'
  rw [← hx, ← hy, ← hz, ← hq] at hr
  rw [← hx] at k1
  rw [← hy] at k2
  rw [← hz] at k3
  rw [← hq] at k4
  have k5 := fun w => rfour_any q (by omega) (by omega) w
  rw [show (fixR q).1 = fourL q.toNat by rw [fixR, if_pos hq']] at k5
  obtain ⟨u, hu⟩ : ∃ u : ByteArray, u = ⟨(fourL q.toNat).toArray⟩ := ⟨_, rfl⟩
  rw [← hu] at k5
  have hqq : ((s.extract 20 24).toList == u.toList) = decide (nmL (s.data.toList.drop 20) = q) := by
    rw [Bool.eq_iff_iff, beq_iff_eq, decide_eq_true_iff, hpq, ByteArray.toList_eq, ByteArray.toList_eq, ext_mid, hu]
  clear hx hy hz hq hpq hu hq'
  have i7 : (24 : Int) ≤ s.size := by omega
  by_cases p3 : nmL (s.data.toList.drop 20) = q
  case neg =>
    rw [decide_eq_false p3] at hqq
    have HR := Lib.hid (show r = (⟨0, 0, 0⟩, 5) by rw [hr, if_neg p3])
    clear hr p3
    go_enter Tryz.func117, Tryz.ntmps117
    go_upto_region 5 with (fail)
    revert HN
    generalize w.alloc (.cells #[.int .i64 0, .int .i64 0, .int .i64 0] 137) = W0
    intro HN
    go_region_held3 (fun v => R8I 137 w v)
      (first | assumption | exact HN.out | exact r8_drew HN.out | exact r8_next (by assumption) (by assumption))
      (first | (go_at_call 145; (with_reducible refine (k5 _).mono ?_); rintro e w2 ⟨rfl, hb⟩) | (go_at_call 146; (with_reducible refine (k4 _).mono ?_); rintro e w2 ⟨rfl, rfl⟩))
    all_goals rename_i hS
    all_goals have hz := hS.res
    all_goals have z0 := blk_cell hz 0 rfl
    all_goals have z1 := blk_cell hz 1 rfl
    all_goals have z2 := blk_cell hz 2 rfl
    all_goals have z3 := blk_frozen hz 0
    all_goals have z4 := blk_frozen hz 1
    all_goals have z5 := blk_frozen hz 2
    all_goals have HB := Lib.hid hS.below
    all_goals have HZ := Lib.hid hz
    all_goals clear hS hz
    all_goals go_wp2
    all_goals refine bodyPost_ret (results_pair rfl _ _ w.heap.size _ _ _ rfl (blk_set (blk_set (blk_set HZ.out 0 _) 1 _) 2 _) Tryz.underlying137 rfl (by kernel_rfl)) rfl ?_
    all_goals exact ⟨by rw [HR.out]; rfl, blw_set (blw_set (blw_set HB.out (Nat.le_refl _) 0 _) (Nat.le_refl _) 1 _) (Nat.le_refl _) 2 _⟩
  rw [decide_eq_true p3] at hqq
  rw [if_pos p3] at hr
  clear p3
  have k6 := fun w => right_any x y z w
  obtain ⟨ok, hok⟩ : ∃ ok, ok = okH x y z := ⟨_, rfl⟩
  rw [← hok] at hr k6
  clear hok
  have HR := Lib.hid hr
  clear hr hl
  go_enter Tryz.func117, Tryz.ntmps117
  go_upto_region 5 with (fail)
  revert HN
  generalize w.alloc (.cells #[.int .i64 0, .int .i64 0, .int .i64 0] 137) = W0
  intro HN
  go_region_held3 (fun v => R8I 137 w v)
    (first | assumption | exact HN.out | exact r8_drew HN.out | exact r8_next (by assumption) (by assumption))
    (first | (go_at_call 145; (with_reducible refine (k5 _).mono ?_); rintro e w2 ⟨rfl, hb⟩) | (go_at_call 146; (with_reducible refine (k4 _).mono ?_); rintro e w2 ⟨rfl, rfl⟩))
  rename_i hS
  have HN1 := Lib.hid hS
  clear hS HN hb
  all_goals cases ok
  all_goals (
    go_wp2_with (first | (go_at_call_of 128 (s.extract 8 12); (with_reducible refine (k1 _).mono ?_); rintro e w3 ⟨rfl, hb⟩; replace HN1 := Lib.hid (r8_next HN1.out hb); clear hb) | (go_at_call_of 128 (s.extract 12 16); (with_reducible refine (k2 _).mono ?_); rintro e w4 ⟨rfl, hb⟩; replace HN1 := Lib.hid (r8_next HN1.out hb); clear hb) | (go_at_call_of 128 (s.extract 16 20); (with_reducible refine (k3 _).mono ?_); rintro e w5 ⟨rfl, hb⟩; replace HN1 := Lib.hid (r8_next HN1.out hb); clear hb) | (go_at_call 147; (with_reducible refine (k6 _).mono ?_); rintro e w6 ⟨rfl, b6⟩; have hne : w.heap.size < w5.heap.size := r8_lt HN1.out; have HG5 := Lib.hid (blk_below (blk_new w5 137 #[.int .i64 x, .int .i64 y, .int .i64 z]) b6); have HS5 := Lib.hid (r8_next (r8_alloc HN1.out _) b6); clear b6 HN1; have g0 := blk_cell HG5.out 0 rfl; have g1 := blk_cell HG5.out 1 rfl; have g2 := blk_cell HG5.out 2 rfl; have z0 := blk_cell HS5.out.res 0 rfl; have z1 := blk_cell HS5.out.res 1 rfl; have z2 := blk_cell HS5.out.res 2 rfl; have z3 := blk_frozen HS5.out.res 0; have z4 := blk_frozen HS5.out.res 1; have z5 := blk_frozen HS5.out.res 2))
    refine bodyPost_ret (results_pair rfl _ _ w.heap.size _ _ _ rfl (blk_set (blk_set (blk_set HS5.out.res 0 _) 1 _) 2 _) Tryz.underlying137 rfl (by kernel_rfl)) rfl ?_
    exact ⟨by rw [HR.out]; rfl, blw_set (blw_set (blw_set HS5.out.below (Nat.le_refl _) 0 _) (Nat.le_refl _) 1 _) (Nat.le_refl _) 2 _⟩)
end Go.Proofs.YthfebcfdhmihcaaGreatDoor

namespace Go.Proofs.YthfebcfdhmihcaaGreatDoor
open Go.RowKit

theorem jread_is {s : ByteArray} (hs : s.size ≤ 9223372036854775807) {a b c e : Int} (h : rdH s.data.toList = (⟨a, b, c⟩, e)) (w : World) :
    Calls Tryz.prog 168 #[.string s] w fun x w' => x = .returned (.tuple #[.agg #[.int .i64 a, .int .i64 b, .int .i64 c], .int .i64 e]) ∧ Below w.heap.size w w' := by
  have := jread_any s hs w
  rw [h] at this
  exact this
theorem rread_is {s : ByteArray} (hs : s.size ≤ 9223372036854775807) {a b c e : Int} (h : rdH s.data.toList = (⟨a, b, c⟩, e)) (w : World) :
    Calls Tryz.prog 117 #[.string s] w fun x w' => x = .returned (.tuple #[.agg #[.int .i64 a, .int .i64 b, .int .i64 c], .int .i64 e]) ∧ Below w.heap.size w w' := by
  have := jhrread_any s hs w
  rw [h] at this
  exact this

end Go.Proofs.YthfebcfdhmihcaaGreatDoor

namespace Go.Proofs.YthfebcfdhmihcaaGreatDoor
open Go.RowKit

theorem pvalid_any (n : Int) (w : World) :
    Calls Tryz.prog 195 #[.int .i64 n] w fun e w' => e = .returned (.bool (okP n)) ∧ w = w' := by
  obtain ⟨r, hr⟩ : ∃ r, r = okP n := ⟨_, rfl⟩
  rw [← hr]
  have hrr : r = true ↔ 1 ≤ n ∧ n ≤ 2000 := by rw [hr]; exact okP_iff
  have HR := Lib.hid hrr
  clear hr hrr
  go_enter Tryz.func195, Tryz.ntmps195
  go_wp2
  all_goals go_ret
  all_goals refine ⟨ret_bool ?_, rfl⟩
  all_goals (rw [Bool.eq_iff_iff, HR.out]; simp only [decide_eq_true_iff, Bool.false_eq_true, false_iff]; omega)
theorem pnumber_any (s : ByteArray) (hs : s.size ≤ 9223372036854775807) (w : World) :
    Calls Tryz.prog 194 #[.string s] w fun e w' => e = .returned (.int .i64 (nmL s.data.toList)) ∧ w = w' := by
  go_enter Tryz.func194, Tryz.ntmps194
  go_wp2_with (go_at_call 207; refine (vnumber_any s hs _).mono ?_; rintro e w' ⟨rfl, rfl⟩)
  go_ret
  exact ⟨rfl, rfl⟩
end Go.Proofs.YthfebcfdhmihcaaGreatDoor

namespace Go.Proofs.YthfebcfdhmihcaaGreatDoor
open Go.RowKit

theorem pclone_any (s : ByteArray) (w : World) (h : s.size ≤ 281474976710656) :
    Calls Tryz.prog 38 #[.string s] w fun e w' => e = .returned (.string s) ∧ Below w.heap.size w w' := by
  have hc := fun w => Tryz.stringslite_Clone s w h
  go_enter Tryz.func38, Tryz.ntmps38
  go_wp2_with (go_at_call 83; refine (hc _).mono ?_; rintro e w' ⟨rfl, hb⟩)
  go_ret
  exact ⟨rfl, hb⟩
end Go.Proofs.YthfebcfdhmihcaaGreatDoor

namespace Go.Proofs.YthfebcfdhmihcaaGreatDoor
open Go.RowKit

def ret9 (r : P9) : Ending := .returned (.tuple #[.int .i64 r.n, .string ⟨r.d.toArray⟩, .int .i64 r.e])
theorem ret9_of {n : Int} {A : ByteArray} {l : List UInt8} (h : A.data.toList = l) : Ending.returned (.tuple #[.int .i64 n, .string A, .int .i64 0]) = ret9 ⟨n, l, 0⟩ := by subst h; rfl

set_option maxHeartbeats 4000000 in
set_option maxRecDepth 100000 in
theorem pread_any (s : ByteArray) (hs : s.size ≤ 9223372036854775807) (k : Int) (h3 : -9223372036854775808 ≤ k) (h4 : k ≤ 9223372036854775807) (w : World) :
    Calls Tryz.prog 169 #[.string s, .int .i64 k] w fun e w' => e = ret9 (rdP s.data.toList k) ∧ Below w.heap.size w w' := by
  obtain ⟨r, hr⟩ : ∃ r, r = rdP s.data.toList k := ⟨_, rfl⟩
  rw [← hr]
  have hl : s.data.toList.length = s.size := by simp
  by_cases h32 : s.size < 520
  · have HR := Lib.hid (show r = ⟨0, [], 1⟩ by rw [hr, rdP, if_pos (by omega)])
    have i6 : decide ((s.size : Int) < 520) = true := decide_eq_true (by omega)
    clear hr hl
    go_enter Tryz.func169, Tryz.ntmps169
    go_wp2
    go_ret3
    exact ⟨by rw [HR.out]; rfl, Below.refl _ _⟩
  rw [rdP, if_neg (by omega)] at hr
  have i1 : (516 : Int) ≤ s.size := by omega
  have i2 : (4 : Int) ≤ s.size := by omega
  have i6 : decide ((s.size : Int) < 520) = false := decide_eq_false (by omega)
  have k0 := fun w => pnumber_any (s.extract 516 s.size) (by have := ext_le s 516 s.size (Nat.le_refl _); omega) w
  have k1 := fun w => pnumber_any s hs w
  have k4 := fun w => ssum_any k h3 h4 (s.extract 0 516) (by have := ext_le s 0 516 (by omega); omega) w
  have k5 := fun w => pclone_any (s.extract 4 516) w (by simp only [ByteArray.size_extract]; omega)
  rw [ext_drop] at k0
  rw [ext_data] at k4
  have HD := Lib.hid (show (s.extract 4 516).data.toList = (s.data.toList.drop 4).take 512 from ext_mid s 4 516)
  obtain ⟨x, hx⟩ : ∃ x, x = nmL s.data.toList := ⟨_, rfl⟩
  obtain ⟨p, hp⟩ : ∃ p, p = nmL (s.data.toList.drop 516) := ⟨_, rfl⟩
  obtain ⟨q, hq⟩ : ∃ q, q = sumZ k (s.data.toList.take 516) := ⟨_, rfl⟩
  rw [← hx, ← hp, ← hq] at hr
  rw [← hp] at k0
  rw [← hx] at k1
  rw [← hq] at k4
  clear hx hp hq
  by_cases p3 : p = q
  case neg =>
    have t3 : (p == q) = false := beq_eq_false_iff_ne.2 p3
    have HR := Lib.hid (show r = ⟨0, [], 5⟩ by rw [hr, if_neg p3])
    clear hr p3 hl HD k1 k5
    go_enter Tryz.func169, Tryz.ntmps169
    go_upto_region 3 with (fail)
    have HB := Lib.hid (Below.refl w.heap.size w)
    go_region_held3 (fun v => Below w.heap.size w v)
      (first | assumption | exact HB.out | exact HB.out.drew | exact Below.trans (by assumption) (Below.mono (by assumption) (Below.size (by assumption))))
      (first | (go_at_call 194; (with_reducible refine (k0 _).mono ?_); rintro e w2 ⟨rfl, rfl⟩) | (go_at_call 192; (with_reducible refine (k4 _).mono ?_); rintro e w2 ⟨rfl, hb⟩))
    all_goals rename_i hS
    all_goals go_wp2
    all_goals go_ret3
    all_goals exact ⟨by rw [HR.out]; rfl, hS⟩
  subst p3
  rw [if_pos rfl] at hr
  have k6 := fun w => pvalid_any x w
  obtain ⟨ok, hok⟩ : ∃ ok, ok = okP x := ⟨_, rfl⟩
  rw [← hok] at hr k6
  clear hok hl
  have HR := Lib.hid hr
  clear hr
  go_enter Tryz.func169, Tryz.ntmps169
  go_upto_region 3 with (fail)
  have HB := Lib.hid (Below.refl w.heap.size w)
  go_region_held3 (fun v => Below w.heap.size w v)
    (first | assumption | exact HB.out | exact HB.out.drew | exact Below.trans (by assumption) (Below.mono (by assumption) (Below.size (by assumption))))
    (first | (go_at_call 194; (with_reducible refine (k0 _).mono ?_); rintro e w2 ⟨rfl, rfl⟩) | (go_at_call 192; (with_reducible refine (k4 _).mono ?_); rintro e w2 ⟨rfl, hb⟩))
  all_goals rename_i hS
  all_goals have HS := Lib.hid hS
  all_goals clear hS
  all_goals cases ok
  all_goals go_wp2_with (first | (go_at_call 194; (with_reducible refine (k1 _).mono ?_); rintro e w3 ⟨rfl, rfl⟩) | (go_at_call 195; (with_reducible refine (k6 _).mono ?_); rintro e w4 ⟨rfl, rfl⟩) | (go_at_call 38; (with_reducible refine (k5 _).mono ?_); rintro e w5 ⟨rfl, b5⟩; replace HS := Lib.hid (HS.out.trans (b5.mono HS.out.size)); clear b5))
  all_goals go_ret3
  all_goals first
    | exact ⟨by rw [HR.out]; rfl, HS.out⟩
    | exact ⟨by (first | rw [HR.out, if_pos rfl] | rw [HR.out, if_pos trivial]); exact ret9_of HD.out, HS.out⟩

set_option maxHeartbeats 4000000 in
set_option maxRecDepth 100000 in
theorem qread_any (s : ByteArray) (hs : s.size ≤ 9223372036854775807) (k : Int) (h3 : -9223372036854775808 ≤ k) (h4 : k ≤ 9223372036854775807) (w : World) :
    Calls Tryz.prog 118 #[.string s, .int .i64 k] w fun e w' => e = ret9 (rdP s.data.toList k) ∧ Below w.heap.size w w' := by
  obtain ⟨r, hr⟩ : ∃ r, r = rdP s.data.toList k := ⟨_, rfl⟩
  rw [← hr]
  have hl : s.data.toList.length = s.size := by simp
  by_cases h32 : s.size < 520
  · have HR := Lib.hid (show r = ⟨0, [], 1⟩ by rw [hr, rdP, if_pos (by omega)])
    have i6 : decide ((s.size : Int) < 520) = true := decide_eq_true (by omega)
    clear hr hl
    go_enter Tryz.func118, Tryz.ntmps118
    go_wp2
    go_ret3
    exact ⟨by rw [HR.out]; rfl, Below.refl _ _⟩
  rw [rdP, if_neg (by omega)] at hr
  have i1 : (516 : Int) ≤ s.size := by omega
  have i2 : (4 : Int) ≤ s.size := by omega
  have i3 : (520 : Int) ≤ s.size := by omega
  have i6 : decide ((s.size : Int) < 520) = false := decide_eq_false (by omega)
  have k1 := fun w => rnumber_any s hs w
  have k4 := fun w => rsum_any k h3 h4 (s.extract 0 516) (by have := ext_le s 0 516 (by omega); omega) w
  rw [ext_data] at k4
  change ∀ w, Calls _ _ _ w fun e w' => e = .returned (.tuple #[.int .i64 (nmL s.data.toList), _]) ∧ _ at k1
  generalize (numR s.data.toList).2 = f1 at k1
  have HD := Lib.hid (show (s.extract 4 516).data.toList = (s.data.toList.drop 4).take 512 from ext_mid s 4 516)
  have hq' := sumZ_bd k (s.data.toList.take 516)
  have hpq := nmL_eq (l := s.data.toList.drop 516) (by rw [List.length_drop]; omega) hq'.1 hq'.2
  obtain ⟨x, hx⟩ : ∃ x, x = nmL s.data.toList := ⟨_, rfl⟩
  obtain ⟨q, hq⟩ : ∃ q, q = sumZ k (s.data.toList.take 516) := ⟨_, rfl⟩
  rw [← hq] at hpq hq'
  rw [← hx, ← hq] at hr
  rw [← hx] at k1
  rw [← hq] at k4
  have k5 := fun w => rfour_any q (by omega) (by omega) w
  rw [show (fixR q).1 = fourL q.toNat by rw [fixR, if_pos hq']] at k5
  obtain ⟨u, hu⟩ : ∃ u : ByteArray, u = ⟨(fourL q.toNat).toArray⟩ := ⟨_, rfl⟩
  rw [← hu] at k5
  have hqq : ((s.extract 516 520).toList == u.toList) = decide (nmL (s.data.toList.drop 516) = q) := by
    rw [Bool.eq_iff_iff, beq_iff_eq, decide_eq_true_iff, hpq, ByteArray.toList_eq, ByteArray.toList_eq, ext_mid, hu]
  clear hx hq hpq hu hq'
  by_cases p3 : nmL (s.data.toList.drop 516) = q
  case neg =>
    rw [decide_eq_false p3] at hqq
    have HR := Lib.hid (show r = ⟨0, [], 5⟩ by rw [hr, if_neg p3])
    clear hr p3 hl HD k1
    go_enter Tryz.func118, Tryz.ntmps118
    go_upto_region 3 with (fail)
    have HB := Lib.hid (Below.refl w.heap.size w)
    go_region_held3 (fun v => Below w.heap.size w v)
      (first | assumption | exact HB.out | exact HB.out.drew | exact Below.trans (by assumption) (Below.mono (by assumption) (Below.size (by assumption))))
      (first | (go_at_call 145; (with_reducible refine (k5 _).mono ?_); rintro e w2 ⟨rfl, hb⟩) | (go_at_call 146; (with_reducible refine (k4 _).mono ?_); rintro e w2 ⟨rfl, rfl⟩))
    all_goals rename_i hS
    all_goals go_wp2
    all_goals go_ret3
    all_goals exact ⟨by rw [HR.out]; rfl, hS⟩
  rw [decide_eq_true p3] at hqq
  rw [if_pos p3] at hr
  clear p3 hl
  have HR := Lib.hid hr
  clear hr
  go_enter Tryz.func118, Tryz.ntmps118
  go_upto_region 3 with (fail)
  have HB := Lib.hid (Below.refl w.heap.size w)
  go_region_held3 (fun v => Below w.heap.size w v)
    (first | assumption | exact HB.out | exact HB.out.drew | exact Below.trans (by assumption) (Below.mono (by assumption) (Below.size (by assumption))))
    (first | (go_at_call 145; (with_reducible refine (k5 _).mono ?_); rintro e w2 ⟨rfl, hb⟩) | (go_at_call 146; (with_reducible refine (k4 _).mono ?_); rintro e w2 ⟨rfl, rfl⟩))
  all_goals rename_i hS
  all_goals have HS := Lib.hid hS
  all_goals clear hS
  all_goals clear hb
  all_goals by_cases g1 : x < 1
  · have t1 : decide (x < 1) = true := decide_eq_true g1
    have t2 : okP x = false := by unfold okP; exact decide_eq_false (by omega)
    rw [t2] at HR
    go_wp2_with (first | (go_at_call 128; (with_reducible refine (k1 _).mono ?_); rintro e w3 ⟨rfl, hb⟩; replace HS := Lib.hid (HS.out.trans (hb.mono HS.out.size)); clear hb))
    go_ret3
    exact ⟨by rw [HR.out]; rfl, HS.out⟩
  have t1 : decide (x < 1) = false := decide_eq_false g1
  by_cases g2 : 2000 < x
  · have t3 : decide (2000 < x) = true := decide_eq_true g2
    have t2 : okP x = false := by unfold okP; exact decide_eq_false (by omega)
    rw [t2] at HR
    go_wp2_with (first | (go_at_call 128; (with_reducible refine (k1 _).mono ?_); rintro e w3 ⟨rfl, hb⟩; replace HS := Lib.hid (HS.out.trans (hb.mono HS.out.size)); clear hb))
    go_ret3
    exact ⟨by rw [HR.out]; rfl, HS.out⟩
  have t3 : decide (2000 < x) = false := decide_eq_false g2
  have t2 : okP x = true := by unfold okP; exact decide_eq_true (by omega)
  rw [t2] at HR
  go_upto_region 8 with (first | (go_at_call 128; (with_reducible refine (k1 _).mono ?_); rintro e w3 ⟨rfl, hb⟩; replace HS := Lib.hid (HS.out.trans (hb.mono HS.out.size)); clear hb))
  go_quiet (fail)
  all_goals go_wp2
  all_goals go_ret3
  all_goals exact ⟨by (first | rw [HR.out, if_pos rfl] | rw [HR.out, if_pos trivial]); exact ret9_of HD.out, HS.out.trans ⟨rfl, rfl, rfl, Nat.le_refl _, fun _ _ => rfl⟩⟩
end Go.Proofs.YthfebcfdhmihcaaGreatDoor

namespace Go.Proofs.YthfebcfdhmihcaaGreatDoor
open Go.RowKit

theorem pread_is {s : ByteArray} (hs : s.size ≤ 9223372036854775807) {k : Int} (h3 : -9223372036854775808 ≤ k) (h4 : k ≤ 9223372036854775807) {n e : Int} {D : ByteArray} (h : rdP s.data.toList k = ⟨n, D.data.toList, e⟩) (w : World) :
    Calls Tryz.prog 169 #[.string s, .int .i64 k] w fun x w' => x = .returned (.tuple #[.int .i64 n, .string D, .int .i64 e]) ∧ Below w.heap.size w w' := by
  have := pread_any s hs k h3 h4 w
  rw [h] at this
  exact this
theorem qread_is {s : ByteArray} (hs : s.size ≤ 9223372036854775807) {k : Int} (h3 : -9223372036854775808 ≤ k) (h4 : k ≤ 9223372036854775807) {n e : Int} {D : ByteArray} (h : rdP s.data.toList k = ⟨n, D.data.toList, e⟩) (w : World) :
    Calls Tryz.prog 118 #[.string s, .int .i64 k] w fun x w' => x = .returned (.tuple #[.int .i64 n, .string D, .int .i64 e]) ∧ Below w.heap.size w w' := by
  have := qread_any s hs k h3 h4 w
  rw [h] at this
  exact this
end Go.Proofs.YthfebcfdhmihcaaGreatDoor

namespace Go.Proofs.YthfebcfdhmihcaaGreatDoor
open Go.RowKit

theorem spvalid_any (s : ByteArray) (w : World) :
    Calls Tryz.prog 172 #[.string s] w fun e w' => e = .returned (.bool (okS s.data.toList)) ∧ w = w' := by
  obtain ⟨r, hr⟩ : ∃ r, r = okS s.data.toList := ⟨_, rfl⟩
  rw [← hr]
  have hl : s.data.toList.length = s.size := by simp
  have hrr : r = true ↔ 1 ≤ s.size ∧ s.size ≤ 40 := by rw [hr, ← hl]; exact okS_iff
  have HR := Lib.hid hrr
  clear hr hrr hl
  go_enter Tryz.func172, Tryz.ntmps172
  go_wp2
  all_goals go_ret
  all_goals refine ⟨ret_bool ?_, rfl⟩
  all_goals (rw [Bool.eq_iff_iff, HR.out]; simp only [decide_eq_true_iff, Bool.false_eq_true, false_iff]; omega)
theorem r10path_any (s : ByteArray) (w : World) :
    Calls Tryz.prog 148 #[.string s] w fun e w' => e = .returned (.bool (okS s.data.toList)) ∧ w = w' := by
  obtain ⟨r, hr⟩ : ∃ r, r = okS s.data.toList := ⟨_, rfl⟩
  rw [← hr]
  have hl : s.data.toList.length = s.size := by simp
  have hrr : r = true ↔ 1 ≤ s.size ∧ s.size ≤ 40 := by rw [hr, ← hl]; exact okS_iff
  have HR := Lib.hid hrr
  clear hr hrr hl
  go_enter Tryz.func148, Tryz.ntmps148
  go_wp2
  all_goals go_ret
  all_goals refine ⟨ret_bool ?_, rfl⟩
  all_goals (rw [Bool.eq_iff_iff, HR.out]; simp only [decide_eq_true_iff, Bool.false_eq_true, false_iff]; omega)
theorem spfixed_any (n : Int) (h1 : 0 ≤ n) (h2 : n ≤ 4294967295) (w : World) :
    Calls Tryz.prog 197 #[.int .i64 n] w fun e w' => e = .returned (.string (ba (fourL n.toNat))) ∧ Below w.heap.size w w' := by
  have k := fun w => vfixed_any n (by omega) (by omega) w
  rw [fixR, if_pos ⟨h1, h2⟩] at k
  go_enter Tryz.func197, Tryz.ntmps197
  go_wp2_with (go_at_call 212; refine (k _).mono ?_; rintro e w' ⟨rfl, hb⟩)
  go_ret
  exact ⟨rfl, hb⟩
theorem sfour_any (n : Int) (h1 : 0 ≤ n) (h2 : n ≤ 4294967295) (w : World) :
    Calls Tryz.prog 145 #[.int .i64 n] w fun e w' => e = .returned (.string (ba (fourL n.toNat))) ∧ Below w.heap.size w w' := by
  have k := rfour_any n (by omega) (by omega) w
  rw [fixR, if_pos ⟨h1, h2⟩] at k
  exact k
theorem ret_sb {a b : ByteArray} (h : a = b) : Ending.returned (.string a) = .returned (.string b) := by rw [h]
theorem ret_sbe {a b : ByteArray} {x : Int} (h : a = b) : Ending.returned (.tuple #[.string a, .int .i64 x]) = .returned (.tuple #[.string b, .int .i64 x]) := by rw [h]
theorem sptext_any (s : ByteArray) (hs : s.size ≤ 40) (w : World) :
    Calls Tryz.prog 174 #[.string s] w fun e w' => e = .returned (.string (ba (txS s.data.toList))) ∧ Below w.heap.size w w' := by
  have k := fun w => spfixed_any (s.size : Int) (by omega) (by omega) w
  have hb4 : (ba (fourL ((s.size : Int)).toNat)).size = 4 := rfl
  obtain ⟨x, hx⟩ : ∃ x, x = ba (fourL ((s.size : Int)).toNat) := ⟨_, rfl⟩
  rw [← hx] at k hb4
  have HX := Lib.hid hx
  clear hx
  go_enter Tryz.func174, Tryz.ntmps174
  go_wp2_with (go_at_call 197; refine (k _).mono ?_; rintro e w' ⟨rfl, hb⟩)
  go_ret
  refine ⟨ret_sb ?_, hb⟩
  rw [HX.out, Int.toNat_natCast, txS]
  have hl : s.data.toList.length = s.size := by simp
  rw [hl, ← ba_app, ba_back]
theorem r10text_any (s : ByteArray) (hs : s.size ≤ 40) (w : World) :
    Calls Tryz.prog 149 #[.string s] w fun e w' => e = .returned (.string (ba (txS s.data.toList))) ∧ Below w.heap.size w w' := by
  have k := fun w => sfour_any (s.size : Int) (by omega) (by omega) w
  have hb4 : (ba (fourL ((s.size : Int)).toNat)).size = 4 := rfl
  obtain ⟨x, hx⟩ : ∃ x, x = ba (fourL ((s.size : Int)).toNat) := ⟨_, rfl⟩
  rw [← hx] at k hb4
  have HX := Lib.hid hx
  clear hx
  go_enter Tryz.func149, Tryz.ntmps149
  go_wp2_with (go_at_call 145; refine (k _).mono ?_; rintro e w' ⟨rfl, hb⟩)
  go_ret
  refine ⟨ret_sb ?_, hb⟩
  rw [HX.out, Int.toNat_natCast, txS]
  have hl : s.data.toList.length = s.size := by simp
  rw [hl, ← ba_app, ba_back]
set_option maxHeartbeats 1000000 in
theorem spseal_any (s : ByteArray) (hs : s.size ≤ 4096) (k : Int) (h3 : 0 ≤ k) (h4 : k ≤ 100) (m : ByteArray) (hm : m.size = 8) (w : World) :
    Calls Tryz.prog 173 #[.string s, .int .i64 k, .string m] w fun e w' => e = .returned (.string (ba (seS s.data.toList k m.data.toList))) ∧ Below w.heap.size w w' := by
  have k1 := fun w => ssum_any k (by omega) (by omega) s (by omega) w
  have hb := sumZ_bd k s.data.toList
  obtain ⟨q, hq⟩ : ∃ q, q = sumZ k s.data.toList := ⟨_, rfl⟩
  rw [← hq] at k1 hb
  have k2 := fun w => spfixed_any q hb.1 hb.2 w
  have hb4 : (ba (fourL q.toNat)).size = 4 := rfl
  obtain ⟨x, hx⟩ : ∃ x, x = ba (fourL q.toNat) := ⟨_, rfl⟩
  rw [← hx] at k2 hb4
  have HX := Lib.hid hx
  have HQ := Lib.hid hq
  clear hx hq hb
  have e1 := app_size s x
  have e2 := app_size (s ++ x) m
  go_enter Tryz.func173, Tryz.ntmps173
  go_wp2_with (first | (go_at_call 192; refine (k1 _).mono ?_; rintro e w1 ⟨rfl, b1⟩) | (go_at_call 197; refine (k2 _).mono ?_; rintro e w2 ⟨rfl, b2⟩))
  go_ret
  refine ⟨ret_sb ?_, b1.trans (b2.mono b1.size)⟩
  rw [seS, ← ba_app, ← ba_app, ba_back, ba_back, HX.out, HQ.out]
end Go.Proofs.YthfebcfdhmihcaaGreatDoor

namespace Go.Proofs.YthfebcfdhmihcaaGreatDoor
open Go.RowKit

theorem below_grown {w w' : World} {n : Nat} {row : Option Nat} (h : Below n w w') (hn : n = w.heap.size) : w.grownBy w' row := by
  subst hn
  exact ⟨h.os, h.tape, h.output, h.size, fun k hk _ => h.block k hk⟩

/-- The reader lies at block b: the bytes that are left. -/
def Rdr (w : World) (b : Nat) (l : List UInt8) : Prop := Blk w b 215 #[.string (ba l)]
theorem rdr_cell {w : World} {b : Nat} {l : List UInt8} (h : Rdr w b l) : w.cell? ⟨b, 0, none⟩ = some (.string (ba l)) ∧ w.frozen? ⟨b, 0, none⟩ = false := ⟨blk_cell h 0 rfl, blk_frozen h 0⟩
theorem rdr_set {w : World} {b : Nat} {l : List UInt8} (h : Rdr w b l) (s : ByteArray) : Rdr (w.setCell ⟨b, 0, none⟩ (.string s)) b s.data.toList := by
  have := blk_set h 0 (.string s)
  rw [← ba_back s] at this
  exact this
theorem sext_take (l : List UInt8) (k : Nat) : (ba l).extract 0 k = ba (l.take k) := by
  apply ByteArray.ext
  simp [ba, ByteArray.data_extract]
theorem sext_drop (l : List UInt8) (k : Nat) : (ba l).extract k (ba l).size = ba (l.drop k) := by
  apply ByteArray.ext
  simp [ba, ByteArray.data_extract, ByteArray.size]
  exact List.take_of_length_le (by simp)

set_option maxHeartbeats 1000000 in
theorem sptake_any (b : Nat) (l : List UInt8) (n : Nat) (w : World) (hs : l.length ≤ 1048576) (hn : n ≤ 9223372036854775807) (h : Rdr w b l) :
    Calls Tryz.prog 170 #[.pointer (some ⟨b, 0, none⟩), .int .i64 n] w fun e w' => e = .returned (.string (ba (l.take n))) ∧ Rdr w' b (l.drop n) ∧ w.grownBy w' (some b) := by
  obtain ⟨c0, f0⟩ := rdr_cell h
  have HRD := Lib.hid h; clear h
  have hz := ba_size l
  have ht : l.take n = l.take (min n l.length) := by rw [← List.take_eq_take_min]
  have hd : l.drop n = l.drop (min n l.length) := by
    by_cases c : n ≤ l.length
    · rw [Nat.min_eq_left c]
    · rw [Nat.min_eq_right (by omega), List.drop_of_length_le (by omega), List.drop_of_length_le (by omega)]
  rw [ht, hd]
  obtain ⟨m, hm⟩ : ∃ m, m = min n l.length := ⟨_, rfl⟩
  rw [← hm]
  have hmz : min (n : Int) (l.length : Int) = m := by omega
  have hm2 : m ≤ (ba l).size := by omega
  have hm3 : (m : Int) ≤ l.length := by omega
  have hm4 : m ≤ l.length := by omega
  clear ht hd hm
  have HT := Lib.hid (sext_take l m)
  have HD := Lib.hid (sext_drop l m)
  go_enter Tryz.func170, Tryz.ntmps170
  go_wp2
  go_ret
  rw [← hz, HT.out, HD.out]
  exact ⟨rfl, rdr_set HRD.out _, Lib.grownBy_setCell w b 0 _⟩
theorem nm_take4 (l : List UInt8) : nmL (l.take 4) = nmL l := by
  by_cases h : 4 ≤ l.length
  · exact nmL_take l h
  · rw [List.take_of_length_le (by omega)]
theorem spnumber_any (b : Nat) (l : List UInt8) (w : World) (hs : l.length ≤ 1048576) (h : Rdr w b l) :
    Calls Tryz.prog 196 #[.pointer (some ⟨b, 0, none⟩)] w fun e w' => e = .returned (.int .i64 (nmL l)) ∧ Rdr w' b (l.drop 4) ∧ w.grownBy w' (some b) := by
  have k1 := sptake_any b l 4 w hs (by decide) h
  have k2 := fun w => vnumber_any (ba (l.take 4)) (by rw [ba_size, List.length_take]; omega) w
  rw [ba_list] at k2
  have e := nm_take4 l
  unfold nmL at e ⊢
  rw [← e]
  generalize numR (l.take 4) = x at k2 ⊢
  clear h e
  go_enter Tryz.func196, Tryz.ntmps196
  go_wp2_with (first | (go_at_call 170; refine k1.mono ?_; rintro e w1 ⟨rfl, hr, hg⟩) | (go_at_call 207; refine (k2 _).mono ?_; rintro e w2 ⟨rfl, rfl⟩))
  go_ret
  exact ⟨rfl, hr, hg⟩
end Go.Proofs.YthfebcfdhmihcaaGreatDoor

namespace Go.Proofs.YthfebcfdhmihcaaGreatDoor
open Go.RowKit

theorem own_not {W : World} {base : Nat} {e t : TypeId} {size : Nat} {v : Value} {n : Nat} {xs : List Value} (h : W.ownsRow base e size v n xs) {g : Nat} {cs : Array Value} (hb : Blk W g t cs) (hne : t ≠ e) : v.ownBlock ≠ some g := by
  intro hk
  rcases h.2 with ⟨rfl, rfl⟩ | ⟨g', cap, cur, rfl, hb', hg, -⟩
  · cases hk
  · obtain rfl : g' = g := Option.some.inj hk
    unfold Blk at hb
    rw [hb] at hg
    cases hg
    exact hne rfl
theorem blk_own {W W' : World} {base : Nat} {e t : TypeId} {size : Nat} {v : Value} {n : Nat} {xs : List Value} {g : Nat} {cs : Array Value} (hb : Blk W g t cs) (h : W.ownsRow base e size v n xs) (hne : t ≠ e) (hg : W.grownBy W' v.ownBlock) : Blk W' g t cs :=
  (hg.block g (blk_lt hb) (fun e => own_not h hb hne e.symm)).trans hb
theorem own_set {W : World} {base : Nat} {e t : TypeId} {size : Nat} {v : Value} {n : Nat} {xs : List Value} {g : Nat} {cs : Array Value} (h : W.ownsRow base e size v n xs) (hb : Blk W g t cs) (hne : t ≠ e) (i : Nat) (x : Value) : (W.setCell ⟨g, i, none⟩ x).ownsRow base e size v n xs :=
  h.kept (Lib.grownBy_setCell W g i x) (by
    cases hv : v.ownBlock with
    | none => exact .inl rfl
    | some k => exact .inr fun e => own_not h hb hne (hv.trans e))
theorem blk3_of {v : World} {g : Nat} {t : TypeId} {x y z : Value} (h : Blk v g t #[x, y, z]) : v.cell? ⟨g, 0, none⟩ = some x ∧ v.cell? ⟨g, 1, none⟩ = some y ∧ v.cell? ⟨g, 2, none⟩ = some z ∧ Blk v g t #[x, y, z] := ⟨blk_cell h 0 rfl, blk_cell h 1 rfl, blk_cell h 2 rfl, h⟩
theorem blk_drew {v : World} {g : Nat} {t : TypeId} {cs : Array Value} (h : Blk v g t cs) : Blk v.drew g t cs := h
def zSeg : Array Value := #[.int .i64 0, .slice none 0 0, .string ⟨#[]⟩]
theorem segNeRec : 164 ≠ 165 := by decide
theorem headNeRec : 238 ≠ 165 := by decide

def FirstQ (l : List UInt8) (w : World) (e : Ending) (w' : World) : Prop :=
  Below w.heap.size w w' ∧ ((fsS l = none ∧ e = .returned (.tuple #[.agg zSeg, .bool false])) ∨ ∃ a cap g, fsS l = some g ∧ e = .returned (.tuple #[.agg #[.int .i64 g.p, .slice a g.L.length cap, .string (ba g.t)], .bool true]) ∧ Recs w' a g.L ∧ ∀ b off, a = some ⟨b, off, none⟩ → w.heap.size ≤ b ∧ b < w'.heap.size)

set_option maxHeartbeats 4000000 in
set_option maxRecDepth 100000 in
theorem first_any (l : List UInt8) (hs : l.length ≤ 1048576) (w : World) : Calls Tryz.prog 138 #[.string (ba l)] w (FirstQ l w) := by
  obtain ⟨⟨a, b, c⟩, f, hr⟩ : ∃ (h : H8) (e : Int), rdH l = (h, e) := ⟨_, _, rfl⟩
  have hsz := ba_size l
  have k1 := fun w => jread_is (s := ba l) (by omega) (a := a) (b := b) (c := c) (e := f) hr w
  have HZ := Lib.hid (blk_new w 164 zSeg)
  by_cases h0 : f = 0
  case neg =>
    have t1 : (f != 0) = true := by simpa using h0
    have HF := Lib.hid (fsS_none (s := l) (.inl (by rw [hr]; exact h0)))
    clear h0 hr
    go_enter Tryz.func138, Tryz.ntmps138
    go_wp2_with (go_at_call 168; (with_reducible refine (k1 _).mono ?_); rintro e w1 ⟨rfl, b1⟩; have HR := Lib.hid (blk_alloc (blk_below HZ.out b1) (.cells #[.int .i64 a, .int .i64 b, .int .i64 c] 238)); have HB := Lib.hid ((blw_new b1).alloc (blw_new b1).size (.cells #[.int .i64 a, .int .i64 b, .int .i64 c] 238)); clear b1; have z0 := blk_cell HR.out 0 rfl; have z1 := blk_cell HR.out 1 rfl; have z2 := blk_cell HR.out 2 rfl; have z3 := blk_frozen HR.out 0; have z4 := blk_frozen HR.out 1; have z5 := blk_frozen HR.out 2)
    refine bodyPost_ret (results_pair rfl _ _ w.heap.size _ _ _ rfl (blk_set (blk_set (blk_set HR.out 0 _) 1 _) 2 _) Tryz.underlying164 rfl (by kernel_rfl)) rfl ?_
    exact ⟨blw_set (blw_set (blw_set HB.out (Nat.le_refl _) 0 _) (Nat.le_refl _) 1 _) (Nat.le_refl _) 2 _, .inl ⟨HF.out, rfl⟩⟩
  subst h0
  have hok := rdH_ok (s := l) (by rw [hr])
  rw [hr] at hok
  obtain ⟨h32, ⟨ha0, ha1⟩, ⟨hb0, hb1⟩, hc0, hc1⟩ := hok
  simp only at ha0 ha1 hb0 hb1 hc0 hc1
  obtain ⟨m, rfl⟩ : ∃ m : Nat, a = m := ⟨a.toNat, by omega⟩
  have HFS := Lib.hid (fun L (hL : sgR c (l.drop 32) m = some L) => show fsS l = some ⟨b, L, l.drop (32 + 520 * m)⟩ by
    have := fsS_some (s := l) (by rw [hr]) (L := L) (by rw [hr]; exact hL)
    rw [this, hr]; rfl)
  have HFN := Lib.hid (fun (hL : sgR c (l.drop 32) m = none) => fsS_none (s := l) (.inr (by rw [hr]; exact hL)))
  obtain ⟨s, hsl⟩ : ∃ s, s = ba l := ⟨_, rfl⟩
  have HD := Lib.hid (show s.extract 32 s.size = ba (l.drop 32) by rw [hsl, sext_drop])
  rw [← hsl] at hsz k1 ⊢
  have hz32 : 32 ≤ s.size := by omega
  have hzi : (32 : Int) ≤ s.size := by omega
  obtain ⟨i1, hi1, hz1, hs1, hb2⟩ := info_parts infoJR
  clear hr hsl hsz
  go_enter Tryz.func138, Tryz.ntmps138
  go_upto_region 4 with (go_at_call 168; (with_reducible refine (k1 _).mono ?_); rintro e w1 ⟨rfl, b1⟩)
  have HR := Lib.hid (blk_alloc (blk_below HZ.out b1) (.cells #[.int .i64 m, .int .i64 b, .int .i64 c] 238))
  have HH := Lib.hid (blk_new w1 238 #[.int .i64 m, .int .i64 b, .int .i64 c])
  have HB := Lib.hid ((blw_new b1).alloc (blw_new b1).size (.cells #[.int .i64 m, .int .i64 b, .int .i64 c] 238))
  have hw1 : w.heap.size < w1.heap.size := Nat.lt_of_lt_of_le (by simp) b1.size
  clear b1 HZ k1
  revert HR HH HB
  obtain ⟨W0, hW0⟩ : ∃ W0, W0 = w1.alloc (.cells #[.int .i64 m, .int .i64 b, .int .i64 c] 238) := ⟨_, rfl⟩
  rw [← hW0]
  clear hW0
  revert hw1
  generalize w1.heap.size = H
  intro hw1 HR HH HB
  clear w1
  go_region_held3 (fun v => v.cell? ⟨H, 0, none⟩ = some (.int .i64 m) ∧ v.cell? ⟨H, 1, none⟩ = some (.int .i64 b) ∧ v.cell? ⟨H, 2, none⟩ = some (.int .i64 c) ∧ Blk v H 238 #[.int .i64 m, .int .i64 b, .int .i64 c])
    (first | assumption | exact blk3_of HH.out | exact blk3_of (blk_drew HH.out) | exact blk3_of (blk_drew (blk_alloc HH.out _)) | exact blk3_of (blk_alloc HH.out _))
    (fail)
  rename_i hHeld
  clear hHeld
  rw [HD.out]
  have HG := blk_drew (blk_new W0 164 #[.int .i64 b, .slice none 0 0, .string (ba (l.drop 32))])
  have HR1 := blk_drew (blk_alloc HR.out (.cells #[.int .i64 b, .slice none 0 0, .string (ba (l.drop 32))] 164))
  have HH1 := blk_drew (blk_alloc HH.out (.cells #[.int .i64 b, .slice none 0 0, .string (ba (l.drop 32))] 164))
  have HB1 := (HB.out.alloc HB.out.size (.cells #[.int .i64 b, .slice none 0 0, .string (ba (l.drop 32))] 164)).drew
  have hGw := HB.out.size
  have hHlt := blk_lt HH.out
  clear HR HH HB HD
  have hHG : H < W0.heap.size := hHlt
  clear hHlt
  revert HG HR1 HH1 HB1 hGw hHG
  generalize (W0.alloc (.cells #[.int .i64 b, .slice none 0 0, .string (ba (l.drop 32))] 164)).drew = W1
  generalize W0.heap.size = G
  intro HG HR1 HH1 HB1 hGw hHG
  have d0 := blk_cell HH1 0 rfl
  have HG := Lib.hid HG; have HR1 := Lib.hid HR1; have HH1 := Lib.hid HH1; have HB1 := Lib.hid HB1
  clear W0 hz32 hzi
  go_wp2
  clear d0
  go_loopw [25] (fun i wr => ∃ (k : Nat) (v : Value) (L : List R11), k ≤ m ∧ i = .int .i64 k ∧ Hid (sgR c (l.drop 32) k = some L) ∧ Hid (wr.ownsRow w.heap.size 165 2 v k (recsC L)) ∧ Hid (Blk wr G 164 #[.int .i64 b, v, .string (ba (l.drop (32 + 520 * k)))]) ∧ Hid (Blk wr H 238 #[.int .i64 m, .int .i64 b, .int .i64 c]) ∧ Hid (Blk wr w.heap.size 164 zSeg) ∧ Hid (Below w.heap.size w wr)) (fun i _ => m - (intOf i).toNat)
  case atStart => exact ⟨0, .slice none 0 0, [], by omega, rfl, Lib.hid rfl, Lib.hid (World.ownsRow_nil _ _ _ _), HG, HH1, HR1, HB1⟩
  case round =>
    clear HG HR1 HH1 HB1
    obtain ⟨k, v, L, hk, rfl, hsg, hown, hG, hH, hR, hB⟩ := hrel
    have g0 := blk_cell hG.out 0 rfl
    have g1 := blk_cell hG.out 1 rfl
    have g2 := blk_cell hG.out 2 rfl
    have e0 := blk_cell hH.out 0 rfl
    have e2 := blk_cell hH.out 2 rfl
    by_cases hlt : k < m
    case neg =>
      obtain rfl : k = m := by omega
      obtain ⟨a1, cap1, rfl, -, -, -⟩ := recs_of_own hown.out
      have z0 := blk_cell hR.out 0 rfl
      have z1 := blk_cell hR.out 1 rfl
      have z2 := blk_cell hR.out 2 rfl
      have z3 := blk_frozen hR.out 0
      have z4 := blk_frozen hR.out 1
      have z5 := blk_frozen hR.out 2
      go_wp2
      refine bodyPost_ret (results_pair rfl _ _ w.heap.size _ _ _ rfl (blk_set (blk_set (blk_set hR.out 0 _) 1 _) 2 _) Tryz.underlying164 rfl (by kernel_rfl)) rfl ?_
      have o1 := own_set hown.out hR.out segNeRec 0 (.int .i64 b)
      have o2 := own_set o1 (blk_set hR.out 0 (.int .i64 b)) segNeRec 1 (.slice a1 k cap1)
      have o3 := own_set o2 (blk_set (blk_set hR.out 0 (.int .i64 b)) 1 (.slice a1 k cap1)) segNeRec 2 (.string (ba (l.drop (32 + 520 * k))))
      obtain ⟨a', cap', hv, hln, hrec, hbs⟩ := recs_of_own o3
      cases hv
      subst hln
      exact ⟨blw_set (blw_set (blw_set hB.out (Nat.le_refl _) 0 _) (Nat.le_refl _) 1 _) (Nat.le_refl _) 2 _, .inr ⟨a1, cap1, _, HFS.out L hsg.out, rfl, hrec, hbs⟩⟩
    obtain ⟨n, D, e, hrd⟩ : ∃ (n : Int) (D : ByteArray) (e : Int), rdP (l.drop (32 + 520 * k)) c = ⟨n, D.data.toList, e⟩ := ⟨_, ⟨(rdP (l.drop (32 + 520 * k)) c).d.toArray⟩, _, rfl⟩
    have hXz : (ba (l.drop (32 + 520 * k))).size = l.length - (32 + 520 * k) := by rw [ba_size, List.length_drop]
    have k2 := fun w => pread_is (s := ba (l.drop (32 + 520 * k))) (by omega) (k := c) (by omega) (by omega) (n := n) (e := e) (D := D) hrd w
    by_cases h0 : e = 0
    case neg =>
      have HN := Lib.hid (HFN.out (sgR_bad hlt (by rw [List.drop_drop, hrd]; exact h0)))
      have t1 : (e != 0) = true := by simpa using h0
      clear h0 hrd hXz
      generalize ba (l.drop (32 + 520 * k)) = X at *
      go_wp2_with (go_at_call 169; (with_reducible refine (k2 _).mono ?_); rintro e w2 ⟨rfl, b2⟩; have HR2 := Lib.hid (blk_below hR.out b2); have HB2 := Lib.hid (hB.out.trans (b2.mono hB.out.size)); clear b2; have z0 := blk_cell HR2.out 0 rfl; have z1 := blk_cell HR2.out 1 rfl; have z2 := blk_cell HR2.out 2 rfl; have z3 := blk_frozen HR2.out 0; have z4 := blk_frozen HR2.out 1; have z5 := blk_frozen HR2.out 2)
      refine bodyPost_ret (results_pair rfl _ _ w.heap.size _ _ _ rfl (blk_set (blk_set (blk_set HR2.out 0 _) 1 _) 2 _) Tryz.underlying164 rfl (by kernel_rfl)) rfl ?_
      exact ⟨blw_set (blw_set (blw_set HB2.out (Nat.le_refl _) 0 _) (Nat.le_refl _) 1 _) (Nat.le_refl _) 2 _, .inl ⟨HN.out, rfl⟩⟩
    subst h0
    have hrok := rdP_ok (l := l.drop (32 + 520 * k)) (k := c) (by rw [hrd])
    have HSG := Lib.hid (show sgR c (l.drop 32) (k + 1) = some (L ++ [⟨n, D.data.toList⟩]) by
      have := sgR_next hsg.out (by rw [List.drop_drop, hrd])
      rw [List.drop_drop, hrd] at this
      exact this)
    have h520 := hrok.2
    rw [List.length_drop] at h520
    have HDR := Lib.hid (show (ba (l.drop (32 + 520 * k))).extract 520 (ba (l.drop (32 + 520 * k))).size = ba (l.drop (32 + 520 * (k + 1))) by rw [sext_drop, List.drop_drop]; congr 2)
    clear hrok hrd
    generalize ba (l.drop (32 + 520 * k)) = X at *
    have hX1 : 520 ≤ X.size := by omega
    have hX2 : (520 : Int) ≤ X.size := by omega
    clear hXz
    have hklt : (k : Int) < m := by omega
    have hwB := hB.out.size
    go_wp2_with (first
      | (go_at_call 169; (with_reducible refine (k2 _).mono ?_); rintro e w2 ⟨rfl, b2⟩; have HG2 := Lib.hid (blk_below hG.out b2); have HO2 := Lib.hid (rown_below hown.out b2); have g4 := blk_cell HG2.out 1 rfl)
      | (at_builtin; refine wpList_append_lies _ rfl _ _ _ rfl w.heap.size 165 i1 _ 2 24 Tryz.underlying53 hi1 hz1 hs1 hb2 rfl (by omega) v k (recsC L) rfl (HO2.out.alloc _) ⟨w2.heap.size, 0, none⟩ 1 1 (recC ⟨n, D.data.toList⟩) rfl rfl (rnews w2 ⟨n, D.data.toList⟩ _) (rone ⟨n, D.data.toList⟩) (by omega) (by unfold maxLen; omega) (by omega) (by have h2 := b2.size; simp only [World.size_alloc]; omega) (w2.heap.size + 1) (by simp) ?_; intro g3 cap3 w3 hown3 hgrow3 hat3 hlt3; have HG3 := Lib.hid (blk_own (blk_alloc HG2.out _) (HO2.out.alloc _) segNeRec hgrow3); have y0 := blk_cell HG3.out 0 rfl; have y1 := blk_cell HG3.out 1 rfl; have y2 := blk_cell HG3.out 2 rfl; have y3 := blk_frozen HG3.out 1; have y4 := blk_frozen HG3.out 2; clear g0 g1 g2 g4 hat3))
    rw [HDR.out]
    have HO3 := Lib.hid (show w3.ownsRow w.heap.size 165 2 (.slice (some ⟨g3, 0, none⟩) (k + 1) cap3) (k + 1) (recsC (L ++ [⟨n, D.data.toList⟩])) by rw [recsC_snoc]; exact hown3)
    have hb2s := b2.size
    have HB3 := Lib.hid (rbelow_own ((hB.out.trans (b2.mono hwB)).alloc (by omega) _) (HO2.out.alloc _) hgrow3)
    have HH3 := Lib.hid (blk_own (blk_alloc (blk_below hH.out b2) _) (HO2.out.alloc _) headNeRec hgrow3)
    have HR3 := Lib.hid (blk_own (blk_alloc (blk_below hR.out b2) _) (HO2.out.alloc _) segNeRec hgrow3)
    clear hown3 hgrow3 b2 k2 hG hH hR hB HG2 HO2 hown hsg HDR
    go_roundw
    case rel =>
      refine ⟨k + 1, _, _, by omega, by go_num, HSG, Lib.hid (own_set (own_set HO3.out HG3.out segNeRec 1 _) (blk_set HG3.out 1 _) segNeRec 2 _), Lib.hid (blk_set (blk_set HG3.out 1 _) 2 _), Lib.hid (blk_other (blk_other HH3.out (by omega) 1 _) (by omega) 2 _), Lib.hid (blk_other (blk_other HR3.out (by omega) 1 _) (by omega) 2 _), Lib.hid (blw_set (blw_set HB3.out (by omega) 1 _) (by omega) 2 _)⟩
    case measure => simp [intOf]; omega
end Go.Proofs.YthfebcfdhmihcaaGreatDoor
