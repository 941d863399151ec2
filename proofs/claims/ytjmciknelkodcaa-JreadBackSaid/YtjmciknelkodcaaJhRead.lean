/-
  Layer 8: Read and the document's Read: each returns its plain function of the bytes and changes nothing that was there. Condition: the string has at most 2^63 - 1 bytes.
-/
import Derived.Test.YtjmciknelkodcaaJhWrite
namespace Go.Proofs.Ytjmciknelkodcaa
open Go.RowKit

theorem ext_drop (s : ByteArray) (k : Nat) : (s.extract k s.size).data.toList = s.data.toList.drop k := by
  rw [Lib.extract_data]
  exact List.take_of_length_le (by simp)
theorem ext_mid (s : ByteArray) (k m : Nat) : (s.extract k m).data.toList = (s.data.toList.drop k).take (m - k) := by rw [Lib.extract_data]
theorem ext_le (s : ByteArray) (k m : Nat) (h : m ≤ s.size) : (s.extract k m).size ≤ s.size := by simp; omega

/-- The result's block stands, and nothing that was there has changed. -/
structure R8I (t : TypeId) (w wr : World) : Prop where
  res : Blk wr w.heap.size t #[.int .i64 0, .int .i64 0, .int .i64 0]
  below : Below w.heap.size w wr
theorem r8_new (t : TypeId) (w : World) : R8I t w (w.alloc (.cells #[.int .i64 0, .int .i64 0, .int .i64 0] t)) := ⟨blk_new _ _ _, blw1 _ _⟩
theorem r8_drew {t : TypeId} {w wr : World} (h : R8I t w wr) : R8I t w wr.drew := ⟨h.res, h.below.drew⟩
theorem r8_next {t : TypeId} {w wr w2 : World} (h : R8I t w wr) (hb : Below wr.heap.size wr w2) : R8I t w w2 := ⟨blk_below h.res hb, h.below.trans (hb.mono h.below.size)⟩
theorem r8_alloc {t : TypeId} {w wr : World} (h : R8I t w wr) (o : Obj) : R8I t w (wr.alloc o) := r8_next h (blw1 _ _)
theorem r8_lt {t : TypeId} {w wr : World} (h : R8I t w wr) : w.heap.size < wr.heap.size := blk_lt h.res

def ret8 (r : H8 × Int) : Ending := .returned (.tuple #[.agg #[.int .i64 r.1.a, .int .i64 r.1.b, .int .i64 r.1.c], .int .i64 r.2])

set_option maxHeartbeats 4000000 in
set_option maxRecDepth 100000 in
theorem jread_any (s : ByteArray) (hs : s.size ≤ 9223372036854775807) (w : World) :
    Calls Try.prog 52 #[.string s] w fun e w' => e = ret8 (rdH s.data.toList) ∧ Below w.heap.size w w' := by
  obtain ⟨r, hr⟩ : ∃ r, r = rdH s.data.toList := ⟨_, rfl⟩
  rw [← hr]
  have HN := Lib.hid (r8_new 65 w)
  have hl : s.data.toList.length = s.size := by simp
  by_cases h32 : s.size < 32
  · have HR := Lib.hid (show r = (⟨0, 0, 0⟩, 1) by rw [hr, rdH, if_pos (by omega)])
    clear hr hl
    go_enter Try.func52, Try.ntmps52
    go_wp2
    refine bodyPost_ret (results_pair rfl _ _ w.heap.size _ _ _ rfl HN.out.res Try.underlying65 rfl (by kernel_rfl)) rfl ?_
    exact ⟨by rw [HR.out]; rfl, HN.out.below⟩
  rw [rdH, if_neg (by omega)] at hr
  have i1 : (8 : Int) ≤ s.size := by omega
  have i2 : (32 : Int) ≤ s.size := by omega
  have i3 : (20 : Int) ≤ s.size := by omega
  have i4 : (12 : Int) ≤ s.size := by omega
  have i5 : (16 : Int) ≤ s.size := by omega
  have i6 : decide ((s.size : Int) < 32) = false := decide_eq_false (by omega)
  by_cases p1 : s.data.toList.take 8 = j8F
  case neg =>
    have t1 : ((s.extract 0 8).toList == [97, 110, 110, 120, 106, 114, 110, 108]) = false := beq_eq_false_iff_ne.2 (by rw [ByteArray.toList_eq, ext_data]; exact p1)
    have HR := Lib.hid (show r = (⟨0, 0, 0⟩, 4) by rw [hr, if_neg (fun h => p1 h.1)])
    clear hr hl p1
    go_enter Try.func52, Try.ntmps52
    go_wp2
    refine bodyPost_ret (results_pair rfl _ _ w.heap.size _ _ _ rfl HN.out.res Try.underlying65 rfl (by kernel_rfl)) rfl ?_
    exact ⟨by rw [HR.out]; rfl, HN.out.below⟩
  have t1 : ((s.extract 0 8).toList == [97, 110, 110, 120, 106, 114, 110, 108]) = true := beq_iff_eq.2 (by rw [ByteArray.toList_eq, ext_data]; exact p1)
  by_cases p2 : (s.data.toList.drop 24).take 8 = j8L
  case neg =>
    have t2 : ((s.extract 24 32).toList == [108, 110, 114, 106, 120, 110, 110, 97]) = false := beq_eq_false_iff_ne.2 (by rw [ByteArray.toList_eq, ext_mid]; exact p2)
    have HR := Lib.hid (show r = (⟨0, 0, 0⟩, 4) by rw [hr, if_neg (fun h => p2 h.2)])
    clear hr hl p1 p2
    go_enter Try.func52, Try.ntmps52
    go_wp2
    refine bodyPost_ret (results_pair rfl _ _ w.heap.size _ _ _ rfl HN.out.res Try.underlying65 rfl (by kernel_rfl)) rfl ?_
    exact ⟨by rw [HR.out]; rfl, HN.out.below⟩
  have t2 : ((s.extract 24 32).toList == [108, 110, 114, 106, 120, 110, 110, 97]) = true := beq_iff_eq.2 (by rw [ByteArray.toList_eq, ext_mid]; exact p2)
  rw [if_pos ⟨p1, p2⟩] at hr
  clear p1 p2
  have k0 := fun w => jnumber_any (s.extract 20 s.size) (by have := ext_le s 20 s.size (Nat.le_refl _); omega) w
  have k1 := fun w => jnumber_any (s.extract 8 s.size) (by have := ext_le s 8 s.size (Nat.le_refl _); omega) w
  have k2 := fun w => jnumber_any (s.extract 12 s.size) (by have := ext_le s 12 s.size (Nat.le_refl _); omega) w
  have k3 := fun w => jnumber_any (s.extract 16 s.size) (by have := ext_le s 16 s.size (Nat.le_refl _); omega) w
  have k4 := fun w => ssum_any 7 (by decide) (by decide) (s.extract 0 20) (by have := ext_le s 0 20 (by omega); omega) w
  rw [ext_drop] at k0 k1 k2 k3
  rw [ext_data] at k4
  obtain ⟨x, hx⟩ : ∃ x, x = nmL (s.data.toList.drop 8) := ⟨_, rfl⟩
  obtain ⟨y, hy⟩ : ∃ y, y = nmL (s.data.toList.drop 12) := ⟨_, rfl⟩
  obtain ⟨z, hz⟩ : ∃ z, z = nmL (s.data.toList.drop 16) := ⟨_, rfl⟩
  obtain ⟨p, hp⟩ : ∃ p, p = nmL (s.data.toList.drop 20) := ⟨_, rfl⟩
  obtain ⟨q, hq⟩ : ∃ q, q = sumZ 7 (s.data.toList.take 20) := ⟨_, rfl⟩
  rw [← hx, ← hy, ← hz, ← hp, ← hq] at hr
  rw [← hp] at k0
  rw [← hx] at k1
  rw [← hy] at k2
  rw [← hz] at k3
  rw [← hq] at k4
  clear hx hy hz hp hq
  by_cases p3 : p = q
  case neg =>
    have t3 : (p == q) = false := beq_eq_false_iff_ne.2 p3
    have HR := Lib.hid (show r = (⟨0, 0, 0⟩, 5) by rw [hr, if_neg p3])
    clear hr p3
    go_enter Try.func52, Try.ntmps52
    go_upto_region 5 with (fail)
    revert HN
    generalize w.alloc (.cells #[.int .i64 0, .int .i64 0, .int .i64 0] 65) = W0
    intro HN
    go_region_held3 (fun v => R8I 65 w v)
      (first | assumption | exact HN.out | exact r8_drew HN.out | exact r8_next (by assumption) (by assumption))
      (first | (go_at_call 68; (with_reducible refine (k0 _).mono ?_); rintro e w2 ⟨rfl, rfl⟩) | (go_at_call 45; (with_reducible refine (k4 _).mono ?_); rintro e w2 ⟨rfl, hb⟩))
    all_goals rename_i hS
    all_goals have hz := hS.res
    all_goals have z0 := blk_cell hz 0 rfl
    all_goals have z1 := blk_cell hz 1 rfl
    all_goals have z2 := blk_cell hz 2 rfl
    all_goals have z3 := blk_frozen hz 0
    all_goals have z4 := blk_frozen hz 1
    all_goals have z5 := blk_frozen hz 2
    all_goals have HB := Lib.hid hS.below
    all_goals have HZ := Lib.hid hz
    all_goals clear hS hz
    all_goals go_wp2
    all_goals refine bodyPost_ret (results_pair rfl _ _ w.heap.size _ _ _ rfl (blk_set (blk_set (blk_set HZ.out 0 _) 1 _) 2 _) Try.underlying65 rfl (by kernel_rfl)) rfl ?_
    all_goals exact ⟨by rw [HR.out]; rfl, blw_set (blw_set (blw_set HB.out (Nat.le_refl _) 0 _) (Nat.le_refl _) 1 _) (Nat.le_refl _) 2 _⟩
  subst p3
  rw [if_pos rfl] at hr
  have k5 := fun w => valid_any x y z w
  obtain ⟨ok, hok⟩ : ∃ ok, ok = okH x y z := ⟨_, rfl⟩
  rw [← hok] at hr k5
  clear hok
  have HR := Lib.hid hr
  clear hr hl
  go_enter Try.func52, Try.ntmps52
  go_upto_region 5 with (fail)
  revert HN
  generalize w.alloc (.cells #[.int .i64 0, .int .i64 0, .int .i64 0] 65) = W0
  intro HN
  go_region_held3 (fun v => R8I 65 w v)
    (first | assumption | exact HN.out | exact r8_drew HN.out | exact r8_next (by assumption) (by assumption))
    (first | (go_at_call 68; (with_reducible refine (k0 _).mono ?_); rintro e w2 ⟨rfl, rfl⟩) | (go_at_call 45; (with_reducible refine (k4 _).mono ?_); rintro e w2 ⟨rfl, hb⟩))
  rename_i hS
  have HN1 := Lib.hid hS
  clear hS HN hb
  go_upto_region 7 with (fail)
  go_region_held3 (fun v => R8I 65 w v)
    (first | assumption | exact HN1.out | exact r8_drew HN1.out | exact r8_next (by assumption) (by assumption) | exact r8_alloc HN1.out _ | exact r8_alloc (r8_drew HN1.out) _ | exact r8_alloc (by assumption) _ )
    (first | (go_at_call_of 68 (s.extract 8 s.size); (with_reducible refine (k1 _).mono ?_); rintro e w2 ⟨rfl, rfl⟩) | (go_at_call_of 68 (s.extract 12 s.size); (with_reducible refine (k2 _).mono ?_); rintro e w2 ⟨rfl, rfl⟩) | (go_at_call_of 68 (s.extract 16 s.size); (with_reducible refine (k3 _).mono ?_); rintro e w2 ⟨rfl, rfl⟩))
  all_goals rename_i hS
  all_goals have HG := Lib.hid (show Blk (w2.alloc (.cells #[.int .i64 x, .int .i64 y, .int .i64 z] 65)).drew w2.heap.size 65 #[.int .i64 x, .int .i64 y, .int .i64 z] from blk_new w2 65 _)
  all_goals have HS := Lib.hid hS
  all_goals have hne : w.heap.size < w2.heap.size := r8_lt HN1.out
  all_goals clear hS HN1 k0 k1 k2 k3 k4
  all_goals revert HS HG
  all_goals generalize (w2.alloc (.cells #[.int .i64 x, .int .i64 y, .int .i64 z] 65)).drew = W2
  all_goals generalize w2.heap.size = g at hne
  all_goals intro HG HS
  all_goals have g0 := blk_cell HG.out 0 rfl
  all_goals have g1 := blk_cell HG.out 1 rfl
  all_goals have g2 := blk_cell HG.out 2 rfl
  all_goals cases ok
  all_goals (
    go_wp2_with (first | (go_at_call 43; refine (k5 _).mono ?_; rintro e w5 ⟨rfl, b5⟩; have HG5 := Lib.hid (blk_below HG.out b5); have HS5 := Lib.hid (r8_next HS.out b5); clear g0 g1 g2 HG HS; have g0 := blk_cell HG5.out 0 rfl; have g1 := blk_cell HG5.out 1 rfl; have g2 := blk_cell HG5.out 2 rfl; have z0 := blk_cell HS5.out.res 0 rfl; have z1 := blk_cell HS5.out.res 1 rfl; have z2 := blk_cell HS5.out.res 2 rfl; have z3 := blk_frozen HS5.out.res 0; have z4 := blk_frozen HS5.out.res 1; have z5 := blk_frozen HS5.out.res 2))
    refine bodyPost_ret (results_pair rfl _ _ w.heap.size _ _ _ rfl (blk_set (blk_set (blk_set HS5.out.res 0 _) 1 _) 2 _) Try.underlying65 rfl (by kernel_rfl)) rfl ?_
    exact ⟨by rw [HR.out]; rfl, blw_set (blw_set (blw_set HS5.out.below (Nat.le_refl _) 0 _) (Nat.le_refl _) 1 _) (Nat.le_refl _) 2 _⟩)
set_option maxHeartbeats 4000000 in
set_option maxRecDepth 100000 in
theorem rread_any (s : ByteArray) (hs : s.size ≤ 9223372036854775807) (w : World) :
    Calls Try.prog 40 #[.string s] w fun e w' => e = ret8 (rdH s.data.toList) ∧ Below w.heap.size w w' := by
  obtain ⟨r, hr⟩ : ∃ r, r = rdH s.data.toList := ⟨_, rfl⟩
  rw [← hr]
  have HN := Lib.hid (r8_new 60 w)
  have hl : s.data.toList.length = s.size := by simp
  by_cases h32 : s.size < 32
  · have HR := Lib.hid (show r = (⟨0, 0, 0⟩, 1) by rw [hr, rdH, if_pos (by omega)])
    clear hr hl
    go_enter Try.func40, Try.ntmps40
    go_wp2
    refine bodyPost_ret (results_pair rfl _ _ w.heap.size _ _ _ rfl HN.out.res Try.underlying60 rfl (by kernel_rfl)) rfl ?_
    exact ⟨by rw [HR.out]; rfl, HN.out.below⟩
  rw [rdH, if_neg (by omega)] at hr
  have i1 : (8 : Int) ≤ s.size := by omega
  have i2 : (32 : Int) ≤ s.size := by omega
  have i3 : (20 : Int) ≤ s.size := by omega
  have i4 : (12 : Int) ≤ s.size := by omega
  have i5 : (16 : Int) ≤ s.size := by omega
  have i6 : decide ((s.size : Int) < 32) = false := decide_eq_false (by omega)
  by_cases p1 : s.data.toList.take 8 = j8F
  case neg =>
    have t1 : ((s.extract 0 8).toList == [97, 110, 110, 120, 106, 114, 110, 108]) = false := beq_eq_false_iff_ne.2 (by rw [ByteArray.toList_eq, ext_data]; exact p1)
    have HR := Lib.hid (show r = (⟨0, 0, 0⟩, 4) by rw [hr, if_neg (fun h => p1 h.1)])
    clear hr hl p1
    go_enter Try.func40, Try.ntmps40
    go_wp2
    refine bodyPost_ret (results_pair rfl _ _ w.heap.size _ _ _ rfl HN.out.res Try.underlying60 rfl (by kernel_rfl)) rfl ?_
    exact ⟨by rw [HR.out]; rfl, HN.out.below⟩
  have t1 : ((s.extract 0 8).toList == [97, 110, 110, 120, 106, 114, 110, 108]) = true := beq_iff_eq.2 (by rw [ByteArray.toList_eq, ext_data]; exact p1)
  by_cases p2 : (s.data.toList.drop 24).take 8 = j8L
  case neg =>
    have t2 : ((s.extract 24 32).toList == [108, 110, 114, 106, 120, 110, 110, 97]) = false := beq_eq_false_iff_ne.2 (by rw [ByteArray.toList_eq, ext_mid]; exact p2)
    have HR := Lib.hid (show r = (⟨0, 0, 0⟩, 4) by rw [hr, if_neg (fun h => p2 h.2)])
    clear hr hl p1 p2
    go_enter Try.func40, Try.ntmps40
    go_wp2
    refine bodyPost_ret (results_pair rfl _ _ w.heap.size _ _ _ rfl HN.out.res Try.underlying60 rfl (by kernel_rfl)) rfl ?_
    exact ⟨by rw [HR.out]; rfl, HN.out.below⟩
  have t2 : ((s.extract 24 32).toList == [108, 110, 114, 106, 120, 110, 110, 97]) = true := beq_iff_eq.2 (by rw [ByteArray.toList_eq, ext_mid]; exact p2)
  rw [if_pos ⟨p1, p2⟩] at hr
  clear p1 p2
  have k1 := fun w => rnumber_any (s.extract 8 12) (by have := ext_le s 8 12 (by omega); omega) w
  have k2 := fun w => rnumber_any (s.extract 12 16) (by have := ext_le s 12 16 (by omega); omega) w
  have k3 := fun w => rnumber_any (s.extract 16 20) (by have := ext_le s 16 20 (by omega); omega) w
  have k4 := fun w => rsum_any 7 (by decide) (by decide) (s.extract 0 20) (by have := ext_le s 0 20 (by omega); omega) w
  rw [ext_mid] at k1 k2 k3
  rw [ext_data] at k4
  have e1 : (numR ((s.data.toList.drop 8).take (12 - 8))).1 = nmL (s.data.toList.drop 8) := nmL_take _ (by rw [List.length_drop]; omega)
  have e2 : (numR ((s.data.toList.drop 12).take (16 - 12))).1 = nmL (s.data.toList.drop 12) := nmL_take _ (by rw [List.length_drop]; omega)
  have e3 : (numR ((s.data.toList.drop 16).take (20 - 16))).1 = nmL (s.data.toList.drop 16) := nmL_take _ (by rw [List.length_drop]; omega)
  rw [e1] at k1
  rw [e2] at k2
  rw [e3] at k3
  clear e1 e2 e3
  generalize (numR ((s.data.toList.drop 8).take (12 - 8))).2 = f1 at k1
  generalize (numR ((s.data.toList.drop 12).take (16 - 12))).2 = f2 at k2
  generalize (numR ((s.data.toList.drop 16).take (20 - 16))).2 = f3 at k3
  obtain ⟨x, hx⟩ : ∃ x, x = nmL (s.data.toList.drop 8) := ⟨_, rfl⟩
  obtain ⟨y, hy⟩ : ∃ y, y = nmL (s.data.toList.drop 12) := ⟨_, rfl⟩
  obtain ⟨z, hz⟩ : ∃ z, z = nmL (s.data.toList.drop 16) := ⟨_, rfl⟩
  have hq' := sumZ_bd 7 (s.data.toList.take 20)
  have hpq := nmL_eq (l := s.data.toList.drop 20) (by rw [List.length_drop]; omega) hq'.1 hq'.2
  obtain ⟨q, hq⟩ : ∃ q, q = sumZ 7 (s.data.toList.take 20) := ⟨_, rfl⟩
  rw [← hq] at hpq hq'
  rw [← hx, ← hy, ← hz, ← hq] at hr
  rw [← hx] at k1
  rw [← hy] at k2
  rw [← hz] at k3
  rw [← hq] at k4
  have k5 := fun w => rfour_any q (by omega) (by omega) w
  rw [show (fixR q).1 = fourL q.toNat by rw [fixR, if_pos hq']] at k5
  obtain ⟨u, hu⟩ : ∃ u : ByteArray, u = ⟨(fourL q.toNat).toArray⟩ := ⟨_, rfl⟩
  rw [← hu] at k5
  have hqq : ((s.extract 20 24).toList == u.toList) = decide (nmL (s.data.toList.drop 20) = q) := by
    rw [Bool.eq_iff_iff, beq_iff_eq, decide_eq_true_iff, hpq, ByteArray.toList_eq, ByteArray.toList_eq, ext_mid, hu]
  clear hx hy hz hq hpq hu hq'
  have i7 : (24 : Int) ≤ s.size := by omega
  by_cases p3 : nmL (s.data.toList.drop 20) = q
  case neg =>
    rw [decide_eq_false p3] at hqq
    have HR := Lib.hid (show r = (⟨0, 0, 0⟩, 5) by rw [hr, if_neg p3])
    clear hr p3
    go_enter Try.func40, Try.ntmps40
    go_upto_region 5 with (fail)
    revert HN
    generalize w.alloc (.cells #[.int .i64 0, .int .i64 0, .int .i64 0] 60) = W0
    intro HN
    go_region_held3 (fun v => R8I 60 w v)
      (first | assumption | exact HN.out | exact r8_drew HN.out | exact r8_next (by assumption) (by assumption))
      (first | (go_at_call 34; (with_reducible refine (k5 _).mono ?_); rintro e w2 ⟨rfl, hb⟩) | (go_at_call 35; (with_reducible refine (k4 _).mono ?_); rintro e w2 ⟨rfl, rfl⟩))
    all_goals rename_i hS
    all_goals have hz := hS.res
    all_goals have z0 := blk_cell hz 0 rfl
    all_goals have z1 := blk_cell hz 1 rfl
    all_goals have z2 := blk_cell hz 2 rfl
    all_goals have z3 := blk_frozen hz 0
    all_goals have z4 := blk_frozen hz 1
    all_goals have z5 := blk_frozen hz 2
    all_goals have HB := Lib.hid hS.below
    all_goals have HZ := Lib.hid hz
    all_goals clear hS hz
    all_goals go_wp2
    all_goals refine bodyPost_ret (results_pair rfl _ _ w.heap.size _ _ _ rfl (blk_set (blk_set (blk_set HZ.out 0 _) 1 _) 2 _) Try.underlying60 rfl (by kernel_rfl)) rfl ?_
    all_goals exact ⟨by rw [HR.out]; rfl, blw_set (blw_set (blw_set HB.out (Nat.le_refl _) 0 _) (Nat.le_refl _) 1 _) (Nat.le_refl _) 2 _⟩
  rw [decide_eq_true p3] at hqq
  rw [if_pos p3] at hr
  clear p3
  have k6 := fun w => right_any x y z w
  obtain ⟨ok, hok⟩ : ∃ ok, ok = okH x y z := ⟨_, rfl⟩
  rw [← hok] at hr k6
  clear hok
  have HR := Lib.hid hr
  clear hr hl
  go_enter Try.func40, Try.ntmps40
  go_upto_region 5 with (fail)
  revert HN
  generalize w.alloc (.cells #[.int .i64 0, .int .i64 0, .int .i64 0] 60) = W0
  intro HN
  go_region_held3 (fun v => R8I 60 w v)
    (first | assumption | exact HN.out | exact r8_drew HN.out | exact r8_next (by assumption) (by assumption))
    (first | (go_at_call 34; (with_reducible refine (k5 _).mono ?_); rintro e w2 ⟨rfl, hb⟩) | (go_at_call 35; (with_reducible refine (k4 _).mono ?_); rintro e w2 ⟨rfl, rfl⟩))
  rename_i hS
  have HN1 := Lib.hid hS
  clear hS HN hb
  all_goals cases ok
  all_goals (
    go_wp2_with (first | (go_at_call_of 59 (s.extract 8 12); (with_reducible refine (k1 _).mono ?_); rintro e w3 ⟨rfl, hb⟩; replace HN1 := Lib.hid (r8_next HN1.out hb); clear hb) | (go_at_call_of 59 (s.extract 12 16); (with_reducible refine (k2 _).mono ?_); rintro e w4 ⟨rfl, hb⟩; replace HN1 := Lib.hid (r8_next HN1.out hb); clear hb) | (go_at_call_of 59 (s.extract 16 20); (with_reducible refine (k3 _).mono ?_); rintro e w5 ⟨rfl, hb⟩; replace HN1 := Lib.hid (r8_next HN1.out hb); clear hb) | (go_at_call 50; (with_reducible refine (k6 _).mono ?_); rintro e w6 ⟨rfl, b6⟩; have hne : w.heap.size < w5.heap.size := r8_lt HN1.out; have HG5 := Lib.hid (blk_below (blk_new w5 60 #[.int .i64 x, .int .i64 y, .int .i64 z]) b6); have HS5 := Lib.hid (r8_next (r8_alloc HN1.out _) b6); clear b6 HN1; have g0 := blk_cell HG5.out 0 rfl; have g1 := blk_cell HG5.out 1 rfl; have g2 := blk_cell HG5.out 2 rfl; have z0 := blk_cell HS5.out.res 0 rfl; have z1 := blk_cell HS5.out.res 1 rfl; have z2 := blk_cell HS5.out.res 2 rfl; have z3 := blk_frozen HS5.out.res 0; have z4 := blk_frozen HS5.out.res 1; have z5 := blk_frozen HS5.out.res 2))
    refine bodyPost_ret (results_pair rfl _ _ w.heap.size _ _ _ rfl (blk_set (blk_set (blk_set HS5.out.res 0 _) 1 _) 2 _) Try.underlying60 rfl (by kernel_rfl)) rfl ?_
    exact ⟨by rw [HR.out]; rfl, blw_set (blw_set (blw_set HS5.out.below (Nat.le_refl _) 0 _) (Nat.le_refl _) 1 _) (Nat.le_refl _) 2 _⟩)
end Go.Proofs.Ytjmciknelkodcaa
