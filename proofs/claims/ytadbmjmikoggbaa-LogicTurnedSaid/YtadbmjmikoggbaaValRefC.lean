/-
  Layer 4, the document's Compare: it returns how two values stand in the order ('cmpV') and changes nothing that was there. Condition: the strings have at most 30000 bytes.
-/
import Derived.Test.YtadbmjmikoggbaaValComp
namespace Go.Proofs.Ytadbmjmikoggbaa
open Go.RowKit

theorem rfold_b (s : ByteArray) (w : World) (hs : s.size ≤ 30000) : Calls Try.prog 51 #[.string s] w fun e w' => e = .returned (.string (foldB s)) ∧ Below w.heap.size w w' := rfold_any s w hs
theorem two_drewN {w : World} {k1 n1 : Int} {s1 : ByteArray} {k2 n2 : Int} {s2 : ByteArray} {a : World} (h : Two w k1 n1 s1 k2 n2 s2 a) (q : Nat) : Two w k1 n1 s1 k2 n2 s2 (a.drewN q) :=
  ⟨h.a0, h.a1, h.a2, h.b0, h.b1, h.b2, h.size, ⟨h.below.os, h.below.tape, h.below.output, h.below.size, h.below.block⟩⟩
theorem two_alloc {w : World} {k1 n1 : Int} {s1 : ByteArray} {k2 n2 : Int} {s2 : ByteArray} {a : World} (h : Two w k1 n1 s1 k2 n2 s2 a) (o : Obj) : Two w k1 n1 s1 k2 n2 s2 (a.alloc o) := two_next h (below_alloc _ _)
theorem twoI_of {w : World} {k1 n1 : Int} {s1 : ByteArray} {k2 n2 : Int} {s2 : ByteArray} {a : World} (h : Two w k1 n1 s1 k2 n2 s2 a) :
    a.cell? ⟨w.heap.size, 0, none⟩ = some (.int .i64 k1) ∧ a.cell? ⟨w.heap.size, 1, none⟩ = some (.int .i64 n1) ∧ a.cell? ⟨w.heap.size + 1, 0, none⟩ = some (.int .i64 k2) ∧ a.cell? ⟨w.heap.size + 1, 1, none⟩ = some (.int .i64 n2) ∧ Two w k1 n1 s1 k2 n2 s2 a := ⟨h.a0, h.a1, h.b0, h.b1, h⟩

set_option maxRecDepth 100000 in
set_option maxHeartbeats 4000000 in
theorem qcmp_p1 (k1 n1 : Int) (s1 : ByteArray) (k2 n2 : Int) (s2 : ByteArray)  (w : World) (r c1 c2 c3 : Int) (H1 : Hid (c1 = cmpI k1 k2)) (H2 : Hid (c2 = cmpI n1 n2)) (H3 : Hid (c3 = cmpS s1 s2))
    (HR : Hid (r = if c1 ≠ 0 then c1 else if c2 ≠ 0 then c2 else c3))  :
    Calls Try.prog 43 #[.agg #[.int .i64 k1, .int .i64 n1, .string s1], .agg #[.int .i64 k2, .int .i64 n2, .string s2], .bool false] w fun e w' => e = .returned (.int .i64 r) ∧ Below w.heap.size w w' := by
  have HB := Lib.hid (two_new w k1 n1 s1 k2 n2 s2)
  go_enter Try.func43, Try.ntmps43
  go_wp2
  go_quiet (fail)
  go_wp2
  go_region_held3 (fun w' => w'.cell? ⟨w.heap.size, 0, none⟩ = some (.int .i64 k1) ∧ w'.cell? ⟨w.heap.size, 1, none⟩ = some (.int .i64 n1) ∧ w'.cell? ⟨w.heap.size + 1, 0, none⟩ = some (.int .i64 k2) ∧ w'.cell? ⟨w.heap.size + 1, 1, none⟩ = some (.int .i64 n2) ∧ Two w k1 n1 s1 k2 n2 s2 w')
    (first | assumption | exact twoI_of HB.out | exact twoI_of (two_drew HB.out) | exact twoI_of (two_drewN HB.out _) | exact twoI_of (two_drew (two_drewN HB.out _)) | exact twoI_of (two_alloc (two_drew (two_drewN HB.out _)) _) | exact twoI_of (two_alloc (two_drewN HB.out _) _) | exact twoI_of (two_alloc (two_drew HB.out) _))
    (first | (go_at_call 52; refine (qints_any _ _ _).mono ?_; (first | rw [← H1.out] | rw [← H2.out]); rintro e w' ⟨rfl, rfl⟩) | (go_at_call 53; refine (qtexts_any _ _ _).mono ?_; rw [← H3.out]; rintro e w' ⟨rfl, rfl⟩))
  rename_i hq
  have HT := Lib.hid hq.2.2.2.2; clear hq
  go_wp2
  go_loop [10] (fun i => ∃ k : Nat, k ≤ 3 ∧ i = .int .i64 k ∧ Hid ((1 ≤ k → c1 = 0) ∧ (2 ≤ k → c2 = 0) ∧ (3 ≤ k → c3 = 0))) (fun i => 3 - (intOf i).toNat)
  case atStart => exact ⟨0, by omega, rfl, Lib.hid ⟨by omega, by omega, by omega⟩⟩
  case round =>
    obtain ⟨k, hk, rfl, hz⟩ := hrel
    have hk' : k = 0 ∨ k = 1 ∨ k = 2 ∨ k = 3 := by omega
    rcases hk' with rfl | rfl | rfl | rfl
    · by_cases e : c1 = 0
      · have t1 : (c1 != 0) = false := by simpa using e
        have HE := Lib.hid e; clear e hz
        go_wp2
        go_round
        case rel => exact ⟨1, by omega, by go_num, Lib.hid ⟨fun _ => HE.out, by omega, by omega⟩⟩
        case measure => simp [intOf]
      · have t1 : (c1 != 0) = true := by simpa using e
        have HE := Lib.hid e; clear e hz
        go_wp2
        go_ret
        exact ⟨ret_int (by rw [HR.out, if_pos HE.out]), HT.out.below⟩
    · by_cases e : c2 = 0
      · have t1 : (c2 != 0) = false := by simpa using e
        have HE := Lib.hid e; clear e
        go_wp2
        go_round
        case rel => exact ⟨2, by omega, by go_num, Lib.hid ⟨fun _ => hz.out.1 (by omega), fun _ => HE.out, by omega⟩⟩
        case measure => simp [intOf]
      · have t1 : (c2 != 0) = true := by simpa using e
        have HE := Lib.hid e; clear e
        go_wp2
        go_ret
        exact ⟨ret_int (by rw [HR.out, if_neg (by rw [hz.out.1 (by omega)]; simp), if_pos HE.out]), HT.out.below⟩
    · by_cases e : c3 = 0
      · have t1 : (c3 != 0) = false := by simpa using e
        have HE := Lib.hid e; clear e
        go_wp2
        go_round
        case rel => exact ⟨3, by omega, by go_num, Lib.hid ⟨fun _ => hz.out.1 (by omega), fun _ => hz.out.2.1 (by omega), fun _ => HE.out⟩⟩
        case measure => simp [intOf]
      · have t1 : (c3 != 0) = true := by simpa using e
        have HE := Lib.hid e; clear e
        go_wp2
        go_ret
        exact ⟨ret_int (by rw [HR.out, if_neg (by rw [hz.out.1 (by omega)]; simp), if_neg (by rw [hz.out.2.1 (by omega)]; simp)]), HT.out.below⟩
    · go_wp2
      go_ret
      exact ⟨ret_int (by rw [HR.out, if_neg (by rw [hz.out.1 (by omega)]; simp), if_neg (by rw [hz.out.2.1 (by omega)]; simp), hz.out.2.2 (by omega)]), HT.out.below⟩

set_option maxRecDepth 100000 in
set_option maxHeartbeats 4000000 in
theorem qcmp_p2 (k1 n1 : Int) (s1 : ByteArray) (k2 n2 : Int) (s2 : ByteArray)  (w : World) (r c1 c2 c3 : Int) (H1 : Hid (c1 = cmpI k1 k2)) (H2 : Hid (c2 = cmpI n1 n2)) (H3 : Hid (c3 = cmpS s1 s2))
    (HR : Hid (r = if c1 ≠ 0 then c1 else if c2 ≠ 0 then c2 else c3)) (t3 : (k1 == 2) = false) :
    Calls Try.prog 43 #[.agg #[.int .i64 k1, .int .i64 n1, .string s1], .agg #[.int .i64 k2, .int .i64 n2, .string s2], .bool true] w fun e w' => e = .returned (.int .i64 r) ∧ Below w.heap.size w w' := by
  have HB := Lib.hid (two_new w k1 n1 s1 k2 n2 s2)
  go_enter Try.func43, Try.ntmps43
  go_wp2
  go_quiet (fail)
  go_wp2
  go_region_held3 (fun w' => w'.cell? ⟨w.heap.size, 0, none⟩ = some (.int .i64 k1) ∧ w'.cell? ⟨w.heap.size, 1, none⟩ = some (.int .i64 n1) ∧ w'.cell? ⟨w.heap.size + 1, 0, none⟩ = some (.int .i64 k2) ∧ w'.cell? ⟨w.heap.size + 1, 1, none⟩ = some (.int .i64 n2) ∧ Two w k1 n1 s1 k2 n2 s2 w')
    (first | assumption | exact twoI_of HB.out | exact twoI_of (two_drew HB.out) | exact twoI_of (two_drewN HB.out _) | exact twoI_of (two_drew (two_drewN HB.out _)) | exact twoI_of (two_alloc (two_drew (two_drewN HB.out _)) _) | exact twoI_of (two_alloc (two_drewN HB.out _) _) | exact twoI_of (two_alloc (two_drew HB.out) _))
    (first | (go_at_call 52; refine (qints_any _ _ _).mono ?_; (first | rw [← H1.out] | rw [← H2.out]); rintro e w' ⟨rfl, rfl⟩) | (go_at_call 53; refine (qtexts_any _ _ _).mono ?_; rw [← H3.out]; rintro e w' ⟨rfl, rfl⟩))
  rename_i hq
  have HT := Lib.hid hq.2.2.2.2; clear hq
  go_wp2
  go_loop [10] (fun i => ∃ k : Nat, k ≤ 3 ∧ i = .int .i64 k ∧ Hid ((1 ≤ k → c1 = 0) ∧ (2 ≤ k → c2 = 0) ∧ (3 ≤ k → c3 = 0))) (fun i => 3 - (intOf i).toNat)
  case atStart => exact ⟨0, by omega, rfl, Lib.hid ⟨by omega, by omega, by omega⟩⟩
  case round =>
    obtain ⟨k, hk, rfl, hz⟩ := hrel
    have hk' : k = 0 ∨ k = 1 ∨ k = 2 ∨ k = 3 := by omega
    rcases hk' with rfl | rfl | rfl | rfl
    · by_cases e : c1 = 0
      · have t1 : (c1 != 0) = false := by simpa using e
        have HE := Lib.hid e; clear e hz
        go_wp2
        go_round
        case rel => exact ⟨1, by omega, by go_num, Lib.hid ⟨fun _ => HE.out, by omega, by omega⟩⟩
        case measure => simp [intOf]
      · have t1 : (c1 != 0) = true := by simpa using e
        have HE := Lib.hid e; clear e hz
        go_wp2
        go_ret
        exact ⟨ret_int (by rw [HR.out, if_pos HE.out]), HT.out.below⟩
    · by_cases e : c2 = 0
      · have t1 : (c2 != 0) = false := by simpa using e
        have HE := Lib.hid e; clear e
        go_wp2
        go_round
        case rel => exact ⟨2, by omega, by go_num, Lib.hid ⟨fun _ => hz.out.1 (by omega), fun _ => HE.out, by omega⟩⟩
        case measure => simp [intOf]
      · have t1 : (c2 != 0) = true := by simpa using e
        have HE := Lib.hid e; clear e
        go_wp2
        go_ret
        exact ⟨ret_int (by rw [HR.out, if_neg (by rw [hz.out.1 (by omega)]; simp), if_pos HE.out]), HT.out.below⟩
    · by_cases e : c3 = 0
      · have t1 : (c3 != 0) = false := by simpa using e
        have HE := Lib.hid e; clear e
        go_wp2
        go_round
        case rel => exact ⟨3, by omega, by go_num, Lib.hid ⟨fun _ => hz.out.1 (by omega), fun _ => hz.out.2.1 (by omega), fun _ => HE.out⟩⟩
        case measure => simp [intOf]
      · have t1 : (c3 != 0) = true := by simpa using e
        have HE := Lib.hid e; clear e
        go_wp2
        go_ret
        exact ⟨ret_int (by rw [HR.out, if_neg (by rw [hz.out.1 (by omega)]; simp), if_neg (by rw [hz.out.2.1 (by omega)]; simp)]), HT.out.below⟩
    · go_wp2
      go_ret
      exact ⟨ret_int (by rw [HR.out, if_neg (by rw [hz.out.1 (by omega)]; simp), if_neg (by rw [hz.out.2.1 (by omega)]; simp), hz.out.2.2 (by omega)]), HT.out.below⟩

set_option maxRecDepth 100000 in
set_option maxHeartbeats 4000000 in
theorem qcmp_p3 (k1 n1 : Int) (s1 : ByteArray) (k2 n2 : Int) (s2 : ByteArray)  (w : World) (r c1 c2 c3 : Int) (H1 : Hid (c1 = cmpI k1 k2)) (H2 : Hid (c2 = cmpI n1 n2)) (H3 : Hid (c3 = cmpS s1 s2))
    (HR : Hid (r = if c1 ≠ 0 then c1 else if c2 ≠ 0 then c2 else c3)) (t3 : (k1 == 2) = true) (t4 : (k2 == 2) = false) :
    Calls Try.prog 43 #[.agg #[.int .i64 k1, .int .i64 n1, .string s1], .agg #[.int .i64 k2, .int .i64 n2, .string s2], .bool true] w fun e w' => e = .returned (.int .i64 r) ∧ Below w.heap.size w w' := by
  have HB := Lib.hid (two_new w k1 n1 s1 k2 n2 s2)
  go_enter Try.func43, Try.ntmps43
  go_wp2
  go_quiet (fail)
  go_wp2
  go_region_held3 (fun w' => w'.cell? ⟨w.heap.size, 0, none⟩ = some (.int .i64 k1) ∧ w'.cell? ⟨w.heap.size, 1, none⟩ = some (.int .i64 n1) ∧ w'.cell? ⟨w.heap.size + 1, 0, none⟩ = some (.int .i64 k2) ∧ w'.cell? ⟨w.heap.size + 1, 1, none⟩ = some (.int .i64 n2) ∧ Two w k1 n1 s1 k2 n2 s2 w')
    (first | assumption | exact twoI_of HB.out | exact twoI_of (two_drew HB.out) | exact twoI_of (two_drewN HB.out _) | exact twoI_of (two_drew (two_drewN HB.out _)) | exact twoI_of (two_alloc (two_drew (two_drewN HB.out _)) _) | exact twoI_of (two_alloc (two_drewN HB.out _) _) | exact twoI_of (two_alloc (two_drew HB.out) _))
    (first | (go_at_call 52; refine (qints_any _ _ _).mono ?_; (first | rw [← H1.out] | rw [← H2.out]); rintro e w' ⟨rfl, rfl⟩) | (go_at_call 53; refine (qtexts_any _ _ _).mono ?_; rw [← H3.out]; rintro e w' ⟨rfl, rfl⟩))
  rename_i hq
  have HT := Lib.hid hq.2.2.2.2; clear hq
  go_wp2
  go_loop [10] (fun i => ∃ k : Nat, k ≤ 3 ∧ i = .int .i64 k ∧ Hid ((1 ≤ k → c1 = 0) ∧ (2 ≤ k → c2 = 0) ∧ (3 ≤ k → c3 = 0))) (fun i => 3 - (intOf i).toNat)
  case atStart => exact ⟨0, by omega, rfl, Lib.hid ⟨by omega, by omega, by omega⟩⟩
  case round =>
    obtain ⟨k, hk, rfl, hz⟩ := hrel
    have hk' : k = 0 ∨ k = 1 ∨ k = 2 ∨ k = 3 := by omega
    rcases hk' with rfl | rfl | rfl | rfl
    · by_cases e : c1 = 0
      · have t1 : (c1 != 0) = false := by simpa using e
        have HE := Lib.hid e; clear e hz
        go_wp2
        go_round
        case rel => exact ⟨1, by omega, by go_num, Lib.hid ⟨fun _ => HE.out, by omega, by omega⟩⟩
        case measure => simp [intOf]
      · have t1 : (c1 != 0) = true := by simpa using e
        have HE := Lib.hid e; clear e hz
        go_wp2
        go_ret
        exact ⟨ret_int (by rw [HR.out, if_pos HE.out]), HT.out.below⟩
    · by_cases e : c2 = 0
      · have t1 : (c2 != 0) = false := by simpa using e
        have HE := Lib.hid e; clear e
        go_wp2
        go_round
        case rel => exact ⟨2, by omega, by go_num, Lib.hid ⟨fun _ => hz.out.1 (by omega), fun _ => HE.out, by omega⟩⟩
        case measure => simp [intOf]
      · have t1 : (c2 != 0) = true := by simpa using e
        have HE := Lib.hid e; clear e
        go_wp2
        go_ret
        exact ⟨ret_int (by rw [HR.out, if_neg (by rw [hz.out.1 (by omega)]; simp), if_pos HE.out]), HT.out.below⟩
    · by_cases e : c3 = 0
      · have t1 : (c3 != 0) = false := by simpa using e
        have HE := Lib.hid e; clear e
        go_wp2
        go_round
        case rel => exact ⟨3, by omega, by go_num, Lib.hid ⟨fun _ => hz.out.1 (by omega), fun _ => hz.out.2.1 (by omega), fun _ => HE.out⟩⟩
        case measure => simp [intOf]
      · have t1 : (c3 != 0) = true := by simpa using e
        have HE := Lib.hid e; clear e
        go_wp2
        go_ret
        exact ⟨ret_int (by rw [HR.out, if_neg (by rw [hz.out.1 (by omega)]; simp), if_neg (by rw [hz.out.2.1 (by omega)]; simp)]), HT.out.below⟩
    · go_wp2
      go_ret
      exact ⟨ret_int (by rw [HR.out, if_neg (by rw [hz.out.1 (by omega)]; simp), if_neg (by rw [hz.out.2.1 (by omega)]; simp), hz.out.2.2 (by omega)]), HT.out.below⟩

end Go.Proofs.Ytadbmjmikoggbaa
