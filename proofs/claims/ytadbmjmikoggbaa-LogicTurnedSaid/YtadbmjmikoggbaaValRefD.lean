/-
  Layer 4, the document's Compare where texts are folded, and in all cases: it returns how two values stand in the order ('cmpV') and changes nothing that was there. Condition: the strings have at most 30000 bytes.
-/
import Derived.Test.YtadbmjmikoggbaaValRefC
namespace Go.Proofs.Ytadbmjmikoggbaa
open Go.RowKit

set_option maxRecDepth 100000 in
set_option maxHeartbeats 4000000 in
theorem qcmp_fold (n1 : Int) (s1 : ByteArray) (n2 : Int) (s2 : ByteArray) (hs1 : s1.size ≤ 30000) (hs2 : s2.size ≤ 30000) (w : World) (r c1 c2 c3 : Int) (x y : ByteArray) (H1 : Hid (c1 = cmpI 2 2)) (H2 : Hid (c2 = cmpI n1 n2)) (HX : Hid (x = foldB s1)) (HY : Hid (y = foldB s2)) (H3 : Hid (c3 = cmpS x y))
    (HR : Hid (r = if c1 ≠ 0 then c1 else if c2 ≠ 0 then c2 else c3)) :
    Calls Try.prog 43 #[.agg #[.int .i64 2, .int .i64 n1, .string s1], .agg #[.int .i64 2, .int .i64 n2, .string s2], .bool true] w fun e w' => e = .returned (.int .i64 r) ∧ Below w.heap.size w w' := by
  have HB := Lib.hid (two_new w 2 n1 s1 2 n2 s2)
  go_enter Try.func43, Try.ntmps43
  go_wp2
  go_quiet (fail)
  go_wp2_with fail
  refine (rfold_b s1 _ hs1).mono ?_
  rw [← HX.out]
  rintro e w2 ⟨rfl, b2⟩
  have HB1 := Lib.hid (two_next (by first | exact HB.out | exact two_drew HB.out | exact two_drewN HB.out _) b2)
  clear b2
  go_wp2_with fail
  refine (rfold_b s2 _ hs2).mono ?_
  rw [← HY.out]
  rintro e w3 ⟨rfl, b3⟩
  have HB2 := Lib.hid (two_next HB1.out b3)
  clear b3
  go_wp2_with fail
  go_region_held3 (fun w' => w'.cell? ⟨w.heap.size, 0, none⟩ = some (.int .i64 2) ∧ w'.cell? ⟨w.heap.size, 1, none⟩ = some (.int .i64 n1) ∧ w'.cell? ⟨w.heap.size + 1, 0, none⟩ = some (.int .i64 2) ∧ w'.cell? ⟨w.heap.size + 1, 1, none⟩ = some (.int .i64 n2) ∧ Two w 2 n1 s1 2 n2 s2 w')
    (first | assumption | exact twoI_of HB2.out | exact twoI_of (two_drew HB2.out) | exact twoI_of (two_drewN HB2.out _) | exact twoI_of (two_drew (two_drewN HB2.out _)) | exact twoI_of (two_alloc (two_drew (two_drewN HB2.out _)) _) | exact twoI_of (two_alloc (two_drewN HB2.out _) _) | exact twoI_of (two_alloc (two_drew HB2.out) _))
    (first | (go_at_call 52; refine (qints_any _ _ _).mono ?_; (first | rw [← H1.out] | rw [← H2.out]); rintro e w' ⟨rfl, rfl⟩) | (go_at_call 53; refine (qtexts_any _ _ _).mono ?_; rw [← H3.out]; rintro e w' ⟨rfl, rfl⟩))
  rename_i hq
  have HT := Lib.hid hq.2.2.2.2; clear hq
  go_wp2
  go_loop [10] (fun i => ∃ k : Nat, k ≤ 3 ∧ i = .int .i64 k ∧ Hid ((1 ≤ k → c1 = 0) ∧ (2 ≤ k → c2 = 0) ∧ (3 ≤ k → c3 = 0))) (fun i => 3 - (intOf i).toNat)
  case atStart => exact ⟨0, by omega, rfl, Lib.hid ⟨by omega, by omega, by omega⟩⟩
  case round =>
    obtain ⟨k, hk, rfl, hz⟩ := hrel
    have hk' : k = 0 ∨ k = 1 ∨ k = 2 ∨ k = 3 := by omega
    rcases hk' with rfl | rfl | rfl | rfl
    · by_cases e : c1 = 0
      · have t1 : (c1 != 0) = false := by simpa using e
        have HE := Lib.hid e; clear e hz
        go_wp2
        go_round
        case rel => exact ⟨1, by omega, by go_num, Lib.hid ⟨fun _ => HE.out, by omega, by omega⟩⟩
        case measure => simp [intOf]
      · have t1 : (c1 != 0) = true := by simpa using e
        have HE := Lib.hid e; clear e hz
        go_wp2
        go_ret
        exact ⟨ret_int (by rw [HR.out, if_pos HE.out]), HT.out.below⟩
    · by_cases e : c2 = 0
      · have t1 : (c2 != 0) = false := by simpa using e
        have HE := Lib.hid e; clear e
        go_wp2
        go_round
        case rel => exact ⟨2, by omega, by go_num, Lib.hid ⟨fun _ => hz.out.1 (by omega), fun _ => HE.out, by omega⟩⟩
        case measure => simp [intOf]
      · have t1 : (c2 != 0) = true := by simpa using e
        have HE := Lib.hid e; clear e
        go_wp2
        go_ret
        exact ⟨ret_int (by rw [HR.out, if_neg (by rw [hz.out.1 (by omega)]; simp), if_pos HE.out]), HT.out.below⟩
    · by_cases e : c3 = 0
      · have t1 : (c3 != 0) = false := by simpa using e
        have HE := Lib.hid e; clear e
        go_wp2
        go_round
        case rel => exact ⟨3, by omega, by go_num, Lib.hid ⟨fun _ => hz.out.1 (by omega), fun _ => hz.out.2.1 (by omega), fun _ => HE.out⟩⟩
        case measure => simp [intOf]
      · have t1 : (c3 != 0) = true := by simpa using e
        have HE := Lib.hid e; clear e
        go_wp2
        go_ret
        exact ⟨ret_int (by rw [HR.out, if_neg (by rw [hz.out.1 (by omega)]; simp), if_neg (by rw [hz.out.2.1 (by omega)]; simp)]), HT.out.below⟩
    · go_wp2
      go_ret
      exact ⟨ret_int (by rw [HR.out, if_neg (by rw [hz.out.1 (by omega)]; simp), if_neg (by rw [hz.out.2.1 (by omega)]; simp), hz.out.2.2 (by omega)]), HT.out.below⟩

theorem qcompare_any (k1 n1 : Int) (s1 : ByteArray) (k2 n2 : Int) (s2 : ByteArray) (nc : Bool) (w : World) (hs1 : s1.size ≤ 30000) (hs2 : s2.size ≤ 30000) :
    Calls Try.prog 43 #[.agg #[.int .i64 k1, .int .i64 n1, .string s1], .agg #[.int .i64 k2, .int .i64 n2, .string s2], .bool nc] w fun e w' => e = .returned (.int .i64 (cmpV k1 n1 s1 k2 n2 s2 nc)) ∧ Below w.heap.size w w' := by
  cases nc with
  | false => exact qcmp_p1 k1 n1 s1 k2 n2 s2 w _ _ _ _ (Lib.hid rfl) (Lib.hid rfl) (Lib.hid rfl) (Lib.hid (by simp [cmpV]))
  | true =>
    by_cases e1 : k1 = 2
    · by_cases e2 : k2 = 2
      · subst e1; subst e2
        exact qcmp_fold n1 s1 n2 s2 hs1 hs2 w _ _ _ _ _ _ (Lib.hid rfl) (Lib.hid rfl) (Lib.hid rfl) (Lib.hid rfl) (Lib.hid rfl) (Lib.hid (by simp [cmpV]))
      · refine qcmp_p3 k1 n1 s1 k2 n2 s2 w _ _ _ _ (Lib.hid rfl) (Lib.hid rfl) (Lib.hid rfl) (Lib.hid ?_) (by simpa using e1) (by simpa using e2)
        have : cmpI k1 k2 ≠ 0 := by unfold cmpI; split <;> (try split) <;> omega
        rw [if_pos this, cmpV, if_pos this]
    · refine qcmp_p2 k1 n1 s1 k2 n2 s2 w _ _ _ _ (Lib.hid rfl) (Lib.hid rfl) (Lib.hid rfl) (Lib.hid ?_) (by simpa using e1)
      rw [cmpV, if_neg (c := (true = true ∧ k1 = 2)) (by simpa using e1)]
end Go.Proofs.Ytadbmjmikoggbaa
