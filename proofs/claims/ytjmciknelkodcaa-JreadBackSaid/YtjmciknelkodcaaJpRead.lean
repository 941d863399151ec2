/-
  Layer 9: Read and the document's Read: each returns its plain function of the bytes and changes nothing that was there. Condition: the string has at most 2^63 - 1 bytes, the nonce is an int.
-/
import Derived.Test.YtjmciknelkodcaaJpClone
import Derived.Test.YtjmciknelkodcaaJhRead
import Derived.OwnWalk
namespace Go.Proofs.Ytjmciknelkodcaa
open Go.RowKit

def ret9 (r : P9) : Ending := .returned (.tuple #[.int .i64 r.n, .string ⟨r.d.toArray⟩, .int .i64 r.e])
theorem ret9_of {n : Int} {A : ByteArray} {l : List UInt8} (h : A.data.toList = l) : Ending.returned (.tuple #[.int .i64 n, .string A, .int .i64 0]) = ret9 ⟨n, l, 0⟩ := by subst h; rfl

set_option maxHeartbeats 4000000 in
set_option maxRecDepth 100000 in
theorem pread_any (s : ByteArray) (hs : s.size ≤ 9223372036854775807) (k : Int) (h3 : -9223372036854775808 ≤ k) (h4 : k ≤ 9223372036854775807) (w : World) :
    Calls Try.prog 53 #[.string s, .int .i64 k] w fun e w' => e = ret9 (rdP s.data.toList k) ∧ Below w.heap.size w w' := by
  obtain ⟨r, hr⟩ : ∃ r, r = rdP s.data.toList k := ⟨_, rfl⟩
  rw [← hr]
  have hl : s.data.toList.length = s.size := by simp
  by_cases h32 : s.size < 520
  · have HR := Lib.hid (show r = ⟨0, [], 1⟩ by rw [hr, rdP, if_pos (by omega)])
    have i6 : decide ((s.size : Int) < 520) = true := decide_eq_true (by omega)
    clear hr hl
    go_enter Try.func53, Try.ntmps53
    go_wp2
    go_ret3
    exact ⟨by rw [HR.out]; rfl, Below.refl _ _⟩
  rw [rdP, if_neg (by omega)] at hr
  have i1 : (516 : Int) ≤ s.size := by omega
  have i2 : (4 : Int) ≤ s.size := by omega
  have i6 : decide ((s.size : Int) < 520) = false := decide_eq_false (by omega)
  have k0 := fun w => pnumber_any (s.extract 516 s.size) (by have := ext_le s 516 s.size (Nat.le_refl _); omega) w
  have k1 := fun w => pnumber_any s hs w
  have k4 := fun w => ssum_any k h3 h4 (s.extract 0 516) (by have := ext_le s 0 516 (by omega); omega) w
  have k5 := fun w => pclone_any (s.extract 4 516) w (by simp only [ByteArray.size_extract]; omega)
  rw [ext_drop] at k0
  rw [ext_data] at k4
  have HD := Lib.hid (show (s.extract 4 516).data.toList = (s.data.toList.drop 4).take 512 from ext_mid s 4 516)
  obtain ⟨x, hx⟩ : ∃ x, x = nmL s.data.toList := ⟨_, rfl⟩
  obtain ⟨p, hp⟩ : ∃ p, p = nmL (s.data.toList.drop 516) := ⟨_, rfl⟩
  obtain ⟨q, hq⟩ : ∃ q, q = sumZ k (s.data.toList.take 516) := ⟨_, rfl⟩
  rw [← hx, ← hp, ← hq] at hr
  rw [← hp] at k0
  rw [← hx] at k1
  rw [← hq] at k4
  clear hx hp hq
  by_cases p3 : p = q
  case neg =>
    have t3 : (p == q) = false := beq_eq_false_iff_ne.2 p3
    have HR := Lib.hid (show r = ⟨0, [], 5⟩ by rw [hr, if_neg p3])
    clear hr p3 hl HD k1 k5
    go_enter Try.func53, Try.ntmps53
    go_upto_region 3 with (fail)
    have HB := Lib.hid (Below.refl w.heap.size w)
    go_region_held3 (fun v => Below w.heap.size w v)
      (first | assumption | exact HB.out | exact HB.out.drew | exact Below.trans (by assumption) (Below.mono (by assumption) (Below.size (by assumption))))
      (first | (go_at_call 69; (with_reducible refine (k0 _).mono ?_); rintro e w2 ⟨rfl, rfl⟩) | (go_at_call 45; (with_reducible refine (k4 _).mono ?_); rintro e w2 ⟨rfl, hb⟩))
    all_goals rename_i hS
    all_goals go_wp2
    all_goals go_ret3
    all_goals exact ⟨by rw [HR.out]; rfl, hS⟩
  subst p3
  rw [if_pos rfl] at hr
  have k6 := fun w => pvalid_any x w
  obtain ⟨ok, hok⟩ : ∃ ok, ok = okP x := ⟨_, rfl⟩
  rw [← hok] at hr k6
  clear hok hl
  have HR := Lib.hid hr
  clear hr
  go_enter Try.func53, Try.ntmps53
  go_upto_region 3 with (fail)
  have HB := Lib.hid (Below.refl w.heap.size w)
  go_region_held3 (fun v => Below w.heap.size w v)
    (first | assumption | exact HB.out | exact HB.out.drew | exact Below.trans (by assumption) (Below.mono (by assumption) (Below.size (by assumption))))
    (first | (go_at_call 69; (with_reducible refine (k0 _).mono ?_); rintro e w2 ⟨rfl, rfl⟩) | (go_at_call 45; (with_reducible refine (k4 _).mono ?_); rintro e w2 ⟨rfl, hb⟩))
  all_goals rename_i hS
  all_goals have HS := Lib.hid hS
  all_goals clear hS
  all_goals cases ok
  all_goals go_wp2_with (first | (go_at_call 69; (with_reducible refine (k1 _).mono ?_); rintro e w3 ⟨rfl, rfl⟩) | (go_at_call 48; (with_reducible refine (k6 _).mono ?_); rintro e w4 ⟨rfl, rfl⟩) | (go_at_call 70; (with_reducible refine (k5 _).mono ?_); rintro e w5 ⟨rfl, b5⟩; replace HS := Lib.hid (HS.out.trans (b5.mono HS.out.size)); clear b5))
  all_goals go_ret3
  all_goals first
    | exact ⟨by rw [HR.out]; rfl, HS.out⟩
    | exact ⟨by (first | rw [HR.out, if_pos rfl] | rw [HR.out, if_pos trivial]); exact ret9_of HD.out, HS.out⟩

set_option maxHeartbeats 4000000 in
set_option maxRecDepth 100000 in
theorem qread_any (s : ByteArray) (hs : s.size ≤ 9223372036854775807) (k : Int) (h3 : -9223372036854775808 ≤ k) (h4 : k ≤ 9223372036854775807) (w : World) :
    Calls Try.prog 41 #[.string s, .int .i64 k] w fun e w' => e = ret9 (rdP s.data.toList k) ∧ Below w.heap.size w w' := by
  obtain ⟨r, hr⟩ : ∃ r, r = rdP s.data.toList k := ⟨_, rfl⟩
  rw [← hr]
  have hl : s.data.toList.length = s.size := by simp
  by_cases h32 : s.size < 520
  · have HR := Lib.hid (show r = ⟨0, [], 1⟩ by rw [hr, rdP, if_pos (by omega)])
    have i6 : decide ((s.size : Int) < 520) = true := decide_eq_true (by omega)
    clear hr hl
    go_enter Try.func41, Try.ntmps41
    go_wp2
    go_ret3
    exact ⟨by rw [HR.out]; rfl, Below.refl _ _⟩
  rw [rdP, if_neg (by omega)] at hr
  have i1 : (516 : Int) ≤ s.size := by omega
  have i2 : (4 : Int) ≤ s.size := by omega
  have i3 : (520 : Int) ≤ s.size := by omega
  have i6 : decide ((s.size : Int) < 520) = false := decide_eq_false (by omega)
  have k1 := fun w => rnumber_any s hs w
  have k4 := fun w => rsum_any k h3 h4 (s.extract 0 516) (by have := ext_le s 0 516 (by omega); omega) w
  rw [ext_data] at k4
  change ∀ w, Calls _ _ _ w fun e w' => e = .returned (.tuple #[.int .i64 (nmL s.data.toList), _]) ∧ _ at k1
  generalize (numR s.data.toList).2 = f1 at k1
  have HD := Lib.hid (show (s.extract 4 516).data.toList = (s.data.toList.drop 4).take 512 from ext_mid s 4 516)
  have hq' := sumZ_bd k (s.data.toList.take 516)
  have hpq := nmL_eq (l := s.data.toList.drop 516) (by rw [List.length_drop]; omega) hq'.1 hq'.2
  obtain ⟨x, hx⟩ : ∃ x, x = nmL s.data.toList := ⟨_, rfl⟩
  obtain ⟨q, hq⟩ : ∃ q, q = sumZ k (s.data.toList.take 516) := ⟨_, rfl⟩
  rw [← hq] at hpq hq'
  rw [← hx, ← hq] at hr
  rw [← hx] at k1
  rw [← hq] at k4
  have k5 := fun w => rfour_any q (by omega) (by omega) w
  rw [show (fixR q).1 = fourL q.toNat by rw [fixR, if_pos hq']] at k5
  obtain ⟨u, hu⟩ : ∃ u : ByteArray, u = ⟨(fourL q.toNat).toArray⟩ := ⟨_, rfl⟩
  rw [← hu] at k5
  have hqq : ((s.extract 516 520).toList == u.toList) = decide (nmL (s.data.toList.drop 516) = q) := by
    rw [Bool.eq_iff_iff, beq_iff_eq, decide_eq_true_iff, hpq, ByteArray.toList_eq, ByteArray.toList_eq, ext_mid, hu]
  clear hx hq hpq hu hq'
  by_cases p3 : nmL (s.data.toList.drop 516) = q
  case neg =>
    rw [decide_eq_false p3] at hqq
    have HR := Lib.hid (show r = ⟨0, [], 5⟩ by rw [hr, if_neg p3])
    clear hr p3 hl HD k1
    go_enter Try.func41, Try.ntmps41
    go_upto_region 3 with (fail)
    have HB := Lib.hid (Below.refl w.heap.size w)
    go_region_held3 (fun v => Below w.heap.size w v)
      (first | assumption | exact HB.out | exact HB.out.drew | exact Below.trans (by assumption) (Below.mono (by assumption) (Below.size (by assumption))))
      (first | (go_at_call 34; (with_reducible refine (k5 _).mono ?_); rintro e w2 ⟨rfl, hb⟩) | (go_at_call 35; (with_reducible refine (k4 _).mono ?_); rintro e w2 ⟨rfl, rfl⟩))
    all_goals rename_i hS
    all_goals go_wp2
    all_goals go_ret3
    all_goals exact ⟨by rw [HR.out]; rfl, hS⟩
  rw [decide_eq_true p3] at hqq
  rw [if_pos p3] at hr
  clear p3 hl
  have HR := Lib.hid hr
  clear hr
  go_enter Try.func41, Try.ntmps41
  go_upto_region 3 with (fail)
  have HB := Lib.hid (Below.refl w.heap.size w)
  go_region_held3 (fun v => Below w.heap.size w v)
    (first | assumption | exact HB.out | exact HB.out.drew | exact Below.trans (by assumption) (Below.mono (by assumption) (Below.size (by assumption))))
    (first | (go_at_call 34; (with_reducible refine (k5 _).mono ?_); rintro e w2 ⟨rfl, hb⟩) | (go_at_call 35; (with_reducible refine (k4 _).mono ?_); rintro e w2 ⟨rfl, rfl⟩))
  all_goals rename_i hS
  all_goals have HS := Lib.hid hS
  all_goals clear hS
  all_goals clear hb
  all_goals by_cases g1 : x < 1
  · have t1 : decide (x < 1) = true := decide_eq_true g1
    have t2 : okP x = false := by unfold okP; exact decide_eq_false (by omega)
    rw [t2] at HR
    go_wp2_with (first | (go_at_call 59; (with_reducible refine (k1 _).mono ?_); rintro e w3 ⟨rfl, hb⟩; replace HS := Lib.hid (HS.out.trans (hb.mono HS.out.size)); clear hb))
    go_ret3
    exact ⟨by rw [HR.out]; rfl, HS.out⟩
  have t1 : decide (x < 1) = false := decide_eq_false g1
  by_cases g2 : 2000 < x
  · have t3 : decide (2000 < x) = true := decide_eq_true g2
    have t2 : okP x = false := by unfold okP; exact decide_eq_false (by omega)
    rw [t2] at HR
    go_wp2_with (first | (go_at_call 59; (with_reducible refine (k1 _).mono ?_); rintro e w3 ⟨rfl, hb⟩; replace HS := Lib.hid (HS.out.trans (hb.mono HS.out.size)); clear hb))
    go_ret3
    exact ⟨by rw [HR.out]; rfl, HS.out⟩
  have t3 : decide (2000 < x) = false := decide_eq_false g2
  have t2 : okP x = true := by unfold okP; exact decide_eq_true (by omega)
  rw [t2] at HR
  go_upto_region 8 with (first | (go_at_call 59; (with_reducible refine (k1 _).mono ?_); rintro e w3 ⟨rfl, hb⟩; replace HS := Lib.hid (HS.out.trans (hb.mono HS.out.size)); clear hb))
  go_quiet (fail)
  all_goals go_wp2
  all_goals go_ret3
  all_goals exact ⟨by (first | rw [HR.out, if_pos rfl] | rw [HR.out, if_pos trivial]); exact ret9_of HD.out, HS.out.trans ⟨rfl, rfl, rfl, Nat.le_refl _, fun _ _ => rfl⟩⟩
end Go.Proofs.Ytjmciknelkodcaa
