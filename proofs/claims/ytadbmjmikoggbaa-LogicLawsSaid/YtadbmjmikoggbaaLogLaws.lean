/-
  The statement LogicLaws as a walk: it returns true for every input and changes nothing that was there. Condition: none.
-/
import Derived.Test.YtadbmjmikoggbaaLogEq
namespace Go.Proofs.Ytadbmjmikoggbaa
open Go.RowKit

theorem three (t : Int) : t = 0 ∨ t = 1 ∨ (t ≠ 0 ∧ t ≠ 1) := by omega
/-- Two numbers are the same truth. -/
def SameT (x y : Int) : Prop := ofK x = ofK y ∧ ofN x = ofN y
theorem same_and3 (a b c : Int) : SameT (andT a (andT b c)) (andT (andT a b) c) := by
  rcases three a with rfl | rfl | ⟨a0, a1⟩ <;> rcases three b with rfl | rfl | ⟨b0, b1⟩ <;> rcases three c with rfl | rfl | ⟨c0, c1⟩ <;> simp_all [SameT, andT]
theorem same_or3 (a b c : Int) : SameT (orT a (orT b c)) (orT (orT a b) c) := by
  rcases three a with rfl | rfl | ⟨a0, a1⟩ <;> rcases three b with rfl | rfl | ⟨b0, b1⟩ <;> rcases three c with rfl | rfl | ⟨c0, c1⟩ <;> simp_all [SameT, orT, andT, notT]
theorem same_dist (a b c : Int) : SameT (andT a (orT b c)) (orT (andT a b) (andT a c)) := by
  rcases three a with rfl | rfl | ⟨a0, a1⟩ <;> rcases three b with rfl | rfl | ⟨b0, b1⟩ <;> rcases three c with rfl | rfl | ⟨c0, c1⟩ <;> simp_all [SameT, orT, andT, notT]
theorem same_aa (a : Int) : SameT (andT a a) a := by
  rcases three a with rfl | rfl | ⟨a0, a1⟩ <;> simp_all [SameT, andT, ofK, ofN]
theorem same_oo (a : Int) : SameT (orT a a) a := by
  rcases three a with rfl | rfl | ⟨a0, a1⟩ <;> simp_all [SameT, andT, notT, orT, ofK, ofN]
theorem same_ao (a b : Int) : SameT (andT a (orT a b)) a := by
  rcases three a with rfl | rfl | ⟨a0, a1⟩ <;> rcases three b with rfl | rfl | ⟨b0, b1⟩ <;> simp_all [SameT, andT, notT, orT, ofK, ofN]
theorem same_oa (a b : Int) : SameT (orT a (andT a b)) a := by
  rcases three a with rfl | rfl | ⟨a0, a1⟩ <;> rcases three b with rfl | rfl | ⟨b0, b1⟩ <;> simp_all [SameT, andT, notT, orT, ofK, ofN]
theorem same_nn (a : Int) : SameT (notT (notT a)) a := by
  rcases three a with rfl | rfl | ⟨a0, a1⟩ <;> simp_all [SameT, notT, ofK, ofN]

set_option maxHeartbeats 1000000 in
theorem same1_any (x y : Int) (w : World) (h : SameT x y) :
    Calls Try.prog 31 #[.int .i64 x, .int .i64 y] w fun e w' => e = .returned (.bool true) ∧ Below w.heap.size w w' := by
  obtain ⟨p, hp⟩ : ∃ p, p = ofK x := ⟨_, rfl⟩
  obtain ⟨q, hq⟩ : ∃ q, q = ofN x := ⟨_, rfl⟩
  have hp' : p = ofK y := hp.trans h.1
  have hq' : q = ofN y := hq.trans h.2
  have KP := Lib.hid hp; have KQ := Lib.hid hq; have KP' := Lib.hid hp'; have KQ' := Lib.hid hq'
  clear hp hq hp' hq' h
  have heq := run_eqlS p q ⟨#[]⟩
  have hgd := guardV
  go_enter Try.func31, Try.ntmps31
  go_wp2_with fail
  refine (lof_any x _).mono ?_
  rw [← KP.out, ← KQ.out]
  rintro e w1 ⟨rfl, b1⟩
  go_wp2_with fail
  refine (lof_any y _).mono ?_
  rw [← KP'.out, ← KQ'.out]
  rintro e w2 ⟨rfl, b2⟩
  go_wp2_with fail
  go_ret
  exact ⟨rfl, blw_on b1 b2⟩

set_option maxRecDepth 100000 in
set_option maxHeartbeats 2000000 in
theorem laws_any (a b c : Int) (w : World) :
    Calls Try.prog 8 #[.int .i64 a, .int .i64 b, .int .i64 c] w fun e w' => e = .returned (.bool true) ∧ Below w.heap.size w w' := by
  go_enter Try.func8, Try.ntmps8
  go_wp2_with fail
  refine (works6_any _).mono ?_
  rintro e w1 ⟨rfl, b1⟩
  have HW := Lib.hid b1; clear b1
  go_wp2_with (first | (go_at_call 16; refine (and_any _ _ _).mono ?_; rintro e w' ⟨rfl, rfl⟩) | (go_at_call 18; refine (or_any _ _ _).mono ?_; rintro e w' ⟨rfl, rfl⟩) | (go_at_call 14; refine (not_any _ _).mono ?_; rintro e w' ⟨rfl, rfl⟩) | (go_at_call 31; refine (same1_any _ _ _ (by with_reducible first | exact same_and3 _ _ _ | exact same_or3 _ _ _ | exact same_dist _ _ _ | exact same_aa _ | exact same_oo _ | exact same_ao _ _ | exact same_oa _ _ | exact same_nn _)).mono ?_; rintro e w' ⟨rfl, b⟩; replace HW := Lib.hid (blw_on HW.out b); clear b))
  go_ret
  exact ⟨rfl, HW.out⟩
end Go.Proofs.Ytadbmjmikoggbaa
