/-
  Layer 12, the document's cache: Clean. Condition: at most nine thousand pages, and no more clean ones than there is room.
-/
import Derived.Test.YtkpgekfejfbpjaaCcqSet
namespace Go.Proofs.Ytkpgekfejfbpjaa
open Go.RowKit
variable {w w' : World} {q : Nat} {v : Value} {R : QS}

/-- What settle leaves. -/
def SetR (R R' : QS) : Prop := ((cleanQ R.L : Int) ≤ R.room ∧ R' = R) ∨ Popped R R'
theorem cleanQ_mid (a b : List QP) (p : QP) : cleanQ (a ++ p :: b) ≤ cleanQ (a ++ b) + 1 ∧ cleanQ (a ++ b) ≤ cleanQ (a ++ p :: b) := by
  unfold cleanQ
  rw [List.filter_append, List.filter_append, List.filter_cons]
  split <;> simp <;> omega
theorem qclean_none (h : QInv q v R w) (hl : R.L.length ≤ 9000) (z : Int) (hno : ∀ p ∈ R.L, p.n ≠ z) :
    Calls Try.prog 14 #[.pointer (some ⟨q, 0, none⟩), .int .i64 z] w fun e w' => e = .returned (.tuple #[]) ∧ w = w' := by
  have KF := Lib.hid (qfind_any h (by omega) z)
  rw [idxQ_none hno] at KF
  clear h hl hno
  go_enter Try.func14, Try.ntmps14
  go_wp2_with (first
    | (go_at_call 25; refine KF.out.mono ?_; rintro e1 w1 ⟨rfl, rfl⟩))
  first | go_ret | go_returns
  exact ⟨rfl, rfl⟩

set_option maxHeartbeats 1000000 in
theorem qclean_some (h : QInv q v R w) (hl : R.L.length ≤ 9000) (hu : R.uses ≤ 1000000) (hcl : (cleanQ R.L : Int) ≤ R.room) (hr : 0 ≤ R.room ∧ R.room ≤ 9223372036854775807) {z : Int} {a b : List QP} {p : QP} (hL : R.L = a ++ p :: b) (hno : ∀ x ∈ a, x.n ≠ z) (hp : p.n = z) :
    Calls Try.prog 14 #[.pointer (some ⟨q, 0, none⟩), .int .i64 z] w fun e w' => e = .returned (.tuple #[]) ∧ ∃ v' R', QInv q v' R' w' ∧ QStep q v w v' w' ∧ SetR { R with L := a ++ { p with u := R.uses + 1, d := false } :: b, uses := R.uses + 1 } R' := by
  have KF := Lib.hid (qfind_any h (by omega) z)
  rw [hL, idxQ_at hno hp] at KF
  obtain ⟨c0, c1, c2⟩ := q_cells h
  obtain ⟨u1, u2⟩ := q_use h (R.uses + 1)
  obtain ⟨g, n, cap, rfl, hn, hne, hf, d0, d1, d2, d3⟩ := q_slice u1 hL
  replace hn : n = R.L.length := hn
  obtain ⟨v1, v2⟩ := q_cell (u1.drewN 1) (p := p) (p' := { p with u := R.uses + 1 }) (j := 3) (x := .int .i64 (R.uses + 1 : Nat)) hL (by decide) rfl
  obtain ⟨v3, v4⟩ := q_cell v1 (p := { p with u := R.uses + 1 }) (p' := { p with u := R.uses + 1, d := false }) (j := 2) (x := .bool false) rfl (by decide) rfl
  have KS := Lib.hid (settle_any v3 (by
    show (a ++ _ :: b).length ≤ 10000
    have e : (a ++ p :: b).length = (a ++ { p with u := R.uses + 1, d := false } :: b).length := by simp
    rw [← e, ← hL]; omega) (by
    show (cleanQ (a ++ _ :: b) : Int) ≤ R.room + 1
    have h1 := (cleanQ_mid a b { p with u := R.uses + 1, d := false }).1
    have h2 := (cleanQ_mid a b p).2
    rw [← hL] at h2
    omega) hr)
  have HS := Lib.hid (u2.trans ((QStep.drewN 1).trans (v2.trans v4)))
  have f1 := hf (a.length * 4 + 3)
  have f2 := hf (a.length * 4 + 2)
  clear hf
  have fq := blk_frozen h.blk 1
  have k0 : a.length < n := by rw [hn, hL]; simp
  have k1 : (a.length : Int) < n := by omega
  have k2 : ¬ (a.length : Int) < 0 := by omega
  have hal : a.length ≤ 10000 := by omega
  obtain ⟨U, hU⟩ : ∃ U, U = R.uses := ⟨_, rfl⟩
  rw [← hU] at hu c1 KS HS d1 d2 d3 f1 f2 ⊢
  have hqg : ¬ q = g := fun e => hne e.symm
  generalize hx : a.length = k at *
  have hc : ((U + 1 : Nat) : Int) = (U : Int) + 1 := by omega
  rw [hc] at KS HS d1 d2 d3 f1 f2
  obtain ⟨pn, ps, pd, pu⟩ := p
  clear h hl hU hL hno hp u1 u2 v1 v2 v3 v4 hn hx d0 c2 hc d1 hcl hr
  simp only at d2 d3
  go_enter Try.func14, Try.ntmps14
  go_wp2_with (first
    | (go_at_call 25; refine KF.out.mono ?_; rintro e1 w1 ⟨rfl, rfl⟩))
  go_region
  go_wp2_with (first
    | (go_at_call 26; refine KS.out.mono ?_; rintro e1 w1 ⟨rfl, v1, R1, q1, q2, q3⟩; have Q1 := Lib.hid q1; have Q2 := Lib.hid q2; have Q3 := Lib.hid q3; clear q1 q2 q3))
  first | go_ret | go_returns
  exact ⟨rfl, _, _, Q1.out, HS.out.trans Q2.out, Q3.out⟩
end Go.Proofs.Ytkpgekfejfbpjaa
