/-
  Layer 12, the document's cache: Put. Condition: at most nine thousand pages, and no more clean ones than there is room.
-/
import Derived.Test.YtkpgekfejfbpjaaCcqClean
namespace Go.Proofs.Ytkpgekfejfbpjaa
open Go.RowKit
variable {w w' : World} {q : Nat} {v : Value} {R : QS}

theorem cleanQ_set (a b : List QP) (p p' : QP) : cleanQ (a ++ p' :: b) ≤ cleanQ (a ++ p :: b) + 1 := by
  have h1 := (cleanQ_mid a b p').1
  have h2 := (cleanQ_mid a b p).2
  omega

set_option maxHeartbeats 2000000 in
theorem qput_old (h : QInv q v R w) (hl : R.L.length ≤ 9000) (hu : R.uses ≤ 1000000) (hcl : (cleanQ R.L : Int) ≤ R.room) (hr : 0 ≤ R.room ∧ R.room ≤ 9223372036854775807) {z : Int} (s : ByteArray) (d : Bool) {a b : List QP} {p : QP} (hL : R.L = a ++ p :: b) (hno : ∀ x ∈ a, x.n ≠ z) (hp : p.n = z) :
    Calls Try.prog 12 #[.pointer (some ⟨q, 0, none⟩), .int .i64 z, .string s, .bool d] w fun e w' => e = .returned (.tuple #[]) ∧ ∃ v' R', QInv q v' R' w' ∧ QStep q v w v' w' ∧ SetR { R with L := a ++ ⟨z, s, d, R.uses + 1⟩ :: b, uses := R.uses + 1 } R' := by
  obtain ⟨c0, c1, c2⟩ := q_cells h
  obtain ⟨u1, u2⟩ := q_use h (R.uses + 1)
  have hb := Below.alloc (Below.refl (w.setCell ⟨q, 1, none⟩ (.int .i64 (R.uses + 1 : Nat))).heap.size (w.setCell ⟨q, 1, none⟩ (.int .i64 (R.uses + 1 : Nat)))) (Nat.le_refl _) (.cells #[.int .i64 z, .string s, .bool d, .int .i64 (R.uses + 1 : Nat)] 59)
  have u3 := u1.below hb
  have KF := Lib.hid (qfind_any u3 (show R.L.length ≤ 10000 by omega) z)
  rw [show ({ R with uses := R.uses + 1 } : QS).L = a ++ p :: b from hL, idxQ_at hno hp] at KF
  obtain ⟨g, n, cap, rfl, hn, hne, hf, d0, d1, d2, d3⟩ := q_slice h hL
  replace hn : n = R.L.length := hn
  obtain ⟨v1, x1⟩ := q_cell u1 (p := p) (p' := { p with n := z }) (j := 0) (x := .int .i64 z) hL (by decide) rfl
  obtain ⟨v2, x2⟩ := q_cell v1 (p := { p with n := z }) (p' := ⟨z, s, p.d, p.u⟩) (j := 1) (x := .string s) rfl (by decide) rfl
  obtain ⟨v3, x3⟩ := q_cell v2 (p := ⟨z, s, p.d, p.u⟩) (p' := ⟨z, s, d, p.u⟩) (j := 2) (x := .bool d) rfl (by decide) rfl
  obtain ⟨v4, x4⟩ := q_cell v3 (p := ⟨z, s, d, p.u⟩) (p' := ⟨z, s, d, R.uses + 1⟩) (j := 3) (x := .int .i64 (R.uses + 1 : Nat)) rfl (by decide) rfl
  have hb2 := fun W : World => Below.alloc (Below.refl W.heap.size W) (Nat.le_refl _) (.cells #[.int .i64 z, .string s, .bool d, .int .i64 (R.uses + 1 : Nat)] 59)
  have KS := Lib.hid (settle_any ((v4.below (hb2 _)).drewN 1) (by
    show (a ++ _ :: b).length ≤ 10000
    have e : (a ++ p :: b).length = (a ++ (⟨z, s, d, R.uses + 1⟩ : QP) :: b).length := by simp
    rw [← e, ← hL]; omega) (by
    show (cleanQ (a ++ _ :: b) : Int) ≤ R.room + 1
    have h1 := cleanQ_set a b p ⟨z, s, d, R.uses + 1⟩
    rw [← hL] at h1
    omega) hr)
  have HS := Lib.hid ((u2.trans (x1.trans (x2.trans (x3.trans x4)))).trans ((QStep.below (hb2 _)).trans (QStep.drewN 1)))
  have f0 := hf (a.length * 4 + 0)
  have f1 := hf (a.length * 4 + 1)
  have f2 := hf (a.length * 4 + 2)
  have f3 := hf (a.length * 4 + 3)
  have fq := blk_frozen h.blk 1
  have k0 : a.length < n := by rw [hn, hL]; simp
  have k1 : (a.length : Int) < n := by omega
  have k2 : ¬ (a.length : Int) < 0 := by omega
  have hal : a.length ≤ 10000 := by omega
  have hgl : g < w.heap.size := by have := (h.row.lt g rfl).2; exact this
  have hql : q < w.heap.size := blk_lt h.blk
  obtain ⟨U, hU⟩ : ∃ U, U = R.uses := ⟨_, rfl⟩
  rw [← hU] at hu c1 KS KF HS ⊢
  have hqg : ¬ q = g := fun e => hne e.symm
  generalize hx : a.length = k at *
  have hc : ((U + 1 : Nat) : Int) = (U : Int) + 1 := by omega
  rw [hc] at KS KF HS
  rw [Nat.add_zero] at KS HS f0
  obtain ⟨pn, ps, pd, pu⟩ := p
  clear h hl hU hL hno hp u1 u2 u3 v1 v2 v3 v4 x1 x2 x3 x4 hf hn hx c2 hc hcl hr hb hb2
  simp only at d0 d1 d2 d3
  go_enter Try.func12, Try.ntmps12
  go_wp2_with (first
    | (go_at_call 25; refine KF.out.mono ?_; rintro e1 w1 ⟨rfl, rfl⟩))
  go_region
  go_wp2_with (first
    | (go_at_call 26; refine KS.out.mono ?_; rintro e1 w1 ⟨rfl, v1, R1, q1, q2, q3⟩; have Q1 := Lib.hid q1; have Q2 := Lib.hid q2; have Q3 := Lib.hid q3; clear q1 q2 q3))
  first | go_ret | go_returns
  exact ⟨rfl, _, _, Q1.out, HS.out.trans Q2.out, Q3.out⟩
end Go.Proofs.Ytkpgekfejfbpjaa
