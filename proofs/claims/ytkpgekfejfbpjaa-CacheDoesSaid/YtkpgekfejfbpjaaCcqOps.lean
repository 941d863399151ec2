/-
  Layer 12, the document's cache: New, Get, Drop and Dirty. Condition: at most ten thousand pages.
-/
import Derived.Test.YtkpgekfejfbpjaaCcqFind
import Derived.Test.YtkpgekfejfbpjaaCchDirty
namespace Go.Proofs.Ytkpgekfejfbpjaa
open Go.RowKit
variable {w w' : World} {q : Nat} {v : Value} {R : QS}

theorem qnew_any (room : Int) (hr : IsI room) (w : World) : Calls Try.prog 8 #[.int .i64 room] w fun e w' => e = .returned (.pointer (some ⟨w.heap.size, 0, none⟩)) ∧ QInv w.heap.size (.slice none 0 0) ⟨[], 0, max 1 room⟩ w' ∧ Below w.heap.size w w' := by
  obtain ⟨hr1, hr2⟩ := hr
  have hm : max room 1 = max 1 room := by omega
  go_enter Try.func8, Try.ntmps8
  go_wp2
  first | go_ret | go_returns
  refine ⟨rfl, ⟨?_, World.ownsRow_nil _ _ _ _, fun e => by cases e⟩, (Below.refl _ _).alloc (Nat.le_refl _) _⟩
  rw [← hm]
  exact blk_new _ _ _
theorem QStep.drewN (n : Nat) : QStep q v w v (w.drewN n) := ⟨rfl, rfl, rfl, Nat.le_refl _, fun _ _ _ => rfl, fun _ h => .inl h⟩
theorem flat_set {a b : List QP} {p p' : QP} {j : Nat} {x : Value} (hj : j < 4) (hp : (pgC p).set j x = pgC p') : ((a ++ p :: b).flatMap pgC).set (a.length * 4 + j) x = (a ++ p' :: b).flatMap pgC := by
  rw [List.flatMap_append, List.flatMap_cons, List.flatMap_append, List.flatMap_cons, List.set_append_right _ _ (by rw [flatLen pgC 4 pgC_len]; omega), flatLen pgC 4 pgC_len, Nat.add_sub_cancel_left, List.set_append_left _ _ (by rw [pgC_len]; exact hj), hp]
/-- A cell of a page stored in place. -/
theorem q_cell {g n cap : Nat} (h : QInv q (.slice (some ⟨g, 0, none⟩) n cap) R w) {a b : List QP} {p p' : QP} (hL : R.L = a ++ p :: b) {j : Nat} {x : Value} (hj : j < 4) (hp : (pgC p).set j x = pgC p') :
    QInv q (.slice (some ⟨g, 0, none⟩) n cap) { R with L := a ++ p' :: b } (w.setCell ⟨g, a.length * 4 + j, none⟩ x) ∧ QStep q (.slice (some ⟨g, 0, none⟩) n cap) w (.slice (some ⟨g, 0, none⟩) n cap) (w.setCell ⟨g, a.length * 4 + j, none⟩ x) := by
  have hk : ∀ k, k ≠ g → (w.setCell ⟨g, a.length * 4 + j, none⟩ x).heap[k]? = w.heap[k]? := keep_set _ _ _ _
  have hgq : q ≠ g := fun e => h.ne (by rw [e]; rfl)
  have hrow := h.row
  have hn : n = R.L.length := by
    rcases hrow.2 with ⟨h1, -⟩ | ⟨g', cap', cur, h1, -⟩
    · cases h1
    · injection h1
  subst hn
  refine ⟨⟨(hk q hgq).trans h.blk, ?_, h.ne⟩, ⟨rfl, rfl, rfl, by rw [size_set]; exact Nat.le_refl _, fun k _ hne => hk k (fun e => hne (.inr (by rw [e]; rfl))), fun g' hg => .inl hg⟩⟩
  have h1 := (hrow.stored (a.length * 4 + j) x).1
  have e : R.L.length = (a ++ p' :: b).length := by rw [hL]; simp
  show World.ownsRow _ 0 59 4 _ (a ++ p' :: b).length ((a ++ p' :: b).flatMap pgC)
  rw [← e, ← flat_set hj hp, ← hL]
  exact h1
theorem q_slice (h : QInv q v R w) {a b : List QP} {p : QP} (hL : R.L = a ++ p :: b) : ∃ g n cap, v = .slice (some ⟨g, 0, none⟩) n cap ∧ n = R.L.length ∧ g ≠ q ∧ (∀ j, w.frozen? ⟨g, j, none⟩ = false) ∧
    w.cell? ⟨g, a.length * 4, none⟩ = some (.int .i64 p.n) ∧ w.cell? ⟨g, a.length * 4 + 1, none⟩ = some (.string p.s) ∧ w.cell? ⟨g, a.length * 4 + 2, none⟩ = some (.bool p.d) ∧ w.cell? ⟨g, a.length * 4 + 3, none⟩ = some (.int .i64 p.u) := by
  obtain ⟨a', cap, rfl, hc⟩ := pg_cells h.row
  have hlt : a.length < R.L.length := by rw [hL]; simp
  obtain ⟨g, rfl, -, hg, c0, c1, c2, c3, hf⟩ := hc a.length hlt
  have hp : R.L[a.length] = p := by simp [hL]
  rw [hp] at c0 c1 c2 c3
  exact ⟨g, _, cap, rfl, rfl, fun e => h.ne (by rw [e]; rfl), hf, c0, c1, c2, c3⟩
theorem qget_none (h : QInv q v R w) (hl : R.L.length ≤ 10000) (z : Int) (hno : ∀ p ∈ R.L, p.n ≠ z) :
    Calls Try.prog 10 #[.pointer (some ⟨q, 0, none⟩), .int .i64 z] w fun e w' => e = .returned (.tuple #[.string ⟨#[]⟩, .bool false]) ∧ w = w' := by
  have KF := Lib.hid (qfind_any h hl z)
  rw [idxQ_none hno] at KF
  clear h hl hno
  go_enter Try.func10, Try.ntmps10
  go_wp2_with (first
    | (go_at_call 25; refine KF.out.mono ?_; rintro e1 w1 ⟨rfl, rfl⟩))
  first | go_ret | go_returns
  exact ⟨rfl, rfl⟩

set_option maxHeartbeats 1000000 in
theorem qget_some (h : QInv q v R w) (hl : R.L.length ≤ 10000) (hu : R.uses ≤ 1000000) {z : Int} {a b : List QP} {p : QP} (hL : R.L = a ++ p :: b) (hno : ∀ x ∈ a, x.n ≠ z) (hp : p.n = z) :
    Calls Try.prog 10 #[.pointer (some ⟨q, 0, none⟩), .int .i64 z] w fun e w' => e = .returned (.tuple #[.string p.s, .bool true]) ∧ QInv q v { R with L := a ++ { p with u := R.uses + 1 } :: b, uses := R.uses + 1 } w' ∧ QStep q v w v w' := by
  have KF := Lib.hid (qfind_any h hl z)
  rw [hL, idxQ_at hno hp] at KF
  obtain ⟨c0, c1, c2⟩ := q_cells h
  obtain ⟨u1, u2⟩ := q_use h (R.uses + 1)
  obtain ⟨g, n, cap, rfl, hn, hne, hf, d0, d1, d2, d3⟩ := q_slice u1 hL
  replace hn : n = R.L.length := hn
  obtain ⟨v1, v2⟩ := q_cell (u1.drewN 1) (p := p) (p' := { p with u := R.uses + 1 }) (j := 3) (x := .int .i64 (R.uses + 1 : Nat)) hL (by decide) rfl
  have HV := Lib.hid v1
  have HS := Lib.hid (u2.trans ((QStep.drewN 1).trans v2))
  have f1 := hf (a.length * 4 + 3)
  have fq := blk_frozen h.blk 1
  have k0 : a.length < n := by rw [hn, hL]; simp
  have k1 : (a.length : Int) < n := by omega
  have k2 : ¬ (a.length : Int) < 0 := by omega
  have hal : a.length ≤ 10000 := by omega
  obtain ⟨U, hU⟩ : ∃ U, U = R.uses := ⟨_, rfl⟩
  rw [← hU] at hu c1 HV HS d1 d2 d3 f1 ⊢
  have hqg : ¬ q = g := fun e => hne e.symm
  generalize hx : a.length = k at *
  clear h hl hU hL hno hp u1 u2 v1 v2 hf hn hx d0 c2 d2
  have hc : ((U + 1 : Nat) : Int) = (U : Int) + 1 := by omega
  rw [hc] at HV HS d1 d3 f1
  generalize p.s = ps at *
  generalize p.u = pu at *
  clear hc
  go_enter Try.func10, Try.ntmps10
  go_wp2_with (first
    | (go_at_call 25; refine KF.out.mono ?_; rintro e1 w1 ⟨rfl, rfl⟩))
  go_region

  all_goals go_wp2
  all_goals (first | go_ret | go_returns)
  all_goals exact ⟨rfl, HV.out, HS.out⟩
end Go.Proofs.Ytkpgekfejfbpjaa
