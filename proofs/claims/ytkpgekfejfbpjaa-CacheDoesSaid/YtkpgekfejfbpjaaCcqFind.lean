/-
  Layer 12, the document's cache: find, which looks a page up. Condition: at most ten thousand pages.
-/
import Derived.Test.YtkpgekfejfbpjaaCcqInv
import Derived.LoopTactic
namespace Go.Proofs.Ytkpgekfejfbpjaa
open Go.RowKit
variable {w w' : World} {q : Nat} {v : Value} {R : QS}

/-- Where a page stands; -1: nowhere. -/
def idxQ : List QP → Int → Int
  | [], _ => -1
  | p :: r, k => if p.n = k then 0 else match idxQ r k with
    | .ofNat i => .ofNat (i + 1)
    | .negSucc _ => -1
theorem idxQ_none : ∀ {l : List QP} {k : Int}, (∀ p ∈ l, p.n ≠ k) → idxQ l k = -1
  | [], _, _ => rfl
  | p :: r, k, h => by
    unfold idxQ
    rw [if_neg (h p (List.mem_cons_self ..)), idxQ_none (fun x hx => h x (List.mem_cons_of_mem _ hx))]
    rfl
theorem idxQ_at : ∀ {a : List QP} {p : QP} {b : List QP} {k : Int}, (∀ x ∈ a, x.n ≠ k) → p.n = k → idxQ (a ++ p :: b) k = (a.length : Int)
  | [], p, b, k, _, h => by simp [idxQ, h]
  | x :: a, p, b, k, h, hp => by
    rw [List.cons_append]
    unfold idxQ
    rw [if_neg (h x (List.mem_cons_self ..)), idxQ_at (fun y hy => h y (List.mem_cons_of_mem _ hy)) hp]
    rfl
theorem take_snocQ (l : List QP) (k : Nat) (h : k < l.length) : l.take (k + 1) = l.take k ++ [l[k]] := by
  rw [List.take_add_one, List.getElem?_eq_getElem h]
  rfl
theorem split_at (l : List QP) (k : Nat) (h : k < l.length) : l = l.take k ++ l[k] :: l.drop (k + 1) := by
  rw [← List.drop_eq_getElem_cons h, List.take_append_drop]
theorem idxQ_get {l : List QP} {k : Nat} {z : Int} (hk : k < l.length) (hno : ∀ x ∈ l.take k, x.n ≠ z) (h : l[k].n = z) : idxQ l z = (k : Int) := by
  have h1 := split_at l k hk
  have h2 := idxQ_at (b := l.drop (k + 1)) hno h
  rw [← h1, List.length_take] at h2
  rw [h2]
  omega

set_option maxHeartbeats 1000000 in
theorem qfind_any (h : QInv q v R w) (hl : R.L.length ≤ 10000) (z : Int) :
    Calls Try.prog 25 #[.pointer (some ⟨q, 0, none⟩), .int .i64 z] w fun e w' => e = .returned (.int .i64 (idxQ R.L z)) ∧ w = w' := by
  obtain ⟨a, cap, rfl, hc⟩ := pg_cells h.row
  obtain ⟨c0, -, -⟩ := q_cells h
  have HC := Lib.hid hc
  generalize R.L = l at *
  clear h hc
  go_enter Try.func25, Try.ntmps25
  go_wp2
  go_loop [5] (fun iv => ∃ k : Nat, k ≤ l.length ∧ iv = .int .i64 k ∧ Hid (∀ x ∈ l.take k, x.n ≠ z)) (fun iv => l.length - (intOf iv).toNat)
  case atStart => exact ⟨0, Nat.zero_le _, rfl, Lib.hid (by simp)⟩
  case round =>
    obtain ⟨k, hk, rfl, hno⟩ := hrel
    by_cases hlt : k < l.length
    · obtain ⟨g, rfl, -, hg, c1, -⟩ := HC.out k hlt
      have hkI : (k : Int) < l.length := by omega
      have s0 : ¬ (k : Int) < 0 := by omega
      by_cases he : l[k].n = z
      · have HR := Lib.hid (idxQ_get hlt hno.out he)
        have t1 : (l[k].n == z) = true := by simpa using he
        clear he hno
        generalize l[k].n = x at *
        go_wp2
        go_ret
        exact ⟨by rw [HR.out]; rfl, rfl⟩
      · have t1 : (l[k].n == z) = false := by simpa using he
        have HR := Lib.hid (show ∀ x ∈ l.take (k + 1), x.n ≠ z by
          rw [take_snocQ l k hlt]
          intro x hx
          rcases List.mem_append.1 hx with hx | hx
          · exact hno.out x hx
          · rw [List.mem_singleton] at hx; rw [hx]; exact he)
        clear he hno
        generalize l[k].n = x at *
        go_wp2
        go_round
        case rel => exact ⟨k + 1, by omega, by go_num, HR⟩
        case measure => simp [intOf]; omega
    · have hkI : ¬ (k : Int) < l.length := by omega
      have HR := Lib.hid (show idxQ l z = -1 by have := hno.out; rw [List.take_of_length_le (by omega)] at this; exact idxQ_none this)
      go_wp2
      go_ret
      exact ⟨by rw [HR.out]; rfl, rfl⟩
end Go.Proofs.Ytkpgekfejfbpjaa
