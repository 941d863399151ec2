/-
  Layer 10: append([]string{}, l...) returns a slice of its own with the same strings and changes nothing that was there. Condition: at most 21 strings.
-/
import Derived.Test.YtcfojplmmpeefaaSpLaws3
import Derived.Test.YtcfojplmmpeefaaSpDec3
import Derived.Deep.AppendSrc
import Derived.Maps.AppendAt
import Derived.OwnWalk
namespace Go.Proofs.Ytcfojplmmpeefaa
open Go.RowKit

theorem wp_append_is {P : Program} (w : World) {o : Oper} {a : Act} {K : Act → World → Prop} {Q : Exit → Act → World → Prop} (s x : Operand) (t : TypeId)
    (ho : o.op = .call { callee := .builtin .append, args := #[s, x], argTypes := #[t, t] }) (v vx v' : Value) (w' : World) (hs : a.eval s = v) (hx : a.eval x = vx)
    (hr : (Builtin.append_ #[t, t] o.type #[v, vx]).run P w = .ok v' w') (h : K (a.put o.dst v') w') : o.wp P a w K Q := by
  unfold Oper.wp execOp
  simp only [ho, resolve, invoke, builtin, Sem.run_bind, Sem.run_pure, Result.andThen_ok, List.map_toArray, List.map_cons, List.map_nil, hs, hx, hr]
  exact h
theorem wpList_append_is {P : Program} (w : World) {ops : Array Oper} {rest : List Oper} {o : Oper} {a : Act} {Q : Exit → Act → World → Prop} (hgd : o.guard = none) (s x : Operand) (t : TypeId)
    (ho : o.op = .call { callee := .builtin .append, args := #[s, x], argTypes := #[t, t] }) (v vx v' : Value) (w' : World) (hs : a.eval s = v) (hx : a.eval x = vx)
    (hr : (Builtin.append_ #[t, t] o.type #[v, vx]).run P w = .ok v' w') (h : wpList P ops Q rest (a.put o.dst v') w') : wpList P ops Q (o :: rest) a w :=
  wpList_plain hgd fun _ hK => wp_append_is w s x t ho v vx v' w' hs hx hr (hK _ _ h)
theorem srow_none (w : World) (e : TypeId) (size : Nat) : (w.alloc (.cells #[] e)).ownsRow w.heap.size e size (.slice (some ⟨w.heap.size, 0, none⟩) 0 0) 0 [] :=
  ⟨by simp, .inr ⟨w.heap.size, 0, #[], rfl, Nat.le_refl _, blk_new w e #[], Nat.le_refl _, Nat.zero_le _, by simp, by simp⟩⟩
/-- 'append([]string{}, l...)': a slice of its own with the same strings. -/
theorem app_strs (W : World) (ty : TypeId) (a : Option Addr) (cap : Nat) (L : List (List UInt8)) (hl : L.length ≤ 21) (ha : Strs W a L) :
    ∃ v' w' a' cap', (Builtin.append_ #[22, 22] ty #[.slice (some ⟨W.heap.size, 0, none⟩) 0 0, .slice a L.length cap]).run Try.prog (W.alloc (.cells #[] 9)) = .ok v' w' ∧ v' = .slice a' L.length cap' ∧ L.length ≤ cap' ∧ Strs w' a' L ∧ Below W.heap.size W w' := by
  obtain ⟨i1, hi1, hz1, hs1, hb1⟩ := infoS
  have hbl := sbelow_alloc W (.cells #[] 9)
  by_cases h0 : L.length = 0
  · have hL : L = [] := List.eq_nil_of_length_eq_zero h0
    subst hL
    have key : ∀ x, Src Try.prog i1.size 22 x 0 [] (W.alloc (.cells #[] 9)) → (Builtin.append_ #[22, 22] ty #[.slice (some ⟨W.heap.size, 0, none⟩) 0 0, x]).run Try.prog (W.alloc (.cells #[] 9)) = .ok (.slice (some ⟨W.heap.size, 0, none⟩) 0 0) (W.alloc (.cells #[] 9)) := fun x hx => by
      rw [run_append_room_src (P := Try.prog) (W.alloc (.cells #[] 9)) 22 22 ty 9 i1 Try.underlying22 hi1 W.heap.size 0 0 0 x 0 [] hx (by omega) (by simp) (by simp)]
      simp [World.setCells]
    refine ⟨_, _, some ⟨W.heap.size, 0, none⟩, 0, key _ ?_, rfl, Nat.le_refl _, strs_nil _ _, hbl⟩
    cases a with
    | none => exact Src.ofNil _ Try.underlying22 cap
    | some ad => exact Src.ofSlice _ Try.underlying22 ad 0 cap [] (by simp) (by simp) (by simp)
  · obtain ⟨b, off, rfl, hbw, -⟩ := ha 0 (by omega)
    have hcell : ∀ j u, (L.map strC)[j]? = some u → (W.alloc (.cells #[] 9)).cell? ((⟨b, off, none⟩ : Addr).add j) = some u := fun j u hu => by
      have hj : j < L.length := by
        have := (List.getElem?_eq_some_iff.1 hu).1
        rw [List.length_map] at this; exact this
      rw [List.getElem?_map, List.getElem?_eq_getElem hj] at hu
      obtain ⟨b', off', e, -, c⟩ := ha j hj
      injection e with e
      injection e with e1 e2
      subst e1 e2
      rw [Addr.add_lit, hbl.cell hbw, c]
      exact hu
    obtain ⟨v', w', hr, h2, h3, -⟩ := run_append_own_at (P := Try.prog) (W.alloc (.cells #[] 9)) W.heap.size 22 ty 9 i1 (.string ⟨#[]⟩) 1 16 Try.underlying22 hi1 hz1 hs1 hb1 rfl (by decide) _ 0 [] (srow_none W 9 1) ⟨b, off, none⟩ L.length cap (L.map strC) (by simp) hcell (by
      intro u hu
      obtain ⟨p, -, rfl⟩ := List.mem_map.1 hu
      rfl) (by unfold maxLen; omega) (by omega) (by simp)
    rw [List.nil_append, Nat.zero_add] at h2
    obtain ⟨a', cap', rfl, -, hst⟩ := strs_of_own h2
    refine ⟨_, _, a', cap', hr, rfl, ?_, hst, ?_⟩
    · rcases h2.2 with ⟨e, -⟩ | ⟨g, c, cur, e, -, -, hnc, -⟩
      · injection e with _ e2; omega
      · injection e with _ _ e3; rw [e3]; exact hnc
    · refine ⟨h3.os, h3.tape, h3.output, Nat.le_trans (by simp) h3.size, fun k hk => ?_⟩
      rw [h3.block k (by simp; omega) (fun e => by simp [Value.ownBlock] at e; omega)]
      exact hbl.block k hk
end Go.Proofs.Ytcfojplmmpeefaa
