/-
  Layer 12: leave, enter and remove: an element leaves its list; it enters its list as the last one, and the first clean ones go while there are too many; an element leaves the cache. Condition: the lists have at most a million elements.
-/
import Derived.Test.YtkpgekfejfbpjaaCchRem
import Derived.Deep.RegionHeld3
import Derived.StillTailTactics
namespace Go.Proofs.Ytkpgekfejfbpjaa
open Go.RowKit
variable {L : CL} {ρ ρ' : Nat → Option CRole} {S : CS} {w w' : World}

theorem leave_any (h : CInv L ρ S w) {s : Bool} {e : Nat} {a b : List Nat} (hl : S.li s = a ++ e :: b) (hd : (S.pg e).d = s) (hlen : (S.li s).length ≤ 1000000) :
    Calls Try.prog 23 #[.pointer (some ⟨L.c, 0, none⟩), .pointer (some ⟨e, 0, none⟩)] w (AddQ L ρ (remS S s a e b) w) := by
  have k1 := listOf_any h e (h.ele s a e b hl).2
  rw [hd] at k1
  have k2 := rem_any h s hl hlen
  have K1 := Lib.hid k1; have K2 := Lib.hid k2
  generalize remS S s a e b = S' at K2 ⊢
  clear h hl hd hlen k1 k2
  generalize ptr (some (L.lb s)) = p at K1 K2
  obtain ⟨c, m, lb⟩ := L
  go_enter Try.func23, Try.ntmps23
  go_wp2_with (first
    | (go_at_call 29; refine K1.out.mono ?_; rintro e1 w1 ⟨rfl, rfl⟩)
    | (go_at_call 30; refine K2.out.mono ?_; rintro e1 w1 ⟨rfl, q1, q2⟩))
  go_returns
  exact ⟨rfl, q1, q2⟩

/-! ### remove -/
/-- remove: the state behind it. -/
def dropS (S : CS) (s : Bool) (a : List Nat) (e : Nat) (b : List Nat) : CS := { S with li := updB S.li s (a ++ b), keys := delK S.keys (S.pg e).n, fr := some e }
theorem remove_any (h : CInv L ρ S w) {s : Bool} {e : Nat} {a b : List Nat} (hl : S.li s = a ++ e :: b) (hd : (S.pg e).d = s) (hlen : (S.li s).length ≤ 1000000) (hi : IsI (S.pg e).n) :
    Calls Try.prog 27 #[.pointer (some ⟨L.c, 0, none⟩), .pointer (some ⟨e, 0, none⟩)] w fun ev w' => ev = .returned (.tuple #[]) ∧ CInv L ρ (dropS S s a e b) w' ∧ CStep ρ w ρ w' ∧
      ∃ w1 ty, w1.heap[L.m]? = w.heap[L.m]? ∧ LStep ρ w w1 ∧ (Builtin.delete_ #[44, 3] ty #[.map (some L.m), .int .i64 (S.pg e).n]).run Try.prog w1 = .ok (.tuple #[]) w' := by
  have HL := Lib.hid (leave_any h hl hd hlen)
  have HM := Lib.hid h.hm
  obtain ⟨x, hx⟩ : ∃ x, x = (S.pg e).n := ⟨_, rfl⟩
  rw [← hx] at hi ⊢
  have HX := Lib.hid hx
  have HI := Lib.hid hi
  clear h hl hd hlen hx hi
  go_enter Try.func27, Try.ntmps27
  go_wp2_with (first
    | (go_at_call 23; refine HL.out.mono ?_; rintro e1 w1 ⟨rfl, q1, q2⟩))
  obtain ⟨-, c1, -, -⟩ := ca_cells q1.blk
  obtain ⟨d0, -, -, -, -⟩ := el_cells (q1.fre e rfl).2
  replace d0 : w1.cell? ⟨e, 0, none⟩ = some (.int .i64 (S.pg e).n) := d0
  rw [← HX.out] at d0
  obtain ⟨w2, hrun, hown, hq⟩ := map_drop q1.drew.map HI.out 0
  have HQ1 := Lib.hid q1; have HQ2 := Lib.hid q2
  clear q1 q2
  clear HL
  go_region
  have hm : L.m ≠ e := fun hh => by
    have h1 := HQ1.out.hm
    rw [hh, (HQ1.out.fre e rfl).1] at h1
    cases h1
  have hi1 : CInv L ρ (dropS S s a e b) w2 := by
    have h2 := HQ1.out.drew.mapped hq hown
    rw [HX.out] at h2
    exact h2
  have hs1 : CStep ρ w ρ w2 := HQ2.out.step.trans (CStep.drew.trans (CStep.mapped HQ1.out.drew hq))
  have hk1 : w1.heap[L.m]? = w.heap[L.m]? := HQ2.out.blk _ (fun s => by rw [HM.out]; simp) (by rw [HM.out]; simp)
  clear hown hq
  go_returns
  exact ⟨rfl, hi1, hs1, w1.drew, 0, hk1, HQ2.out.drew, hrun⟩
end Go.Proofs.Ytkpgekfejfbpjaa
