/-
  A region that draws its order: operations behind a guard that is decided against them may be passed over all at once. No condition.
-/
import Derived.Test.YtjmciknelkodcaaProg
import Derived.Deep.RegionHeld3
import Derived.KernelRfl
namespace Go.Proofs.Ytjmciknelkodcaa
section
variable {P : Program} {ops : Array Oper} {Q : Exit → Act → World → Prop} {md : Region.Mode} {S : World → Prop}
/-- Each operation of the list may come up, in this order, and its guard is decided against it. -/
def skipsOk (md : Region.Mode) (ops : Array Oper) : List Nat → Array Bool → Act → Bool
  | [], _, _ => true
  | i :: L, listed, a =>
    match ops[i]? with
    | none => false
    | some oi => Region.free md ops listed i && (Region.ready md ops listed).contains i && !(Region.wanted oi (yielded ops a.tmps)) && skipsOk md ops L (listed.setIfInBounds i true) (a.put oi.dst undef)
def skipListed : List Nat → Array Bool → Array Bool
  | [], l => l
  | i :: L, l => skipListed L (l.setIfInBounds i true)
def skipAct (ops : Array Oper) : List Nat → Act → Act
  | [], a => a
  | i :: L, a => skipAct ops L (a.put ((ops[i]?).bind (·.dst)) undef)
theorem wpAnyH_skips (hs : Region.noSelect ops = true) (hQ : ∀ c a d w, Q (.panic c) (Act.put a (some d) undef) w → Q (.panic c) a w) (hQ0 : ∀ c a w, Q (.panic c) (Act.put a none undef) w → Q (.panic c) a w) :
    ∀ (L : List Nat) (fuel : Nat) (listed : Array Bool) (a : Act) (w : World), skipsOk md ops L listed a = true → S w → wpAnyH P md ops Q S fuel (skipListed L listed) (skipAct ops L a) w → wpAnyH P md ops Q S (fuel + L.length) listed a w := by
  intro L
  induction L with
  | nil => intro fuel listed a w _ _ h; exact h
  | cons i L ih =>
    intro fuel listed a w hok hS h
    unfold skipsOk at hok
    cases ho : ops[i]? with
    | none => rw [ho] at hok; cases hok
    | some oi =>
      rw [ho] at hok
      simp only [Bool.and_eq_true, Bool.not_eq_true'] at hok
      obtain ⟨⟨⟨h1, h2⟩, h3⟩, h4⟩ := hok
      have h5 : wpAnyH P md ops Q S fuel (skipListed L (listed.setIfInBounds i true)) (skipAct ops L (a.put oi.dst undef)) w := by
        have : skipAct ops (i :: L) a = skipAct ops L (a.put oi.dst undef) := by simp [skipAct, ho]
        rw [← this]; exact h
      exact wpAnyH_take ho hs h1 h2 (fun c a w => by cases oi.dst with | none => exact hQ0 c a w | some d => exact hQ c a d w) (.inr ⟨h3, rfl⟩) hS (ih fuel _ _ w h4 hS h5)
/-- The same, where each passed operation's slot was empty before. -/
theorem wpAnyH_skip (L : List Nat) (fuel : Nat) {n : Nat} {listed : Array Bool} {a : Act} {w : World} (hn : n = fuel + L.length) (hs : Region.noSelect ops = true) (hQ : ∀ c a d w, Q (.panic c) (Act.put a (some d) undef) w → Q (.panic c) a w) (hQ0 : ∀ c a w, Q (.panic c) (Act.put a none undef) w → Q (.panic c) a w)
    (hok : skipsOk md ops L listed a = true) (ha : skipAct ops L a = a) (hS : S w) (h : wpAnyH P md ops Q S fuel (skipListed L listed) a w) : wpAnyH P md ops Q S n listed a w := by
  subst hn
  exact wpAnyH_skips hs hQ hQ0 L fuel listed a w hok hS (by rw [ha]; exact h)
end
end Go.Proofs.Ytjmciknelkodcaa
