/-
  Layer 7, settle on the abstract state: the state behind each round, and behind the whole. No program text is walked here.
-/
import Derived.Test.YtcpkbklnlnoonaaDoorDskRow
namespace Go.Proofs.YtcpkbklnlnoonaaDoor
open Go.RowKit

def stepP (p : Chg → Bool) (S : DS) (c : Chg) : DS := if p c = true then applyS true c S else S
def keptL (p : Chg → Bool) (l : List Chg) : List Chg := l.filter fun c => !p c
def foldP (p : Chg → Bool) (S : DS) (l : List Chg) : DS := l.foldl (stepP p) S
def midS (p : Chg → Bool) (S : DS) (i : Nat) : DS := { foldP p S (S.pend.take i) with pend := keptL p (S.pend.take i) ++ S.pend.drop (keptL p (S.pend.take i)).length }
def settleS (p : Chg → Bool) (S : DS) : DS := { foldP p S S.pend with pend := keptL p S.pend }

theorem applyS_with (s : Bool) (c : Chg) (S : DS) (x : List Chg) : applyS s c { S with pend := x } = { applyS s c S with pend := x } := by cases c <;> rfl
theorem stepP_nf (p : Chg → Bool) (S : DS) (c : Chg) : (stepP p S c).nf = S.nf := by
  unfold stepP
  split
  · exact applyS_nf _ _ _
  · rfl
theorem foldP_nf (p : Chg → Bool) (S : DS) (l : List Chg) : (foldP p S l).nf = S.nf := by
  induction l generalizing S with
  | nil => rfl
  | cons c l ih => exact (ih (stepP p S c)).trans (stepP_nf p S c)
theorem foldP_snoc (p : Chg → Bool) (S : DS) (l : List Chg) (c : Chg) : foldP p S (l ++ [c]) = stepP p (foldP p S l) c := by unfold foldP; rw [List.foldl_append]; rfl
theorem keptL_snoc (p : Chg → Bool) (l : List Chg) (c : Chg) : keptL p (l ++ [c]) = keptL p l ++ (if p c = true then [] else [c]) := by
  unfold keptL
  rw [List.filter_append]
  congr 1
  cases h : p c <;> simp [h]
theorem keptL_le (p : Chg → Bool) (l : List Chg) : (keptL p l).length ≤ l.length := List.length_filter_le _ _
theorem keptL_mem {p : Chg → Bool} {l : List Chg} {c : Chg} (h : c ∈ keptL p l) : c ∈ l := (List.mem_filter.1 h).1
theorem keptL_take (p : Chg → Bool) (l : List Chg) (i : Nat) : (keptL p (l.take i)).length ≤ i := Nat.le_trans (keptL_le _ _) (by rw [List.length_take]; omega)
theorem midS_zero (p : Chg → Bool) (S : DS) : midS p S 0 = S := by unfold midS; rfl
theorem midS_pend (p : Chg → Bool) (S : DS) (i : Nat) (hi : i ≤ S.pend.length) : (midS p S i).pend.length = S.pend.length := by
  have := keptL_take p S.pend i
  have e : (midS p S i).pend = keptL p (S.pend.take i) ++ S.pend.drop (keptL p (S.pend.take i)).length := rfl
  rw [e, List.length_append, List.length_drop]; omega
theorem midS_at (p : Chg → Bool) (S : DS) (i : Nat) (hi : i < S.pend.length) (h : i < (midS p S i).pend.length) : (midS p S i).pend[i] = S.pend[i] := by
  have hk := keptL_take p S.pend i
  have e : (midS p S i).pend = keptL p (S.pend.take i) ++ S.pend.drop (keptL p (S.pend.take i)).length := rfl
  simp only [e]
  rw [List.getElem_append_right hk, List.getElem_drop]
  congr 1
  omega
theorem midS_nf (p : Chg → Bool) (S : DS) (i : Nat) : (midS p S i).nf = S.nf := foldP_nf p S _
theorem take_snoc {α : Type} (l : List α) (i : Nat) (hi : i < l.length) : l.take (i + 1) = l.take i ++ [l[i]] := by rw [List.take_add_one, List.getElem?_eq_getElem hi]; rfl
theorem midS_true (p : Chg → Bool) (S : DS) (i : Nat) (hi : i < S.pend.length) (hp : p S.pend[i] = true) : midS p S (i + 1) = applyS true S.pend[i] (midS p S i) ∧ keptL p (S.pend.take (i + 1)) = keptL p (S.pend.take i) := by
  have e : keptL p (S.pend.take (i + 1)) = keptL p (S.pend.take i) := by rw [take_snoc _ _ hi, keptL_snoc, if_pos hp, List.append_nil]
  refine ⟨?_, e⟩
  unfold midS
  rw [e, take_snoc _ _ hi, foldP_snoc, applyS_with]
  simp only [stepP, if_pos hp]
theorem midS_false (p : Chg → Bool) (S : DS) (i : Nat) (hi : i < S.pend.length) (hp : p S.pend[i] = false) :
    midS p S (i + 1) = { midS p S i with pend := (midS p S i).pend.take (keptL p (S.pend.take i)).length ++ S.pend[i] :: (midS p S i).pend.drop ((keptL p (S.pend.take i)).length + 1) } ∧ (keptL p (S.pend.take (i + 1))).length = (keptL p (S.pend.take i)).length + 1 := by
  have hn : ¬ p S.pend[i] = true := by rw [hp]; simp
  have e : keptL p (S.pend.take (i + 1)) = keptL p (S.pend.take i) ++ [S.pend[i]] := by rw [take_snoc _ _ hi, keptL_snoc, if_neg hn]
  refine ⟨?_, by rw [e]; simp⟩
  unfold midS
  rw [e, take_snoc _ _ hi, foldP_snoc]
  simp only [stepP, if_neg hn]
  congr 1
  rw [List.length_append, List.length_singleton, List.take_left, List.drop_length_add_append, List.drop_drop, List.append_assoc]
  rfl
theorem midS_end (p : Chg → Bool) (S : DS) : settleS p S = { midS p S S.pend.length with pend := keptL p S.pend } := by
  unfold settleS midS
  rw [List.take_length]
end Go.Proofs.YtcpkbklnlnoonaaDoor
