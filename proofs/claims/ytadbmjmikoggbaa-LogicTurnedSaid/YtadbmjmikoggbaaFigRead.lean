/-
  figure.Read: it returns the number that decimal digits denote, or the error that the chapter names ('readR'), and changes nothing that was there. Condition: the string is no longer than the model's greatest length.
-/
import Derived.Test.YtadbmjmikoggbaaFigUnd
import Derived.Test.YtadbmjmikoggbaaFigName
namespace Go.Proofs.Ytadbmjmikoggbaa
open Go.RowKit Go.Shelf
attribute [local go_sem] Oper.semAt_some

def maxI : Int := 9223372036854775807
/-- One digit more: the number so far, and whether it has grown too great; none: a byte is no digit. -/
def readS : Option (Int × Bool) → UInt8 → Option (Int × Bool)
  | none, _ => none
  | some (n, over), c => if isDigB c.toNat = true then (if over = true ∨ (maxI - ((c.toNat : Int) - 48)) / 10 < n then some (n, true) else some (n * 10 + ((c.toNat : Int) - 48), false)) else none
def readF (l : List UInt8) : Option (Int × Bool) := l.foldl readS (some (0, false))
theorem readF_snoc (l : List UInt8) (c : UInt8) : readF (l ++ [c]) = readS (readF l) c := by simp [readF, List.foldl_append]
theorem readS_none (l : List UInt8) : l.foldl readS none = none := by
  induction l with
  | nil => rfl
  | cons a t ih => exact ih
theorem readF_prefix {a l : List UInt8} (h : a <+: l) (hn : readF a = none) : readF l = none := by
  obtain ⟨t, rfl⟩ := h
  rw [readF, List.foldl_append, show a.foldl readS (some (0, false)) = none from hn, readS_none]
theorem isDig_bd {c : Int} (h : isDigB c = true) : 48 ≤ c ∧ c ≤ 57 := of_decide_eq_true h
theorem readF_inv (l : List UInt8) : ∀ n o, readF l = some (n, o) → 0 ≤ n ∧ n ≤ maxI := by
  have key : ∀ (l : List UInt8) (n0 : Int) (o0 : Bool), 0 ≤ n0 ∧ n0 ≤ maxI → ∀ n o, l.foldl readS (some (n0, o0)) = some (n, o) → 0 ≤ n ∧ n ≤ maxI := by
    intro l
    induction l with
    | nil => intro n0 o0 hb n o e; simp at e; obtain ⟨rfl, rfl⟩ := e; exact hb
    | cons a t ih =>
      intro n0 o0 hb n o e
      rw [List.foldl_cons] at e
      by_cases hd : isDigB a.toNat = true
      · have hd' := isDig_bd hd
        by_cases ho : o0 = true ∨ (maxI - ((a.toNat : Int) - 48)) / 10 < n0
        · rw [show readS (some (n0, o0)) a = some (n0, true) by simp only [readS, if_pos hd, if_pos ho]] at e
          exact ih _ _ hb _ _ e
        · rw [show readS (some (n0, o0)) a = some (n0 * 10 + ((a.toNat : Int) - 48), false) by simp only [readS, if_pos hd, if_neg ho]] at e
          refine ih _ _ ?_ _ _ e
          have : ¬ (maxI - ((a.toNat : Int) - 48)) / 10 < n0 := fun h => ho (.inr h)
          unfold maxI at *
          omega
      · rw [show readS (some (n0, o0)) a = none by simp only [readS, if_neg hd], readS_none] at e; cases e
  intro n o e
  exact key l 0 false (by unfold maxI; omega) n o e
/-- The two results. -/
def readR (l : List UInt8) : Int × Int :=
  if l = [] then (0, 1) else match readF l with
    | some (n, false) => (n, 0)
    | some (_, true) => (0, 15)
    | none => (0, 4)

/-- What Read's own cells hold between two rounds. -/
def ReadI (w : World) (n : Int) (over : Bool) (W : World) : Prop :=
  Boxed W w.heap.size 3 (.int .i64 0) ∧ Boxed W (w.heap.size + 1) 24 (.int .i64 0) ∧ Boxed W (w.heap.size + 1 + 1) 3 (.int .i64 n) ∧ Boxed W (w.heap.size + 1 + 1 + 1) 4 (.bool over)
theorem readI_own (w : World) (n : Int) (over : Bool) : Own (fun (_ : Unit) W => ReadI w n over W) := fun s A B row hs hg hr =>
  ⟨boxed_own _ _ (fun _ : Unit => _) s A B row hs.1 hg hr, boxed_own _ _ (fun _ : Unit => _) s A B row hs.2.1 hg hr, boxed_own _ _ (fun _ : Unit => _) s A B row hs.2.2.1 hg hr, boxed_own _ _ (fun _ : Unit => _) s A B row hs.2.2.2 hg hr⟩

end Go.Proofs.Ytadbmjmikoggbaa
