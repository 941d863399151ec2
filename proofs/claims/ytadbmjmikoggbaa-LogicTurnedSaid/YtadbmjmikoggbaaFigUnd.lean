/-
  figure.undouble: it returns the bytes with one single quote for each two, or ErrForm where a single quote is not followed by another ('undR'), and changes nothing that was there. Condition: the string is no longer than the model's greatest length.
-/
import Derived.Test.YtadbmjmikoggbaaFigFold
namespace Go.Proofs.Ytadbmjmikoggbaa
open Go.RowKit Go.Shelf
attribute [local go_sem] Oper.semAt_some

/-- One byte more: whether a quote stands open, and what has come out; none: the form is broken. -/
def undS : Option (Bool × List UInt8) → UInt8 → Option (Bool × List UInt8)
  | none, _ => none
  | some (true, out), c => if c = 39 then some (false, out ++ [39]) else none
  | some (false, out), c => if c = 39 then some (true, out) else some (false, out ++ [c])
def undF (l : List UInt8) : Option (Bool × List UInt8) := l.foldl undS (some (false, []))
theorem undF_snoc (l : List UInt8) (c : UInt8) : undF (l ++ [c]) = undS (undF l) c := by simp [undF, List.foldl_append]
theorem undS_none (l : List UInt8) : l.foldl undS none = none := by
  induction l with
  | nil => rfl
  | cons a t ih => exact ih
theorem undF_prefix {a l : List UInt8} (h : a <+: l) (hn : undF a = none) : undF l = none := by
  obtain ⟨t, rfl⟩ := h
  rw [undF, List.foldl_append, show a.foldl undS (some (false, [])) = none from hn, undS_none]
/-- The two results: the bytes and the error's number. -/
def undR (l : List UInt8) : List UInt8 × Int :=
  match undF l with
  | some (false, out) => (out, 0)
  | _ => ([], 4)
theorem undF_length (l : List UInt8) : ∀ op out, undF l = some (op, out) → out.length ≤ l.length := by
  have key : ∀ (l : List UInt8) (op0 : Bool) (out0 : List UInt8) op out, l.foldl undS (some (op0, out0)) = some (op, out) → out.length ≤ out0.length + l.length := by
    intro l
    induction l with
    | nil => intro op0 out0 op out h; simp at h; rw [h.2]; simp
    | cons a t ih =>
      intro op0 out0 op out h
      rw [List.foldl_cons] at h
      cases op0 with
      | true =>
        by_cases e : a = 39
        · rw [show undS (some (true, out0)) a = some (false, out0 ++ [39]) by simp [undS, e]] at h
          have := ih _ _ _ _ h; simp at this ⊢; omega
        · rw [show undS (some (true, out0)) a = none by simp [undS, e], undS_none] at h; cases h
      | false =>
        by_cases e : a = 39
        · rw [show undS (some (false, out0)) a = some (true, out0) by simp [undS, e]] at h
          have := ih _ _ _ _ h; simp at this ⊢; omega
        · rw [show undS (some (false, out0)) a = some (false, out0 ++ [a]) by simp [undS, e]] at h
          have := ih _ _ _ _ h; simp at this ⊢; omega
  intro op out h
  have := key l false [] op out h
  simpa using this

/-- Where a variable's box is written, the builder stays. -/
theorem builderAt_box {T e : TypeId} {B b j : Nat} {p : Value} {bs : List Value} {W : World} {t : TypeId} {v : Value} (u : Value) (h : Lib.BuilderAtF T e B b p bs W) (hj : Boxed W j t v) (ht : t ≠ e) (hjb : j ≠ b) : Lib.BuilderAtF T e B b p bs (W.setCell ⟨j, 0, none⟩ u) := by
  obtain ⟨hB, v', hb, hown, hne⟩ := h
  refine ⟨hB, v', (Below.heap_setCell W ⟨j, 0, none⟩ u b (fun e => hjb e.symm)).trans hb, hown.kept (grownBy_setCell' W j u) ?_, hne⟩
  cases hv : v'.ownBlock with
  | none => exact .inl rfl
  | some g =>
    refine .inr fun e1 => ?_
    obtain rfl := Option.some.inj e1
    obtain ⟨c, fz, hcc⟩ := Lib.ownsRowF_kind hown g hv
    rw [show W.heap[g]? = _ from hj] at hcc
    cases hcc; exact ht rfl
theorem builder_box {T e : TypeId} {B b j : Nat} {bs : List Value} {W : World} {t : TypeId} {v : Value} (u : Value) (h : Lib.IsBuilderF T e B b bs W) (hj : Boxed W j t v) (ht : t ≠ e) (hjb : j ≠ b) : Lib.IsBuilderF T e B b bs (W.setCell ⟨j, 0, none⟩ u) :=
  h.elim (fun x => .inl (builderAt_box u x hj ht hjb)) (fun x => .inr (builderAt_box u x hj ht hjb))
theorem boxed_others {W W' : World} {c j : Nat} {t : TypeId} {v : Value} (hj : Boxed W j t v) (h : Lib.OthersKept 5 (some c) W W') (hne : j ≠ c) (ht : t ≠ 5) : Boxed W' j t v :=
  h j _ hj (fun e => hne (Option.some.inj e)) (fun _ _ e => by cases e; exact ht rfl)

/-- What undouble's own cells hold between two rounds. -/
def UndI (w : World) (op : Bool) (out : List UInt8) (W : World) : Prop :=
  Boxed W w.heap.size 9 (.string ⟨#[]⟩) ∧ Boxed W (w.heap.size + 1) 24 (.int .i64 0) ∧ Lib.IsBuilderF 67 5 w.heap.size (w.heap.size + 1 + 1) (Lib.byteCells out) W ∧ Boxed W (w.heap.size + 1 + 1 + 1) 4 (.bool op)
theorem undI_own (w : World) (op : Bool) (out : List UInt8) : Own (fun (_ : Unit) W => UndI w op out W) := fun s A B row hs hg hr =>
  ⟨boxed_own _ _ (fun _ : Unit => _) s A B row hs.1 hg hr, boxed_own _ _ (fun _ : Unit => _) s A B row hs.2.1 hg hr, builder_own (fun _ : Unit => _) s A B row hs.2.2.1 hg hr, boxed_own _ _ (fun _ : Unit => _) s A B row hs.2.2.2 hg hr⟩

/-- A round that has written its byte. -/
theorem und_wrote {w W W1 : World} {op : Bool} {out : List UInt8} {s : ByteArray} {x : UInt8} {B0 : Nat} (hI : UndI w op out W) (hB : Below w.heap.size w W)
    (h1 : Lib.BuilderAtF 67 5 w.heap.size (w.heap.size + 1 + 1) (.pointer (some ⟨w.heap.size + 1 + 1, 0, none⟩)) (Lib.byteCells out ++ [.int .u8 x.toNat]) W1)
    (b1 : Below w.heap.size (W.setCell ⟨w.heap.size + 1 + 1 + 1, 0, none⟩ (.bool false)) W1) (k1 : Lib.OthersKept 5 (some (w.heap.size + 1 + 1)) (W.setCell ⟨w.heap.size + 1 + 1 + 1, 0, none⟩ (.bool false)) W1) :
    KeepsFrom B0 W W1 ∧ KeepC (w.heap.size + 1 + 1 + 1 + 1) s W W1 ∧ UndI w false (out ++ [x]) W1 ∧ Below w.heap.size w W1 := by
  obtain ⟨x0, x1, x2, x3⟩ := hI
  obtain ⟨o, ho1, ho2⟩ := builder_block (builder_box (.bool false) x2 x3 (by decide) (by omega))
  refine ⟨((KeepsOthers.setCell W ⟨w.heap.size + 1 + 1 + 1, 0, none⟩ (.bool false)).from B0).trans (keepsFrom_others k1 b1 ho1 ho2), keepC_t (keepC_setCell _ _ _ (by simp)) (keepC_others k1 (by omega)),
    ⟨boxed_others (x0.other (by omega) _) k1 (by omega) (by decide), boxed_others (x1.other (by omega) _) k1 (by omega) (by decide), ?_, boxed_others (x3.set (.bool false)) k1 (by omega) (by decide)⟩, (hB.setCell (p := ⟨w.heap.size + 1 + 1 + 1, 0, none⟩) (by simp; omega) _).trans b1⟩
  rw [byteCells_snoc]; exact Or.inr h1

end Go.Proofs.Ytadbmjmikoggbaa
