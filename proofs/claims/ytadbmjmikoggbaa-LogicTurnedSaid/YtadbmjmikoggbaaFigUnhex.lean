/-
  figure.Unhex: it returns the bytes that hexadecimal digits denote, or the error that the chapter names ('unhR'), and changes nothing that was there. Condition: the string is no longer than the model's greatest length.
-/
import Derived.Test.YtadbmjmikoggbaaFigUnd
import Derived.Lib.Bytealg
namespace Go.Proofs.Ytadbmjmikoggbaa
open Go.RowKit Go.Shelf
attribute [local go_sem] Oper.semAt_some

def hexDigs : ByteArray := ⟨#[48, 49, 50, 51, 52, 53, 54, 55, 56, 57, 97, 98, 99, 100, 101, 102]⟩
/-- What a digit is worth; -1: it is none. -/
def hv (x : UInt8) : Int := Lib.indexByte hexDigs.data.toList (lowU x)
theorem hv_bd' : ∀ k : Fin 256, -1 ≤ hv (UInt8.ofNat k.val) ∧ hv (UInt8.ofNat k.val) < 16 := by decide +kernel
theorem hv_bd (x : UInt8) : -1 ≤ hv x ∧ hv x < 16 := by
  have := hv_bd' ⟨x.toNat, x.toNat_lt⟩
  simpa using this

/-- One digit more: the half that stands open, and what has come out; none: a byte is no digit. -/
def unhS : Option (Int × Bool × List UInt8) → UInt8 → Option (Int × Bool × List UInt8)
  | none, _ => none
  | some (high, half, out), c => if hv c < 0 then none else some (hv c, !half, if half then out ++ [(high * 16 + hv c).toNat.toUInt8] else out)
def unhF (l : List UInt8) : Option (Int × Bool × List UInt8) := l.foldl unhS (some (0, false, []))
theorem unhF_snoc (l : List UInt8) (c : UInt8) : unhF (l ++ [c]) = unhS (unhF l) c := by simp [unhF, List.foldl_append]
theorem unhS_none (l : List UInt8) : l.foldl unhS none = none := by
  induction l with
  | nil => rfl
  | cons a t ih => exact ih
theorem unhF_prefix {a l : List UInt8} (h : a <+: l) (hn : unhF a = none) : unhF l = none := by
  obtain ⟨t, rfl⟩ := h
  rw [unhF, List.foldl_append, show a.foldl unhS (some (0, false, [])) = none from hn, unhS_none]
theorem unhF_inv (l : List UInt8) : ∀ h b out, unhF l = some (h, b, out) → out.length ≤ l.length ∧ 0 ≤ h ∧ h < 16 := by
  have key : ∀ (l : List UInt8) (h0 : Int) (b0 : Bool) (out0 : List UInt8), 0 ≤ h0 ∧ h0 < 16 → ∀ h b out, l.foldl unhS (some (h0, b0, out0)) = some (h, b, out) → out.length ≤ out0.length + l.length ∧ 0 ≤ h ∧ h < 16 := by
    intro l
    induction l with
    | nil => intro h0 b0 out0 hb h b out e; simp at e; obtain ⟨rfl, rfl, rfl⟩ := e; exact ⟨by simp, hb⟩
    | cons a t ih =>
      intro h0 b0 out0 hb h b out e
      rw [List.foldl_cons] at e
      by_cases hh : hv a < 0
      · rw [show unhS (some (h0, b0, out0)) a = none by simp [unhS, hh], unhS_none] at e; cases e
      · rw [show unhS (some (h0, b0, out0)) a = some (hv a, !b0, if b0 then out0 ++ [(h0 * 16 + hv a).toNat.toUInt8] else out0) by simp [unhS, hh]] at e
        have hb' := hv_bd a
        have := ih _ _ _ ⟨by omega, by omega⟩ _ _ _ e
        refine ⟨?_, this.2⟩
        have h1 := this.1
        split at h1 <;> simp at h1 ⊢ <;> omega
  intro h b out e
  have := key l 0 false [] (by omega) h b out e
  simpa using this
/-- The two results. -/
def unhR (l : List UInt8) : List UInt8 × Int :=
  if l.length % 2 = 0 then match unhF l with
    | some (_, _, out) => (out, 0)
    | none => ([], 4)
  else ([], 1)

/-- What Unhex's own cells hold between two rounds. -/
def UnhI (w : World) (high : Int) (half : Bool) (out : List UInt8) (W : World) : Prop :=
  Boxed W w.heap.size 9 (.string ⟨#[]⟩) ∧ Boxed W (w.heap.size + 1) 24 (.int .i64 0) ∧ Lib.IsBuilderF 67 5 w.heap.size (w.heap.size + 1 + 1) (Lib.byteCells out) W ∧ Boxed W (w.heap.size + 1 + 1 + 1) 3 (.int .i64 high) ∧ Boxed W (w.heap.size + 1 + 1 + 1 + 1) 4 (.bool half)
theorem unhI_drew {w : World} {high : Int} {half : Bool} {out : List UInt8} {W : World} (h : UnhI w high half out W) : UnhI w high half out W.drew := h
theorem keepsFrom_drew {B : Nat} {W W' : World} (h : KeepsFrom B W W') : KeepsFrom B W W'.drew := ⟨h.size, h.same⟩
theorem keepC_drew {b : Nat} {s : ByteArray} {W W' : World} (h : KeepC b s W W') : KeepC b s W W'.drew := h
theorem or_hex' : ∀ a b : Fin 16, bits BinOp.or IntKind.i64 ((a.val : Int) * 16) (b.val : Int) % 256 = (a.val : Int) * 16 + (b.val : Int) := by decide +kernel
theorem or_hex (a b : Int) (ha : 0 ≤ a ∧ a < 16) (hb : 0 ≤ b ∧ b < 16) : bits BinOp.or IntKind.i64 (a * 16) b % 256 = a * 16 + b := by
  obtain ⟨a', rfl⟩ := Int.eq_ofNat_of_zero_le ha.1
  obtain ⟨b', rfl⟩ := Int.eq_ofNat_of_zero_le hb.1
  exact or_hex' ⟨a', by omega⟩ ⟨b', by omega⟩
theorem unhI_own (w : World) (high : Int) (half : Bool) (out : List UInt8) : Own (fun (_ : Unit) W => UnhI w high half out W) := fun s A B row hs hg hr =>
  ⟨boxed_own _ _ (fun _ : Unit => _) s A B row hs.1 hg hr, boxed_own _ _ (fun _ : Unit => _) s A B row hs.2.1 hg hr, builder_own (fun _ : Unit => _) s A B row hs.2.2.1 hg hr, boxed_own _ _ (fun _ : Unit => _) s A B row hs.2.2.2.1 hg hr, boxed_own _ _ (fun _ : Unit => _) s A B row hs.2.2.2.2 hg hr⟩

end Go.Proofs.Ytadbmjmikoggbaa
