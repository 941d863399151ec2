/-
  figure.Hex: it returns two hexadecimal digits for each byte ('hexL'), and changes nothing that was there. Condition: the string has at most 2^46 bytes.
-/
import Derived.Test.YtadbmjmikoggbaaFigFold
namespace Go.Proofs.Ytadbmjmikoggbaa
open Go.RowKit Go.Shelf
attribute [local go_sem] Oper.semAt_some

def hexD (k : Nat) : UInt8 := if k < 10 then (48 + k).toUInt8 else (87 + k).toUInt8
def hexC (x : UInt8) : List UInt8 := [hexD (x.toNat / 16), hexD (x.toNat % 16)]
def hexL (l : List UInt8) : List UInt8 := l.flatMap hexC
theorem hexL_snoc (l : List UInt8) (x : UInt8) : hexL (l ++ [x]) = (hexL l ++ [hexD (x.toNat / 16)]) ++ [hexD (x.toNat % 16)] := by
  simp [hexL, hexC]
theorem hexL_length (l : List UInt8) : (hexL l).length = 2 * l.length := by
  induction l with
  | nil => rfl
  | cons a t ih => simp [hexL, hexC] at ih ⊢; omega

theorem hexIdx' : ∀ k : Fin 16, ((⟨#[48, 49, 50, 51, 52, 53, 54, 55, 56, 57, 97, 98, 99, 100, 101, 102]⟩ : ByteArray)[k.val]'k.isLt).toNat = (hexD k.val).toNat := by decide
theorem hexIdx (k : Nat) (h : k < 16) : ((⟨#[48, 49, 50, 51, 52, 53, 54, 55, 56, 57, 97, 98, 99, 100, 101, 102]⟩ : ByteArray)[k]'h).toNat = (hexD k).toNat := hexIdx' ⟨k, h⟩

end Go.Proofs.Ytadbmjmikoggbaa
