/-
  The document's answer Read of layer 1: it returns the number or the error ('readR') and changes nothing that was there. Condition: the string has at most 30000 bytes.
-/
import Derived.Test.YtadbmjmikoggbaaFigRefQuote
namespace Go.Proofs.Ytadbmjmikoggbaa
open Go.RowKit

def digs (l : List UInt8) : Bool := l.all fun x => isDigB x.toNat
theorem digs_take (s : ByteArray) (k : Nat) (h : k < s.size) : digs (s.data.toList.take (k + 1)) = (digs (s.data.toList.take k) && isDigB (s[k]).toNat) := by
  simp only [digs]; rw [take_snoc s k h, List.all_append]; simp
theorem read_nodig (l : List UInt8) : ∀ n o, digs l = false → l.foldl readS (some (n, o)) = none := by
  induction l with
  | nil => intro n o h; simp [digs] at h
  | cons a t ih =>
    intro n o h
    rw [List.foldl_cons]
    cases hd : isDigB a.toNat with
    | false => rw [show readS (some (n, o)) a = none by simp [readS, hd], readS_none]
    | true =>
      have ht : digs t = false := by simp only [digs, List.all_cons, hd, Bool.true_and] at h; exact h
      by_cases ho : o = true ∨ (maxI - ((a.toNat : Int) - 48)) / 10 < n
      · rw [show readS (some (n, o)) a = some (n, true) by simp only [readS, if_pos hd, if_pos ho]]; exact ih _ _ ht
      · rw [show readS (some (n, o)) a = some (n * 10 + ((a.toNat : Int) - 48), false) by simp only [readS, if_pos hd, if_neg ho]]; exact ih _ _ ht
theorem read_over (l : List UInt8) : ∀ n, digs l = true → l.foldl readS (some (n, true)) = some (n, true) := by
  induction l with
  | nil => intro n _; rfl
  | cons a t ih =>
    intro n h
    simp only [digs, List.all_cons, Bool.and_eq_true] at h
    rw [List.foldl_cons, show readS (some (n, true)) a = some (n, true) by simp [readS, h.1]]
    exact ih n h.2
theorem readF_over {l a b : List UInt8} {n : Int} (hl : l = a ++ b) (h : readF a = some (n, true)) (hd : digs b = true) : readF l = some (n, true) := by
  rw [hl, readF, List.foldl_append, show a.foldl readS (some (0, false)) = _ from h, read_over b n hd]
theorem readF_take (s : ByteArray) (k : Nat) (h : k < s.size) : readF (s.data.toList.take (k + 1)) = readS (readF (s.data.toList.take k)) s[k] := by
  rw [take_snoc s k h, readF_snoc]
theorem ret_ii {a b c d : Int} (h : (a, c) = (b, d)) : Ending.returned (.tuple #[.int .i64 a, .int .i64 c]) = .returned (.tuple #[.int .i64 b, .int .i64 d]) := by
  cases h; rfl

end Go.Proofs.Ytadbmjmikoggbaa
