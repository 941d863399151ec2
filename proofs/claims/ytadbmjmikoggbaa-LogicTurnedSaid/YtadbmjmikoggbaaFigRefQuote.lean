/-
  The document's answers Quote and Unquote of layer 1: each returns its plain function of the bytes ('quoteL', 'unqR') and changes nothing that was there. Condition: the string has at most 30000 bytes.
-/
import Derived.Test.YtadbmjmikoggbaaFigRefFold
namespace Go.Proofs.Ytadbmjmikoggbaa
open Go.RowKit

theorem app_data (a b : ByteArray) : (a ++ b).data.toList = a.data.toList ++ b.data.toList := by simp
theorem app_size (a b : ByteArray) : (a ++ b).size = a.size + b.size := by simp
theorem one_size (x : UInt8) : (⟨#[x]⟩ : ByteArray).size = 1 := rfl
theorem ext_one (s : ByteArray) (k : Nat) (h : k < s.size) : s.extract k (k + 1) = ⟨#[s[k]]⟩ := by
  apply WideShapes.bytes_inj
  rw [Lib.extract_data]
  obtain ⟨⟨l⟩⟩ := s
  have h' : k < l.length := h
  show (l.drop k).take (k + 1 - k) = [l[k]]
  rw [List.drop_eq_getElem_cons h', show k + 1 - k = 1 by omega]
  rfl

theorem und_at {l : List UInt8} {k : Nat} {c : UInt8} (h : l[k]? = some c) : undF (l.take (k + 1)) = undS (undF (l.take k)) c := by
  rw [List.take_add_one, h, Option.toList_some, undF_snoc]
theorem und_bad {l : List UInt8} {r : ByteArray} {e0 : Int} (hr : undR l = (r.data.toList, e0)) (h : undF l = none ∨ ∃ out, undF l = some (true, out)) : r = ⟨#[]⟩ ∧ e0 = 4 := by
  have : undR l = ([], 4) := by
    rcases h with h | ⟨out, h⟩ <;> simp [undR, h]
  rw [this] at hr
  have h1 := congrArg Prod.fst hr
  have h2 := congrArg Prod.snd hr
  exact ⟨WideShapes.bytes_inj h1.symm, h2.symm⟩
theorem und_good {l : List UInt8} {r out : ByteArray} {e0 : Int} (hr : undR l = (r.data.toList, e0)) (h : undF l = some (false, out.data.toList)) : r = out ∧ e0 = 0 := by
  rw [undR, h] at hr
  have h1 := congrArg Prod.fst hr
  have h2 := congrArg Prod.snd hr
  exact ⟨WideShapes.bytes_inj h1.symm, h2.symm⟩
theorem ret_two {a b : ByteArray} {c d : Int} (h : a = b ∧ c = d) : Ending.returned (.tuple #[.string b, .int .i64 d]) = .returned (.tuple #[.string a, .int .i64 c]) := by rw [h.1, h.2]

end Go.Proofs.Ytadbmjmikoggbaa
