/-
  The document's answers sign, worth, Hex and Unhex of layer 1: each returns its plain function of the bytes and changes nothing that was there. Condition: the string has at most 30000 bytes.
-/
import Derived.Test.YtadbmjmikoggbaaFigRefRead
import Derived.Deep.RegionWith
import Derived.IntWalk
namespace Go.Proofs.Ytadbmjmikoggbaa
open Go.RowKit

theorem one_str (w : World) (c : Int) (x : UInt8) (hx : (x.toNat : Int) = c) :
    (convert 65 9 (.slice (some ⟨w.heap.size, 0, none⟩) 1 1)).run Try.prog (w.alloc (.cells #[.int .u8 c] 5)) = .ok (.string ⟨#[x]⟩) (w.alloc (.cells #[.int .u8 c] 5)) := by
  have := run_convert_bytes_back (P := Try.prog) (w.alloc (.cells #[.int .u8 c] 5)) 65 9 5 ⟨w.heap.size, 0, none⟩ 1 [x] Try.underlying65 Try.underlying5 Try.underlying9 (fun j hj => by
    obtain rfl : j = 0 := by simp at hj; omega
    rw [Addr.add_lit, (new1 w (.int .u8 c) 5).1]
    simp [hx])
  exact this
theorem hexD_lo (d : Int) (h0 : 0 ≤ d) (h1 : d < 10) : ((hexD d.toNat).toNat : Int) = 48 + d := by
  have : ∀ k : Fin 10, ((hexD k.val).toNat : Int) = 48 + (k.val : Int) := by decide
  have := this ⟨d.toNat, by omega⟩
  rw [this]; simp; omega
theorem hexD_hi (d : Int) (h0 : 10 ≤ d) (h1 : d < 16) : ((hexD d.toNat).toNat : Int) = 87 + d := by
  have : ∀ k : Fin 16, 10 ≤ k.val → ((hexD k.val).toNat : Int) = 87 + (k.val : Int) := by decide
  have := this ⟨d.toNat, by omega⟩ (by simp; omega)
  rw [this]; simp; omega

theorem hex_take (s : ByteArray) (k : Nat) (h : k < s.size) : hexL (s.data.toList.take (k + 1)) = (hexL (s.data.toList.take k) ++ [hexD ((s[k]).toNat / 16)]) ++ [hexD ((s[k]).toNat % 16)] := by
  rw [take_snoc s k h, hexL_snoc]

end Go.Proofs.Ytadbmjmikoggbaa
