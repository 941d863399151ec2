/-
  The statement DiskWritten as a walk: it returns true for every input and changes nothing that was there. Condition: the strings have at most 2^47 - 4096 bytes, the numbers are ints.
-/
import Derived.Test.YtcpkbklnlnoonaaDoorDskWrEN
import Derived.Test.YtcpkbklnlnoonaaDoorDskWrEP
import Derived.Test.YtcpkbklnlnoonaaDoorDskWrTN
import Derived.Test.YtcpkbklnlnoonaaDoorDskWrTP
import Derived.Test.YtcpkbklnlnoonaaDoorDskWrLN
import Derived.Test.YtcpkbklnlnoonaaDoorDskWrLP
namespace Go.Proofs.YtcpkbklnlnoonaaDoor
open Go.RowKit

theorem written_any (f : ByteArray) (o : Int) (h1 : -9223372036854775808 ≤ o) (d : ByteArray) (z : Int) (w : World) :
    Calls Tryd.prog 3 #[.string f, .int .i64 o, .string d, .int .i64 z] w fun e w' => e = .returned (.bool true) ∧ Below w.heap.size w w' := by
  by_cases hg : 3000 < f.size ∨ 3000 < d.size ∨ 20000 < o ∨ 20000 < z
  · exact wr_great f o d z w hg
  have hf : f.size ≤ 3000 := by omega
  have hd : d.size ≤ 3000 := by omega
  have ho : o ≤ 20000 := by omega
  have hz : z ≤ 20000 := by omega
  clear hg
  by_cases hn : o < 0
  · exact wr_neg f hf o h1 hn d hd z hz w
  obtain ⟨a, rfl⟩ : ∃ a : Nat, o = (a : Int) := ⟨o.toNat, by omega⟩
  have ha : a ≤ 20000 := by omega
  by_cases hz0 : z < 0
  · by_cases h0 : d.size = 0
    · exact wr_en f hf a ha d hd h0 z hz0 w
    · by_cases ht : a + d.size < f.size + (a - f.size)
      · exact wr_tn f hf a ha d hd h0 ht z hz0 w
      · exact wr_ln f hf a ha d hd h0 ht z hz0 w
  · obtain ⟨y, rfl⟩ : ∃ y : Nat, z = (y : Int) := ⟨z.toNat, by omega⟩
    have hy : y ≤ 20000 := by omega
    by_cases h0 : d.size = 0
    · exact wr_ep f hf a ha d hd h0 y hy w
    · by_cases ht : a + d.size < f.size + (a - f.size)
      · exact wr_tp f hf a ha d hd h0 ht y hy w
      · exact wr_lp f hf a ha d hd h0 ht y hy w
end Go.Proofs.YtcpkbklnlnoonaaDoor
