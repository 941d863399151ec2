/-
  The document's answer Get of layer 2 returns 'getR' of the bytes and changes nothing that was there. Condition: the string has at most 2^63 - 1 bytes.
-/
import Derived.Test.YtjmciknelkodcaaVarRef
import Derived.Lib.Strings
namespace Go.Proofs.Ytjmciknelkodcaa
open Go.RowKit

theorem ext_data (s : ByteArray) (k : Nat) : (s.extract 0 k).data.toList = s.data.toList.take k := by
  rw [Lib.extract_data]; simp

theorem res_bad {s : ByteArray} {sc r : Nat × Nat × Int} {m k : Nat} (hr : r = if sc.2.2 = 0 then (if sc.2.1 = lenN sc.1 then sc else (0, 0, 4)) else (0, 0, 1)) (hk : sc = (m, k, 0))
    (hp : putL m = s.data.toList.take k ↔ k = lenN m) (ht : (!putL m == (s.extract 0 k).toList) = true) : r = (0, 0, 4) := by
  rw [Lib.extract_toList, List.drop_zero, Nat.sub_zero] at ht
  have hn : ¬ k = lenN m := fun e => by rw [hp.2 e] at ht; simp at ht
  rw [hr, hk, if_pos rfl, if_neg hn]
theorem res_good {s : ByteArray} {sc r : Nat × Nat × Int} {m k : Nat} (hr : r = if sc.2.2 = 0 then (if sc.2.1 = lenN sc.1 then sc else (0, 0, 4)) else (0, 0, 1)) (hk : sc = (m, k, 0))
    (hp : putL m = s.data.toList.take k ↔ k = lenN m) (ht : (!putL m == (s.extract 0 k).toList) = false) : r = (m, k, 0) := by
  rw [Lib.extract_toList, List.drop_zero, Nat.sub_zero] at ht
  have hn : k = lenN m := hp.1 (by simpa using ht)
  rw [hr, hk, if_pos rfl, if_pos hn]
theorem res_none {sc r : Nat × Nat × Int} (hr : r = if sc.2.2 = 0 then (if sc.2.1 = lenN sc.1 then sc else (0, 0, 4)) else (0, 0, 1)) (hk : sc = (0, 0, 1)) : r = (0, 0, 1) := by
  rw [hr, hk, if_neg (by decide)]
theorem ret_r {a b c : Int} {r : Nat × Nat × Int} {m k : Nat} {e : Int} (hr : r = (m, k, e)) (h1 : a = (m : Int)) (h2 : b = (k : Int)) (h3 : c = e) :
    Ending.returned (.tuple #[.int .u64 a, .int .i64 b, .int .i64 c]) = .returned (.tuple #[.int .u64 r.1, .int .i64 r.2.1, .int .i64 r.2.2]) := by rw [hr, h1, h2, h3]
theorem below_of_drew {w w1 : World} (h : Below w.drew.heap.size w.drew w1) : Below w.heap.size w w1 := (Below.refl _ w).drew.trans h

end Go.Proofs.Ytjmciknelkodcaa
