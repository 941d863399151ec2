/-
  The iterator bytesOf of layer 1: it hands out the bytes of the string one by one, in order, to whatever loop body keeps the cell in which the string lies; all of them, or a beginning of them where the body stops. Condition: the string is no longer than the model's greatest length.
-/
import Derived.Test.YtadbmjmikoggbaaFigLeaf
import Derived.RangeFuncNested
import Derived.RangeFuncBound
import Derived.RangeFuncCalls
import Derived.RangeFuncLeaves
import Derived.Shelf.Abstract
import Derived.Shelf.RegionOpen
import Derived.WalkKit
import Derived.OwnWalkIn
import Derived.TacticsInMore
import Derived.LoopNIn
import Derived.LoopIn
namespace Go.Proofs.Ytadbmjmikoggbaa
open Go.RowKit Go.Shelf
attribute [local go_sem] Oper.semAt_some

/-- What a round keeps: the block in which the iterator's string lies. -/
def boxOf (s : ByteArray) : Obj := .cells #[.string s] 9 (0, 0)
def KeepC (b : Nat) (s : ByteArray) (W W' : World) : Prop := W.heap[b]? = some (boxOf s) → W'.heap[b]? = some (boxOf s)
theorem keepC_t {b : Nat} {s : ByteArray} {A B C : World} (h : KeepC b s A B) (k : KeepC b s B C) : KeepC b s A C := fun x => k (h x)
theorem keepC_b {b : Nat} {s : ByteArray} {w : World} (W : World) (l : Nat) (o o' : Obj) (_ : w.heap.size ≤ l) (h : W.heap[l]? = some o) (hc : o.isCells = false) (_ : o.isWalk = false) : KeepC b s W (W.putObj l o') := fun x =>
  (World.putObj_heap_other (fun e => by subst e; rw [h] at x; cases x; cases hc)).trans x
theorem keepC_refl {b : Nat} {s : ByteArray} (W : World) : KeepC b s W W := fun e => e
theorem keepC_setCell {b : Nat} {s : ByteArray} (W : World) (a : Addr) (x : Value) (h : a.block ≠ b) : KeepC b s W (W.setCell a x) := fun e =>
  (Below.heap_setCell W a x b (fun h' => h h'.symm)).trans e
theorem keepC_others {b c : Nat} {s : ByteArray} {W W' : World} (h : Lib.OthersKept 5 (some c) W W') (hne : b ≠ c) : KeepC b s W W' := fun e =>
  h b _ e (fun e' => hne (Option.some.inj e')) (fun _ _ e' => by cases e')
theorem box_cell {W : World} {b : Nat} {s : ByteArray} (h : W.heap[b]? = some (boxOf s)) : W.cell? ⟨b, 0, none⟩ = some (.string s) := by
  simp [World.cell?, h, boxOf]

theorem take_snoc (s : ByteArray) (k : Nat) (h : k < s.size) : s.data.toList.take (k + 1) = s.data.toList.take k ++ [s[k]] := by
  rw [List.take_succ_eq_append_getElem (by simpa using h)]; rfl

set_option maxRecDepth 100000 in
set_option maxHeartbeats 2000000 in
theorem bytes1_in (n : Nat) (hn : 1 ≤ n) (l b : Nat) (s : ByteArray) (hs : s.size ≤ 140737488351232) (J Jx : List UInt8 → World → Prop)
    (hY : ∀ pre x W, J pre W → pre.length < s.size → YieldAt Fence.wide (n - 1) Try.prog l #[.int .u8 (x : UInt8).toNat] W fun e W' =>
      (e = .returned (.bool true) ∧ J (pre ++ [x]) W' ∧ KeepC b s W W') ∨ (e = .returned (.bool false) ∧ Jx (pre ++ [x]) W'))
    (W : World) (hB : W.heap[b]? = some (boxOf s)) (h0 : J [] W) :
    CallsIn Fence.wide n Try.prog 64 #[.func (.yield l) #[] #[], .pointer (some ⟨b, 0, none⟩)] W fun e W' => (∃ v, e = .returned v) ∧
      ((∃ ys, ys = s.data.toList ∧ J ys W') ∨ (∃ pre, pre <+: s.data.toList ∧ Jx pre W')) := by
  have hb := box_cell hB
  have HB := Lib.hid hB; clear hB
  refine callsIn_of_wp Try.func64 rfl trivial ?_ rfl
  simp only [Try.ntmps64, List.size_toArray, List.length_cons, List.length_nil, Nat.reduceAdd, Nat.reduceSub, Array.replicate_succ, Array.replicate_zero, List.push_toArray, List.append_toArray, List.nil_append, List.cons_append]
  gi_wp2
  gi_loopw [6] (fun i wr => ∃ k : Nat, k ≤ s.size ∧ i = .int .i64 k ∧ J (s.data.toList.take k) wr ∧ Hid (wr.heap[b]? = some (boxOf s)))
    (fun i _ => s.size - (intOf i).toNat)
  case atStart => exact ⟨0, Nat.zero_le _, rfl, h0, HB⟩
  case round =>
    obtain ⟨k, hk, rfl, hJs, HX⟩ := hrel
    have hcx := box_cell HX.out
    by_cases hlt : k < s.size
    · obtain ⟨fn, tmps, assign, body, hy, hR⟩ := hY _ s[k] wr hJs (by simp; omega)
      have hR' := Lib.hid hR; clear hR
      gi_wp2
      refine hR'.out.mono ?_
      rintro e W3 (⟨rfl, hJ3, hk3⟩ | ⟨rfl, hJx3⟩)
      · have hc3 := Lib.hid (hk3 HX.out)
        have hc4 := box_cell hc3.out
        gi_wp2
        go_roundw
        case rel => exact ⟨k + 1, by omega, by simp, by rw [take_snoc s k hlt]; exact hJ3, hc3⟩
        case measure => simp [intOf]; omega
      · gi_wp2
        refine bodyPost_ret (results_none rfl _ _ _) rfl ?_
        exact ⟨⟨_, rfl⟩, .inr ⟨_, by rw [← take_snoc s k hlt]; exact List.take_prefix _ _, hJx3⟩⟩
    · obtain rfl : k = s.size := by omega
      gi_wp2
      go_end0
      exact ⟨⟨_, rfl⟩, .inl ⟨_, List.take_of_length_le (by simp), hJs⟩⟩

theorem bytes_stops (n : Nat) (hn : 1 ≤ n) (b : Nat) (s : ByteArray) (hs : s.size ≤ 140737488351232) (w : World) (hb : w.heap[b]? = some (boxOf s)) :
    SeqStopsK Fence.wide n Try.prog 64 #[.pointer (some ⟨b, 0, none⟩)] (fun x : UInt8 => #[Value.int .u8 x.toNat]) (KeepC b s) (fun ys => ys = s.data.toList) (fun pre => pre <+: s.data.toList) s.size w := fun l J Jx W hW _ _ hY h0 =>
  bytes1_in n hn l b s hs J Jx hY W ((hW.block b (Array.getElem?_eq_some_iff.1 hb).1).trans hb) h0

theorem bytesOf_in (n : Nat) (s : ByteArray) (w : World) :
    CallsIn Fence.wide n Try.prog 58 #[.string s] w fun e w' => e = .returned (.func (.func 64) #[] #[.pointer (some ⟨w.heap.size, 0, none⟩)]) ∧ w' = w.alloc (.cells #[.string s] 9) := by
  refine callsIn_of_wp Try.func58 rfl trivial ?_ rfl
  simp only [Try.ntmps58, List.size_toArray, List.length_cons, List.length_nil, Nat.reduceAdd, Nat.reduceSub, Array.replicate_succ, Array.replicate_zero, List.push_toArray, List.append_toArray, List.nil_append, List.cons_append]
  gi_wp2
  go_ret
  exact ⟨rfl, rfl⟩
end Go.Proofs.Ytadbmjmikoggbaa
