/-
  Layer 5, the document's Same (annexeref04): it returns whether two slices of values hold the same, and changes nothing. Condition: the strings have at most 2^47 - 4096 bytes.
-/
import Derived.Test.YtpkhbafgepdogaaRecVals
import Derived.Laws.StructEq
import Derived.BigQuiet
namespace Go.Proofs.Ytpkhbafgepdogaa
open Go.RowKit

/-- Two values are the same. -/
def eqV (k1 n1 : Int) (s1 : ByteArray) (k2 n2 : Int) (s2 : ByteArray) : Bool := if k1 = k2 ∧ n1 = n2 ∧ s1 = s2 then true else false
theorem eqV_true {k1 n1 : Int} {s1 : ByteArray} {k2 n2 : Int} {s2 : ByteArray} : eqV k1 n1 s1 k2 n2 s2 = true ↔ (⟨k1, n1, s1⟩ : Val) = ⟨k2, n2, s2⟩ := by
  unfold eqV
  split
  · rename_i h; obtain ⟨rfl, rfl, rfl⟩ := h; simp
  · rename_i h; simp; exact fun a b c => h ⟨a, b, c⟩
theorem guardV (op : BinOp) (x y : Operand) (xs ys : Array Value) (w : World) : (eqGuard op 32 x y (.agg xs) (.agg ys)).run Try.prog w = .ok () w :=
  run_eqGuard_agg w op 32 x y xs ys (by kernel_rfl)
theorem same_list (a b : ByteArray) : (a.toList == b.toList) = decide (a = b) := by
  by_cases h : a = b
  · subst h; simp
  · rw [decide_eq_false h]
    refine beq_eq_false_iff_ne.2 fun e => h ?_
    rw [ByteArray.toList_eq, ByteArray.toList_eq] at e
    exact ByteArray.ext (Array.toList_inj.1 e)
theorem run_eqV (k1 n1 : Int) (s1 : ByteArray) (k2 n2 : Int) (s2 : ByteArray) (w : World) :
    (Op.equalIn 10000 32 (.agg #[.int .i64 k1, .int .i64 n1, .string s1]) (.agg #[.int .i64 k2, .int .i64 n2, .string s2])).run Try.prog w = .ok (eqV k1 n1 s1 k2 n2 s2) w := by
  have h := run_equalIn_struct (P := Try.prog) w 9999 32 #[.int .i64 k1, .int .i64 n1, .string s1] #[.int .i64 k2, .int .i64 n2, .string s2] (by kernel_rfl) (by kernel_rfl)
  rw [show (10000 : Nat) = 9999 + 1 from rfl, h]
  unfold eqV
  simp [Program.fieldsOf, Try.underlying32, Op.eqFields, part, go_sem, Try.sizeOf3, Try.isAgg3, Try.sizeOf9, Try.isAgg9, Try.underlying3, Try.underlying9, same_list]
  by_cases h1 : k1 = k2
  · by_cases h2 : n1 = n2
    · by_cases h3 : s1 = s2
      · simp [h1, h2, h3]
      · simp [h1, h2, h3]
    · simp [h1, h2]
  · simp [h1]
theorem run_neqV (k1 n1 : Int) (s1 : ByteArray) (k2 n2 : Int) (s2 : ByteArray) (w : World) :
    (binOp .neq 32 (.agg #[.int .i64 k1, .int .i64 n1, .string s1]) (.agg #[.int .i64 k2, .int .i64 n2, .string s2])).run Try.prog w = .ok (.bool (!(eqV k1 n1 s1 k2 n2 s2))) w := by
  rw [run_neq_struct, run_eqV]; rfl
theorem run_eqlV (k1 n1 : Int) (s1 : ByteArray) (k2 n2 : Int) (s2 : ByteArray) (w : World) :
    (binOp .eql 32 (.agg #[.int .i64 k1, .int .i64 n1, .string s1]) (.agg #[.int .i64 k2, .int .i64 n2, .string s2])).run Try.prog w = .ok (.bool (eqV k1 n1 s1 k2 n2 s2)) w := by
  rw [run_eql_struct, run_eqV]; rfl

set_option maxRecDepth 100000 in
set_option maxHeartbeats 1000000 in
theorem same_any (a a' : Option Addr) (cap cap' : Nat) (l l' : List Val) (w : World) (hl : l.length ≤ 9223372036854775807) (hl' : l'.length ≤ 9223372036854775807) (ha : Vals w a l) (ha' : Vals w a' l') :
    Calls Try.prog 15 #[.slice a l.length cap, .slice a' l'.length cap'] w fun e w' => ∃ r, e = .returned (.bool r) ∧ (r = true ↔ l = l') ∧ Below w.heap.size w w' := by
  by_cases hne : l.length = l'.length
  · obtain ⟨len, hlen⟩ : ∃ len, len = l.length := ⟨_, rfl⟩
    have hlen' : len = l'.length := by omega
    rw [← hlen] at hl ⊢
    rw [← hlen'] at hl' ⊢
    have HA := Lib.hid ha; clear ha
    have HA' := Lib.hid ha'; clear ha'
    have HL := Lib.hid hlen; clear hlen
    have HL' := Lib.hid hlen'; clear hlen'
    clear hne
    go_enter Try.func15, Try.ntmps15
    go_wp2
    go_loopw [5] (fun i wr => ∃ (k : Nat), k ≤ len ∧ i = .int .i64 k ∧ Hid (Below w.heap.size w wr) ∧ Hid (∀ j (h : j < l.length) (h' : j < l'.length), j < k → l[j] = l'[j])) (fun i _ => len - (intOf i).toNat)
    case atStart => exact ⟨0, by omega, rfl, Lib.hid (Below.refl _ _), Lib.hid (fun j _ _ h => by omega)⟩
    case round =>
      obtain ⟨k, hk, rfl, hal, hz⟩ := hrel
      by_cases hlt : k < len
      · have hlt1 : k < l.length := by have := HL.out; omega
        have hlt2 : k < l'.length := by have := HL'.out; omega
        obtain ⟨hs1, -, b1, o1, rfl, hb1, c10, c11, c12⟩ := vals_next HA.out hal.out k hlt1
        obtain ⟨hs2, -, b2, o2, rfl, hb2, c20, c21, c22⟩ := vals_next HA'.out hal.out k hlt2
        obtain ⟨v1, e1⟩ : ∃ v, v = l[k] := ⟨_, rfl⟩
        obtain ⟨v2, e2⟩ : ∃ v, v = l'[k] := ⟨_, rfl⟩
        rw [← e1] at hs1 c10 c11 c12
        rw [← e2] at hs2 c20 c21 c22
        have E1 := Lib.hid e1; have E2 := Lib.hid e2
        clear e1 e2
        obtain ⟨k1, n1, s1⟩ := v1
        obtain ⟨k2, n2, s2⟩ := v2
        simp only at hs1 hs2 c10 c11 c12 c20 c21 c22
        have j1 : (k : Int) < len := by omega
        have j0 : (0 : Int) ≤ k := by omega
        have hq := run_neqV k1 n1 s1 k2 n2 s2
        obtain ⟨c, hc⟩ : ∃ c, c = eqV k1 n1 s1 k2 n2 s2 := ⟨_, rfl⟩
        rw [← hc] at hq
        have HC := Lib.hid hc; clear hc
        have hg := guardV
        cases c with
        | true =>
          have HZ : Hid (∀ j (h : j < l.length) (h' : j < l'.length), j < k + 1 → l[j] = l'[j]) := by
            intro j h h' hj
            by_cases hjk : j = k
            · subst hjk; rw [← E1.out, ← E2.out]; exact eqV_true.1 HC.out.symm
            · exact hz.out j h h' (by omega)
          simp only [Bool.not_true] at hq
          go_upto_region 6 with (fail)
          go_quiet (fail)
          go_wp2
          go_roundw
          case rel => exact ⟨k + 1, by omega, by go_num, Lib.hid (hal.out.trans ⟨rfl, rfl, rfl, Nat.le_refl _, fun _ _ => rfl⟩), HZ⟩
          case measure => simp [intOf]; omega
        | false =>
          have HN := Lib.hid (show ¬ l = l' from fun h => by
            have e : eqV k1 n1 s1 k2 n2 s2 = true := by rw [eqV_true, E1.out, E2.out]; simp only [h]
            rw [← HC.out] at e; cases e)
          simp only [Bool.not_false] at hq
          go_upto_region 6 with (fail)
          go_quiet (fail)
          go_wp2
          go_ret
          exact ⟨false, rfl, by simpa using HN.out, hal.out.trans ⟨rfl, rfl, rfl, Nat.le_refl _, fun _ _ => rfl⟩⟩
      · have HE := Lib.hid (show l = l' from List.ext_getElem (by rw [← HL.out, ← HL'.out]) fun j h h' => hz.out j h h' (by have := HL.out; omega))
        go_wp2
        go_ret
        exact ⟨true, rfl, by simpa using HE.out, hal.out⟩
  · go_enter Try.func15, Try.ntmps15
    go_wp2
    go_ret
    exact ⟨false, rfl, by simp; intro e; exact hne (by rw [e]), Below.refl _ _⟩
end Go.Proofs.Ytpkhbafgepdogaa
