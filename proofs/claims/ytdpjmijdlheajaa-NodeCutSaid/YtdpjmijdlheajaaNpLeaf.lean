/-
  Layer 16, the program's small functions (annexe/node): which cells and numbers of pages are valid; they change nothing that was there. Condition: none (sizes of at most 2^60).
-/
import Derived.Test.YtdpjmijdlheajaaNdVal
import Derived.Lib.Hide
import Derived.Lib.MinMax
import Derived.Deep.QuietTactic
import Derived.BigQuiet
import Derived.Laws.StructEq
import Derived.Deep.CutRange
import Derived.Deep.CutBlock
import Derived.Deep.RegionHeld3
import Derived.Handy
namespace Go.Proofs.Ytdpjmijdlheajaa
open Go.RowKit

theorem iff_no {z : Bool} {p : Prop} (h : z = true ↔ p) (hn : ¬ p) : z = false := by cases z; rfl; exact absurd (h.1 rfl) hn
set_option maxRecDepth 100000 in
set_option maxHeartbeats 1000000 in
theorem goes_any (K : ByteArray) (n : Int) (L : ByteArray) (o : Int) (z : Bool) (hz : z = decide (60 < n)) (w : World) :
    Calls Try.prog 47 #[.agg #[.string K, .int .i64 n, .string L, .int .i64 o]] w fun e w' => e = .returned (.bool z) ∧ Below w.heap.size w w' := by
  subst hz
  go_enter Try.func47, Try.ntmps47
  go_wp2
  go_ret
  exact ⟨rfl, blw1 _ _⟩
set_option maxRecDepth 100000 in
set_option maxHeartbeats 1000000 in
theorem ispage_any (n : Int) (z : Bool) (hz : z = true ↔ KidOk n) (w : World) :
    Calls Try.prog 64 #[.int .i64 n] w fun e w' => e = .returned (.bool z) ∧ Below w.heap.size w w' := by
  have HZ := Lib.hid hz; clear hz
  by_cases h1 : n < 2
  · obtain rfl := iff_no HZ.out fun h => by have := h.1; omega
    have h1' : ¬ 2 ≤ n := by omega
    go_enter Try.func64, Try.ntmps64
    go_wp2
    go_ret
    exact ⟨rfl, Below.refl _ _⟩
  · have h1' : 2 ≤ n := by omega
    by_cases h2 : n ≤ 2000
    · obtain rfl := HZ.out.2 ⟨h1', h2⟩
      go_enter Try.func64, Try.ntmps64
      go_wp2
      go_ret
      exact ⟨rfl, Below.refl _ _⟩
    · obtain rfl := iff_no HZ.out fun h => by have := h.2; omega
      go_enter Try.func64, Try.ntmps64
      go_wp2
      go_ret
      exact ⟨rfl, Below.refl _ _⟩
def PayOk (n : Int) (s : Int) (o : Int) : Prop := 0 ≤ n ∧ n ≤ 268435456 ∧ s = min n 60 ∧ (n ≤ 60 → o = 0) ∧ (60 < n → 2 ≤ o ∧ o ≤ 2000)
set_option maxRecDepth 100000 in
set_option maxHeartbeats 2000000 in
theorem payload_ok (K : ByteArray) (n : Int) (L : ByteArray) (o : Int) (z : Bool) (hz : z = true ↔ PayOk n (L.size : Int) o) (w : World) :
    Calls Try.prog 72 #[.agg #[.string K, .int .i64 n, .string L, .int .i64 o]] w fun e w' => e = .returned (.bool z) ∧ Below w.heap.size w w' := by
  have hb := blk_new w 51 #[.string K, .int .i64 n, .string L, .int .i64 o]
  have hw := blw1 w (.cells #[.string K, .int .i64 n, .string L, .int .i64 o] 51)
  have HZ := Lib.hid hz; clear hz
  have HB := Lib.hid hb; have HW := Lib.hid hw
  clear hb hw
  by_cases f1 : n < 0
  · obtain rfl := iff_no HZ.out fun h => by have := h.1; omega
    go_enter Try.func72, Try.ntmps72
    go_wp2
    go_ret
    exact ⟨rfl, HW.out⟩
  by_cases f2 : 268435456 < n
  · obtain rfl := iff_no HZ.out fun h => by have := h.2.1; omega
    go_enter Try.func72, Try.ntmps72
    go_wp2
    go_ret
    exact ⟨rfl, HW.out⟩
  by_cases f3 : (L.size : Int) = min n 60
  · by_cases h60 : 60 < n
    · have kg := fun W => goes_any K n L o true (by simp [h60]) W
      have f5 : (2 ≤ o ∧ o ≤ 2000) ↔ PayOk n (L.size : Int) o := ⟨fun h => ⟨by omega, by omega, f3, fun h2 => absurd h2 (by omega), fun _ => h⟩, fun h => h.2.2.2.2 h60⟩
      have kp := fun W => ispage_any o z (HZ.out.trans f5.symm) W
      clear f5
      go_enter Try.func72, Try.ntmps72
      go_upto_region 3 with (fail)
      go_upto_region 4 with (go_at_call 47; (with_reducible refine (kg _).mono ?_); rintro e w2 ⟨rfl, hb2⟩; have HB2 := Lib.hid (HW.out.trans (hb2.mono HW.out.size)); have HC2 := Lib.hid (blk_below HB.out hb2); have c3 := blk_cell HC2.out 3 rfl; clear hb2)
      go_wp2_with (go_at_call 64; (with_reducible refine (kp _).mono ?_); rintro e w3 ⟨rfl, hb3⟩; have HB3 := Lib.hid (HB2.out.trans (hb3.mono HB2.out.size)); clear hb3)
      go_ret
      exact ⟨rfl, HB3.out⟩
    · have kg := fun W => goes_any K n L o false (by simp [h60]) W
      have f5 : z = true ↔ o = 0 := HZ.out.trans ⟨fun h => h.2.2.2.1 (by omega), fun h => ⟨by omega, by omega, f3, fun _ => h, fun h2 => absurd h2 h60⟩⟩
      have HQ := Lib.hid (show decide (o = 0) = z by
        cases z
        · exact decide_eq_false fun h => nomatch f5.2 h
        · exact decide_eq_true (f5.1 rfl))
      clear f5
      go_enter Try.func72, Try.ntmps72
      go_upto_region 3 with (fail)
      go_wp2_with (go_at_call 47; (with_reducible refine (kg _).mono ?_); rintro e w2 ⟨rfl, hb2⟩; have HB2 := Lib.hid (HW.out.trans (hb2.mono HW.out.size)); have HC2 := Lib.hid (blk_below HB.out hb2); have c3 := blk_cell HC2.out 3 rfl; clear hb2)
      go_ret
      exact ⟨by rw [← HQ.out]; congr, HB2.out⟩
  · obtain rfl := iff_no HZ.out fun h => f3 h.2.2.1
    go_enter Try.func72, Try.ntmps72
    go_wp2
    go_ret
    exact ⟨rfl, HW.out⟩
/-- An inner node's cell is a key alone. -/
theorem nguard (op : BinOp) (x y : Operand) (xs ys : Array Value) (w : World) : (eqGuard op 51 x y (.agg xs) (.agg ys)).run Try.prog w = .ok () w :=
  run_eqGuard_agg w op 51 x y xs ys (by kernel_rfl)
theorem same_bs (a b : ByteArray) : (a.toList == b.toList) = decide (a = b) := by
  by_cases h : a = b
  · subst h; simp
  · rw [decide_eq_false h]
    refine beq_eq_false_iff_ne.2 fun e => h ?_
    rw [ByteArray.toList_eq, ByteArray.toList_eq] at e
    exact ByteArray.ext (Array.toList_inj.1 e)
theorem run_eqlC (K L : ByteArray) (n o : Int) (w : World) :
    (binOp .eql 51 (.agg #[.string K, .int .i64 n, .string L, .int .i64 o]) (.agg #[.string K, .int .i64 0, .string ⟨#[]⟩, .int .i64 0])).run Try.prog w = .ok (.bool (decide (n = 0 ∧ L = ⟨#[]⟩ ∧ o = 0))) w := by
  rw [run_eql_struct]
  have h := run_equalIn_struct (P := Try.prog) w 9999 51 #[.string K, .int .i64 n, .string L, .int .i64 o] #[.string K, .int .i64 0, .string ⟨#[]⟩, .int .i64 0] (by kernel_rfl) (by kernel_rfl)
  rw [show (10000 : Nat) = 9999 + 1 from rfl, h]
  simp [Program.fieldsOf, Try.underlying51, Op.eqFields, part, go_sem, Try.sizeOf3, Try.isAgg3, Try.sizeOf9, Try.isAgg9, Try.underlying3, Try.underlying9, same_bs]
  have he : L.toList = [] ↔ L = ⟨#[]⟩ := by
    rw [ByteArray.toList_eq]
    exact ⟨fun h => ByteArray.ext (Array.toList_inj.1 h), fun h => by rw [h]⟩
  by_cases h1 : n = 0
  · by_cases h2 : L = ⟨#[]⟩
    · by_cases h3 : o = 0
      · simp [h1, h2, h3]
      · simp [h1, h2, h3]
    · have h4 : ¬ L.toList = [] := fun h => h2 (he.1 h)
      simp [h1, h2, h4]
  · simp [h1]
set_option maxRecDepth 100000 in
set_option maxHeartbeats 2000000 in
theorem cell_ok (leaf : Bool) (c : Cel) (z : Bool) (hz : z = true ↔ CelOk leaf c) (w : World) :
    Calls Try.prog 63 #[.bool leaf, .agg #[.string (nb c.key), .int .i64 c.len, .string (nb c.loc), .int .i64 c.ov]] w fun e w' => e = .returned (.bool z) ∧ Below w.heap.size w w' := by
  obtain ⟨key, n, loc, o⟩ := c
  have hks := nb_size key
  have hls := nb_size loc
  have hlz : nb loc = ⟨#[]⟩ ↔ loc = [] := ⟨fun h => nb_inj.1 h, fun h => by rw [h]; rfl⟩
  simp only
  have HE := Lib.hid (show z = true ↔ (nb key).size ≤ 100 ∧ (leaf = false → n = 0 ∧ nb loc = ⟨#[]⟩ ∧ o = 0) ∧ PayOk n ((nb loc).size : Int) o from by
    rw [hks, hls, hlz, hz]
    unfold CelOk PayOk
    simp only
    constructor
    · rintro ⟨a, b, c, d, e, f, g⟩
      exact ⟨a, fun h => ⟨(b h).1, (b h).2.2, (b h).2.1⟩, c, d, e, f, g⟩
    · rintro ⟨a, b, c, d, e, f, g⟩
      exact ⟨a, fun h => ⟨(b h).1, (b h).2.2, (b h).2.1⟩, c, d, e, f, g⟩)
  clear hz hks hls hlz
  generalize nb key = K at *
  generalize nb loc = L at *
  have hb := blk_new w 51 #[.string K, .int .i64 n, .string L, .int .i64 o]
  have hw := blw1 w (.cells #[.string K, .int .i64 n, .string L, .int .i64 o] 51)
  have HB := Lib.hid hb; have HW := Lib.hid hw
  clear hb hw
  by_cases f1 : 100 < K.size
  · obtain rfl := iff_no HE.out fun h => by have := h.1; omega
    have f1' : (100 : Int) < (K.size : Int) := by omega
    go_enter Try.func63, Try.ntmps63
    go_wp2
    go_ret
    exact ⟨rfl, HW.out⟩
  have f1' : ¬ (100 : Int) < (K.size : Int) := by omega
  cases leaf with
  | false =>
    have kr := fun W => run_eqlC K L n o W
    have HQ := Lib.hid (show decide (n = 0 ∧ L = ⟨#[]⟩ ∧ o = 0) = z from by
      cases z
      · refine decide_eq_false fun h => ?_
        obtain ⟨rfl, rfl, rfl⟩ := h
        have := HE.out.2 ⟨by omega, fun _ => ⟨rfl, rfl, rfl⟩, by omega, by omega, rfl, fun _ => rfl, fun h => absurd h (by omega)⟩
        cases this
      · exact decide_eq_true ((HE.out.1 rfl).2.1 rfl))
    simp only [HQ.out] at kr
    have kq := fun op x y xs ys W => nguard op x y xs ys W
    go_enter Try.func63, Try.ntmps63
    go_wp2
    go_ret
    exact ⟨rfl, HW.out⟩
  | true =>
    have kp := fun W => payload_ok K n L o z (HE.out.trans ⟨fun h => h.2.2, fun h => ⟨by omega, (fun h => nomatch h), h⟩⟩) W
    go_enter Try.func63, Try.ntmps63
    go_wp2_with (go_at_call 72; (with_reducible refine (kp _).mono ?_); rintro e w2 ⟨rfl, hb2⟩; have HB2 := Lib.hid (HW.out.trans (hb2.mono HW.out.size)); clear hb2)
    go_ret
    exact ⟨rfl, HB2.out⟩
end Go.Proofs.Ytdpjmijdlheajaa
