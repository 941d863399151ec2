/-
  Layer 4, slices of values in memory, and the law's own guard great: it returns whether a slice is too long, and changes nothing. Condition: the slice's strings have at most 2^47 - 4096 bytes.
-/
import Derived.Test.YtembcmmoicmkeaaDoorValRefD
namespace Go.Proofs.YtembcmmoicmkeaaDoor
open Go.RowKit

/-- A value of the program. -/
structure Val where
  k : Int
  n : Int
  s : ByteArray
/-- A slice of values lies in memory: each element's three cells. -/
def Vals (w : World) (a : Option Addr) (len : Nat) (f : Nat → Val) : Prop :=
  ∀ j, j < len → (f j).s.size ≤ 140737488351232 ∧ ∃ b off, a = some ⟨b, off, none⟩ ∧ b < w.heap.size ∧ w.cell? ⟨b, off + j * 3, none⟩ = some (.int .i64 (f j).k) ∧ w.cell? ⟨b, off + j * 3 + 1, none⟩ = some (.int .i64 (f j).n) ∧ w.cell? ⟨b, off + j * 3 + 2, none⟩ = some (.string (f j).s)
/-- A slice of bools lies in memory. -/
def Bools (w : World) (a : Option Addr) (len : Nat) (g : Nat → Bool) : Prop :=
  ∀ j, j < len → ∃ b off, a = some ⟨b, off, none⟩ ∧ b < w.heap.size ∧ w.cell? ⟨b, off + j, none⟩ = some (.bool (g j))
theorem vals_next {w w' : World} {a : Option Addr} {len : Nat} {f : Nat → Val} (h : Vals w a len f) (hb : Below w.heap.size w w') : Vals w' a len f := by
  intro j hj
  obtain ⟨h0, b, off, ha, hlt, h1, h2, h3⟩ := h j hj
  exact ⟨h0, b, off, ha, Nat.lt_of_lt_of_le hlt hb.size, (hb.cell hlt).trans h1, (hb.cell hlt).trans h2, (hb.cell hlt).trans h3⟩
theorem bools_next {w w' : World} {a : Option Addr} {len : Nat} {g : Nat → Bool} (h : Bools w a len g) (hb : Below w.heap.size w w') : Bools w' a len g := by
  intro j hj
  obtain ⟨b, off, ha, hlt, h1⟩ := h j hj
  exact ⟨b, off, ha, Nat.lt_of_lt_of_le hlt hb.size, (hb.cell hlt).trans h1⟩

/-- What great answers, from the i-th value on, n bytes counted. -/
def greatZ (f : Nat → Val) : Nat → Nat → Nat → Bool
  | 0, _, _ => false
  | m + 1, i, n => if 20 < i ∨ 10000 < n + (f i).s.size then true else greatZ f m (i + 1) (n + (f i).s.size)
theorem greatZ_step (f : Nat → Val) (m i n : Nat) : greatZ f (m + 1) i n = if 20 < i ∨ 10000 < n + (f i).s.size then true else greatZ f m (i + 1) (n + (f i).s.size) := rfl
theorem greatZ_false (f : Nat → Val) : ∀ m i n, greatZ f m i n = false → ∀ j, j < m → (f (i + j)).s.size ≤ 10000 ∧ i + j ≤ 20 := by
  intro m
  induction m with
  | zero => intro i n _ j hj; omega
  | succ m ih =>
    intro i n h j hj
    rw [greatZ_step] at h
    split at h
    · cases h
    · cases j with
      | zero => exact ⟨by simp only [Nat.add_zero]; omega, by omega⟩
      | succ j =>
        have := ih (i + 1) _ h j (by omega)
        rw [show i + (j + 1) = i + 1 + j by omega]
        exact this

set_option maxRecDepth 100000 in
set_option maxHeartbeats 1000000 in
theorem great_any (a : Option Addr) (len cap : Nat) (f : Nat → Val) (w : World) (hl : len ≤ 9223372036854775807) (ha : Vals w a len f) :
    Calls Tryd.prog 7 #[.slice a len cap] w fun e w' => e = .returned (.bool (greatZ f len 0 0)) ∧ w = w' := by
  obtain ⟨r, hr⟩ : ∃ r, r = greatZ f len 0 0 := ⟨_, rfl⟩
  rw [← hr]
  have HA := Lib.hid ha; clear ha
  have HR := Lib.hid hr; clear hr
  go_enter Tryd.func7, Tryd.ntmps7
  go_wp2
  go_loop [3, 4] (fun x i => ∃ (k n : Nat), k ≤ len ∧ k ≤ 21 ∧ n ≤ 10000 ∧ i = .int .i64 k ∧ x = .int .i64 n ∧ Hid (r = greatZ f (len - k) k n)) (fun _ i => len - (intOf i).toNat)
  case atStart => exact ⟨0, 0, by omega, by omega, by omega, rfl, rfl, HR⟩
  case round =>
    obtain ⟨k, n, hk, hk1, hn, rfl, rfl, hz⟩ := hrel
    clear HR
    by_cases hlt : k < len
    · obtain ⟨hs, b, off, rfl, hbw, c0, c1, c2⟩ := HA.out k hlt
      clear c0 c1
      have hz' := hz.out
      rw [show len - k = (len - (k + 1)) + 1 by omega, greatZ_step] at hz'
      obtain ⟨s, hse⟩ : ∃ s, s = (f k).s := ⟨_, rfl⟩
      rw [← hse] at hz' c2 hs
      clear hz hse
      by_cases h20 : 20 < k
      · rw [if_pos (Or.inl h20)] at hz'; subst hz'
        go_wp2
        go_ret
        exact ⟨rfl, rfl⟩
      · by_cases h10 : 10000 < n + s.size
        · rw [if_pos (Or.inr h10)] at hz'; subst hz'
          go_wp2
          go_ret
          exact ⟨rfl, rfl⟩
        · rw [if_neg (by omega)] at hz'
          have HZ := Lib.hid hz'; clear hz'
          go_wp2
          go_round
          case rel => exact ⟨k + 1, n + s.size, by omega, by omega, by omega, by go_num, by go_num, HZ⟩
          case measure => simp [intOf]; omega
    · have hz' := hz.out
      rw [show len - k = 0 by omega, greatZ] at hz'
      subst hz'
      clear hz
      go_wp2
      go_ret
      exact ⟨rfl, rfl⟩
end Go.Proofs.YtembcmmoicmkeaaDoor
