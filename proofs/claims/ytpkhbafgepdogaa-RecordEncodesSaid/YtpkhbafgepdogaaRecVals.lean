/-
  Layer 5, slices of values in memory; the law's own guard Great, the document's Same, value.Check and the document's Check: each returns what its text says, and changes nothing that was there. Condition: the strings have at most 2^47 - 4096 bytes.
-/
import Derived.Test.YtpkhbafgepdogaaRecMath
import Derived.Below
import Derived.Deep.Light
import Derived.Handy
import Derived.Deep.OwnRows
import Derived.Lib.Strings
namespace Go.Proofs.Ytpkhbafgepdogaa
open Go.RowKit

/-- A slice of values lies in memory: each element's three cells. -/
def Vals (w : World) (a : Option Addr) (l : List Val) : Prop :=
  ∀ j (hj : j < l.length), l[j].s.size ≤ 140737488351232 ∧ I64 l[j].n ∧ ∃ b off, a = some ⟨b, off, none⟩ ∧ b < w.heap.size ∧ w.cell? ⟨b, off + j * 3, none⟩ = some (.int .i64 l[j].k) ∧ w.cell? ⟨b, off + j * 3 + 1, none⟩ = some (.int .i64 l[j].n) ∧ w.cell? ⟨b, off + j * 3 + 2, none⟩ = some (.string l[j].s)
theorem vals_next {w w' : World} {a : Option Addr} {l : List Val} (h : Vals w a l) (hb : Below w.heap.size w w') : Vals w' a l := by
  intro j hj
  obtain ⟨h0, hn, b, off, ha, hlt, h1, h2, h3⟩ := h j hj
  exact ⟨h0, hn, b, off, ha, Nat.lt_of_lt_of_le hlt hb.size, (hb.cell hlt).trans h1, (hb.cell hlt).trans h2, (hb.cell hlt).trans h3⟩
theorem vals_n {w : World} {a : Option Addr} {l : List Val} (h : Vals w a l) : ∀ v ∈ l, I64 v.n := by
  intro v hv
  obtain ⟨j, hj, rfl⟩ := List.getElem_of_mem hv
  exact (h j hj).2.1
theorem vals_nil (w : World) (a : Option Addr) : Vals w a [] := fun j hj => absurd hj (by simp)

theorem empty_size (s : ByteArray) : s.toList.isEmpty = decide (s.size = 0) := by
  have : s.toList.length = s.size := by rw [Lib.toList_data]; rfl
  cases h : s.toList with
  | nil => rw [h] at this; exact (decide_eq_true (by simpa using this.symm)).symm
  | cons a l => rw [h, List.length_cons] at this; exact (decide_eq_false (by omega)).symm
theorem below_alloc (w : World) (o : Obj) : Below w.heap.size w (w.alloc o) := (Below.refl _ _).alloc (Nat.le_refl _) _
theorem below_alloc2 (w : World) (o o' : Obj) : Below w.heap.size w ((w.alloc o).alloc o') := (below_alloc w o).alloc (by simp) _

set_option maxRecDepth 100000 in
set_option maxHeartbeats 4000000 in
theorem check_any (k n : Int) (s : ByteArray) (w : World) (hs : s.size ≤ 9223372036854775807) :
    Calls Try.prog 32 #[.agg #[.int .i64 k, .int .i64 n, .string s]] w fun e w' => e = .returned (.int .i64 (checkZ k n s)) ∧ Below w.heap.size w w' := by
  obtain ⟨r, hr⟩ : ∃ r, r = checkZ k n s := ⟨_, rfl⟩
  rw [← hr]
  have HR := Lib.hid hr; clear hr
  go_enter Try.func32, Try.ntmps32
  go_wp2
  all_goals (go_ret; refine ⟨ret_int ?_, below_alloc _ _⟩; rw [HR.out, checkZ]; clear HR; go_light)
  all_goals simp only [empty_size, beq_iff_eq, bne_iff_ne, beq_eq_false_iff_ne, bne_eq_false_iff_eq, Bool.not_eq_true', Bool.not_eq_false', decide_eq_true_eq, decide_eq_false_iff_not, ne_eq, Decidable.not_not] at *
  all_goals (split <;> first | omega | (split <;> omega))

set_option maxRecDepth 100000 in
set_option maxHeartbeats 4000000 in
theorem qcheck_any (k n : Int) (s : ByteArray) (w : World) (hs : s.size ≤ 9223372036854775807) :
    Calls Try.prog 23 #[.agg #[.int .i64 k, .int .i64 n, .string s]] w fun e w' => e = .returned (.int .i64 (checkZ k n s)) ∧ Below w.heap.size w w' := by
  obtain ⟨r, hr⟩ : ∃ r, r = checkZ k n s := ⟨_, rfl⟩
  rw [← hr]
  have HR := Lib.hid hr; clear hr
  go_enter Try.func23, Try.ntmps23
  go_wp2
  all_goals (go_ret; refine ⟨ret_int ?_, below_alloc _ _⟩; rw [HR.out, checkZ]; clear HR; go_light)
  all_goals simp only [empty_size, beq_iff_eq, bne_iff_ne, beq_eq_false_iff_ne, bne_eq_false_iff_eq, Bool.not_eq_true', Bool.not_eq_false', decide_eq_true_eq, decide_eq_false_iff_not, ne_eq, Decidable.not_not] at *
  all_goals (split <;> first | omega | (split <;> omega))

/-- What Great answers, from the i-th value on, n bytes counted. -/
def greatZ : List Val → Nat → Nat → Bool
  | [], _, _ => false
  | v :: t, i, n => if 30 < i ∨ 20000 < n + v.s.size then true else greatZ t (i + 1) (n + v.s.size)
theorem greatZ_false : ∀ (l : List Val) (i n : Nat), n ≤ 20000 → greatZ l i n = false → (l = [] ∨ i + l.length ≤ 31) ∧ n + (l.map fun v => v.s.size).sum ≤ 20000 := by
  intro l
  induction l with
  | nil => intro i n hn _; simp [hn]
  | cons v t ih =>
    intro i n hn h
    rw [greatZ] at h
    split at h
    · cases h
    · obtain ⟨h1, h2⟩ := ih _ _ (by omega) h
      refine ⟨.inr ?_, by simp only [List.map_cons, List.sum_cons]; omega⟩
      rcases h1 with rfl | h1
      · simp; omega
      · simp; omega

set_option maxRecDepth 100000 in
set_option maxHeartbeats 1000000 in
theorem great_any (a : Option Addr) (cap : Nat) (l : List Val) (w : World) (hl : l.length ≤ 9223372036854775807) (ha : Vals w a l) :
    Calls Try.prog 7 #[.slice a l.length cap] w fun e w' => e = .returned (.bool (greatZ l 0 0)) ∧ w = w' := by
  obtain ⟨len, hlen⟩ : ∃ len, len = l.length := ⟨_, rfl⟩
  rw [← hlen] at hl ⊢
  obtain ⟨r, hr⟩ : ∃ r, r = greatZ l 0 0 := ⟨_, rfl⟩
  rw [← hr]
  have HA := Lib.hid ha; clear ha
  have HR := Lib.hid hr; clear hr
  have HL := Lib.hid hlen; clear hlen
  go_enter Try.func7, Try.ntmps7
  go_wp2
  go_loop [3, 4] (fun x i => ∃ (k n : Nat), k ≤ len ∧ k ≤ 31 ∧ n ≤ 20000 ∧ i = .int .i64 k ∧ x = .int .i64 n ∧ Hid (r = greatZ (l.drop k) k n)) (fun _ i => len - (intOf i).toNat)
  case atStart => exact ⟨0, 0, by omega, by omega, by omega, rfl, rfl, HR⟩
  case round =>
    obtain ⟨k, n, hk, hk1, hn, rfl, rfl, hz⟩ := hrel
    clear HR
    by_cases hlt : k < len
    · have hlt' : k < l.length := by have := HL.out; omega
      obtain ⟨hs, -, b, off, rfl, hbw, c0, c1, c2⟩ := HA.out k hlt'
      clear c0 c1
      have hz' := hz.out
      rw [List.drop_eq_getElem_cons hlt', greatZ] at hz'
      obtain ⟨s, hse⟩ : ∃ s, s = l[k].s := ⟨_, rfl⟩
      rw [← hse] at hz' c2 hs
      clear hz hse hlt'
      by_cases h20 : 30 < k
      · rw [if_pos (Or.inl h20)] at hz'; subst hz'
        go_wp2
        go_ret
        exact ⟨rfl, rfl⟩
      · by_cases h10 : 20000 < n + s.size
        · rw [if_pos (Or.inr h10)] at hz'; subst hz'
          go_wp2
          go_ret
          exact ⟨rfl, rfl⟩
        · rw [if_neg (by omega)] at hz'
          have HZ := Lib.hid hz'; clear hz'
          go_wp2
          go_round
          case rel => exact ⟨k + 1, n + s.size, by omega, by omega, by omega, by go_num, by go_num, HZ⟩
          case measure => simp [intOf]; omega
    · have hz' := hz.out
      rw [List.drop_eq_nil_of_le (by have := HL.out; omega), greatZ] at hz'
      subst hz'
      clear hz
      go_wp2
      go_ret
      exact ⟨rfl, rfl⟩
end Go.Proofs.Ytpkhbafgepdogaa
