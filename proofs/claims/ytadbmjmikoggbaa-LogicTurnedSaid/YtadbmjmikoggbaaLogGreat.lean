/-
  The law's own guard Great over a slice of two values: it returns what its text says and changes nothing. Condition: the strings have at most 2^47 - 4096 bytes.
-/
import Derived.Test.YtadbmjmikoggbaaLogEq
import Derived.Deep.OwnRows
namespace Go.Proofs.Ytadbmjmikoggbaa
open Go.RowKit

/-- A value of the program. -/
structure Val where
  k : Int
  n : Int
  s : ByteArray
/-- A slice of values lies in memory: each element's three cells. -/
def Vals (w : World) (a : Option Addr) (l : List Val) : Prop :=
  ∀ j (hj : j < l.length), l[j].s.size ≤ 140737488351232 ∧ True ∧ ∃ b off, a = some ⟨b, off, none⟩ ∧ b < w.heap.size ∧ w.cell? ⟨b, off + j * 3, none⟩ = some (.int .i64 l[j].k) ∧ w.cell? ⟨b, off + j * 3 + 1, none⟩ = some (.int .i64 l[j].n) ∧ w.cell? ⟨b, off + j * 3 + 2, none⟩ = some (.string l[j].s)
/-- What Great answers, from the i-th value on, n bytes counted. -/
def greatZ : List Val → Nat → Nat → Bool
  | [], _, _ => false
  | v :: t, i, n => if 30 < i ∨ 20000 < n + v.s.size then true else greatZ t (i + 1) (n + v.s.size)
theorem greatZ_false : ∀ (l : List Val) (i n : Nat), n ≤ 20000 → greatZ l i n = false → (l = [] ∨ i + l.length ≤ 31) ∧ n + (l.map fun v => v.s.size).sum ≤ 20000 := by
  intro l
  induction l with
  | nil => intro i n hn _; simp [hn]
  | cons v t ih =>
    intro i n hn h
    rw [greatZ] at h
    split at h
    · cases h
    · obtain ⟨h1, h2⟩ := ih _ _ (by omega) h
      refine ⟨.inr ?_, by simp only [List.map_cons, List.sum_cons]; omega⟩
      rcases h1 with rfl | h1
      · simp; omega
      · simp; omega

set_option maxRecDepth 100000 in
set_option maxHeartbeats 1000000 in
theorem great_any (a : Option Addr) (cap : Nat) (l : List Val) (w : World) (hl : l.length ≤ 9223372036854775807) (ha : Vals w a l) :
    Calls Try.prog 27 #[.slice a l.length cap] w fun e w' => e = .returned (.bool (greatZ l 0 0)) ∧ w = w' := by
  obtain ⟨len, hlen⟩ : ∃ len, len = l.length := ⟨_, rfl⟩
  rw [← hlen] at hl ⊢
  obtain ⟨r, hr⟩ : ∃ r, r = greatZ l 0 0 := ⟨_, rfl⟩
  rw [← hr]
  have HA := Lib.hid ha; clear ha
  have HR := Lib.hid hr; clear hr
  have HL := Lib.hid hlen; clear hlen
  go_enter Try.func27, Try.ntmps27
  go_wp2
  go_loop [3, 4] (fun x i => ∃ (k n : Nat), k ≤ len ∧ k ≤ 31 ∧ n ≤ 20000 ∧ i = .int .i64 k ∧ x = .int .i64 n ∧ Hid (r = greatZ (l.drop k) k n)) (fun _ i => len - (intOf i).toNat)
  case atStart => exact ⟨0, 0, by omega, by omega, by omega, rfl, rfl, HR⟩
  case round =>
    obtain ⟨k, n, hk, hk1, hn, rfl, rfl, hz⟩ := hrel
    clear HR
    by_cases hlt : k < len
    · have hlt' : k < l.length := by have := HL.out; omega
      obtain ⟨hs, -, b, off, rfl, hbw, c0, c1, c2⟩ := HA.out k hlt'
      clear c0 c1
      have hz' := hz.out
      rw [List.drop_eq_getElem_cons hlt', greatZ] at hz'
      obtain ⟨s, hse⟩ : ∃ s, s = l[k].s := ⟨_, rfl⟩
      rw [← hse] at hz' c2 hs
      clear hz hse hlt'
      by_cases h20 : 30 < k
      · rw [if_pos (Or.inl h20)] at hz'; subst hz'
        go_wp2
        go_ret
        exact ⟨rfl, rfl⟩
      · by_cases h10 : 20000 < n + s.size
        · rw [if_pos (Or.inr h10)] at hz'; subst hz'
          go_wp2
          go_ret
          exact ⟨rfl, rfl⟩
        · rw [if_neg (by omega)] at hz'
          have HZ := Lib.hid hz'; clear hz'
          go_wp2
          go_round
          case rel => exact ⟨k + 1, n + s.size, by omega, by omega, by omega, by go_num, by go_num, HZ⟩
          case measure => simp [intOf]; omega
    · have hz' := hz.out
      rw [List.drop_eq_nil_of_le (by have := HL.out; omega), greatZ] at hz'
      subst hz'
      clear hz
      go_wp2
      go_ret
      exact ⟨rfl, rfl⟩

theorem vals_two {w : World} {b : Nat} {t : TypeId} {k1 n1 : Int} {s1 : ByteArray} {k2 n2 : Int} {s2 : ByteArray} (h : Blk w b t #[.int .i64 k1, .int .i64 n1, .string s1, .int .i64 k2, .int .i64 n2, .string s2]) (h1 : s1.size ≤ 140737488351232) (h2 : s2.size ≤ 140737488351232) :
    Vals w (some ⟨b, 0, none⟩) [⟨k1, n1, s1⟩, ⟨k2, n2, s2⟩] := by
  intro j hj
  match j, hj with
  | 0, _ => exact ⟨h1, trivial, b, 0, rfl, blk_lt h, blk_cell h 0 rfl, blk_cell h 1 rfl, blk_cell h 2 rfl⟩
  | 1, _ => exact ⟨h2, trivial, b, 0, rfl, blk_lt h, blk_cell h 3 rfl, blk_cell h 4 rfl, blk_cell h 5 rfl⟩
/-- Great of two values. -/
def greatB (s1 s2 : ByteArray) : Bool := decide (20000 < s1.size + s2.size)
theorem greatZ_two (k1 n1 : Int) (s1 : ByteArray) (k2 n2 : Int) (s2 : ByteArray) : greatZ [⟨k1, n1, s1⟩, ⟨k2, n2, s2⟩] 0 0 = greatB s1 s2 := by
  unfold greatB
  simp only [greatZ]
  by_cases h1 : 20000 < s1.size
  · rw [if_pos (by omega)]; exact (decide_eq_true (by omega)).symm
  · rw [if_neg (by omega)]
    by_cases h2 : 20000 < s1.size + s2.size
    · rw [if_pos (by omega)]; exact (decide_eq_true h2).symm
    · rw [if_neg (by omega)]; exact (decide_eq_false h2).symm
theorem great2_any (b : Nat) (cap : Nat) (t : TypeId) (k1 n1 : Int) (s1 : ByteArray) (k2 n2 : Int) (s2 : ByteArray) (w : World) (h : Blk w b t #[.int .i64 k1, .int .i64 n1, .string s1, .int .i64 k2, .int .i64 n2, .string s2]) (h1 : s1.size ≤ 140737488351232) (h2 : s2.size ≤ 140737488351232) :
    Calls Try.prog 27 #[.slice (some ⟨b, 0, none⟩) 2 cap] w fun e w' => e = .returned (.bool (greatB s1 s2)) ∧ w = w' := by
  have hg := great_any (some ⟨b, 0, none⟩) cap [⟨k1, n1, s1⟩, ⟨k2, n2, s2⟩] w (by simp) (vals_two h h1 h2)
  rw [greatZ_two] at hg
  exact hg
end Go.Proofs.Ytadbmjmikoggbaa
