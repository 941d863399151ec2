/-
  Layer 4, mathematics: two values that may be are written alike only if they are one value. Condition: both may be ('checkZ' is 0).
-/
import Derived.Test.YtembcmmoicmkeaaDoorValPrint
namespace Go.Proofs.YtembcmmoicmkeaaDoor
open Go.RowKit

/-- The number that digits denote. -/
def numL (l : List UInt8) : Nat := l.foldl (fun a d => a * 10 + (d.toNat - 48)) 0
theorem numL_snoc (l : List UInt8) (d : UInt8) : numL (l ++ [d]) = numL l * 10 + (d.toNat - 48) := by simp [numL]
theorem dig_nat (k : Nat) (h : k < 10) : (UInt8.ofNat (48 + k)).toNat - 48 = k := by
  have : ∀ k : Fin 10, (UInt8.ofNat (48 + k.val)).toNat - 48 = k.val := by decide
  exact this ⟨k, h⟩
theorem dec_num : ∀ (m u : Nat), u ≤ m → numL (Lib.decDigits u) = u := by
  intro m
  induction m with
  | zero =>
    intro u h
    obtain rfl : u = 0 := by omega
    rw [Lib.decDigits, dif_pos (by omega)]
    decide
  | succ m ih =>
    intro u h
    by_cases h10 : u < 10
    · rw [Lib.decDigits, dif_pos h10]
      simpa [numL] using dig_nat u h10
    · rw [Lib.decDigits, dif_neg h10, numL_snoc, ih (u / 10) (by omega), dig_nat _ (by omega)]
      omega
theorem dec_inj {u v : Nat} (h : Lib.decDigits u = Lib.decDigits v) : u = v := by
  rw [← dec_num u u (Nat.le_refl _), h, dec_num v v (Nat.le_refl _)]
theorem dec_first (u : Nat) : ∃ a t, Lib.decDigits u = a :: t ∧ 48 ≤ a.toNat ∧ a.toNat ≤ 57 := by
  have h := dec_head u u (Nat.le_refl _)
  cases hd : Lib.decDigits u with
  | nil => exact absurd hd h.2
  | cons a t =>
    rw [hd] at h
    have h1 := h.1
    simp [isDigB] at h1
    exact ⟨a, t, rfl, by omega, by omega⟩
theorem itoa_first (n : Int) : ∃ a t, Lib.itoa n = a :: t ∧ (a.toNat = 45 ∨ (48 ≤ a.toNat ∧ a.toNat ≤ 57)) := by
  unfold Lib.itoa
  split
  · exact ⟨45, _, rfl, .inl rfl⟩
  · obtain ⟨a, t, h, h1, h2⟩ := dec_first n.toNat
    exact ⟨a, t, h, .inr ⟨h1, h2⟩⟩
theorem itoa_inj {n m : Int} (h : Lib.itoa n = Lib.itoa m) : n = m := by
  unfold Lib.itoa at h
  by_cases h1 : n < 0
  · rw [if_pos h1] at h
    by_cases h2 : m < 0
    · rw [if_pos h2] at h
      have := dec_inj (List.cons.inj h).2
      omega
    · rw [if_neg h2] at h
      obtain ⟨a, t, e, h3, h4⟩ := dec_first m.toNat
      rw [e] at h
      have := (List.cons.inj h).1
      subst this
      exact absurd h3 (by decide)
  · rw [if_neg h1] at h
    by_cases h2 : m < 0
    · rw [if_pos h2] at h
      obtain ⟨a, t, e, h3, h4⟩ := dec_first n.toNat
      rw [e] at h
      have := (List.cons.inj h).1
      subst this
      exact absurd h3 (by decide)
    · rw [if_neg h2] at h
      have := dec_inj h
      omega
theorem quoteL_inj {a b : List UInt8} (h : quoteL a = quoteL b) : a = b := by
  have := (unq_quote a).symm.trans ((congrArg unqR h).trans (unq_quote b))
  exact (Prod.mk.inj this).1
theorem hexL_inj {a b : List UInt8} (h : hexL a = hexL b) : a = b := by
  have := (unhex_hex a).symm.trans ((congrArg unhR h).trans (unhex_hex b))
  exact (Prod.mk.inj this).1

/-- A value in writing, as a list. -/
def printL (k n : Int) (s : ByteArray) : List UInt8 :=
  if k = 0 then [110, 117, 108, 108] else if k = 1 then Lib.itoa n else if k = 2 then quoteL s.data.toList else if k = 3 then 120 :: quoteL (hexL s.data.toList) else []
theorem print_list (k n : Int) (s : ByteArray) : (printB k n s).data.toList = printL k n s := by
  unfold printB printL itoaB quoteB hexB
  split
  · rfl
  · split
    · simp
    · split
      · simp
      · split
        · simp
        · rfl
theorem printL_kind (k n : Int) (s : ByteArray) (hk : 0 ≤ k) (hk3 : k ≤ 3) : ∃ a t, printL k n s = a :: t ∧ (k = if a.toNat = 110 then 0 else if a.toNat = 39 then 2 else if a.toNat = 120 then 3 else 1) := by
  have h : k = 0 ∨ k = 1 ∨ k = 2 ∨ k = 3 := by omega
  rcases h with rfl | rfl | rfl | rfl
  · exact ⟨110, _, rfl, by decide⟩
  · obtain ⟨a, t, h, h1⟩ := itoa_first n
    refine ⟨a, t, h, ?_⟩
    rw [if_neg (by omega), if_neg (by omega), if_neg (by omega)]
  · exact ⟨39, _, rfl, by decide⟩
  · exact ⟨120, _, rfl, by decide⟩
theorem check_ok {k n : Int} {s : ByteArray} (h : checkZ k n s = 0) : 0 ≤ k ∧ k ≤ 3 ∧ (k ≠ 1 → n = 0) ∧ (k < 2 → s.size = 0) ∧ s.size ≤ 1000 := by
  unfold checkZ at h
  split at h
  · cases h
  · split at h
    · cases h
    · rename_i h1 h2
      refine ⟨by omega, by omega, fun h => ?_, fun h => ?_, by omega⟩
      · apply Decidable.byContradiction; intro h3; exact h1 (.inr (.inr (.inl ⟨h, h3⟩)))
      · apply Decidable.byContradiction; intro h3; exact h1 (.inr (.inr (.inr ⟨h, h3⟩)))
theorem print_inj {k1 n1 : Int} {s1 : ByteArray} {k2 n2 : Int} {s2 : ByteArray} (c1 : checkZ k1 n1 s1 = 0) (c2 : checkZ k2 n2 s2 = 0) (h : printB k1 n1 s1 = printB k2 n2 s2) : k1 = k2 ∧ n1 = n2 ∧ s1 = s2 := by
  obtain ⟨a1, a2, a3, a4, -⟩ := check_ok c1
  obtain ⟨b1, b2, b3, b4, -⟩ := check_ok c2
  have hl : printL k1 n1 s1 = printL k2 n2 s2 := by rw [← print_list, ← print_list, h]
  have hk : k1 = k2 := by
    obtain ⟨x, t, e1, e2⟩ := printL_kind k1 n1 s1 a1 a2
    obtain ⟨y, u, f1, f2⟩ := printL_kind k2 n2 s2 b1 b2
    rw [e1, f1] at hl
    have := (List.cons.inj hl).1
    rw [e2, f2, this]
  subst hk
  refine ⟨rfl, ?_⟩
  have hz : ∀ {s t : ByteArray}, s.size = 0 → t.size = 0 → s = t := fun h h' => by rw [size_zero h, size_zero h']
  have hd : ∀ {s t : ByteArray}, s.data.toList = t.data.toList → s = t := fun h => WideShapes.bytes_inj h
  have hc : k1 = 0 ∨ k1 = 1 ∨ k1 = 2 ∨ k1 = 3 := by omega
  rcases hc with rfl | rfl | rfl | rfl
  · exact ⟨by rw [a3 (by decide), b3 (by decide)], hz (a4 (by decide)) (b4 (by decide))⟩
  · exact ⟨itoa_inj hl, hz (a4 (by decide)) (b4 (by decide))⟩
  · exact ⟨by rw [a3 (by decide), b3 (by decide)], hd (quoteL_inj hl)⟩
  · exact ⟨by rw [a3 (by decide), b3 (by decide)], hd (hexL_inj (quoteL_inj (List.cons.inj hl).2))⟩
theorem fits_any0 {k n : Int} {s : ByteArray} (h : checkZ k n s = 0) : fitsZ 4 false k n s = 0 := by
  unfold fitsZ; rw [h]; simp
theorem fits_any1 {k n : Int} {s : ByteArray} (h : checkZ k n s = 0) : fitsZ 4 true k n s = if k = 0 then 16 else 0 := by
  unfold fitsZ; rw [h]; simp
theorem toList_inj {a b : ByteArray} (h : a.toList = b.toList) : a = b := WideShapes.bytes_inj (by rw [← Lib.toList_data, ← Lib.toList_data, h])
end Go.Proofs.YtembcmmoicmkeaaDoor
