/-
  Layer 8 on lists of bytes: an encoding of which one byte is another one. No program text is walked here.
-/
import Derived.Test.YtjmciknelkodcaaJhMath
namespace Go.Proofs.Ytjmciknelkodcaa

theorem set_ne {l : List UInt8} {i : Nat} {d : UInt8} (h : i < l.length) (hd : d ≠ l[i]) : l.set i d ≠ l := by
  intro e
  have := List.getElem_set_self (l := l) (i := i) (a := d) (by rw [List.length_set]; exact h)
  simp only [e] at this
  exact hd this.symm
theorem rd_turned (a b c : Int) {i : Nat} (hi : i < 32) {d : UInt8} (hd : d ≠ (enL a b c)[i]'(by rw [enL_len]; exact hi)) :
    (rdH ((enL a b c).set i d)) = (⟨0, 0, 0⟩, if i < 8 ∨ 24 ≤ i then 4 else 5) := by
  have hl : ((enL a b c).set i d).length = 32 := by rw [List.length_set, enL_len]
  obtain ⟨p1, p2, p3, p4, -, -, -⟩ := en_parts a b c []
  rw [List.append_nil] at p1 p2 p3 p4
  have hg : ∀ (k : Nat) (m : List UInt8), (∃ n, m = ((enL a b c).drop k).take n) → k ≤ i → ∀ (h : i - k < m.length), m[i - k] = (enL a b c)[i]'(by rw [enL_len]; exact hi) := by
    rintro k m ⟨n, rfl⟩ hk h
    rw [List.getElem_take, List.getElem_drop]
    congr 1
    omega
  rw [rdH, if_neg (by omega)]
  by_cases c1 : i < 8
  · rw [if_neg, if_pos (.inl c1)]
    rintro ⟨h, -⟩
    rw [List.take_set, p1] at h
    exact set_ne (l := j8F) (i := i) c1 (fun e => hd (e.trans (hg 0 j8F ⟨8, by rw [List.drop_zero, p1]⟩ (Nat.zero_le _) c1))) h
  by_cases c2 : 24 ≤ i
  · rw [if_neg, if_pos (.inr c2)]
    rintro ⟨-, h⟩
    rw [List.drop_set, if_neg (by omega), List.take_set, p2] at h
    have c3 : i - 24 < j8L.length := by show i - 24 < 8; omega
    exact set_ne c3 (fun e => hd (e.trans (hg 24 j8L ⟨8, p2.symm⟩ c2 c3))) h
  have q1 : ((enL a b c).set i d).take 8 = j8F := by rw [List.take_set_of_le (by omega), p1]
  have q2 : (((enL a b c).set i d).drop 24).take 8 = j8L := by rw [List.drop_set_of_lt (by omega), p2]
  rw [if_pos ⟨q1, q2⟩, if_neg (show ¬ (i < 8 ∨ 24 ≤ i) by omega), if_neg]
  have hs := sumZ_bd 7 (hdL a b c)
  by_cases c3 : i < 20
  · rw [List.drop_set_of_lt (by omega), p4, nm_four hs.1 hs.2, List.take_set, p3]
    have hh : i < (hdL a b c).length := c3
    exact fun e => sum_turned 7 (hdL a b c) i d hh (fun e => hd (e.trans (hg 0 (hdL a b c) ⟨20, by rw [List.drop_zero, p3]⟩ (Nat.zero_le _) hh))) e.symm
  · rw [List.take_set_of_le (by omega), p3, nmL_eq (by rw [List.length_drop, hl]; omega) hs.1 hs.2, List.drop_set, if_neg (by omega), List.take_set, p4]
    have e4 : (fourL (sumZ 7 (hdL a b c)).toNat ++ (j8L ++ [])).take 4 = fourL (sumZ 7 (hdL a b c)).toNat := rfl
    rw [e4]
    have c4 : i - 20 < (fourL (sumZ 7 (hdL a b c)).toNat).length := by show i - 20 < 4; omega
    exact set_ne c4 (fun e => hd (e.trans (hg 20 _ ⟨4, by rw [p4]; exact e4.symm⟩ (by omega) c4)))
end Go.Proofs.Ytjmciknelkodcaa
