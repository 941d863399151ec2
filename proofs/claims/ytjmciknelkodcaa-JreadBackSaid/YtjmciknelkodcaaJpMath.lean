/-
  Layer 9 on lists of bytes: the encoding of a page, what is read from any bytes, and the laws between them. No program text is walked here.
-/
import Derived.Test.YtjmciknelkodcaaJhTurnM
namespace Go.Proofs.Ytjmciknelkodcaa

def pgL (n : Int) (d : List UInt8) : List UInt8 := fourL n.toNat ++ d
def epL (n : Int) (d : List UInt8) (k : Int) : List UInt8 := pgL n d ++ fourL (sumZ k (pgL n d)).toNat
def okP (n : Int) : Bool := decide (1 ≤ n ∧ n ≤ 2000)
def wrP (n : Int) (d : List UInt8) (k : Int) : List UInt8 × Int :=
  if okP n = true then (if d.length = 512 then (epL n d k, 0) else ([], 12)) else ([], 3)
structure P9 where
  n : Int
  d : List UInt8
  e : Int
def rdP (l : List UInt8) (k : Int) : P9 :=
  if l.length < 520 then ⟨0, [], 1⟩
  else if nmL (l.drop 516) = sumZ k (l.take 516) then
    (if okP (nmL l) = true then ⟨nmL l, (l.drop 4).take 512, 0⟩ else ⟨0, [], 3⟩)
  else ⟨0, [], 5⟩

theorem okP_iff {n : Int} : okP n = true ↔ 1 ≤ n ∧ n ≤ 2000 := by unfold okP; exact decide_eq_true_iff
theorem pgL_len (n : Int) (d : List UInt8) : (pgL n d).length = 4 + d.length := by rw [pgL, List.length_append, four_len]
theorem epL_len (n : Int) (d : List UInt8) (k : Int) : (epL n d k).length = 8 + d.length := by rw [epL, List.length_append, pgL_len, four_len]; omega
theorem ep_parts (n : Int) {d : List UInt8} (k : Int) (m : List UInt8) (h : d.length = 512) :
    (epL n d k ++ m).take 516 = pgL n d ∧ (epL n d k ++ m).drop 516 = fourL (sumZ k (pgL n d)).toNat ++ m ∧ ((epL n d k ++ m).drop 4).take 512 = d := by
  have hp := pgL_len n d
  have e : epL n d k ++ m = pgL n d ++ (fourL (sumZ k (pgL n d)).toNat ++ m) := by rw [epL, List.append_assoc]
  rw [e]
  refine ⟨?_, ?_, ?_⟩
  · rw [List.take_append_of_le_length (by omega), List.take_of_length_le (by omega)]
  · rw [List.drop_append_of_le_length (by omega), List.drop_of_length_le (by omega), List.nil_append]
  · rw [pgL, List.append_assoc, List.drop_append_of_le_length (by rw [four_len]; omega), List.drop_of_length_le (by rw [four_len]; omega), List.nil_append, List.take_append_of_le_length (by omega), List.take_of_length_le (by omega)]
theorem rd_wrP {n : Int} {d : List UInt8} (k : Int) (h : okP n = true) (hd : d.length = 512) (m : List UInt8) : rdP (epL n d k ++ m) k = ⟨n, d, 0⟩ := by
  obtain ⟨p1, p2, p3⟩ := ep_parts n k m hd
  have hs := sumZ_bd k (pgL n d)
  have h' := okP_iff.1 h
  have hn : nmL (epL n d k ++ m) = n := by
    rw [epL, pgL, List.append_assoc, List.append_assoc]
    exact nm_four (by omega) (by omega) _
  rw [rdP, if_neg (by rw [List.length_append, epL_len]; omega), p2, p1, nm_four hs.1 hs.2, if_pos rfl, hn, if_pos h, p3]
theorem rd_turnedP (n : Int) {d : List UInt8} (k : Int) (hd : d.length = 512) {i : Nat} (hi : i < 520) {c : UInt8} (hc : c ≠ (epL n d k)[i]'(by rw [epL_len]; omega)) :
    rdP ((epL n d k).set i c) k = ⟨0, [], 5⟩ := by
  have hl : ((epL n d k).set i c).length = 520 := by rw [List.length_set, epL_len]; omega
  obtain ⟨p1, p2, -⟩ := ep_parts n k [] hd
  rw [List.append_nil] at p1 p2
  rw [List.append_nil] at p2
  have hp := pgL_len n d
  have hs := sumZ_bd k (pgL n d)
  rw [rdP, if_neg (by omega), if_neg]
  by_cases c3 : i < 516
  · rw [List.drop_set_of_lt (by omega), p2]
    have := nm_four hs.1 hs.2 []
    rw [List.append_nil] at this
    rw [this, List.take_set, p1]
    have hh : i < (pgL n d).length := by omega
    have hg : (pgL n d)[i] = (epL n d k)[i]'(by rw [epL_len]; omega) := by
      simp only [epL]
      rw [List.getElem_append_left hh]
    exact fun e => sum_turned k (pgL n d) i c hh (fun e => hc (e.trans hg)) e.symm
  · rw [List.take_set_of_le (by omega), p1, nmL_eq (by rw [List.length_drop, hl]; omega) hs.1 hs.2, List.drop_set, if_neg (by omega), List.take_set, p2]
    have e4 : (fourL (sumZ k (pgL n d)).toNat).take 4 = fourL (sumZ k (pgL n d)).toNat := rfl
    rw [e4]
    have c4 : i - 516 < (fourL (sumZ k (pgL n d)).toNat).length := by show i - 516 < 4; omega
    have hg : (fourL (sumZ k (pgL n d)).toNat)[i - 516] = (epL n d k)[i]'(by rw [epL_len]; omega) := by
      simp only [epL]
      rw [List.getElem_append_right (by omega)]
      exact getElem_congr_idx (by omega)
    exact set_ne c4 (fun e => hc (e.trans hg))
end Go.Proofs.Ytjmciknelkodcaa
