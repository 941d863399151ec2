/-
  Layer 10, the program's check: it returns what is wrong with the files of a super-journal ('ckS') and changes nothing. Condition: none beyond the memory's own.
-/
import Derived.Test.YtjmciknelkodcaaSpFiles
import Derived.Lib.SlicesS
namespace Go.Proofs.Ytjmciknelkodcaa
open Go.RowKit

theorem ck_18 {L : List (List UInt8)} (h : L.length < 2 ∨ 12 < L.length) : ckS L = 18 := by rw [ckS, if_pos h]
theorem ck_13 {L : List (List UInt8)} (h2 : 2 ≤ L.length) (h12 : L.length ≤ 12) {k : Nat} (hk : k < L.length) (h : okS L[k] = false) : ckS L = 13 := by
  rw [ckS, if_neg (by omega), if_pos]
  rw [List.all_eq_false]
  exact ⟨L[k], List.getElem_mem hk, by rw [h]; decide⟩
theorem ck_9 {L : List (List UInt8)} (h2 : 2 ≤ L.length) (h12 : L.length ≤ 12) (ha : ∀ p ∈ L, okS p = true) (h : ¬ L.Nodup) : ckS L = 9 := by
  rw [ckS, if_neg (by omega), if_neg, if_neg h]
  have : L.all okS = true := List.all_eq_true.2 ha
  rw [this]; decide
theorem not_nodup {L : List (List UInt8)} {k : Nat} (hk : k < L.length) (h : L[k] ∈ L.take k) : ¬ L.Nodup := by
  intro hn
  rw [← List.take_append_drop k L, List.nodup_append] at hn
  refine hn.2.2 _ h _ ?_ rfl
  rw [List.drop_eq_getElem_cons hk]
  exact List.mem_cons_self ..
theorem nodup_snoc {L : List (List UInt8)} {k : Nat} (hk : k < L.length) (h : L[k] ∉ L.take k) (hn : (L.take k).Nodup) : (L.take (k + 1)).Nodup := by
  rw [List.take_succ_eq_append_getElem hk, List.nodup_append]
  refine ⟨hn, by simp, ?_⟩
  intro x hx y hy e
  rw [List.mem_singleton] at hy
  subst hy e
  exact h hx
theorem ok_snoc {L : List (List UInt8)} {k : Nat} (hk : k < L.length) (h : okS L[k] = true) (hn : ∀ p ∈ L.take k, okS p = true) : ∀ p ∈ L.take (k + 1), okS p = true := by
  rw [List.take_succ_eq_append_getElem hk]
  intro p hp
  rcases List.mem_append.1 hp with hp | hp
  · exact hn p hp
  · rw [List.mem_singleton] at hp; rw [hp]; exact h
theorem cont_ba {l : List (List UInt8)} {x : List UInt8} : Lib.containsS (l.map ba) (ba x) = decide (x ∈ l) := by
  rw [Bool.eq_iff_iff, Lib.containsS_iff, decide_eq_true_iff, List.mem_map]
  constructor
  · rintro ⟨y, hy, e⟩
    rw [ba_inj.1 e] at hy
    exact hy
  · exact fun h => ⟨x, h, rfl⟩

end Go.Proofs.Ytjmciknelkodcaa
