/-
  Layer 7, a disk with one file, on the abstract state: what a write and a truncation leave; and the bytes that the statement DiskWritten asks for. No program text is walked here.
-/
import Derived.Test.YtcpkbklnlnoonaaDoorDskRead
namespace Go.Proofs.YtcpkbklnlnoonaaDoor
open Go.RowKit

structure One (S : DS) (c : List UInt8) : Prop where
  dirs : S.dirs false = [([97], 0)]
  con : S.con false 0 = c
  room : S.room = 4000000
  down : S.down = false
  crash : S.crash = 0
  flt : ∀ k, S.flt k = 0
variable {S : DS} {c : List UInt8}
theorem one_find (h : One S c) : findL (S.dirs false) [97] = some 0 := by rw [h.dirs]; rfl
theorem one_beg (h : One S c) : One (begS S) c := ⟨h.dirs, h.con, h.room, by show decide (((S.ops + 1 : Nat) : Int) = S.crash) = false; rw [h.crash]; exact decide_eq_false (by omega), h.crash, h.flt⟩
theorem one_used (h : One S c) : usedN S = c.length := by
  unfold usedN lenOf
  rw [h.dirs]
  simp [h.con]
theorem one_exc (h : One S c) (z : Int) (hz : z ≤ 4000000) : excB S 0 z = false := by
  unfold excB
  rw [one_used h, h.con, h.room]
  by_cases h1 : (0 : Int) < z - (c.length : Int)
  · rw [show decide (((4000000 : Nat) : Int) < (c.length : Int) + (z - (c.length : Int))) = false from decide_eq_false (by omega), Bool.and_false]
  · rw [decide_eq_false h1, Bool.false_and]
theorem one_nodup (h : One S c) : ((S.dirs false).map (·.1)).Nodup := by rw [h.dirs]; decide
theorem one_write (h : One S c) (o : Int) (d : List UInt8) (h0 : 0 ≤ o) (h1 : o + (d.length : Int) ≤ 4000000) : (writeZ S [97] o d).1 = 0 ∧ One (writeZ S [97] o d).2 (overL c o.toNat d) := by
  have hb := one_beg h
  unfold writeZ
  rw [one_find h]
  simp only
  unfold writeIn
  rw [if_neg (by omega)]
  by_cases hd : d = []
  · rw [if_pos hd]
    have e : overL c o.toNat d = c := by unfold overL; rw [if_pos hd]
    rw [e]
    exact ⟨cutE_up hb.down 0, hb⟩
  · rw [if_neg hd, if_neg (by rw [one_exc hb _ h1]; simp)]
    have hO : One (perfS (.write 0 o.toNat d) (begS S)) (overL c o.toNat d) := ⟨hb.dirs, by show upd2 (begS S).con false 0 (overL ((begS S).con false 0) o.toNat d) false 0 = _; simp only [upd2, if_true, and_self]; rw [hb.con], hb.room, hb.down, hb.crash, hb.flt⟩
    exact ⟨cutE_up hO.down 0, hO⟩
theorem one_write_neg (h : One S c) (o : Int) (d : List UInt8) (h0 : o < 0) : (writeZ S [97] o d).1 = 3 := by
  have hb := one_beg h
  unfold writeZ
  rw [one_find h]
  simp only
  unfold writeIn
  rw [if_pos (.inl h0)]
  exact cutE_up hb.down 3
theorem one_trunc (h : One S c) (z : Int) (h0 : 0 ≤ z) (h1 : z ≤ 4000000) : (truncZ S [97] z).1 = 0 ∧ One (truncZ S [97] z).2 (resizeL c z.toNat) := by
  have hb := one_beg h
  unfold truncZ
  rw [one_find h]
  simp only
  unfold truncIn
  rw [if_neg (by omega), if_neg (by rw [one_exc hb _ h1]; simp)]
  have hO : One (perfS (.trunc 0 z.toNat) (begS S)) (resizeL c z.toNat) := ⟨hb.dirs, by show upd2 (begS S).con false 0 (resizeL ((begS S).con false 0) z.toNat) false 0 = _; simp only [upd2, if_true, and_self]; rw [hb.con], hb.room, hb.down, hb.crash, hb.flt⟩
  exact ⟨cutE_up hO.down 0, hO⟩
theorem one_trunc_neg (h : One S c) (z : Int) (h0 : z < 0) : (truncZ S [97] z).1 = 3 := by
  have hb := one_beg h
  unfold truncZ
  rw [one_find h]
  simp only
  unfold truncIn
  rw [if_pos (.inl h0)]
  exact cutE_up hb.down 3
theorem one_create : (createZ (newS (-1)) [97]).1 = 0 ∧ One (createZ (newS (-1)) [97]).2 [] := ⟨rfl, rfl, rfl, rfl, rfl, rfl, fun _ => rfl⟩
theorem one_cont (h : One S c) : contZ S [97] = c := by unfold contZ; rw [one_find h]; exact h.con
theorem one_read (h : One S c) (hc : c.length ≤ 1000000) : readL S 0 0 1099511627776 = c := by
  unfold readL
  rw [h.con]
  show (c.drop 0).take _ = c
  rw [List.drop_zero, List.take_of_length_le (by omega)]

/-- The bytes that the statement asks for. -/
theorem over_want (f d : List UInt8) (a : Nat) (hd : d ≠ []) :
    overL f a d = (f ++ List.replicate (a - f.length) 0).take a ++ d ++ (if a + d.length < (f ++ List.replicate (a - f.length) 0).length then (f ++ List.replicate (a - f.length) 0).drop (a + d.length) else []) := by
  have hdp : 0 < d.length := List.length_pos_iff.2 hd
  unfold overL resizeL
  rw [if_neg hd, List.append_assoc]
  by_cases h1 : a + d.length < f.length
  · have e1 : max f.length (a + d.length) = f.length := by omega
    have e2 : a - f.length = 0 := by omega
    rw [e1, e2, if_pos (Nat.le_refl _), List.take_length, List.replicate_zero, List.append_nil, if_pos h1]
  · have e1 : max f.length (a + d.length) = a + d.length := by omega
    have hl : (f ++ List.replicate (a - f.length) (0 : UInt8)).length = max f.length a := by rw [List.length_append, List.length_replicate]; omega
    rw [e1, if_neg (show ¬ a + d.length < (f ++ List.replicate (a - f.length) (0 : UInt8)).length by rw [hl]; omega)]
    by_cases h2 : a + d.length ≤ f.length
    · have e2 : a - f.length = 0 := by omega
      have e3 : a + d.length = f.length := by omega
      rw [if_pos h2, e2, List.replicate_zero, List.append_nil, e3, List.take_length, List.drop_length, List.append_nil]
    · rw [if_neg h2]
      have e4 : (f ++ List.replicate (a + d.length - f.length) (0 : UInt8)).drop (a + d.length) = [] := List.drop_of_length_le (by rw [List.length_append, List.length_replicate]; omega)
      have e5 : (f ++ List.replicate (a + d.length - f.length) (0 : UInt8)).take a = (f ++ List.replicate (a - f.length) (0 : UInt8)).take a := by
        rw [List.take_append, List.take_append, List.take_replicate, List.take_replicate]
        congr 2
        omega
      rw [e4, e5]
theorem resize_want (f : List UInt8) (z : Nat) : resizeL f z = (f ++ List.replicate (z - f.length) 0).take z := by
  unfold resizeL
  by_cases h : z ≤ f.length
  · rw [if_pos h, show z - f.length = 0 by omega, List.replicate_zero, List.append_nil]
  · rw [if_neg h, List.take_of_length_le (by rw [List.length_append, List.length_replicate]; omega)]
end Go.Proofs.YtcpkbklnlnoonaaDoor
