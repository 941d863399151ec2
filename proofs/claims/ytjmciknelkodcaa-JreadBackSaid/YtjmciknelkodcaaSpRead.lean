/-
  Layer 10, the reader's methods take, number, path and name: each returns what it reads from the bytes that are left, takes it off them, and changes the reader alone. Condition: at most 1048576 bytes.
-/
import Derived.Test.YtjmciknelkodcaaSpLeaf
import Derived.Lib.BufferOwn
namespace Go.Proofs.Ytjmciknelkodcaa
open Go.RowKit

theorem sblk_grown {w w' : World} {g b : Nat} {t : TypeId} {cs : Array Value} (h : Blk w g t cs) (hg : w.grownBy w' (some b)) (hne : g ≠ b) : Blk w' g t cs := (hg.block g (blk_lt h) (fun e => hne (Option.some.inj e))).trans h
theorem below_grown {w w' : World} {n : Nat} {row : Option Nat} (h : Below n w w') (hn : n = w.heap.size) : w.grownBy w' row := by
  subst hn
  exact ⟨h.os, h.tape, h.output, h.size, fun k hk _ => h.block k hk⟩

/-- The reader lies at block b: the bytes that are left. -/
def Rdr (w : World) (b : Nat) (l : List UInt8) : Prop := Blk w b 85 #[.string (ba l)]
theorem rdr_cell {w : World} {b : Nat} {l : List UInt8} (h : Rdr w b l) : w.cell? ⟨b, 0, none⟩ = some (.string (ba l)) ∧ w.frozen? ⟨b, 0, none⟩ = false := ⟨blk_cell h 0 rfl, blk_frozen h 0⟩
theorem rdr_set {w : World} {b : Nat} {l : List UInt8} (h : Rdr w b l) (s : ByteArray) : Rdr (w.setCell ⟨b, 0, none⟩ (.string s)) b s.data.toList := by
  have := blk_set h 0 (.string s)
  rw [← ba_back s] at this
  exact this
theorem sext_take (l : List UInt8) (k : Nat) : (ba l).extract 0 k = ba (l.take k) := by
  apply ByteArray.ext
  simp [ba, ByteArray.data_extract]
theorem sext_drop (l : List UInt8) (k : Nat) : (ba l).extract k (ba l).size = ba (l.drop k) := by
  apply ByteArray.ext
  simp [ba, ByteArray.data_extract, ByteArray.size]
  exact List.take_of_length_le (by simp)

set_option maxHeartbeats 1000000 in
theorem sptake_any (b : Nat) (l : List UInt8) (n : Nat) (w : World) (hs : l.length ≤ 1048576) (hn : n ≤ 9223372036854775807) (h : Rdr w b l) :
    Calls Try.prog 54 #[.pointer (some ⟨b, 0, none⟩), .int .i64 n] w fun e w' => e = .returned (.string (ba (l.take n))) ∧ Rdr w' b (l.drop n) ∧ w.grownBy w' (some b) := by
  obtain ⟨c0, f0⟩ := rdr_cell h
  have HRD := Lib.hid h; clear h
  have hz := ba_size l
  have ht : l.take n = l.take (min n l.length) := by rw [← List.take_eq_take_min]
  have hd : l.drop n = l.drop (min n l.length) := by
    by_cases c : n ≤ l.length
    · rw [Nat.min_eq_left c]
    · rw [Nat.min_eq_right (by omega), List.drop_of_length_le (by omega), List.drop_of_length_le (by omega)]
  rw [ht, hd]
  obtain ⟨m, hm⟩ : ∃ m, m = min n l.length := ⟨_, rfl⟩
  rw [← hm]
  have hmz : min (n : Int) (l.length : Int) = m := by omega
  have hm2 : m ≤ (ba l).size := by omega
  have hm3 : (m : Int) ≤ l.length := by omega
  have hm4 : m ≤ l.length := by omega
  clear ht hd hm
  have HT := Lib.hid (sext_take l m)
  have HD := Lib.hid (sext_drop l m)
  go_enter Try.func54, Try.ntmps54
  go_wp2
  go_ret
  rw [← hz, HT.out, HD.out]
  exact ⟨rfl, rdr_set HRD.out _, Lib.grownBy_setCell w b 0 _⟩
theorem nm_take4 (l : List UInt8) : nmL (l.take 4) = nmL l := by
  by_cases h : 4 ≤ l.length
  · exact nmL_take l h
  · rw [List.take_of_length_le (by omega)]
theorem spnumber_any (b : Nat) (l : List UInt8) (w : World) (hs : l.length ≤ 1048576) (h : Rdr w b l) :
    Calls Try.prog 71 #[.pointer (some ⟨b, 0, none⟩)] w fun e w' => e = .returned (.int .i64 (nmL l)) ∧ Rdr w' b (l.drop 4) ∧ w.grownBy w' (some b) := by
  have k1 := sptake_any b l 4 w hs (by decide) h
  have k2 := fun w => vnumber_any (ba (l.take 4)) (by rw [ba_size, List.length_take]; omega) w
  rw [ba_list] at k2
  have e := nm_take4 l
  unfold nmL at e ⊢
  rw [← e]
  generalize numR (l.take 4) = x at k2 ⊢
  clear h e
  go_enter Try.func71, Try.ntmps71
  go_wp2_with (first | (go_at_call 54; refine k1.mono ?_; rintro e w1 ⟨rfl, hr, hg⟩) | (go_at_call 75; refine (k2 _).mono ?_; rintro e w2 ⟨rfl, rfl⟩))
  go_ret
  exact ⟨rfl, hr, hg⟩
end Go.Proofs.Ytjmciknelkodcaa
