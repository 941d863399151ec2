/-
  Layer 16, the program's reader (annexe/node): take, count, page, size: what each reads, and what it leaves; each changes the reader alone. Condition: at most 100000 bytes.
-/
import Derived.Test.YtdpjmijdlheajaaNpWrite
import Derived.Lib.BufferOwn
namespace Go.Proofs.Ytdpjmijdlheajaa
open Go.RowKit

/-- The reader's block holds what is left. -/
def R16 (w : World) (b : Nat) (l : List UInt8) : Prop := Blk w b 92 #[.string (nb l)]
theorem r16_cell {w : World} {b : Nat} {l : List UInt8} (h : R16 w b l) : w.cell? ⟨b, 0, none⟩ = some (.string (nb l)) ∧ w.frozen? ⟨b, 0, none⟩ = false ∧ b < w.heap.size := ⟨blk_cell h 0 rfl, blk_frozen h 0, blk_lt h⟩
theorem r16_set {w : World} {b : Nat} {l : List UInt8} (h : R16 w b l) (l' : List UInt8) : R16 (w.setCell ⟨b, 0, none⟩ (.string (nb l'))) b l' := blk_set h 0 _
theorem r16_below {w w' : World} {b : Nat} {l : List UInt8} (h : R16 w b l) (hb : Below w.heap.size w w') : R16 w' b l := blk_below h hb
theorem r16_other {w : World} {b : Nat} {l : List UInt8} (h : R16 w b l) {g : Nat} (hne : b ≠ g) (i : Nat) (v : Value) : R16 (w.setCell ⟨g, i, none⟩ v) b l := blk_other h hne i v
theorem blk_gby {w w' : World} {g b : Nat} {t : TypeId} {cs : Array Value} (h : Blk w g t cs) (hg : w.grownBy w' (some b)) (hne : g ≠ b) : Blk w' g t cs := (hg.block g (blk_lt h) (fun e => hne (Option.some.inj e))).trans h
theorem gby_new {w w' : World} {o : Obj} {b : Nat} (h : (w.alloc o).grownBy w' (some b)) : w.grownBy w' (some b) :=
  ⟨h.os, h.tape, h.output, by have := h.size; simp at this; omega, fun k hk hr => (h.block k (by simp; omega) hr).trans ((blw1 w o).block k hk)⟩
theorem gby_set {w W : World} {b g : Nat} (h : w.grownBy W (some b)) (hg : w.heap.size ≤ g) (i : Nat) (v : Value) : w.grownBy (W.setCell ⟨g, i, none⟩ v) (some b) :=
  ⟨h.os, h.tape, h.output, by rw [Deep.nblk_setCell]; exact h.size, fun k hk hr => (Below.heap_setCell W ⟨g, i, none⟩ v k (by show k ≠ g; omega)).trans (h.block k hk hr)⟩
theorem gby_below {w W : World} {b B : Nat} (h : w.grownBy W (some b)) (hb : B ≤ b) (hB : B ≤ w.heap.size) : Below B w W :=
  ⟨h.os, h.tape, h.output, h.size, fun k hk => h.block k (by omega) (fun e => by have := Option.some.inj e; omega)⟩
set_option maxRecDepth 100000 in
set_option maxHeartbeats 1000000 in
theorem nclone_any (s : ByteArray) (w : World) (h : s.size ≤ 281474976710656) :
    Calls Try.prog 65 #[.string s] w fun e w' => e = .returned (.string s) ∧ Below w.heap.size w w' := by
  have hc := fun w => Try.stringslite_Clone s w h
  go_enter Try.func65, Try.ntmps65
  go_wp2_with (go_at_call 73; refine (hc _).mono ?_; rintro e w' ⟨rfl, hb⟩)
  go_ret
  exact ⟨rfl, hb⟩
theorem take_min (l : List UInt8) (n : Nat) : l.take n = l.take (min n l.length) := by
  by_cases h : n ≤ l.length
  · rw [Nat.min_eq_left h]
  · rw [Nat.min_eq_right (by omega), List.take_of_length_le (by omega), List.take_length]
theorem drop_min (l : List UInt8) (n : Nat) : l.drop n = l.drop (min n l.length) := by
  by_cases h : n ≤ l.length
  · rw [Nat.min_eq_left h]
  · rw [Nat.min_eq_right (by omega), List.drop_of_length_le (by omega), List.drop_length]
set_option maxRecDepth 100000 in
set_option maxHeartbeats 2000000 in
theorem take_r (b : Nat) (l : List UInt8) (n : Nat) (w : World) (hl : l.length ≤ 100000) (hn : n ≤ 1000000000) (h : R16 w b l) :
    Calls Try.prog 48 #[.pointer (some ⟨b, 0, none⟩), .int .i64 (n : Int)] w fun e w' => e = .returned (.string (nb (l.take n))) ∧ R16 w' b (l.drop n) ∧ w.grownBy w' (some b) := by
  obtain ⟨c0, f0, hlt⟩ := r16_cell h
  have HRD := Lib.hid h
  have hs := nb_size l
  obtain ⟨m, hm⟩ : ∃ m, m = min n l.length := ⟨_, rfl⟩
  have e1 := nb_ext l 0 m
  have e2 := nb_ext l m (nb l).size
  rw [List.drop_zero, Nat.sub_zero, hm, ← take_min, ← hm] at e1
  rw [show (l.drop m).take ((nb l).size - m) = l.drop n from by
    rw [drop_min l n, ← hm, hs]
    exact List.take_of_length_le (by rw [List.length_drop]; omega)] at e2
  obtain ⟨S, hS⟩ : ∃ S, S = nb l := ⟨_, rfl⟩
  obtain ⟨T, hT⟩ : ∃ T, T = nb (l.take n) := ⟨_, rfl⟩
  obtain ⟨D, hD⟩ : ∃ D, D = nb (l.drop n) := ⟨_, rfl⟩
  rw [← hS] at c0 e1 e2 hs
  rw [← hT] at e1
  rw [← hD] at e2
  have hts : T.size ≤ 100000 := by rw [hT, nb_size, List.length_take]; omega
  rw [← hT]
  have hmi : min (n : Int) (S.size : Int) = (m : Int) := by omega
  have q1 : m ≤ S.size := by omega
  have q2 : (m : Int) ≤ S.size := by omega
  have kc := fun W => nclone_any T W (by omega)
  have HF := Lib.hid (fun W (hb : Below w.heap.size w W) => show W.cell? ⟨b, 0, none⟩ = some (.string S) ∧ W.frozen? ⟨b, 0, none⟩ = false ∧ R16 W b l from by
    have h1 := r16_below HRD.out hb
    rw [hS]
    exact ⟨(r16_cell h1).1, (r16_cell h1).2.1, h1⟩)
  have HD := Lib.hid hD
  clear h hm hS hT hD hs hl hn
  go_enter Try.func48, Try.ntmps48
  go_upto_region 3 with (go_at_call 65; (try rw [e1]); (with_reducible refine (kc _).mono ?_); rintro e w2 ⟨rfl, hb2⟩; have HB2 := Lib.hid hb2; clear hb2)
  obtain ⟨d0, g0, hr2⟩ := HF.out _ HB2.out
  have HR2 := Lib.hid hr2
  clear c0 f0 hr2
  go_wp2
  go_ret
  refine ⟨rfl, ?_, ?_⟩
  · have := r16_set HR2.out (l.drop n)
    rw [← HD.out] at this
    exact this
  · exact Lib.grownBy_setB (Lib.grownBy_below (.refl _ _) HB2.out) 0 _
def cntN (l : List UInt8) : Nat := (numR (0 :: 0 :: l.take 2)).1.toNat
def pgN (l : List UInt8) : Int := (numR (l.take 4)).1
theorem num_pos (l : List UInt8) : 0 ≤ (numR l).1 ∧ (numR l).1 ≤ 4294967295 := by
  unfold numR
  split
  · simp
  · rename_i h
    have a0 := (l.getD 0 0).toNat_lt
    have a1 := (l.getD 1 0).toNat_lt
    have a2 := (l.getD 2 0).toNat_lt
    have a3 := (l.getD 3 0).toNat_lt
    simp only
    omega
end Go.Proofs.Ytdpjmijdlheajaa
