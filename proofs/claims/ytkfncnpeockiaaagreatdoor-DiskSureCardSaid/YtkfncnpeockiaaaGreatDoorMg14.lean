/-
  Layer 7, the document's side: a file's bytes with a change. Condition: the sizes are at most a million.
  Layer 7, the document's disk in memory: its block, its six slices, each a row of its own; how the parts are carried. Condition: none (definitions, and how they are carried).
  Layer 7, the document's disk as functions on its state, and how long its parts get. No program text is walked here.
  Layer 7: the states through which Restart passes: nothing pending and the visible map a copy of the durable one; a visible file a copy of its durable contents; the machine up. Condition: the sizes that the invariant holds.
  Layer 7: the program's disk and the document's, side by side on their states: each counted call answers the same and keeps them alike. No program text is walked here.
  Layer 7: the program's disk and the document's, side by side: each of the calls. No program text is walked here.
  Layer 7, the document's side: Find, which looks a path up in a directory. Condition: the directory is one of the rows of the document's disk.
  Layer 7, the document's side: New, end, CrashAt and Content. Condition: the numbers are ints.
-/
import Derived.LoopTactic
import Derived.Test.YtkfncnpeockiaaaGreatDoorMg13
import Derived.Test.YtkfncnpeockiaaaGreatDoorMg9
namespace Go.Proofs.YtkfncnpeockiaaaGreatDoor
open Go.RowKit
variable {w w' : World}

/-- A truncation, as the document says it. -/
theorem qbytes_trunc (s nm d : ByteArray) (f : Int) (a : Nat) (ha : a ≤ 1000000) (hs : s.size ≤ 1000000) :
    Calls Tryz.prog 68 #[.string s, .agg #[.int .i64 4, .string nm, .int .i64 f, .int .i64 a, .string d]] w fun e w' => e = .returned (.string (bz (resizeL s.data.toList a))) ∧ Below w.heap.size w w' := by
  have hsl : s.data.toList.length = s.size := by simp
  have hb1 : Below w.heap.size w (w.alloc (.cells #[.int .i64 4, .string nm, .int .i64 f, .int .i64 a, .string d] 99)) := (Below.refl _ _).alloc (Nat.le_refl _) _
  have HB1 := Lib.hid hb1
  by_cases h : (a : Int) < (s.size : Int)
  · have h2 : decide ((a : Int) < (s.size : Int)) = true := decide_eq_true h
    have he : s.extract 0 a = bz (resizeL s.data.toList a) := by
      apply ByteArray.ext
      apply Array.ext'
      rw [Lib.extract_data]
      unfold resizeL
      rw [if_pos (by omega)]
      simp [bz]
    have h3 : (a : Int) ≤ (s.size : Int) := by omega
    rw [← he]
    clear hsl hb1 he
    go_enter Tryz.func68, Tryz.ntmps68
    go_wp2
    go_ret
    exact ⟨rfl, HB1.out⟩
  · have h2 : decide ((a : Int) < (s.size : Int)) = false := decide_eq_false h
    have y1 : IntKind.i64.wrap ((a : Int) - (s.size : Int)) = (a : Int) - (s.size : Int) := IntWalk.i64_in _ ⟨by omega, by omega⟩
    have hn := fun w1 : World => qnoughts_any (w := w1) ((a : Int) - (s.size : Int)) (by omega) (by omega)
    obtain ⟨Z, hZ⟩ : ∃ Z, zb ((a : Int) - (s.size : Int)).toNat = Z := ⟨_, rfl⟩
    have hzs : Z.size ≤ 1000000 := by rw [← hZ, zb_size]; omega
    rw [hZ] at hn
    have HN := Lib.hid hn
    have he : s ++ Z = bz (resizeL s.data.toList a) := by
      rw [← hZ]
      apply ByteArray.ext
      apply Array.ext'
      have e1 : ((a : Int) - (s.size : Int)).toNat = a - s.data.toList.length := by omega
      rw [e1]
      unfold resizeL
      split
      · have : a = s.data.toList.length := by omega
        subst this
        rw [List.take_of_length_le (Nat.le_refl _)]
        simp [bz, zb]
      · simp [bz, zb]
    rw [← he]
    clear hsl hb1 he hn hZ
    go_enter Tryz.func68, Tryz.ntmps68
    go_wp2_with (go_at_call 82; (with_reducible refine (HN.out _).mono ?_); rintro e w1 ⟨rfl, hb⟩; have HB := Lib.hid hb; clear hb)
    go_ret
    exact ⟨rfl, HB1.out.trans (HB.out.mono HB1.out.size)⟩

def overD (s : List UInt8) (a : Nat) (d : List UInt8) : List UInt8 := (s ++ List.replicate (a - s.length) 0).take a ++ (d ++ (s ++ List.replicate (a - s.length) 0).drop (a + d.length))
theorem overD_eq (s : List UInt8) (a : Nat) (d : List UInt8) (hd : d ≠ []) : overD s a d = overL s a d := by
  have hl : 0 < d.length := List.length_pos_iff.2 hd
  unfold overD overL
  rw [if_neg hd]
  unfold resizeL
  split
  · have e : max s.length (a + d.length) = s.length := by omega
    have e0 : a - s.length = 0 := by omega
    rw [e, e0, List.replicate_zero, List.append_nil, List.take_length]
  · have e : max s.length (a + d.length) = a + d.length := by omega
    rw [e]
    congr 1
    · by_cases h : a ≤ s.length
      · rw [show a - s.length = 0 by omega, List.replicate_zero, List.append_nil, List.take_append_of_le_length h]
      · rw [List.take_append, List.take_append, List.take_of_length_le (by omega : s.length ≤ a), List.take_replicate, List.take_replicate]
        congr 2
        omega
    · congr 1
      rw [List.drop_of_length_le (by rw [List.length_append, List.length_replicate]; omega), List.drop_of_length_le (by rw [List.length_append, List.length_replicate]; omega)]
set_option maxHeartbeats 1000000 in
/-- A write, as the document says it. -/
theorem qbytes_write (s nm d : ByteArray) (f : Int) (a : Nat) (ha : a ≤ 1000000) (hs : s.size ≤ 1000000) (hd : d.size ≤ 1000000) :
    Calls Tryz.prog 68 #[.string s, .agg #[.int .i64 3, .string nm, .int .i64 f, .int .i64 a, .string d]] w fun e w' => e = .returned (.string (bz (overD s.data.toList a d.data.toList))) ∧ Below w.heap.size w w' := by
  have hsl : s.data.toList.length = s.size := by simp
  have hdl : d.data.toList.length = d.size := by simp
  have hb1 : Below w.heap.size w (w.alloc (.cells #[.int .i64 3, .string nm, .int .i64 f, .int .i64 a, .string d] 99)) := (Below.refl _ _).alloc (Nat.le_refl _) _
  have HB1 := Lib.hid hb1
  have HBX := Lib.hid (blk_new w 99 #[.int .i64 3, .string nm, .int .i64 f, .int .i64 a, .string d])
  have y1 : IntKind.i64.wrap ((a : Int) - (s.size : Int)) = (a : Int) - (s.size : Int) := IntWalk.i64_in _ ⟨by omega, by omega⟩
  have hn := fun w1 : World => qnoughts_any (w := w1) ((a : Int) - (s.size : Int)) (by omega) (by omega)
  obtain ⟨Z, hZ⟩ : ∃ Z, zb ((a : Int) - (s.size : Int)).toNat = Z := ⟨_, rfl⟩
  have hzs : Z.size ≤ 1000000 := by rw [← hZ, zb_size]; omega
  have hzs2 : a ≤ s.size + Z.size := by rw [← hZ, zb_size]; omega
  rw [hZ] at hn
  have HN := Lib.hid hn
  obtain ⟨C, hC⟩ : ∃ C, s ++ Z = C := ⟨_, rfl⟩
  have hCs : C.size = s.size + Z.size := by rw [← hC, ByteArray.size_append]
  have hCl : C.data.toList = s.data.toList ++ List.replicate (a - s.data.toList.length) 0 := by
    rw [← hC, ← hZ, hsl, show ((a : Int) - (s.size : Int)).toNat = a - s.size by omega]
    simp [zb]
  have hC1 : (a : Int) ≤ (C.size : Int) := by omega
  have hC2 : C.size ≤ 2000000 := by omega
  have y3 : IntKind.i64.wrap ((a : Int) + (d.size : Int)) = (a : Int) + (d.size : Int) := IntWalk.i64_in _ ⟨by omega, by omega⟩
  have hov : overD s.data.toList a d.data.toList = C.data.toList.take a ++ (d.data.toList ++ C.data.toList.drop (a + d.size)) := by
    unfold overD
    rw [hCl, hdl]
  have hCL : C.data.toList.length = C.size := by simp
  rw [hov]
  clear hov hZ hsl hdl hn hCl hzs2 hCs
  by_cases h : (C.size : Int) ≤ (a : Int) + (d.size : Int)
  · have he : C.extract 0 a ++ d = bz (C.data.toList.take a ++ (d.data.toList ++ C.data.toList.drop (a + d.size))) := by
      rw [List.drop_of_length_le (by omega), List.append_nil]
      apply ByteArray.ext
      apply Array.ext'
      simp [bz]
    rw [← he]
    clear he hCL hb1
    go_enter Tryz.func68, Tryz.ntmps68
    go_wp2_with (go_at_call 82; (with_reducible refine (HN.out _).mono ?_); rintro e w1 ⟨rfl, hb⟩; have hbx1 : Blk w1 w.heap.size 99 _ := (hb.block _ (blk_lt HBX.out)).trans HBX.out; have x3 := blk_cell hbx1 3 (v := .int .i64 a) rfl; have x4 := blk_cell hbx1 4 (v := .string d) rfl; have HB := Lib.hid hb; clear hb hbx1)
    go_region
    go_wp2
    go_ret
    exact ⟨rfl, (HB1.out.trans (HB.out.mono HB1.out.size)).drew⟩
  · have he : C.extract 0 a ++ d ++ C.extract (a + d.size) C.size = bz (C.data.toList.take a ++ (d.data.toList ++ C.data.toList.drop (a + d.size))) := by
      apply ByteArray.ext
      apply Array.ext'
      simp [bz]
      exact List.take_of_length_le (by simp)
    rw [← he]
    clear he hCL hb1
    go_enter Tryz.func68, Tryz.ntmps68
    go_wp2_with (go_at_call 82; (with_reducible refine (HN.out _).mono ?_); rintro e w1 ⟨rfl, hb⟩; have hbx1 : Blk w1 w.heap.size 99 _ := (hb.block _ (blk_lt HBX.out)).trans HBX.out; have x3 := blk_cell hbx1 3 (v := .int .i64 a) rfl; have x4 := blk_cell hbx1 4 (v := .string d) rfl; have HB := Lib.hid hb; clear hb hbx1)
    go_region
    go_wp2
    go_ret
    exact ⟨rfl, (HB1.out.trans (HB.out.mono HB1.out.size)).drew⟩
end Go.Proofs.YtkfncnpeockiaaaGreatDoor

namespace Go.Proofs.YtkfncnpeockiaaaGreatDoor
open Go.RowKit
variable {w w' : World}

structure RS where
  seen : List (List UInt8 × Nat)
  sure : List (List UInt8 × Nat)
  seenB : List (List UInt8)
  sureB : List (List UInt8)
  waits : List Chg
  room : Nat
  count : Nat
  tells : List (Int × Int)
  crash : Int
  off : Bool
structure QL where
  b : Nat
  v : Nat → Value

def entC (p : List UInt8 × Nat) : List Value := [.string (bz p.1), .int .i64 p.2]
def strC (s : List UInt8) : List Value := [.string (bz s)]
def tellC (p : Int × Int) : List Value := [.int .i64 p.1, .int .i64 p.2]
/-- A change, as the document lays it. -/
def Chg.qc : Chg → List Value
  | .create n i => [.int .i64 1, .string (bz n), .int .i64 i, .int .i64 0, .string (bz [])]
  | .remove n => [.int .i64 2, .string (bz n), .int .i64 0, .int .i64 0, .string (bz [])]
  | .write i o d => [.int .i64 3, .string (bz []), .int .i64 i, .int .i64 o, .string (bz d)]
  | .trunc i z => [.int .i64 4, .string (bz []), .int .i64 i, .int .i64 z, .string (bz [])]
/-- The bounds of a change here. -/
def Chg.QOk (nf : Nat) : Chg → Prop
  | .create n i => i < nf ∧ n.length ≤ 1000000
  | .remove n => n.length ≤ 1000000
  | .write i o d => i < nf ∧ o ≤ 20000 ∧ d.length ≤ 20000 ∧ d ≠ []
  | .trunc i z => i < nf ∧ z ≤ 20000

abbrev ety : Nat → TypeId | 0 => 104 | 1 => 104 | 2 => 9 | 3 => 9 | 4 => 99 | _ => 68
abbrev esz : Nat → Nat | 0 => 2 | 1 => 2 | 2 => 1 | 3 => 1 | 4 => 5 | _ => 2
abbrev eln (R : RS) : Nat → Nat | 0 => R.seen.length | 1 => R.sure.length | 2 => R.seenB.length | 3 => R.sureB.length | 4 => R.waits.length | _ => R.tells.length
abbrev ecl (R : RS) : Nat → List Value | 0 => R.seen.flatMap entC | 1 => R.sure.flatMap entC | 2 => R.seenB.flatMap strC | 3 => R.sureB.flatMap strC | 4 => R.waits.flatMap Chg.qc | _ => R.tells.flatMap tellC
def fld (i : Nat) : Prop := i < 5 ∨ i = 7
abbrev qcells (Q : QL) (R : RS) : Array Value := #[Q.v 0, Q.v 1, Q.v 2, Q.v 3, Q.v 4, .int .i64 R.room, .int .i64 R.count, Q.v 7, .int .i64 R.crash, .bool R.off]

structure QOk (n : Nat) (R : RS) : Prop where
  lenB : R.sureB.length = R.seenB.length
  seenK : ∀ p, p ∈ R.seen → p.2 < R.seenB.length ∧ p.1.length ≤ 1000000
  sureK : ∀ p, p ∈ R.sure → p.2 < R.seenB.length ∧ p.1.length ≤ 1000000
  wK : ∀ c, c ∈ R.waits → c.QOk R.seenB.length
  bK : ∀ s, s ∈ R.seenB → s.length ≤ 40000
  cK : ∀ s, s ∈ R.sureB → s.length ≤ 40000
  tK : ∀ p, p ∈ R.tells → -9223372036854775808 ≤ p.1 ∧ p.1 ≤ 9223372036854775807 ∧ -9223372036854775808 ≤ p.2 ∧ p.2 ≤ 9223372036854775807
  room : R.room ≤ 4000000
  bnd : (∀ i, eln R i ≤ n) ∧ R.count ≤ n ∧ n ≤ 100000

structure QInv (Q : QL) (R : RS) (w : World) : Prop where
  blk : Blk w Q.b 64 (qcells Q R)
  row : ∀ i, fld i → w.ownsRow 0 (ety i) (esz i) (Q.v i) (eln R i) (ecl R i)
  ne : ∀ i, fld i → (Q.v i).ownBlock ≠ some Q.b

/-- The blocks of the document's disk. -/
def QB (Q : QL) (g : Nat) : Prop := g = Q.b ∨ ∃ i, fld i ∧ (Q.v i).ownBlock = some g
/-- What a call may turn: the disk's own block, and new ones. -/
structure QStep (Q : QL) (w : World) (Q' : QL) (w' : World) : Prop where
  os : w'.os = w.os
  tape : w'.tape = w.tape
  output : w'.output = w.output
  size : w.heap.size ≤ w'.heap.size
  blk : ∀ k, k < w.heap.size → k ≠ Q.b → w'.heap[k]? = w.heap[k]?
  b : Q'.b = Q.b
  new : ∀ g, QB Q' g → QB Q g ∨ w.heap.size ≤ g
theorem QStep.refl (Q : QL) (w : World) : QStep Q w Q w := ⟨rfl, rfl, rfl, Nat.le_refl _, fun _ _ _ => rfl, rfl, fun _ h => .inl h⟩
theorem QStep.trans {Q Q' Q'' : QL} {w w' w'' : World} (h : QStep Q w Q' w') (k : QStep Q' w' Q'' w'') : QStep Q w Q'' w'' :=
  ⟨k.os.trans h.os, k.tape.trans h.tape, k.output.trans h.output, Nat.le_trans h.size k.size,
   fun i hi hne => (k.blk i (Nat.lt_of_lt_of_le hi h.size) (by rw [h.b]; exact hne)).trans (h.blk i hi hne), k.b.trans h.b,
   fun g hg => by
    rcases k.new g hg with h1 | h1
    · exact h.new g h1
    · exact .inr (Nat.le_trans h.size h1)⟩
theorem QStep.below {Q : QL} {w w' : World} (h : Below w.heap.size w w') : QStep Q w Q w' := ⟨h.os, h.tape, h.output, h.size, fun k hk _ => h.block k hk, rfl, fun _ h => .inl h⟩

variable {Q Q' : QL} {R R' : RS}
theorem QInv.heap (h : QInv Q R w) (hk : ∀ g, QB Q g → w'.heap[g]? = w.heap[g]?) : QInv Q R w' :=
  ⟨(hk _ (.inl rfl)).trans h.blk, fun i hi => row_keep (h.row i hi) (fun g hg => hk g (.inr ⟨i, hi, hg⟩)), h.ne⟩
theorem QInv.lt (h : QInv Q R w) {g : Nat} (hg : QB Q g) : g < w.heap.size := by
  rcases hg with rfl | ⟨i, hi, hg⟩
  · exact blk_lt h.blk
  · exact ((h.row i hi).lt g hg).2
theorem QInv.below (h : QInv Q R w) (hb : Below w.heap.size w w') : QInv Q R w' := h.heap (fun g hg => hb.block g (h.lt hg))
theorem QInv.alloc (h : QInv Q R w) (o : Obj) : QInv Q R (w.alloc o) := h.below ((Below.refl _ _).alloc (Nat.le_refl _) _)
theorem QInv.drew (h : QInv Q R w) : QInv Q R w.drew := h.heap (fun _ _ => rfl)

/-- One of the slices stored anew: a row made since. -/
theorem q_put (h : QInv Q R w) (i : Nat) (hi : fld i) {v1 : Value} (hg : Below w.heap.size w w') (hrow : w'.ownsRow 0 (ety i) (esz i) v1 (eln R' i) (ecl R' i)) (hnew : ∀ g, v1.ownBlock = some g → w.heap.size ≤ g)
    (hoth : ∀ j, fld j → j ≠ i → eln R' j = eln R j ∧ ecl R' j = ecl R j) (hsc : R'.room = R.room ∧ R'.count = R.count ∧ R'.crash = R.crash ∧ R'.off = R.off) :
    QInv ⟨Q.b, updN Q.v i v1⟩ R' (w'.setCell ⟨Q.b, i, none⟩ v1) ∧ QStep Q w ⟨Q.b, updN Q.v i v1⟩ (w'.setCell ⟨Q.b, i, none⟩ v1) := by
  have hlb := blk_lt h.blk
  have h0 : Blk w' Q.b 64 (qcells Q R) := (hg.block _ hlb).trans h.blk
  have hk : ∀ k, k ≠ Q.b → (w'.setCell ⟨Q.b, i, none⟩ v1).heap[k]? = w'.heap[k]? := setCell_keep _ _ _ _
  obtain ⟨e1, e2, e3, e4⟩ := hsc
  refine ⟨⟨?_, fun j hj => ?_, fun j hj => ?_⟩, ⟨hg.os, hg.tape, hg.output, by rw [size_setCell']; exact hg.size, fun k hk' hne => (hk k hne).trans (hg.block k hk'), rfl, fun g hg' => ?_⟩⟩
  · have hb := blk_set h0 i v1
    have e : (qcells Q R).setIfInBounds i v1 = qcells ⟨Q.b, updN Q.v i v1⟩ R' := by
      unfold qcells
      rw [e1, e2, e3, e4]
      rcases hi with hi | rfl
      · match i, hi with
        | 0, _ => rfl
        | 1, _ => rfl
        | 2, _ => rfl
        | 3, _ => rfl
        | 4, _ => rfl
      · rfl
    rw [e] at hb
    exact hb
  · by_cases e : j = i
    · subst e
      have : updN Q.v j v1 j = v1 := by simp [updN]
      show World.ownsRow _ 0 _ _ (updN Q.v j v1 j) _ _
      rw [this]
      exact row_keep hrow (fun g hg' => hk g (fun e => by have := hnew g hg'; omega))
    · have : updN Q.v i v1 j = Q.v j := by simp [updN, e]
      show World.ownsRow _ 0 _ _ (updN Q.v i v1 j) _ _
      rw [this, (hoth j hj e).1, (hoth j hj e).2]
      exact row_keep (h.row j hj) (fun g hg' => (hk g (fun e => h.ne j hj (e ▸ hg'))).trans (hg.block g ((h.row j hj).lt g hg').2))
  · show (updN Q.v i v1 j).ownBlock ≠ some Q.b
    unfold updN
    split
    · intro e; have := hnew _ e; omega
    · exact h.ne j hj
  · rcases hg' with e | ⟨j, hj, hg'⟩
    · exact .inl (.inl e)
    · change (updN Q.v i v1 j).ownBlock = some g at hg'
      unfold updN at hg'
      split at hg'
      · exact .inr (hnew g hg')
      · exact .inl (.inr ⟨j, hj, hg'⟩)
/-- A number or a truth stored anew. -/
theorem q_num (h : QInv Q R w) (i : Nat) (v1 : Value) (hc : (qcells Q R).setIfInBounds i v1 = qcells Q R') (hoth : ∀ j, fld j → eln R' j = eln R j ∧ ecl R' j = ecl R j) :
    QInv Q R' (w.setCell ⟨Q.b, i, none⟩ v1) ∧ QStep Q w Q (w.setCell ⟨Q.b, i, none⟩ v1) := by
  have hk : ∀ k, k ≠ Q.b → (w.setCell ⟨Q.b, i, none⟩ v1).heap[k]? = w.heap[k]? := setCell_keep _ _ _ _
  refine ⟨⟨?_, fun j hj => ?_, h.ne⟩, ⟨rfl, rfl, rfl, by rw [size_setCell']; exact Nat.le_refl _, fun k _ hne => hk k hne, rfl, fun g hg => .inl hg⟩⟩
  · have hb := blk_set h.blk i v1
    rw [hc] at hb
    exact hb
  · rw [(hoth j hj).1, (hoth j hj).2]
    exact row_keep (h.row j hj) (fun g hg' => hk g (fun e => h.ne j hj (e ▸ hg')))

/-- What a counted call of the document's disk answers and leaves. -/
def QOut (Q : QL) (w : World) (r : Int × RS) (e : Ending) (w' : World) : Prop := ∃ Q', e = .returned (.int .i64 r.1) ∧ QInv Q' r.2 w' ∧ QStep Q w Q' w'

/-- The same memory, whatever has been drawn. -/
structure Same (w w' : World) : Prop where
  heap : w'.heap = w.heap
  os : w'.os = w.os
  tape : w'.tape = w.tape
  output : w'.output = w.output
theorem Same.refl (w : World) : Same w w := ⟨rfl, rfl, rfl, rfl⟩
theorem Same.cell {w w' : World} (h : Same w w') {a : Addr} {v : Value} (hc : w.cell? a = some v) : w'.cell? a = some v := (World.cell?_of_block (w := w) (by rw [h.heap])).trans hc
theorem Same.froz {w w' : World} (h : Same w w') {a : Addr} {v : Bool} (hc : w.frozen? a = v) : w'.frozen? a = v := (World.frozen?_of_block (w := w) (by rw [h.heap])).trans hc
theorem Same.drew {w w' : World} (h : Same w w') : Same w w'.drew := ⟨h.heap, h.os, h.tape, h.output⟩
theorem Same.drewN {w w' : World} (h : Same w w') (n : Nat) : Same w (w'.drewN n) := ⟨h.heap, h.os, h.tape, h.output⟩
theorem Same.below {w w' : World} (h : Same w w') : Below w.heap.size w w' := ⟨h.os, h.tape, h.output, by rw [h.heap]; exact Nat.le_refl _, fun k _ => by rw [h.heap]⟩
theorem Same.row {w w' : World} (h : Same w w') {e : TypeId} {size : Nat} {v : Value} {k : Nat} {xs : List Value} (hr : w.ownsRow 0 e size v k xs) : w'.ownsRow 0 e size v k xs := row_keep hr (fun _ _ => by rw [h.heap])

/-! ### the rows -/
theorem flat_len {α : Type} (f : α → List Value) (k : Nat) (hf : ∀ x, (f x).length = k) (l : List α) : (l.flatMap f).length = l.length * k := by
  induction l with
  | nil => simp
  | cons x l ih => rw [List.flatMap_cons, List.length_append, ih, hf, List.length_cons, Nat.add_mul]; omega
theorem flat_at {α : Type} (f : α → List Value) (k : Nat) (hf : ∀ x, (f x).length = k) : ∀ (l : List α) (i j : Nat) (hi : i < l.length), j < k → (l.flatMap f)[i * k + j]? = (f l[i])[j]?
  | [], i, j, hi, _ => absurd hi (Nat.not_lt_zero _)
  | x :: l, 0, j, hi, hj => by rw [List.flatMap_cons, Nat.zero_mul, Nat.zero_add, List.getElem?_append_left (by rw [hf]; exact hj)]; rfl
  | x :: l, i + 1, j, hi, hj => by
    have e : (i + 1) * k + j = k + (i * k + j) := by rw [Nat.add_mul]; omega
    rw [List.flatMap_cons, List.getElem?_append_right (by rw [hf]; omega), hf, e, Nat.add_sub_cancel_left, flat_at f k hf l i j (by simpa using hi) hj]
    rfl
theorem entC_len (p : List UInt8 × Nat) : (entC p).length = 2 := rfl
theorem strC_len (s : List UInt8) : (strC s).length = 1 := rfl
theorem tellC_len (p : Int × Int) : (tellC p).length = 2 := rfl
theorem qc_len (c : Chg) : c.qc.length = 5 := by cases c <;> rfl
theorem row_slice {e : TypeId} {size : Nat} {v : Value} {k : Nat} {xs : List Value} (h : w.ownsRow 0 e size v k xs) : ∃ a cap, v = .slice a k cap ∧ (k = 0 ∨ ∃ g, a = some ⟨g, 0, none⟩ ∧ g < w.heap.size ∧ ∀ j u, xs[j]? = some u → w.cell? ⟨g, j, none⟩ = some u) := by
  rcases h.2 with ⟨rfl, rfl⟩ | ⟨g, cap, cur, rfl, -, hg, -⟩
  · exact ⟨none, 0, rfl, .inl rfl⟩
  · refine ⟨some ⟨g, 0, none⟩, cap, rfl, .inr ⟨g, rfl, (Array.getElem?_eq_some_iff.1 hg).1, fun j u hu => ?_⟩⟩
    have := h.cells (g := g) rfl j u hu
    rwa [Addr.add_lit, Nat.zero_add] at this
end Go.Proofs.YtkfncnpeockiaaaGreatDoor

namespace Go.Proofs.YtkfncnpeockiaaaGreatDoor
open Go.RowKit

def qDir (l : List (List UInt8 × Nat)) : Chg → List (List UInt8 × Nat)
  | .create nm i => putL l nm i
  | .remove nm => delL l nm
  | _ => l
def qByt (s : List UInt8) : Chg → List UInt8
  | .write _ o d => overD s o d
  | .trunc _ z => resizeL s z
  | _ => s
def fileC : Chg → Nat
  | .write i _ _ => i
  | .trunc i _ => i
  | .create _ i => i
  | .remove _ => 0
def tellL (l : List (Int × Int)) (k : Int) : Int := match l.find? (fun p => p.1 == k && !(p.2 == 0)) with
  | some p => p.2
  | none => 0
def qchange (c : Chg) (R : RS) : RS :=
  if ofDir c = true then { R with waits := R.waits ++ [c], seen := qDir R.seen c }
  else { R with waits := R.waits ++ [c], seenB := R.seenB.set (fileC c) (qByt (R.seenB.getD (fileC c) []) c) }
def qbeg (R : RS) : RS := { R with count := R.count + 1 }
def qdn (R : RS) : Bool := decide ((R.count : Int) = R.crash)
def qend (dn : Bool) (r : Int × RS) : Int × RS := if dn = true then (33, { r.2 with off := true }) else r
def qoff (R : RS) : Option (Int × RS) := if R.off = true then some (33, R) else if tellL R.tells ((R.count + 1 : Nat) : Int) = 0 then none else some (tellL R.tells ((R.count + 1 : Nat) : Int), qbeg R)
/-- A counted call. -/
def qcall (In : Bool → RS → Int × RS) (R : RS) : Int × RS := (qoff R).getD (qend (qdn (qbeg R)) (In (qdn (qbeg R)) (qbeg R)))
def qnew (R : RS) : RS := { R with seenB := R.seenB ++ [[]], sureB := R.sureB ++ [[]] }
def qcreIn (p : List UInt8) (_ : Bool) (R : RS) : Int × RS :=
  if pathB p = false then (13, R) else match findL R.seen p with
  | some _ => (9, R)
  | none => if 60 ≤ R.seen.length then (6, R) else (0, qchange (.create p R.seenB.length) (qnew R))
def qdelIn (p : List UInt8) (_ : Bool) (R : RS) : Int × RS := match findL R.seen p with
  | none => (8, R)
  | some _ => (0, qchange (.remove p) R)
def qall (R : RS) : Nat := (R.seen.map fun q => (R.seenB.getD q.2 []).length).sum
def qgrows (R : RS) (by_ : Int) : Bool := decide (0 < by_) && decide ((R.room : Int) < (qall R : Int) + by_)
def qwriIn (p : List UInt8) (o : Int) (d : List UInt8) (_ : Bool) (R : RS) : Int × RS := match findL R.seen p with
  | none => (8, R)
  | some i => if o < 0 ∨ 4000000 - (d.length : Int) < o then (3, R) else if d = [] then (0, R) else if qgrows R (o + d.length - ((R.seenB.getD i []).length : Int)) = true then (31, R) else (0, qchange (.write i o.toNat d) R)
def qtruIn (p : List UInt8) (z : Int) (_ : Bool) (R : RS) : Int × RS := match findL R.seen p with
  | none => (8, R)
  | some i => if z < 0 ∨ 4000000 < z then (3, R) else if qgrows R (z - ((R.seenB.getD i []).length : Int)) = true then (31, R) else (0, qchange (.trunc i z.toNat) R)
/-- A change made sure. -/
def qapp (c : Chg) (R : RS) : RS := if ofDir c = true then { R with sure := qDir R.sure c } else { R with sureB := R.sureB.set (fileC c) (qByt (R.sureB.getD (fileC c) []) c) }
def qstepP (p : Chg → Bool) (R : RS) (c : Chg) : RS := if p c = true then qapp c R else R
def qsettle (p : Chg → Bool) (R : RS) : RS := { R.waits.foldl (qstepP p) R with waits := keptL p R.waits }
def qsynIn (p : List UInt8) (dn : Bool) (R : RS) : Int × RS := match findL R.seen p with
  | none => (8, R)
  | some i => (0, if dn = true then R else qsettle (ofFile i) R)
def qdirIn (dn : Bool) (R : RS) : Int × RS := (0, if dn = true then R else qsettle ofDir R)
def qreadIn (p : List UInt8) (o m : Int) (dn : Bool) (R : RS) : List UInt8 × Int := match findL R.seen p with
  | none => ([], if dn = true then 33 else 8)
  | some i => if o < 0 ∨ m < 0 then ([], if dn = true then 33 else 3) else if dn = true then ([], 33) else (((R.seenB.getD i []).drop o.toNat).take m.toNat, 0)
def qread (p : List UInt8) (o m : Int) (R : RS) : (List UInt8 × Int) × RS := match qoff R with
  | some r => (([], r.1), r.2)
  | none => (qreadIn p o m (qdn (qbeg R)) (qbeg R), { qbeg R with off := qdn (qbeg R) })
def qcrash (k : Int) (R : RS) : RS := { R with crash := if (R.count : Int) < k then k else 0 }
def noDat : Chg → Bool
  | .write _ _ [] => true
  | _ => false
def qsurv (c : Chg) (u : Nat) (R : RS) : RS := match survC c u with
  | none => R
  | some c' => if noDat c' = true then R else qapp c' R
def qsurvN (u : Nat → Nat) (l : List Chg) (R : RS) : Nat → RS
  | 0 => R
  | k + 1 => match l[k]? with
    | some c => qsurv c (u k) (qsurvN u l R k)
    | none => qsurvN u l R k
def qrestart (u : Nat → Nat) (R : RS) : RS :=
  let T := qsurvN u R.waits R R.waits.length
  { T with seen := T.sure, seenB := T.sureB, waits := [], tells := [], crash := 0, off := false }
end Go.Proofs.YtkfncnpeockiaaaGreatDoor

namespace Go.Proofs.YtkfncnpeockiaaaGreatDoor
open Go.RowKit
variable {L : Loc} {ρ ρ' : Nat → Option Role} {n : Nat} {S : DS} {w w' : World}

theorem inv_con2 (h : Inv L ρ n S w) (s : Bool) (i : Nat) (hi : i < S.nf) {v1 : Value} {l1 : List UInt8} (hg : Below w.heap.size w w') (hb : Bys w' v1 l1) (hl : l1.length ≤ 4000000) (ho : ∀ g, v1.ownBlock = some g → w.heap.size ≤ g) :
    ∃ ρ', Inv { L with V := upd2 L.V s i v1 } ρ' n { S with con := upd2 S.con s i l1 } (w'.setCell ⟨L.F i, offC s, none⟩ v1) ∧ Step L ρ w { L with V := upd2 L.V s i v1 } ρ' (w'.setCell ⟨L.F i, offC s, none⟩ v1) := by
  have hlt : ∀ g, v1.ownBlock = some g → g < w'.heap.size := fun g hg' => (hb.lt g hg').2
  obtain ⟨ρ', hx, hro, hown, hold⟩ : ∃ ρ' : Nat → Option Role, (∀ k r, ρ k = some r → ρ' k = some r) ∧ (∀ k, k < w.heap.size → ρ' k = ρ k) ∧ (∀ g, v1.ownBlock = some g → ρ' g = some (.con s i)) ∧ (∀ k, w'.heap.size ≤ k → ρ' k = none) := by
    cases hv : v1.ownBlock with
    | none => exact ⟨ρ, fun _ _ h => h, fun _ _ => rfl, (fun g hg' => by cases hg'), fun k hk => h.old k (Nat.le_trans hg.size hk)⟩
    | some g0 =>
      have h0 := ho g0 hv
      refine ⟨updN ρ g0 (some (.con s i)), fun k r hk => ?_, fun k hk => ?_, fun g hg' => ?_, fun k hk => ?_⟩
      · unfold updN
        rw [if_neg (fun e => by subst e; rw [h.old _ h0] at hk; cases hk)]; exact hk
      · unfold updN
        rw [if_neg (by omega)]
      · cases hg'; simp [updN]
      · have := hlt _ hv
        unfold updN
        rw [if_neg (fun e => by omega)]; exact h.old k (Nat.le_trans hg.size hk)
  have hkr : ∀ k r, ρ k = some r → r ≠ .con s i → w'.heap[k]? = w.heap[k]? := fun k r hr hne => hg.block k (h.lt (by rw [hr]; simp))
  have hks : ∀ k, k ≠ L.F i → (w'.setCell ⟨L.F i, offC s, none⟩ v1).heap[k]? = w'.heap[k]? := setCell_keep _ _ _ _
  have hkb : ∀ k r, ρ k = some r → r ≠ .con s i → r ≠ .file i → (w'.setCell ⟨L.F i, offC s, none⟩ v1).heap[k]? = w.heap[k]? := fun k r hr h1 h2 => (hks k (fun e => by subst e; rw [h.fro i hi] at hr; cases hr; exact h2 rfl)).trans (hkr k r hr h1)
  have hfi : Blk (w'.setCell ⟨L.F i, offC s, none⟩ v1) (L.F i) 82 #[upd2 L.V s i v1 false i, upd2 L.V s i v1 true i] := by
    have h0 : Blk w' (L.F i) 82 #[L.V false i, L.V true i] := (hkr _ _ (h.fro i hi) (by simp)).trans (h.fil i hi)
    have := blk_set h0 (offC s) v1
    rw [fil_set s _ _ v1 L.V i rfl rfl] at this
    exact this
  refine ⟨ρ', ?_, ?_⟩
  · exact {
      hb := hx _ _ h.hb
      blk := (hkb _ _ h.hb (by simp) (by simp)).trans h.blk
      mp := fun t => mapI_keep (h.mp t) (fun g hg' => hkb g _ hg' (by simp) (by simp)) hx
      flt := fltI_keep h.flt (fun g hg' => hkb g _ hg' (by simp) (by simp)) hx
      pnd := row_keep h.pnd (fun g hg' => hkb g _ (h.pro g hg') (by simp) (by simp))
      pro := fun g hg' => hx _ _ (h.pro g hg')
      fro := fun j hj => hx _ _ (h.fro j hj)
      fil := fun j hj => by
        by_cases e : j = i
        · subst e; exact hfi
        · have e1 : upd2 L.V s i v1 false j = L.V false j := by simp [upd2, e]
          have e2 : upd2 L.V s i v1 true j = L.V true j := by simp [upd2, e]
          simp only [e1, e2]
          exact (hkb _ _ (h.fro j hj) (by simp) (by simpa using e)).trans (h.fil j hj)
      con := fun t j hj => by
        by_cases e : t = s ∧ j = i
        · obtain ⟨rfl, rfl⟩ := e
          simp only [upd2, and_self, if_true]
          exact row_keep hb (fun g hg' => hks g (fun e => by
            subst e
            have h1 := hown _ hg'
            rw [hx _ _ (h.fro j hj)] at h1; cases h1))
        · simp only [upd2, if_neg e]
          exact row_keep (h.con t j hj) (fun g hg' => hkb g _ (h.cro t j g hj hg') (by simpa using e) (by simp))
      cro := fun t j g hj hg' => by
        by_cases e : t = s ∧ j = i
        · obtain ⟨rfl, rfl⟩ := e
          simp only [upd2, and_self, if_true] at hg'
          exact hown g hg'
        · simp only [upd2, if_neg e] at hg'
          exact hx _ _ (h.cro t j g hj hg')
      clen := fun t j hj => by
        by_cases e : t = s ∧ j = i
        · simp only [upd2, if_pos e]; exact hl
        · simp only [upd2, if_neg e]; exact h.clen t j hj
      dok := h.dok
      pok := h.pok
      old := fun k hk => hold k (by rw [size_setCell'] at hk; exact hk)
      room := h.room
      bnd := h.bnd }
  · exact ⟨hg.os, hg.tape, hg.output, by rw [size_setCell']; exact hg.size, fun k hk hr => (hks k (fun e => by subst e; rw [h.fro i hi] at hr; cases hr)).trans (hg.block k hk), hro, rfl⟩

def rmidS (S : DS) (l : List (List UInt8 × Nat)) : DS := { S with dirs := upd S.dirs false l, pend := [] }
/-- The pending changes gone, the visible map another one. -/
theorem inv_mid (h : Inv L ρ n S w) (l : List (List UInt8 × Nat)) (m' : Option Nat) (w0 : World) (hw0 : w.heap.size ≤ w0.heap.size) (hl : l.length ≤ n) (hd : ∀ p, p ∈ l → p.2 < S.nf)
    (hw : Blk w' L.b 59 #[.int .i64 S.room, .map m', .map (L.m true), .slice none 0 0, .int .i64 S.ops, .map L.fm, .int .i64 S.crash, .bool S.down])
    (hk : ∀ g, ρ g ≠ none → g ≠ L.b → w'.heap[g]? = w.heap[g]?) (hz : w.heap.size ≤ w'.heap.size) (hm : MapC L.F w0 w' m' l)
    (hs : w'.os = w.os ∧ w'.tape = w.tape ∧ w'.output = w.output) (ho : ∀ k, k < w.heap.size → ρ k = none → w'.heap[k]? = w.heap[k]?) :
    ∃ ρ', Inv { L with m := upd L.m false m', pv := .slice none 0 0 } ρ' n (rmidS S l) w' ∧ Step L ρ w { L with m := upd L.m false m', pv := .slice none 0 0 } ρ' w' := by
  obtain ⟨ρ', hx, hro, hmI, hold⟩ : ∃ ρ' : Nat → Option Role, (∀ k r, ρ k = some r → ρ' k = some r) ∧ (∀ k, k < w.heap.size → ρ' k = ρ k) ∧ MapI ρ' L.F w' m' (.map false) l ∧ (∀ k, w'.heap.size ≤ k → ρ' k = none) := by
    rcases hm with ⟨rfl, rfl⟩ | ⟨rfl, hown⟩
    · exact ⟨ρ, fun _ _ h => h, fun _ _ => rfl, .inl ⟨rfl, rfl⟩, fun k hk => h.old k (Nat.le_trans hz hk)⟩
    · have hlt := hown.lt
      refine ⟨updN ρ w0.heap.size (some (.map false)), fun k r hk => ?_, fun k hk => ?_, .inr ⟨w0.heap.size, rfl, by simp [updN], hown⟩, fun k hk => ?_⟩
      · unfold updN
        rw [if_neg (fun e => by subst e; rw [h.old _ hw0] at hk; cases hk)]; exact hk
      · unfold updN
        rw [if_neg (by omega)]
      · unfold updN
        rw [if_neg (by omega)]; exact h.old k (Nat.le_trans hz hk)
  have hkb : ∀ k r, ρ k = some r → r ≠ .disk → w'.heap[k]? = w.heap[k]? := fun k r hr h2 => hk k (by rw [hr]; simp) (fun e => by subst e; rw [h.hb] at hr; cases hr; exact h2 rfl)
  refine ⟨ρ', ?_, ⟨hs.1, hs.2.1, hs.2.2, hz, ho, hro, rfl⟩⟩
  exact {
    hb := hx _ _ h.hb
    blk := by
      have : upd L.m false m' true = L.m true := by simp [upd]
      show Blk w' L.b 59 #[.int .i64 S.room, .map (upd L.m false m' false), .map (upd L.m false m' true), .slice none 0 0, .int .i64 S.ops, .map L.fm, .int .i64 S.crash, .bool S.down]
      rw [this]
      exact hw
    mp := fun t => by
      cases t
      · exact hmI
      · exact mapI_keep (h.mp true) (fun g hg' => hkb g _ hg' (by simp)) hx
    flt := fltI_keep h.flt (fun g hg' => hkb g _ hg' (by simp)) hx
    pnd := World.ownsRow_nil _ _ _ _
    pro := fun _ hg => by cases hg
    fro := fun j hj => hx _ _ (h.fro j hj)
    fil := fun j hj => (hkb _ _ (h.fro j hj) (by simp)).trans (h.fil j hj)
    con := fun t j hj => row_keep (h.con t j hj) (fun g hg' => hkb g _ (h.cro t j g hj hg') (by simp))
    cro := fun t j g hj hg' => hx _ _ (h.cro t j g hj hg')
    clen := h.clen
    dok := fun t p hp => by
      cases t
      · exact hd p hp
      · exact h.dok true p hp
    pok := fun c hc => by cases hc
    old := hold
    room := h.room
    bnd := ⟨Nat.zero_le _, h.bnd.2.1, fun t => by
      cases t
      · exact hl
      · exact h.bnd.2.2.1 true, h.bnd.2.2.2⟩ }
theorem mid_fin (h : Inv L ρ n S w) {W9 w2 : World} {m' : Option Nat} (l : List (List UInt8 × Nat)) (hl : l.length ≤ n) (hd : ∀ p, p ∈ l → p.2 < S.nf)
    (hk9 : ∀ g, g ≠ L.b → W9.heap[g]? = w.heap[g]?) (hz9 : W9.heap.size = w.heap.size) (hs9 : W9.os = w.os ∧ W9.tape = w.tape ∧ W9.output = w.output) (hmc : MapC L.F W9.drew w2 m' l) (hb : Below W9.drew.heap.size W9.drew w2)
    (hbx : Blk w2 L.b 59 #[.int .i64 S.room, .map (L.m false), .map (L.m true), .slice none 0 0, .int .i64 S.ops, .map L.fm, .int .i64 S.crash, .bool S.down]) :
    ∃ ρ', Inv { L with m := upd L.m false m', pv := .slice none 0 0 } ρ' n (rmidS S l) (w2.setCell ⟨L.b, 1, none⟩ (.map m')) ∧ Step L ρ w { L with m := upd L.m false m', pv := .slice none 0 0 } ρ' (w2.setCell ⟨L.b, 1, none⟩ (.map m')) := by
  have hzd : W9.drew.heap.size = w.heap.size := hz9
  have hlb : L.b < w.heap.size := h.lt (by rw [h.hb]; simp)
  have hz1 : (w2.setCell ⟨L.b, 1, none⟩ (.map m')).heap.size = w2.heap.size := size_setCell' _ _ _
  have hk : ∀ g, g < w2.heap.size → g ≠ L.b → (w2.setCell ⟨L.b, 1, none⟩ (.map m')).heap[g]? = w2.heap[g]? := fun g _ hne => setCell_keep _ _ _ _ g hne
  have hk2 : ∀ g, g < w.heap.size → g ≠ L.b → w2.heap[g]? = w.heap[g]? := fun g hg hne => (hb.block g (by rw [hzd]; exact hg)).trans (hk9 g hne)
  have hsz2 : w.heap.size ≤ w2.heap.size := by have := hb.size; omega
  refine inv_mid h l m' W9.drew (by omega) hl hd (blk_set hbx 1 _) (fun g hg hne => (hk g (Nat.lt_of_lt_of_le (h.lt hg) hsz2) hne).trans (hk2 g (h.lt hg) hne)) (by omega) ?_ ?_ (fun k hk' hr => ?_)
  · rcases hmc with ⟨rfl, rfl⟩ | ⟨rfl, es, clock, hbb, rest⟩
    · exact .inl ⟨rfl, rfl⟩
    · have hlt0 : W9.drew.heap.size < w2.heap.size := (Array.getElem?_eq_some_iff.1 hbb).1
      exact .inr ⟨rfl, es, clock, (hk _ hlt0 (by omega)).trans hbb, rest⟩
  · exact ⟨hb.os.trans hs9.1, hb.tape.trans hs9.2.1, hb.output.trans hs9.2.2⟩
  · have hne : k ≠ L.b := fun e => by subst e; rw [h.hb] at hr; cases hr
    exact (hk k (Nat.lt_of_lt_of_le hk' hsz2) hne).trans (hk2 k hk' hne)
def endR (S : DS) : DS := { S with flt := fun _ => 0, crash := 0, down := false }
theorem inv_end (h : Inv L ρ n S w) : Inv { L with fm := none } ρ n (endR S) (((w.setCell ⟨L.b, 5, none⟩ (.map none)).setCell ⟨L.b, 6, none⟩ (.int .i64 0)).setCell ⟨L.b, 7, none⟩ (.bool false)) ∧ Step L ρ w { L with fm := none } ρ (((w.setCell ⟨L.b, 5, none⟩ (.map none)).setCell ⟨L.b, 6, none⟩ (.int .i64 0)).setCell ⟨L.b, 7, none⟩ (.bool false)) := by
  have hk : ∀ g, g ≠ L.b → (((w.setCell ⟨L.b, 5, none⟩ (.map none)).setCell ⟨L.b, 6, none⟩ (.int .i64 0)).setCell ⟨L.b, 7, none⟩ (.bool false)).heap[g]? = w.heap[g]? := fun g hne => (setCell_keep _ _ _ _ g hne).trans ((setCell_keep _ _ _ _ g hne).trans (setCell_keep _ _ _ _ g hne))
  have hz : (((w.setCell ⟨L.b, 5, none⟩ (.map none)).setCell ⟨L.b, 6, none⟩ (.int .i64 0)).setCell ⟨L.b, 7, none⟩ (.bool false)).heap.size = w.heap.size := by rw [size_setCell', size_setCell', size_setCell']
  have hkb : ∀ k r, ρ k = some r → r ≠ .disk → (((w.setCell ⟨L.b, 5, none⟩ (.map none)).setCell ⟨L.b, 6, none⟩ (.int .i64 0)).setCell ⟨L.b, 7, none⟩ (.bool false)).heap[k]? = w.heap[k]? := fun k r hr h2 => hk k (fun e => by subst e; rw [h.hb] at hr; cases hr; exact h2 rfl)
  refine ⟨?_, ⟨rfl, rfl, rfl, Nat.le_of_eq hz.symm, fun k _ hr => hk k (fun e => by subst e; rw [h.hb] at hr; cases hr), fun _ _ => rfl, rfl⟩⟩
  exact {
    hb := h.hb
    blk := blk_set (blk_set (blk_set h.blk 5 _) 6 _) 7 _
    mp := fun t => mapI_keep (h.mp t) (fun g hg' => hkb g _ hg' (by simp)) (fun _ _ h => h)
    flt := .inl ⟨rfl, fun _ => rfl⟩
    pnd := row_keep h.pnd (fun g hg' => hkb g _ (h.pro g hg') (by simp))
    pro := h.pro
    fro := h.fro
    fil := fun j hj => (hkb _ _ (h.fro j hj) (by simp)).trans (h.fil j hj)
    con := fun t j hj => row_keep (h.con t j hj) (fun g hg' => hkb g _ (h.cro t j g hj hg') (by simp))
    cro := h.cro
    clen := h.clen
    dok := h.dok
    pok := h.pok
    old := fun k hk' => h.old k (by omega)
    room := h.room
    bnd := h.bnd }
end Go.Proofs.YtkfncnpeockiaaaGreatDoor

namespace Go.Proofs.YtkfncnpeockiaaaGreatDoor
open Go.RowKit

structure Sim (S : DS) (R : RS) : Prop where
  seen : R.seen = S.dirs false
  sure : R.sure = S.dirs true
  nB : R.seenB.length = S.nf
  nC : R.sureB.length = S.nf
  vis : ∀ p, p ∈ S.dirs false → R.seenB.getD p.2 [] = S.con false p.2
  dur : ∀ i, i < S.nf → R.sureB.getD i [] = S.con true i
  wts : R.waits = S.pend
  room : R.room = S.room
  cnt : R.count = S.ops
  tel : ∀ k, tellL R.tells k = S.flt k
  cra : ∀ k : Nat, S.ops < k → (((k : Int) = R.crash) ↔ ((k : Int) = S.crash))
  dok : ∀ s p, p ∈ S.dirs s → p.2 < S.nf
  pok : ∀ c, c ∈ S.pend → c.QOk S.nf

variable {S : DS} {R : RS}
theorem getD_set (l : List (List UInt8)) (i j : Nat) (x : List UInt8) (hi : i < l.length) : (l.set i x).getD j [] = if i = j then x else l.getD j [] := by
  rw [List.getD_eq_getElem?_getD, List.getElem?_set, List.getD_eq_getElem?_getD]
  by_cases h : i = j
  · rw [if_pos h, if_pos hi, if_pos h]; rfl
  · rw [if_neg h, if_neg h]
theorem getD_snoc (l : List (List UInt8)) (j : Nat) : (l ++ [[]]).getD j [] = l.getD j [] := by
  rw [List.getD_eq_getElem?_getD, List.getD_eq_getElem?_getD]
  rcases Nat.lt_trichotomy j l.length with h | h | h
  · rw [List.getElem?_append_left h]
  · subst h; simp
  · rw [List.getElem?_append_right (by omega), List.getElem?_eq_none (by simp; omega), List.getElem?_eq_none (by omega)]
theorem delL_mem {l : List (List UInt8 × Nat)} {p : List UInt8} {q : List UInt8 × Nat} (h : q ∈ delL l p) : q ∈ l := (List.mem_filter.1 h).1
theorem chg_mono {c : Chg} {a b : Nat} (h : c.QOk a) (hab : a ≤ b) : c.QOk b := by
  cases c with
  | create nm i => exact ⟨Nat.lt_of_lt_of_le h.1 hab, h.2⟩
  | remove nm => exact h
  | write i o d => exact ⟨Nat.lt_of_lt_of_le h.1 hab, h.2⟩
  | trunc i z => exact ⟨Nat.lt_of_lt_of_le h.1 hab, h.2⟩
theorem upd_same {α : Type} (f : Bool → α) (s : Bool) (x : α) : upd f s x s = x := by simp [upd]
theorem upd_other {α : Type} (f : Bool → α) {s t : Bool} (x : α) (h : t ≠ s) : upd f s x t = f t := by simp [upd, h]

/-- A change is seen. -/
theorem sim_change (h : Sim S R) (c : Chg) (hc : c.QOk S.nf) (hn : ∀ nm i, c = .create nm i → R.seenB.getD i [] = S.con false i) : Sim (perfS c S) (qchange c R) := by
  have hp : ∀ x, x ∈ S.pend ++ [c] → x.QOk S.nf := fun x hx => by
    rcases List.mem_append.1 hx with hx | hx
    · exact h.pok x hx
    · rw [List.mem_singleton.1 hx]; exact hc
  cases c with
  | create nm i =>
    exact { h with
      seen := by show putL R.seen nm i = upd S.dirs false (putL (S.dirs false) nm i) false; rw [upd_same, h.seen]
      sure := by show R.sure = upd S.dirs false (putL (S.dirs false) nm i) true; rw [upd_other _ _ (by decide)]; exact h.sure
      vis := fun p hp => by
        change p ∈ upd S.dirs false (putL (S.dirs false) nm i) false at hp
        rw [upd_same] at hp
        rcases putL_mem hp with rfl | hp
        · exact hn nm i rfl
        · exact h.vis p hp
      wts := by show R.waits ++ [Chg.create nm i] = S.pend ++ [Chg.create nm i]; rw [h.wts]
      dok := fun s p hp => by
        change p ∈ upd S.dirs false (putL (S.dirs false) nm i) s at hp
        unfold upd at hp
        split at hp
        · rcases putL_mem hp with rfl | hp
          · exact hc.1
          · exact h.dok _ p hp
        · exact h.dok s p hp
      pok := hp }
  | remove nm =>
    exact { h with
      seen := by show delL R.seen nm = upd S.dirs false (delL (S.dirs false) nm) false; rw [upd_same, h.seen]
      sure := by show R.sure = upd S.dirs false (delL (S.dirs false) nm) true; rw [upd_other _ _ (by decide)]; exact h.sure
      vis := fun p hp => by
        change p ∈ upd S.dirs false (delL (S.dirs false) nm) false at hp
        rw [upd_same] at hp
        exact h.vis p (delL_mem hp)
      wts := by show R.waits ++ [Chg.remove nm] = S.pend ++ [Chg.remove nm]; rw [h.wts]
      dok := fun s p hp => by
        change p ∈ upd S.dirs false (delL (S.dirs false) nm) s at hp
        unfold upd at hp
        split at hp
        · exact h.dok _ p (delL_mem hp)
        · exact h.dok s p hp
      pok := hp }
  | write i o d =>
    exact { h with
      nB := by show (R.seenB.set i _).length = _; rw [List.length_set]; exact h.nB
      vis := fun p hp => by
        show (R.seenB.set i (overD (R.seenB.getD i []) o d)).getD p.2 [] = upd2 S.con false i (overL (S.con false i) o d) false p.2
        rw [getD_set _ _ _ _ (by rw [h.nB]; exact hc.1), overD_eq _ _ _ hc.2.2.2]
        by_cases e : i = p.2
        · rw [if_pos e, e, h.vis p hp]
          simp [upd2]
        · rw [if_neg e, h.vis p hp]
          have : ¬ p.2 = i := fun e' => e e'.symm
          simp [upd2, this]
      dur := fun j hj => (h.dur j hj).trans (by simp [upd2, perfS, applyS])
      wts := by show R.waits ++ [Chg.write i o d] = S.pend ++ [Chg.write i o d]; rw [h.wts]
      pok := hp }
  | trunc i z =>
    exact { h with
      nB := by show (R.seenB.set i _).length = _; rw [List.length_set]; exact h.nB
      vis := fun p hp => by
        show (R.seenB.set i (resizeL (R.seenB.getD i []) z)).getD p.2 [] = upd2 S.con false i (resizeL (S.con false i) z) false p.2
        rw [getD_set _ _ _ _ (by rw [h.nB]; exact hc.1)]
        by_cases e : i = p.2
        · rw [if_pos e, e, h.vis p hp]
          simp [upd2]
        · rw [if_neg e, h.vis p hp]
          have : ¬ p.2 = i := fun e' => e e'.symm
          simp [upd2, this]
      dur := fun j hj => (h.dur j hj).trans (by simp [upd2, perfS, applyS])
      wts := by show R.waits ++ [Chg.trunc i z] = S.pend ++ [Chg.trunc i z]; rw [h.wts]
      pok := hp }
/-- A change is made sure. -/
theorem sim_app (h : Sim S R) (c : Chg) (hc : c.QOk S.nf) : Sim (applyS true c S) (qapp c R) := by
  cases c with
  | create nm i =>
    exact { h with
      seen := by show R.seen = upd S.dirs true (putL (S.dirs true) nm i) false; rw [upd_other _ _ (by decide)]; exact h.seen
      sure := by show putL R.sure nm i = upd S.dirs true (putL (S.dirs true) nm i) true; rw [upd_same, h.sure]
      vis := fun p hp => by
        change p ∈ upd S.dirs true (putL (S.dirs true) nm i) false at hp
        rw [upd_other _ _ (by decide)] at hp
        exact h.vis p hp
      dok := fun s p hp => by
        change p ∈ upd S.dirs true (putL (S.dirs true) nm i) s at hp
        unfold upd at hp
        split at hp
        · rcases putL_mem hp with rfl | hp
          · exact hc.1
          · exact h.dok _ p hp
        · exact h.dok s p hp }
  | remove nm =>
    exact { h with
      seen := by show R.seen = upd S.dirs true (delL (S.dirs true) nm) false; rw [upd_other _ _ (by decide)]; exact h.seen
      sure := by show delL R.sure nm = upd S.dirs true (delL (S.dirs true) nm) true; rw [upd_same, h.sure]
      vis := fun p hp => by
        change p ∈ upd S.dirs true (delL (S.dirs true) nm) false at hp
        rw [upd_other _ _ (by decide)] at hp
        exact h.vis p hp
      dok := fun s p hp => by
        change p ∈ upd S.dirs true (delL (S.dirs true) nm) s at hp
        unfold upd at hp
        split at hp
        · exact h.dok _ p (delL_mem hp)
        · exact h.dok s p hp }
  | write i o d =>
    exact { h with
      nC := by show (R.sureB.set i _).length = _; rw [List.length_set]; exact h.nC
      vis := fun p hp => (h.vis p hp).trans (by simp [upd2, applyS])
      dur := fun j hj => by
        show (R.sureB.set i (overD (R.sureB.getD i []) o d)).getD j [] = upd2 S.con true i (overL (S.con true i) o d) true j
        rw [getD_set _ _ _ _ (by rw [h.nC]; exact hc.1), overD_eq _ _ _ hc.2.2.2]
        by_cases e : i = j
        · rw [if_pos e, e, h.dur j hj]
          simp [upd2]
        · rw [if_neg e, h.dur j hj]
          have : ¬ j = i := fun e' => e e'.symm
          simp [upd2, this] }
  | trunc i z =>
    exact { h with
      nC := by show (R.sureB.set i _).length = _; rw [List.length_set]; exact h.nC
      vis := fun p hp => (h.vis p hp).trans (by simp [upd2, applyS])
      dur := fun j hj => by
        show (R.sureB.set i (resizeL (R.sureB.getD i []) z)).getD j [] = upd2 S.con true i (resizeL (S.con true i) z) true j
        rw [getD_set _ _ _ _ (by rw [h.nC]; exact hc.1)]
        by_cases e : i = j
        · rw [if_pos e, e, h.dur j hj]
          simp [upd2]
        · rw [if_neg e, h.dur j hj]
          have : ¬ j = i := fun e' => e e'.symm
          simp [upd2, this] }
theorem sim_fold (p : Chg → Bool) : ∀ (l : List Chg) {S : DS} {R : RS}, Sim S R → (∀ c, c ∈ l → c.QOk S.nf) → Sim (foldP p S l) (l.foldl (qstepP p) R)
  | [], _, _, h, _ => h
  | c :: l, S, R, h, hl => by
    have h1 : Sim (stepP p S c) (qstepP p R c) := by
      unfold stepP qstepP
      split
      · exact sim_app h c (hl c (List.mem_cons_self ..))
      · exact h
    exact sim_fold p l h1 (fun x hx => by rw [stepP_nf]; exact hl x (List.mem_cons_of_mem _ hx))
theorem sim_pend (h : Sim S R) (x : List Chg) (hx : ∀ c, c ∈ x → c.QOk S.nf) : Sim { S with pend := x } { R with waits := x } := { h with wts := rfl, pok := hx }
theorem sim_settle (h : Sim S R) (p : Chg → Bool) : Sim (settleS p S) (qsettle p R) := by
  have h1 := sim_fold p S.pend h h.pok
  have h2 := sim_pend h1 (keptL p S.pend) (fun c hc => by rw [foldP_nf]; exact h.pok c (keptL_mem hc))
  unfold settleS qsettle
  rw [h.wts]
  exact h2
theorem sim_new (h : Sim S R) : Sim (newFile S) (qnew R) := { h with
  nB := by show (R.seenB ++ [[]]).length = S.nf + 1; rw [List.length_append, h.nB]; rfl
  nC := by show (R.sureB ++ [[]]).length = S.nf + 1; rw [List.length_append, h.nC]; rfl
  vis := fun p hp => by
    show (R.seenB ++ [[]]).getD p.2 [] = if p.2 = S.nf then [] else S.con false p.2
    have := h.dok false p hp
    rw [getD_snoc, if_neg (by omega)]
    exact h.vis p hp
  dur := fun i hi => by
    show (R.sureB ++ [[]]).getD i [] = if i = S.nf then [] else S.con true i
    rw [getD_snoc]
    by_cases e : i = S.nf
    · rw [if_pos e, List.getD_eq_getElem?_getD, List.getElem?_eq_none (by rw [h.nC]; omega)]; rfl
    · rw [if_neg e]
      have : i < S.nf + 1 := hi
      exact h.dur i (by omega)
  dok := fun s p hp => Nat.lt_succ_of_lt (h.dok s p hp)
  pok := fun c hc => chg_mono (h.pok c hc) (Nat.le_succ _) }
theorem sim_beg (h : Sim S R) : Sim (begS S) (qbeg R) := { h with
  cnt := by show R.count + 1 = S.ops + 1; rw [h.cnt]
  cra := fun k hk => h.cra k (Nat.lt_of_succ_lt hk) }
theorem sim_cnt (h : Sim S R) : Sim (cntS S) (qbeg R) := { h with
  cnt := by show R.count + 1 = S.ops + 1; rw [h.cnt]
  cra := fun k hk => h.cra k (Nat.lt_of_succ_lt hk) }
theorem sim_dn (h : Sim S R) : qdn (qbeg R) = (begS S).down := by
  unfold qdn qbeg begS
  have := h.cra (S.ops + 1) (Nat.lt_succ_self _)
  simp only [h.cnt]
  exact decide_eq_decide.2 this

/-- Alike, and both up or both down. -/
def SimD (S : DS) (R : RS) : Prop := Sim S R ∧ R.off = S.down
/-- A counted call on both sides. -/
theorem sim_call (h : SimD S R) {A : Int × DS} {In : Bool → RS → Int × RS} (hA : S.down = false → Sim A.2 (In (qdn (qbeg R)) (qbeg R)).2 ∧ (In (qdn (qbeg R)) (qbeg R)).1 = A.1 ∧ A.2.down = (begS S).down ∧ (In (qdn (qbeg R)) (qbeg R)).2.off = R.off) :
    ((offS S).getD (cutE A.2 A.1, A.2)).1 = (qcall In R).1 ∧ SimD ((offS S).getD (cutE A.2 A.1, A.2)).2 (qcall In R).2 := by
  obtain ⟨h, ho⟩ := h
  unfold offS qcall qoff
  rw [ho]
  by_cases hd : S.down = true
  · rw [if_pos hd, if_pos hd]
    exact ⟨rfl, h, ho⟩
  rw [if_neg hd, if_neg hd, h.cnt, h.tel]
  have hd' : S.down = false := by simpa using hd
  have e1 : ((S.ops + 1 : Nat) : Int) = (S.ops : Int) + 1 := by omega
  rw [e1]
  by_cases hf : S.flt ((S.ops : Int) + 1) = 0
  · rw [if_pos hf, if_pos hf]
    obtain ⟨a1, a2, a3, a4⟩ := hA hd'
    rw [Option.getD_none, Option.getD_none]
    have hdn := sim_dn h
    unfold qend cutE
    rw [a3, ← hdn]
    cases hq : qdn (qbeg R) with
    | true =>
      rw [hq] at a1 a2 a4 hdn
      rw [if_pos rfl, if_pos rfl]
      exact ⟨rfl, { a1 with }, by rw [a3, ← hdn]⟩
    | false =>
      rw [hq] at a1 a2 a4 hdn
      rw [if_neg (by decide), if_neg (by decide)]
      exact ⟨a2.symm, a1, by rw [a3, ← hdn, a4, ho, hd']⟩
  · rw [if_neg hf, if_neg hf]
    exact ⟨rfl, sim_cnt h, ho⟩
end Go.Proofs.YtkfncnpeockiaaaGreatDoor

namespace Go.Proofs.YtkfncnpeockiaaaGreatDoor
open Go.RowKit
variable {S : DS} {R : RS}

theorem qchange_off (c : Chg) (R : RS) : (qchange c R).off = R.off := by unfold qchange; split <;> rfl
theorem perfS_down (c : Chg) (S : DS) : (perfS c S).down = S.down := by cases c <;> rfl
theorem applyS_down (s : Bool) (c : Chg) (S : DS) : (applyS s c S).down = S.down := by cases c <;> rfl
theorem foldP_down (p : Chg → Bool) : ∀ (l : List Chg) (S : DS), (foldP p S l).down = S.down
  | [], _ => rfl
  | c :: l, S => by
    have h := foldP_down p l (stepP p S c)
    have h1 : (stepP p S c).down = S.down := by unfold stepP; split; exact applyS_down _ _ _; rfl
    exact h.trans h1
theorem qapp_off (c : Chg) (R : RS) : (qapp c R).off = R.off := by unfold qapp; split <;> rfl
theorem qfold_off (p : Chg → Bool) : ∀ (l : List Chg) (R : RS), (l.foldl (qstepP p) R).off = R.off
  | [], _ => rfl
  | c :: l, R => by
    have h := qfold_off p l (qstepP p R c)
    have h1 : (qstepP p R c).off = R.off := by unfold qstepP; split; exact qapp_off _ _; rfl
    exact h.trans h1
theorem settle_down (p : Chg → Bool) (S : DS) : (settleS p S).down = S.down := foldP_down p S.pend S
theorem qsettle_off (p : Chg → Bool) (R : RS) : (qsettle p R).off = R.off := qfold_off p R.waits R

theorem sim_create (h : SimD S R) (p : List UInt8) (hp : p.length ≤ 1000000) : (createG S p).1 = (qcall (qcreIn p) R).1 ∧ SimD (createG S p).2 (qcall (qcreIn p) R).2 := by
  refine sim_call h (A := createIn (begS S) p) (In := qcreIn p) fun hd => ?_
  have hS := sim_beg h.1
  unfold createIn qcreIn
  rw [← hS.seen, ← hS.nB]
  by_cases hpb : pathB p = false
  · rw [if_pos hpb, if_pos hpb]; exact ⟨hS, rfl, rfl, rfl⟩
  rw [if_neg hpb, if_neg hpb]
  cases hf : findL (qbeg R).seen p with
  | some _ => exact ⟨hS, rfl, rfl, rfl⟩
  | none =>
    simp only []
    by_cases h60 : 60 ≤ (qbeg R).seen.length
    · rw [if_pos h60, if_pos h60]; exact ⟨hS, rfl, rfl, rfl⟩
    · rw [if_neg h60, if_neg h60]
      refine ⟨?_, rfl, perfS_down _ _, qchange_off _ _⟩
      rw [hS.nB]
      refine sim_change (sim_new hS) (.create p (begS S).nf) ⟨Nat.lt_succ_self _, hp⟩ fun nm i e => ?_
      cases e
      show ((qbeg R).seenB ++ [[]]).getD (begS S).nf [] = if (begS S).nf = (begS S).nf then [] else (begS S).con false (begS S).nf
      rw [if_pos rfl, getD_snoc, List.getD_eq_getElem?_getD, List.getElem?_eq_none (by rw [hS.nB]; exact Nat.le_refl _)]
      rfl
def deleteA (S : DS) (p : List UInt8) : Int × DS := match findL (S.dirs false) p with
  | none => (8, S)
  | some _ => (0, perfS (.remove p) S)
theorem deleteZ_is (S : DS) (p : List UInt8) : deleteZ S p = (cutE (deleteA (begS S) p).2 (deleteA (begS S) p).1, (deleteA (begS S) p).2) := by
  unfold deleteZ deleteA
  rw [show (begS S).dirs = S.dirs from rfl]
  cases findL (S.dirs false) p <;> rfl
theorem sim_delete (h : SimD S R) (p : List UInt8) (hp : p.length ≤ 1000000) : (deleteG S p).1 = (qcall (qdelIn p) R).1 ∧ SimD (deleteG S p).2 (qcall (qdelIn p) R).2 := by
  unfold deleteG
  rw [deleteZ_is]
  refine sim_call h (A := deleteA (begS S) p) (In := qdelIn p) fun hd => ?_
  have hS := sim_beg h.1
  unfold deleteA qdelIn
  rw [← hS.seen]
  cases hf : findL (qbeg R).seen p with
  | none => exact ⟨hS, rfl, rfl, rfl⟩
  | some _ => exact ⟨sim_change hS (.remove p) hp (fun nm i e => by cases e), rfl, perfS_down _ _, qchange_off _ _⟩
theorem sim_used (h : Sim S R) : usedN S = qall R := by
  unfold usedN qall
  rw [h.seen]
  congr 1
  exact List.map_congr_left fun q hq => by rw [h.vis q hq]; rfl
theorem sim_con (h : Sim S R) {p : List UInt8} {i : Nat} (hf : findL R.seen p = some i) : R.seenB.getD i [] = S.con false i ∧ i < S.nf := by
  obtain ⟨q, hq, rfl⟩ : ∃ q, q ∈ R.seen ∧ q.2 = i := ⟨_, findL_mem hf, rfl⟩
  rw [h.seen] at hq
  exact ⟨h.vis q hq, h.dok false q hq⟩
theorem sim_exc (h : Sim S R) {p : List UInt8} {i : Nat} (hf : findL R.seen p = some i) (z : Int) : excB S i z = qgrows R (z - ((R.seenB.getD i []).length : Int)) := by
  unfold excB qgrows
  rw [sim_used h, (sim_con h hf).1, h.room]
def writeA (S : DS) (p : List UInt8) (o : Int) (d : List UInt8) : Int × DS := match findL (S.dirs false) p with
  | none => (8, S)
  | some i => writeIn S i o d
theorem writeZ_is (S : DS) (p : List UInt8) (o : Int) (d : List UInt8) : writeZ S p o d = (cutE (writeA (begS S) p o d).2 (writeA (begS S) p o d).1, (writeA (begS S) p o d).2) := by
  unfold writeZ writeA
  rw [show (begS S).dirs = S.dirs from rfl]
  cases findL (S.dirs false) p <;> rfl
theorem sim_write (h : SimD S R) (p : List UInt8) (o : Int) (d : List UInt8) (hd : d.length ≤ 20000) (ho : o ≤ 20000 ∨ 4000000 < o) : (writeG S p o d).1 = (qcall (qwriIn p o d) R).1 ∧ SimD (writeG S p o d).2 (qcall (qwriIn p o d) R).2 := by
  unfold writeG
  rw [writeZ_is]
  refine sim_call h (A := writeA (begS S) p o d) (In := qwriIn p o d) fun _ => ?_
  have hS := sim_beg h.1
  unfold writeA qwriIn
  rw [← hS.seen]
  cases hf : findL (qbeg R).seen p with
  | none => exact ⟨hS, rfl, rfl, rfl⟩
  | some i =>
    have hc := sim_con hS hf
    simp only []
    unfold writeIn
    rw [sim_exc hS hf]
    by_cases h1 : o < 0 ∨ 4000000 - (d.length : Int) < o
    · rw [if_pos h1, if_pos h1]; exact ⟨hS, rfl, rfl, rfl⟩
    rw [if_neg h1, if_neg h1]
    by_cases h2 : d = []
    · rw [if_pos h2, if_pos h2]; exact ⟨hS, rfl, rfl, rfl⟩
    rw [if_neg h2, if_neg h2]
    split
    · exact ⟨hS, rfl, rfl, rfl⟩
    · exact ⟨sim_change hS (.write i o.toNat d) ⟨hc.2, by omega, hd, h2⟩ (fun nm i e => by cases e), rfl, perfS_down _ _, qchange_off _ _⟩
def truncA (S : DS) (p : List UInt8) (z : Int) : Int × DS := match findL (S.dirs false) p with
  | none => (8, S)
  | some i => truncIn S i z
theorem truncZ_is (S : DS) (p : List UInt8) (z : Int) : truncZ S p z = (cutE (truncA (begS S) p z).2 (truncA (begS S) p z).1, (truncA (begS S) p z).2) := by
  unfold truncZ truncA
  rw [show (begS S).dirs = S.dirs from rfl]
  cases findL (S.dirs false) p <;> rfl
theorem sim_trunc (h : SimD S R) (p : List UInt8) (z : Int) (hz : z ≤ 20000 ∨ 4000000 < z) : (truncG S p z).1 = (qcall (qtruIn p z) R).1 ∧ SimD (truncG S p z).2 (qcall (qtruIn p z) R).2 := by
  unfold truncG
  rw [truncZ_is]
  refine sim_call h (A := truncA (begS S) p z) (In := qtruIn p z) fun _ => ?_
  have hS := sim_beg h.1
  unfold truncA qtruIn
  rw [← hS.seen]
  cases hf : findL (qbeg R).seen p with
  | none => exact ⟨hS, rfl, rfl, rfl⟩
  | some i =>
    have hc := sim_con hS hf
    simp only []
    unfold truncIn
    rw [sim_exc hS hf]
    by_cases h1 : z < 0 ∨ 4000000 < z
    · rw [if_pos h1, if_pos h1]; exact ⟨hS, rfl, rfl, rfl⟩
    rw [if_neg h1, if_neg h1]
    split
    · exact ⟨hS, rfl, rfl, rfl⟩
    · exact ⟨sim_change hS (.trunc i z.toNat) ⟨hc.2, by omega⟩ (fun nm i e => by cases e), rfl, perfS_down _ _, qchange_off _ _⟩
def syncA (S : DS) (p : List UInt8) : Int × DS := match findL (S.dirs false) p with
  | none => (8, S)
  | some f => (0, syncIn S f)
theorem syncZ_is (S : DS) (p : List UInt8) : syncZ S p = (cutE (syncA (begS S) p).2 (syncA (begS S) p).1, (syncA (begS S) p).2) := by
  unfold syncZ syncA
  rw [show (begS S).dirs = S.dirs from rfl]
  cases findL (S.dirs false) p <;> rfl
theorem sim_sync (h : SimD S R) (p : List UInt8) : (syncG S p).1 = (qcall (qsynIn p) R).1 ∧ SimD (syncG S p).2 (qcall (qsynIn p) R).2 := by
  unfold syncG
  rw [syncZ_is]
  refine sim_call h (A := syncA (begS S) p) (In := qsynIn p) fun _ => ?_
  have hS := sim_beg h.1
  unfold syncA qsynIn
  rw [← hS.seen]
  cases hf : findL (qbeg R).seen p with
  | none => exact ⟨hS, rfl, rfl, rfl⟩
  | some i =>
    simp only []
    unfold syncIn
    rw [sim_dn h.1]
    cases hdn : (begS S).down with
    | true => rw [if_pos rfl, if_pos rfl]; exact ⟨hS, trivial, hdn, rfl⟩
    | false => rw [if_neg (by decide), if_neg (by decide)]; exact ⟨sim_settle hS _, trivial, (settle_down _ _).trans hdn, qsettle_off _ _⟩
theorem sim_dirsync (h : SimD S R) : (dirsyncG S).1 = (qcall qdirIn R).1 ∧ SimD (dirsyncG S).2 (qcall qdirIn R).2 := by
  refine sim_call h (A := (0, dirsyncIn (begS S))) (In := qdirIn) fun _ => ?_
  have hS := sim_beg h.1
  unfold dirsyncIn qdirIn
  rw [sim_dn h.1]
  cases hdn : (begS S).down with
  | true => rw [if_pos rfl, if_pos rfl]; exact ⟨hS, rfl, hdn, rfl⟩
  | false => rw [if_neg (by decide), if_neg (by decide)]; exact ⟨sim_settle hS _, rfl, (settle_down _ _).trans hdn, qsettle_off _ _⟩
theorem sim_read (h : SimD S R) (p : List UInt8) (o m : Int) : (readG S p o m).1 = (qread p o m R).1 ∧ SimD (readG S p o m).2 (qread p o m R).2 := by
  obtain ⟨h, ho⟩ := h
  have hS := sim_beg h
  have hdn := sim_dn h
  unfold readG qread offS qoff
  rw [ho]
  by_cases hd : S.down = true
  · rw [if_pos hd, if_pos hd]
    exact ⟨rfl, h, ho⟩
  rw [if_neg hd, if_neg hd, h.cnt, h.tel]
  have e1 : ((S.ops + 1 : Nat) : Int) = (S.ops : Int) + 1 := by omega
  rw [e1]
  by_cases hf : S.flt ((S.ops : Int) + 1) = 0
  · rw [if_pos hf, if_pos hf]
    simp only []
    have hst : SimD (readZ S p o m).2 { qbeg R with off := qdn (qbeg R) } := by
      have e : (readZ S p o m).2 = begS S := by
        unfold readZ
        cases findL (S.dirs false) p with
        | none => rfl
        | some i =>
          simp only []
          split
          · rfl
          · split <;> rfl
      rw [e]
      exact ⟨{ hS with }, hdn⟩
    refine ⟨?_, hst⟩
    unfold readZ qreadIn cutE
    rw [← show (qbeg R).seen = S.dirs false from hS.seen, hdn]
    cases hq : findL (qbeg R).seen p with
    | none => rfl
    | some i =>
      simp only []
      by_cases h1 : o < 0 ∨ m < 0
      · rw [if_pos h1, if_pos h1]
      · rw [if_neg h1, if_neg h1]
        by_cases h2 : (begS S).down = true
        · rw [if_pos h2, if_pos h2]
        · rw [if_neg h2, if_neg h2]
          unfold readL
          rw [(sim_con hS hq).1]
          rfl
  · rw [if_neg hf, if_neg hf]
    exact ⟨rfl, sim_cnt h, ho⟩
end Go.Proofs.YtkfncnpeockiaaaGreatDoor

namespace Go.Proofs.YtkfncnpeockiaaaGreatDoor
open Go.RowKit
variable {w w' : World}

def fiI : Option Nat → Int
  | none => -1
  | some i => i
theorem findL_take {l : List (List UInt8 × Nat)} {p : List UInt8} {k : Nat} (hk : k < l.length) (h : findL (l.take k) p = none) : (l[k].1 = p → findL l p = some l[k].2) ∧ (l[k].1 ≠ p → findL (l.take (k + 1)) p = none) := by
  have h0 : (l.take k).find? (fun q => q.1 == p) = none := by
    unfold findL at h
    cases hf : (l.take k).find? (fun q => q.1 == p) with
    | none => rfl
    | some q => rw [hf] at h; cases h
  constructor
  · intro e
    have e2 : l.find? (fun q => q.1 == p) = some l[k] := by
      have hl : l = l.take k ++ l[k] :: l.drop (k + 1) := by rw [← List.drop_eq_getElem_cons hk, List.take_append_drop]
      refine (congrArg (List.find? fun q => q.1 == p) hl).trans ?_
      rw [List.find?_append, h0, List.find?_cons_of_pos (by simpa using e)]
      rfl
    unfold findL
    rw [e2]; rfl
  · intro e
    unfold findL
    rw [take_snoc _ _ hk, List.find?_append, h0, List.find?_cons_of_neg (by simpa using e)]
    rfl
theorem ent_cells {v : Value} {l : List (List UInt8 × Nat)} (h : w.ownsRow 0 104 2 v l.length (l.flatMap entC)) :
    ∃ a cap, v = .slice a l.length cap ∧ ∀ k (hk : k < l.length), ∃ g, a = some ⟨g, 0, none⟩ ∧ v.ownBlock = some g ∧ g < w.heap.size ∧ w.cell? ⟨g, k * 2, none⟩ = some (.string (bz l[k].1)) ∧ w.cell? ⟨g, k * 2 + 1, none⟩ = some (.int .i64 l[k].2) := by
  obtain ⟨a, cap, rfl, hc⟩ := row_slice h
  refine ⟨a, cap, rfl, fun k hk => ?_⟩
  rcases hc with h0 | ⟨g, rfl, hg, hc⟩
  · omega
  · refine ⟨g, rfl, rfl, hg, ?_, ?_⟩
    · have := hc (k * 2 + 0) _ (by rw [flat_at entC 2 entC_len l k 0 hk (by decide)]; rfl)
      rwa [Nat.add_zero] at this
    · exact hc (k * 2 + 1) _ (by rw [flat_at entC 2 entC_len l k 1 hk (by decide)]; rfl)

set_option maxRecDepth 100000 in
set_option maxHeartbeats 1000000 in
theorem qfind_any {v : Value} {l : List (List UInt8 × Nat)} (h : w.ownsRow 0 104 2 v l.length (l.flatMap entC)) (hl : l.length ≤ 100000) (p : ByteArray) :
    Calls Tryz.prog 63 #[v, .string p] w fun e w' => e = .returned (.int .i64 (fiI (findL l p.data.toList))) ∧ w = w' := by
  obtain ⟨a, cap, rfl, hc⟩ := ent_cells h
  have HC := Lib.hid hc
  clear h hc
  go_enter Tryz.func63, Tryz.ntmps63
  go_wp2
  go_loop [5] (fun iv => ∃ k : Nat, k ≤ l.length ∧ iv = .int .i64 k ∧ Hid (findL (l.take k) p.data.toList = none)) (fun iv => l.length - (intOf iv).toNat)
  case atStart => exact ⟨0, Nat.zero_le _, rfl, Lib.hid rfl⟩
  case round =>
    obtain ⟨k, hk, rfl, hno⟩ := hrel
    by_cases hlt : k < l.length
    · obtain ⟨g, rfl, -, hg, c0, c1⟩ := HC.out k hlt
      have hkI : (k : Int) < l.length := by omega
      have HT := Lib.hid (findL_take hlt hno.out)
      have s0 : ¬ (k : Int) < 0 := by omega
      by_cases he : l[k].1 = p.data.toList
      · have t1 : ((bz l[k].1).toList == p.toList) = true := by rw [ByteArray.toList_eq, ByteArray.toList_eq, bz_list, he]; simp
        have HR := Lib.hid (HT.out.1 he)
        clear he
        generalize bz l[k].1 = x at *
        go_wp2
        go_ret
        exact ⟨by rw [HR.out]; rfl, rfl⟩
      · have t1 : ((bz l[k].1).toList == p.toList) = false := by rw [ByteArray.toList_eq, ByteArray.toList_eq, bz_list]; simpa using he
        have HR := Lib.hid (HT.out.2 he)
        clear he
        generalize bz l[k].1 = x at *
        go_wp2
        go_round
        case rel => exact ⟨k + 1, by omega, by go_num, HR⟩
        case measure => simp [intOf]; omega
    · have hkI : ¬ (k : Int) < l.length := by omega
      have HR := Lib.hid (show findL l p.data.toList = none by have := hno.out; rwa [List.take_of_length_le (by omega)] at this)
      go_wp2
      go_ret
      exact ⟨by rw [HR.out]; rfl, rfl⟩
end Go.Proofs.YtkfncnpeockiaaaGreatDoor

namespace Go.Proofs.YtkfncnpeockiaaaGreatDoor
open Go.RowKit
variable {w w' : World} {Q : QL} {R : RS}

def newRS (r : Int) : RS := ⟨[], [], [], [], [], roomN r, 0, [], 0, false⟩
def newQL (b : Nat) : QL := ⟨b, fun _ => .slice none 0 0⟩
theorem qinv_new (w : World) (r : Int) : QInv (newQL w.heap.size) (newRS r) (w.alloc (.cells #[.slice none 0 0, .slice none 0 0, .slice none 0 0, .slice none 0 0, .slice none 0 0, .int .i64 (roomN r), .int .i64 0, .slice none 0 0, .int .i64 0, .bool false] 64)) := by
  refine ⟨blk_new _ _ _, fun i hi => ?_, fun i hi e => by cases e⟩
  have h : ∀ i, eln (newRS r) i = 0 ∧ ecl (newRS r) i = [] := fun i => by
    unfold eln ecl
    split <;> exact ⟨rfl, rfl⟩
  rw [(h i).1, (h i).2]
  exact World.ownsRow_nil _ _ _ _
set_option maxRecDepth 100000 in
theorem qnew_any (r : Int) (w : World) : Calls Tryz.prog 9 #[.int .i64 r] w fun e w' => e = .returned (.pointer (some ⟨w.heap.size, 0, none⟩)) ∧ QInv (newQL w.heap.size) (newRS r) w' ∧ Below w.heap.size w w' := by
  have hq := qinv_new w r
  have hb : Below w.heap.size w (w.alloc (.cells #[.slice none 0 0, .slice none 0 0, .slice none 0 0, .slice none 0 0, .slice none 0 0, .int .i64 (roomN r), .int .i64 0, .slice none 0 0, .int .i64 0, .bool false] 64)) := (Below.refl _ _).alloc (Nat.le_refl _) _
  have HQ := Lib.hid hq; have HB := Lib.hid hb
  clear hq hb
  by_cases h1 : r < 0
  · have e : ((roomN r : Nat) : Int) = 4000000 := by unfold roomN; rw [if_pos (.inl h1)]; rfl
    rw [e] at HQ HB
    go_enter Tryz.func9, Tryz.ntmps9
    go_wp2
    go_ret
    exact ⟨rfl, HQ.out, HB.out⟩
  · by_cases h2 : 4000000 < r
    · have e : ((roomN r : Nat) : Int) = 4000000 := by unfold roomN; rw [if_pos (.inr h2)]; rfl
      rw [e] at HQ HB
      go_enter Tryz.func9, Tryz.ntmps9
      go_wp2
      go_ret
      exact ⟨rfl, HQ.out, HB.out⟩
    · have e : ((roomN r : Nat) : Int) = r := by unfold roomN; rw [if_neg (by omega)]; omega
      rw [e] at HQ HB
      go_enter Tryz.func9, Tryz.ntmps9
      go_wp2
      go_ret
      exact ⟨rfl, HQ.out, HB.out⟩

theorem q_off (h : QInv Q R w) (x : Bool) : QInv Q { R with off := x } (w.setCell ⟨Q.b, 9, none⟩ (.bool x)) ∧ QStep Q w Q (w.setCell ⟨Q.b, 9, none⟩ (.bool x)) :=
  q_num h 9 (.bool x) rfl (fun j _ => by unfold eln ecl; split <;> exact ⟨rfl, rfl⟩)
theorem q_cnt (h : QInv Q R w) : QInv Q (qbeg R) (w.setCell ⟨Q.b, 6, none⟩ (.int .i64 ((R.count + 1 : Nat) : Int))) ∧ QStep Q w Q (w.setCell ⟨Q.b, 6, none⟩ (.int .i64 ((R.count + 1 : Nat) : Int))) :=
  q_num h 6 _ rfl (fun j _ => by unfold eln ecl; split <;> exact ⟨rfl, rfl⟩)
theorem q_cra (h : QInv Q R w) (x : Int) : QInv Q { R with crash := x } (w.setCell ⟨Q.b, 8, none⟩ (.int .i64 x)) ∧ QStep Q w Q (w.setCell ⟨Q.b, 8, none⟩ (.int .i64 x)) :=
  q_num h 8 _ rfl (fun j _ => by unfold eln ecl; split <;> exact ⟨rfl, rfl⟩)
theorem q_cra2 (h : QInv Q R w) (x y : Int) : QInv Q { R with crash := y } ((w.setCell ⟨Q.b, 8, none⟩ (.int .i64 x)).setCell ⟨Q.b, 8, none⟩ (.int .i64 y)) ∧ QStep Q w Q ((w.setCell ⟨Q.b, 8, none⟩ (.int .i64 x)).setCell ⟨Q.b, 8, none⟩ (.int .i64 y)) := by
  obtain ⟨h1, s1⟩ := q_cra h x
  obtain ⟨h2, s2⟩ := q_cra h1 y
  exact ⟨h2, s1.trans s2⟩
theorem qend_any (h : QInv Q R w) (e : Int) (dn : Bool) :
    Calls Tryz.prog 62 #[.pointer (some ⟨Q.b, 0, none⟩), .int .i64 e, .bool dn] w (QOut Q w (qend dn (e, R))) := by
  have f9 := blk_frozen h.blk 9
  have c9 := blk_cell h.blk 9 (v := .bool R.off) rfl
  have H1 := Lib.hid (q_off h true)
  have HH := Lib.hid h
  clear h
  cases dn with
  | true =>
    go_enter Tryz.func62, Tryz.ntmps62
    go_wp2
    go_ret
    exact ⟨Q, rfl, H1.out.1, H1.out.2⟩
  | false =>
    go_enter Tryz.func62, Tryz.ntmps62
    go_wp2
    go_ret
    exact ⟨Q, rfl, HH.out, QStep.refl _ _⟩
theorem qcrashat_any (h : QInv Q R w) (k : Int) :
    Calls Tryz.prog 34 #[.pointer (some ⟨Q.b, 0, none⟩), .int .i64 k] w fun e w' => e = .returned (.tuple #[]) ∧ QInv Q (qcrash k R) w' ∧ QStep Q w Q w' := by
  have f8 := blk_frozen h.blk 8
  have c8 := blk_cell h.blk 8 (v := .int .i64 R.crash) rfl
  have c6 := blk_cell h.blk 6 (v := .int .i64 R.count) rfl
  have H1 := Lib.hid (q_cra h 0)
  have H2 := Lib.hid (q_cra2 h 0 k)
  clear h
  unfold qcrash
  by_cases hk : (R.count : Int) < k
  · rw [if_pos hk]
    go_enter Tryz.func34, Tryz.ntmps34
    go_wp2
    go_returns
    first
      | exact ⟨rfl, H2.out.1, H2.out.2⟩
      | exact ⟨rfl, by simpa using H2.out.1, by simpa using H2.out.2⟩
  · rw [if_neg hk]
    go_enter Tryz.func34, Tryz.ntmps34
    go_wp2
    go_returns
    exact ⟨rfl, H1.out.1, H1.out.2⟩
end Go.Proofs.YtkfncnpeockiaaaGreatDoor
