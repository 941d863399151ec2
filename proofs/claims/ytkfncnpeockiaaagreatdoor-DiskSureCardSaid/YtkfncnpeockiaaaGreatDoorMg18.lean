/-
  Layer 7, the document's side: change, by which a change is seen and waits. Condition: the rows are of at most a hundred thousand entries, a file of at most forty thousand bytes.
-/
import Derived.Deep.RegionLaw
import Derived.Deep.DeepCutAuto
import Derived.StillTailTactics
import Derived.Test.YtkfncnpeockiaaaGreatDoorMg15
import Derived.Test.YtkfncnpeockiaaaGreatDoorMg16
import Derived.Test.YtkfncnpeockiaaaGreatDoorMg17
namespace Go.Proofs.YtkfncnpeockiaaaGreatDoor
open Go.RowKit
variable {w w' : World} {Q : QL} {R : RS}

theorem infoQC : ∃ i, Tryz.prog.info? 99 = some i ∧ i.zero = some (.agg #[.int .i64 0, .string ⟨#[]⟩, .int .i64 0, .int .i64 0, .string ⟨#[]⟩]) ∧ i.size = 5 ∧ i.bytes = 56 := by
  obtain ⟨i, hi, hz⟩ := Option.map_eq_some_iff.1 (show (Tryz.prog.info? 99).map (fun i => (i.zero, i.size, i.bytes)) = some (some (.agg #[.int .i64 0, .string ⟨#[]⟩, .int .i64 0, .int .i64 0, .string ⟨#[]⟩]), 5, 56) by kernel_rfl)
  simp only [Prod.mk.injEq] at hz
  exact ⟨i, hi, hz⟩
theorem infoQS : ∃ i, Tryz.prog.info? 9 = some i ∧ i.zero = some (.string ⟨#[]⟩) ∧ i.size = 1 ∧ i.bytes = 16 := by
  obtain ⟨i, hi, hz⟩ := Option.map_eq_some_iff.1 (show (Tryz.prog.info? 9).map (fun i => (i.zero, i.size, i.bytes)) = some (some (.string ⟨#[]⟩), 1, 16) by kernel_rfl)
  simp only [Prod.mk.injEq] at hz
  exact ⟨i, hi, hz⟩
theorem one_ent (l : List (List UInt8 × Nat)) : ∀ u ∈ l.flatMap entC, u.oneCell' = true := fun u hu => by
  obtain ⟨p, -, hp⟩ := List.mem_flatMap.1 hu
  exact one2 p u hp
theorem one_str (l : List (List UInt8)) : ∀ u ∈ l.flatMap strC, u.oneCell' = true := fun u hu => by
  obtain ⟨p, -, hp⟩ := List.mem_flatMap.1 hu
  simp [strC] at hp
  subst hp; rfl
theorem one_chg (c : Chg) : ∀ u ∈ c.qc, u.oneCell' = true := fun u hu => by
  cases c <;> simp [Chg.qc] at hu <;> rcases hu with rfl | rfl | rfl | rfl | rfl <;> rfl
theorem one_qc (l : List Chg) : ∀ u ∈ l.flatMap Chg.qc, u.oneCell' = true := fun u hu => by
  obtain ⟨p, -, hp⟩ := List.mem_flatMap.1 hu
  exact one_chg p u hp
/-- The cells of a change, named. -/
theorem qc_lit (c : Chg) : ∃ (kd : Int) (nm : ByteArray) (fi at_ : Int) (d : ByteArray), c.qc = [.int .i64 kd, .string nm, .int .i64 fi, .int .i64 at_, .string d] ∧ (ofDir c = true → kd < 3) ∧ (ofDir c = false → 3 ≤ kd) ∧ (ofDir c = false → fi = fileC c) := by
  cases c with
  | create n i => exact ⟨1, bz n, i, 0, bz [], rfl, (fun _ => by decide), (fun h => by cases h), (fun h => by cases h)⟩
  | remove n => exact ⟨2, bz n, 0, 0, bz [], rfl, (fun _ => by decide), (fun h => by cases h), (fun h => by cases h)⟩
  | write i o d => exact ⟨3, bz [], i, o, bz d, rfl, (fun h => by cases h), (fun _ => by decide), (fun _ => rfl)⟩
  | trunc i z => exact ⟨4, bz [], i, z, bz [], rfl, (fun h => by cases h), (fun _ => by decide), (fun _ => rfl)⟩

theorem bxs_of {a : World} {g : Nat} {kd fi at_ : Int} {nm d : ByteArray} (h : Blk a g 99 #[.int .i64 kd, .string nm, .int .i64 fi, .int .i64 at_, .string d]) :
    a.cell? ⟨g, 0, none⟩ = some (.int .i64 kd) ∧ a.cell? ⟨g, 1, none⟩ = some (.string nm) ∧ a.cell? ⟨g, 2, none⟩ = some (.int .i64 fi) ∧ a.cell? ⟨g, 3, none⟩ = some (.int .i64 at_) ∧ a.cell? ⟨g, 4, none⟩ = some (.string d) :=
  ⟨blk_cell h 0 rfl, blk_cell h 1 rfl, blk_cell h 2 rfl, blk_cell h 3 rfl, blk_cell h 4 rfl⟩
theorem bxs_alloc {a : World} {g : Nat} {x0 x1 x2 x3 x4 : Value} (h : a.cell? ⟨g, 0, none⟩ = some x0 ∧ a.cell? ⟨g, 1, none⟩ = some x1 ∧ a.cell? ⟨g, 2, none⟩ = some x2 ∧ a.cell? ⟨g, 3, none⟩ = some x3 ∧ a.cell? ⟨g, 4, none⟩ = some x4) (o : Obj) :
    (a.alloc o).cell? ⟨g, 0, none⟩ = some x0 ∧ (a.alloc o).cell? ⟨g, 1, none⟩ = some x1 ∧ (a.alloc o).cell? ⟨g, 2, none⟩ = some x2 ∧ (a.alloc o).cell? ⟨g, 3, none⟩ = some x3 ∧ (a.alloc o).cell? ⟨g, 4, none⟩ = some x4 :=
  ⟨cell_alloc h.1 o, cell_alloc h.2.1 o, cell_alloc h.2.2.1 o, cell_alloc h.2.2.2.1 o, cell_alloc h.2.2.2.2 o⟩
theorem blk_alloc0 {a : World} {g : Nat} {t : TypeId} {cs : Array Value} (h : Blk a g t cs) (o : Obj) : Blk (a.alloc o) g t cs := (heap_alloc_old a o (blk_lt h)).trans h
theorem row_at {a : World} {g g' : Nat} {e : TypeId} {size n c k : Nat} {xs : List Value} (h : a.ownsRow g e size (.slice (some ⟨g, 0, none⟩) n c) k xs) (hg : g = g') : a.ownsRow g' e size (.slice (some ⟨g', 0, none⟩) n c) k xs := by subst hg; exact h
theorem row_kept3 {a a' : World} {b : Nat} {e : TypeId} {size n : Nat} {v : Value} {xs : List Value} {r : Option Nat} (h : a.ownsRow b e size v n xs) (hg : a.grownBy a' r) (hne : v.ownBlock ≠ r) : a'.ownsRow b e size v n xs := h.kept hg (.inr hne)
theorem below_a1 (a : World) (o : Obj) : Below a.heap.size a (a.drew.alloc o) := (Same.refl a).drew.below.alloc (Nat.le_refl _) o
theorem below_a2 (a : World) (o o' : Obj) : Below a.heap.size a ((a.drew.alloc o).alloc o') := (below_a1 a o).alloc (below_a1 a o).size o'
theorem wait_kept {W0 ws w3 : World} {v0 : Value} {t : TypeId} {cs : Array Value} (hB : Below w.heap.size w W0) (hX : Blk W0 w.heap.size t cs) (hws : Below W0.heap.size W0 ws) (hg : ws.grownBy w3 v0.ownBlock) (hv : ∀ k, v0.ownBlock = some k → w.heap.size + 1 ≤ k) :
    Below w.heap.size w w3 ∧ Blk w3 w.heap.size t cs := by
  have h1 : Below w.heap.size w ws := hB.trans (hws.mono hB.size)
  have h2 : Blk ws w.heap.size t cs := (hws.block _ (blk_lt hX)).trans hX
  exact ⟨h1.grown hg h1.size (fun k e => Nat.le_of_succ_le (hv k e)), (hg.block _ (blk_lt h2) (fun e => by have := hv _ e.symm; omega)).trans h2⟩
theorem wait_kept4 {wx w4 : World} {v : Value} {e : TypeId} {size n : Nat} {xs : List Value} {t : TypeId} {cs : Array Value} (hB : Below w.heap.size w wx) (hX : Blk wx w.heap.size t cs) (ho : wx.ownsRow (w.heap.size + 1) e size v n xs) (hg : wx.grownBy w4 v.ownBlock) :
    Below w.heap.size w w4 ∧ Blk w4 w.heap.size t cs :=
  ⟨hB.grown hg hB.size (fun k e => Nat.le_of_succ_le (ho.lt k e).1), (hg.block _ (blk_lt hX) (fun e => by have := (ho.lt _ e.symm).1; omega)).trans hX⟩
/-- The changes that wait with one more, laid anew. -/
theorem wait_fin (h : QInv Q R w) (c : Chg) {w4 : World} {v2 : Value} (hb : Below w.heap.size w w4) (hr : w4.ownsRow (w.heap.size + 1) 99 5 v2 (R.waits.length + 1) (R.waits.flatMap Chg.qc ++ c.qc)) {t : TypeId} {cs : Array Value} (hx : Blk w4 w.heap.size t cs) :
    ∃ Q1, QInv Q1 { R with waits := R.waits ++ [c] } (w4.setCell ⟨Q.b, 4, none⟩ v2) ∧ QStep Q w Q1 (w4.setCell ⟨Q.b, 4, none⟩ v2) ∧ Blk (w4.setCell ⟨Q.b, 4, none⟩ v2) w.heap.size t cs := by
  have hp := q_put (R' := { R with waits := R.waits ++ [c] }) h 4 (.inl (by decide)) (v1 := v2) hb (by
    show w4.ownsRow 0 99 5 v2 (R.waits ++ [c]).length ((R.waits ++ [c]).flatMap Chg.qc)
    rw [List.length_append, List.flatMap_append]
    simpa using row_base hr (Nat.zero_le _)) (fun g hg => Nat.le_of_succ_le (hr.lt g hg).1)
    (fun j hj hne => by
      rcases hj with hj | rfl
      · match j, hj with
        | 0, _ => exact ⟨rfl, rfl⟩
        | 1, _ => exact ⟨rfl, rfl⟩
        | 2, _ => exact ⟨rfl, rfl⟩
        | 3, _ => exact ⟨rfl, rfl⟩
        | 4, _ => exact absurd rfl hne
      · exact ⟨rfl, rfl⟩) ⟨rfl, rfl, rfl, rfl⟩
  have hne : w.heap.size ≠ Q.b := fun e => by have := blk_lt h.blk; omega
  exact ⟨_, hp.1, hp.2, (setCell_keep _ _ _ _ _ hne).trans hx⟩

theorem row6 {W w6 : World} {b g n cap j : Nat} {e : TypeId} {size : Nat} {xs : List Value} {u : Value} (hr : W.ownsRow b e size (.slice (some ⟨g, 0, none⟩) n cap) n xs) (hb : Below W.heap.size W w6) (hx : xs[j]? = some u) : w6.cell? ⟨g, j, none⟩ = some u ∧ w6.frozen? ⟨g, j, none⟩ = false := by
  have h6 := row_below hr hb
  refine ⟨?_, h6.frozenAt j⟩
  have := h6.cells (g := g) rfl j u hx
  rwa [Addr.add_lit, Nat.zero_add] at this
theorem cell6_set {a : World} {g q f : Nat} {x0 x1 x2 x3 x4 x5 : Value} (h1 : g ≠ f) (h2 : q ≠ f) (h : a.cell? ⟨g, 0, none⟩ = some x0 ∧ a.cell? ⟨g, 1, none⟩ = some x1 ∧ a.cell? ⟨g, 2, none⟩ = some x2 ∧ a.cell? ⟨g, 3, none⟩ = some x3 ∧ a.cell? ⟨g, 4, none⟩ = some x4 ∧ a.cell? ⟨q, 2, none⟩ = some x5) (j : Nat) (v : Value) :
    (a.setCell ⟨f, j, none⟩ v).cell? ⟨g, 0, none⟩ = some x0 ∧ (a.setCell ⟨f, j, none⟩ v).cell? ⟨g, 1, none⟩ = some x1 ∧ (a.setCell ⟨f, j, none⟩ v).cell? ⟨g, 2, none⟩ = some x2 ∧ (a.setCell ⟨f, j, none⟩ v).cell? ⟨g, 3, none⟩ = some x3 ∧ (a.setCell ⟨f, j, none⟩ v).cell? ⟨g, 4, none⟩ = some x4 ∧ (a.setCell ⟨f, j, none⟩ v).cell? ⟨q, 2, none⟩ = some x5 := by
  have k : ∀ (b o : Nat), b ≠ f → (a.setCell ⟨f, j, none⟩ v).cell? ⟨b, o, none⟩ = a.cell? ⟨b, o, none⟩ := fun b o hb => World.cell?_of_block (a := ⟨b, o, none⟩) (setCell_keep _ _ _ _ b hb)
  exact ⟨(k _ _ h1).trans h.1, (k _ _ h1).trans h.2.1, (k _ _ h1).trans h.2.2.1, (k _ _ h1).trans h.2.2.2.1, (k _ _ h1).trans h.2.2.2.2.1, (k _ _ h2).trans h.2.2.2.2.2⟩
theorem grown_new {a a' : World} {o : Obj} (hg : (a.alloc o).grownBy a' (some a.heap.size)) : Below a.heap.size a a' :=
  ((Below.refl _ a).alloc (Nat.le_refl _) o).grown hg (by simp) (fun k e => by cases e; exact Nat.le_refl _)
theorem file_lt {c : Chg} {nf : Nat} (h : c.QOk nf) (hc : ofDir c = false) : fileC c < nf := by
  cases c with
  | create _ _ => cases hc
  | remove _ => cases hc
  | write i o d => exact h.1
  | trunc i z => exact h.1
theorem row_kept5 {a a' : World} {b : Nat} {e : TypeId} {size n : Nat} {v : Value} {xs : List Value} (h : a.ownsRow b e size v n xs) (hk : ∀ g, v.ownBlock = some g → a'.heap[g]? = a.heap[g]?) : a'.ownsRow b e size v n xs := by
  refine ⟨h.1, ?_⟩
  rcases h.2 with hn | ⟨g, cap, cur, rfl, hb, hgg, rest⟩
  · exact .inl hn
  · exact .inr ⟨g, cap, cur, rfl, hb, (hk g rfl).trans hgg, rest⟩
/-- The directory that is seen, stored anew. -/
theorem put_seen (h : QInv Q R w) (l : List (List UInt8 × Nat)) {v1 : Value} (hb : Below w.heap.size w w') (hr : w'.ownsRow w.heap.size 104 2 v1 l.length (l.flatMap entC)) :
    QInv ⟨Q.b, updN Q.v 0 v1⟩ { R with seen := l } (w'.setCell ⟨Q.b, 0, none⟩ v1) ∧ QStep Q w ⟨Q.b, updN Q.v 0 v1⟩ (w'.setCell ⟨Q.b, 0, none⟩ v1) :=
  q_put (R' := { R with seen := l }) h 0 (.inl (by decide)) hb (row_base hr (Nat.zero_le _)) (fun g hg => (hr.lt g hg).1)
    (fun j hj hne => by
      rcases hj with hj | rfl
      · match j, hj with
        | 0, _ => exact absurd rfl hne
        | 1, _ => exact ⟨rfl, rfl⟩
        | 2, _ => exact ⟨rfl, rfl⟩
        | 3, _ => exact ⟨rfl, rfl⟩
        | 4, _ => exact ⟨rfl, rfl⟩
      · exact ⟨rfl, rfl⟩) ⟨rfl, rfl, rfl, rfl⟩
/-- The files' bytes that are seen, in a row of their own made anew, and one of them changed. -/
theorem put_bytes (h : QInv Q R w) {w5 : World} {g5 cap5 : Nat} (hb : Below w.heap.size w w5) (hr : w5.ownsRow w.heap.size 9 1 (.slice (some ⟨g5, 0, none⟩) R.seenB.length cap5) R.seenB.length (R.seenB.flatMap strC)) {w6 : World} (hb6 : Below (w5.setCell ⟨Q.b, 2, none⟩ (.slice (some ⟨g5, 0, none⟩) R.seenB.length cap5)).heap.size (w5.setCell ⟨Q.b, 2, none⟩ (.slice (some ⟨g5, 0, none⟩) R.seenB.length cap5)) w6) (j : Nat) (x : List UInt8) :
    ∃ Q', QInv Q' { R with seenB := R.seenB.set j x } (w6.setCell ⟨g5, j, none⟩ (.string (bz x))) ∧ QStep Q w Q' (w6.setCell ⟨g5, j, none⟩ (.string (bz x))) := by
  have hg5 := (hr.lt g5 rfl).1
  have hp := q_put (R' := R) h 2 (.inl (by decide)) hb (row_base hr (Nat.zero_le _)) (fun g hg => (hr.lt g hg).1) (fun j _ _ => ⟨rfl, rfl⟩) ⟨rfl, rfl, rfl, rfl⟩
  have h6 := hp.1.below hb6
  have hd : ∀ j, fld j → j ≠ 2 → (updN Q.v 2 (.slice (some ⟨g5, 0, none⟩) R.seenB.length cap5) j).ownBlock ≠ some g5 := fun j hj hne e => by
    unfold updN at e
    rw [if_neg hne] at e
    have := ((h.row j hj).lt g5 e).2
    omega
  have hv : updN Q.v 2 (.slice (some ⟨g5, 0, none⟩) R.seenB.length cap5) 2 = .slice (some ⟨g5, 0, none⟩) R.seenB.length cap5 := by simp [updN]
  have hrw := h6.row 2 (.inl (by decide))
  change w6.ownsRow 0 9 1 (updN Q.v 2 (.slice (some ⟨g5, 0, none⟩) R.seenB.length cap5) 2) R.seenB.length (R.seenB.flatMap strC) at hrw
  rw [hv] at hrw
  refine ⟨_, q_cell (R' := { R with seenB := R.seenB.set j x }) h6 2 (.inl (by decide)) hv hd j (.string (bz x)) ?_ ?_ ⟨rfl, rfl, rfl, rfl⟩, qstep_cell (hp.2.trans (QStep.below hb6)) hg5 j _⟩
  · show World.ownsRow _ 0 9 1 (updN Q.v 2 (.slice (some ⟨g5, 0, none⟩) R.seenB.length cap5) 2) (R.seenB.set j x).length ((R.seenB.set j x).flatMap strC)
    rw [hv, List.length_set, str_set]
    exact (hrw.stored j _).1
  · intro i hi hne
    rcases hi with hi | rfl
    · match i, hi with
      | 0, _ => exact ⟨rfl, rfl⟩
      | 1, _ => exact ⟨rfl, rfl⟩
      | 2, _ => exact absurd rfl hne
      | 3, _ => exact ⟨rfl, rfl⟩
      | 4, _ => exact ⟨rfl, rfl⟩
    · exact ⟨rfl, rfl⟩

set_option maxRecDepth 100000 in
set_option maxHeartbeats 4000000 in
theorem qchange_any (c : Chg) (h : QInv Q R w) (hc : c.QOk R.seenB.length) (h1 : R.waits.length ≤ 90000) (h2 : R.seen.length ≤ 90000) (h3 : R.seenB.length ≤ 90000) (h4 : ∀ s, s ∈ R.seenB → s.length ≤ 40000) :
    Calls Tryz.prog 64 #[.pointer (some ⟨Q.b, 0, none⟩), .agg c.qc.toArray] w fun e w' => e = .returned (.tuple #[]) ∧ ∃ Q', QInv Q' (qchange c R) w' ∧ QStep Q w Q' w' := by
  obtain ⟨kd, nm, fi, at_, d, hcc, hk1, hk2, hk3⟩ := qc_lit c
  obtain ⟨i1, hi1, hz1, hs1, hbb1⟩ := infoQC
  have hone := one_chg c
  have HFIN := Lib.hid (fun w4 v2 hb hr cs hx => wait_fin h c (w4 := w4) (v2 := v2) hb hr (t := 99) (cs := cs) hx)
  have hcc2 : c.qc.toArray = #[.int .i64 kd, .string nm, .int .i64 fi, .int .i64 at_, .string d] := by rw [hcc]
  rw [hcc] at hone HFIN ⊢
  obtain ⟨W0, hW0⟩ : ∃ W0, W0 = w.alloc (.cells #[.int .i64 kd, .string nm, .int .i64 fi, .int .i64 at_, .string d] 99) := ⟨_, rfl⟩
  have hB0 : Below w.heap.size w W0 := by rw [hW0]; exact (Below.refl _ _).alloc (Nat.le_refl _) _
  have HX : Hid (Blk W0 w.heap.size 99 #[.int .i64 kd, .string nm, .int .i64 fi, .int .i64 at_, .string d]) := Lib.hid (by rw [hW0]; exact blk_new w _ _)
  have hsz : w.heap.size + 1 ≤ W0.heap.size := blk_lt HX.out
  have hI0 := h.below hB0
  have c4 := blk_cell hI0.blk 4 (v := Q.v 4) rfl
  have c4a := cell_alloc c4 (.cells #[] 99)
  have c4b := cell_alloc c4 (.cells #[.int .i64 kd, .string nm, .int .i64 fi, .int .i64 at_, .string d] 99)
  have c4c := cell_alloc c4a (.cells #[.int .i64 kd, .string nm, .int .i64 fi, .int .i64 at_, .string d] 99)
  have c4d := cell_alloc c4b (.cells #[] 99)
  have HR4 := Lib.hid (hI0.row 4 (.inl (by decide)))
  change Hid (W0.ownsRow 0 99 5 (Q.v 4) R.waits.length (R.waits.flatMap Chg.qc)) at HR4
  have HQB := Lib.hid (blk_lt h.blk)
  have HBQ := Lib.hid h.blk
  have HNE := Lib.hid (show w.heap.size ≠ Q.b from fun e => by have := blk_lt h.blk; omega)
  have HONE := Lib.hid (one_qc R.waits)
  have HH := Lib.hid h
  have HB := Lib.hid hB0
  have HW0 := Lib.hid hW0
  clear h hcc hI0 hB0 hW0
  go_enter Tryz.func64, Tryz.ntmps64
  go_upto_region 1 with (fail)
  rw [← HW0.out]
  clear HW0
  go_cut [] from 4 (fun wx => ∃ Q1, QInv Q1 { R with waits := R.waits ++ [c] } wx ∧ QStep Q w Q1 wx ∧ Blk wx w.heap.size 99 #[.int .i64 kd, .string nm, .int .i64 fi, .int .i64 at_, .string d])
  case first =>
    refine wp_region_held_drew (S := fun a => a.cell? ⟨w.heap.size, 0, none⟩ = some (.int .i64 kd) ∧ a.cell? ⟨w.heap.size, 1, none⟩ = some (.string nm) ∧ a.cell? ⟨w.heap.size, 2, none⟩ = some (.int .i64 fi) ∧ a.cell? ⟨w.heap.size, 3, none⟩ = some (.int .i64 at_) ∧ a.cell? ⟨w.heap.size, 4, none⟩ = some (.string d)) (by kernel_rfl) (bxs_of (show Blk W0.drew _ _ _ from HX.out)) (fun hHeld => ?_)
    refine wpAnyH_take (i := 0) (v := (.pointer (some ⟨Q.b, 0, none⟩))) rfl (by kernel_rfl) (by kernel_rfl) (by kernel_rfl) (fun _ _ _ h => h) (Or.inl ⟨by rfl, ?_⟩) hHeld ?_
    · intro w' hSw
      obtain ⟨a0, a1, a2, a3, a4⟩ := hSw
      go_simp
    go_frame
    refine wpAnyH_take (i := 2) (v := (.pointer (some ⟨Q.b, 0, none⟩))) rfl (by kernel_rfl) (by kernel_rfl) (by kernel_rfl) (fun _ _ _ h => h) (Or.inl ⟨by rfl, ?_⟩) hHeld ?_
    · intro w' hSw
      obtain ⟨a0, a1, a2, a3, a4⟩ := hSw
      go_simp
    go_frame
    refine wpAnyH_take (i := 3) (v := (.pointer (some ⟨Q.b, 0, none⟩))) rfl (by kernel_rfl) (by kernel_rfl) (by kernel_rfl) (fun _ _ _ h => h) (Or.inl ⟨by rfl, ?_⟩) hHeld ?_
    · intro w' hSw
      obtain ⟨a0, a1, a2, a3, a4⟩ := hSw
      go_simp
    go_frame
    refine wpAnyH_take (i := 4) (v := (.pointer (some ⟨Q.b, 4, none⟩))) rfl (by kernel_rfl) (by kernel_rfl) (by kernel_rfl) (fun _ _ _ h => h) (Or.inl ⟨by rfl, ?_⟩) hHeld ?_
    · intro w' hSw
      obtain ⟨a0, a1, a2, a3, a4⟩ := hSw
      go_simp
    go_frame
    refine wpAnyH_take (i := 7) (v := (.agg #[.int .i64 kd, .string nm, .int .i64 fi, .int .i64 at_, .string d])) rfl (by kernel_rfl) (by kernel_rfl) (by kernel_rfl) (fun _ _ _ h => h) (Or.inl ⟨by rfl, ?_⟩) hHeld ?_
    · intro w' hSw
      obtain ⟨a0, a1, a2, a3, a4⟩ := hSw
      go_simp
    go_frame
    refine wpAnyH_ready (rs := [1, 5, 8]) (by kernel_rfl) (by simp) ?_
    refine AllReadyH.cons rfl (fun K hK => ?_) (AllReadyH.cons rfl (fun K hK => ?_) (AllReadyH.cons rfl (fun K hK => ?_) AllReadyH.nil))
    · skip
      go_simp
      refine hK.out _ _ (bxs_alloc hHeld _) (fun hHeld => ?_)
      clear hK K
      refine wpAnyH_ready (rs := [5, 8]) (by kernel_rfl) (by simp) ?_
      refine AllReadyH.cons rfl (fun K hK => ?_) (AllReadyH.cons rfl (fun K hK => ?_) AllReadyH.nil)
      · skip
        go_simp
        refine hK.out _ _ hHeld (fun hHeld => ?_)
        clear hK K
        refine wpAnyH_ready (rs := [6, 8]) (by kernel_rfl) (by simp) ?_
        refine AllReadyH.cons rfl (fun K hK => ?_) (AllReadyH.cons rfl (fun K hK => ?_) AllReadyH.nil)
        · skip
          refine step_append_row _ rfl _ _ 61 rfl (w.heap.size + 1) 99 i1 _ 5 56 Tryz.underlying61 hi1 hz1 hs1 hbb1 rfl (by decide) (.slice (some ⟨W0.heap.size, 0, none⟩) 0 0) 0 [] rfl (row_base (row_none W0.drew 99 5) hsz) (Q.v 4) R.waits.length (R.waits.flatMap Chg.qc) rfl (World.ownsRow.alloc (show W0.drew.ownsRow 0 99 5 (Q.v 4) _ _ from HR4.out) _) HONE.out (by unfold maxLen; omega) (by omega) (Nat.le_trans hsz (by first | (simp; done) | (simp; omega))) ?_
          intro v3 w3 hown3 hgrow3 hb3
          rw [Nat.zero_add, List.nil_append] at hown3
          have K3 := wait_kept HB.out HX.out (below_a1 _ _) hgrow3 (fun k e => by have e' : W0.heap.size = k := Option.some.inj e; omega)
          refine hK.out _ _ (bxs_of K3.2) (fun hHeld => ?_)
          clear hK K
          refine wpAnyH_ready (rs := [8]) (by kernel_rfl) (by simp) ?_
          refine AllReadyH.cons rfl (fun K hK => ?_) AllReadyH.nil
          go_simp
          refine hK.out _ _ (bxs_alloc hHeld _) (fun hHeld => ?_)
          clear hK K
          refine wpAnyH_ready (rs := [9]) (by kernel_rfl) (by simp) ?_
          refine AllReadyH.cons rfl (fun K hK => ?_) AllReadyH.nil
          refine step_append_row _ rfl _ _ 61 rfl (w.heap.size + 1) 99 i1 _ 5 56 Tryz.underlying61 hi1 hz1 hs1 hbb1 rfl (by decide) v3 _ _ rfl (hown3.alloc _) (.slice (some ⟨w3.heap.size, 0, none⟩) 1 1) 1 [.int .i64 kd, .string nm, .int .i64 fi, .int .i64 at_, .string d] rfl (row_one w3 99 5 [.int .i64 kd, .string nm, .int .i64 fi, .int .i64 at_, .string d] rfl) hone (by unfold maxLen; omega) (by omega) (Nat.le_trans (blk_lt (blk_alloc0 K3.2 _)) (Nat.le_refl _)) ?_
          intro v4 w4 hown4 hgrow4 hb4
          obtain ⟨a4, cap4, hv4, -⟩ := row_slice (row_base hown4 (Nat.zero_le _))
          subst hv4
          have K4 := wait_kept4 (K3.1.alloc K3.1.size _) (blk_alloc0 K3.2 _) (hown3.alloc _) hgrow4
          have B4 : Blk w4 Q.b 64 _ := (K4.1.block _ HQB.out).trans HBQ.out
          have q4 := blk_cell B4 4 (v := Q.v 4) rfl
          have p4 := blk_frozen B4 4
          refine hK.out _ _ (bxs_of K4.2) (fun hHeld => ?_)
          clear hK K
          refine wpAnyH_take (i := 10) (v := (.pointer (some ⟨Q.b, 0, none⟩))) rfl (by kernel_rfl) (by kernel_rfl) (by kernel_rfl) (fun _ _ _ h => h) (Or.inl ⟨by rfl, ?_⟩) hHeld ?_
          · intro w' hSw
            obtain ⟨a0, a1, a2, a3, a4⟩ := hSw
            go_simp
          go_frame
          refine wpAnyH_take (i := 11) (v := (.pointer (some ⟨Q.b, 4, none⟩))) rfl (by kernel_rfl) (by kernel_rfl) (by kernel_rfl) (fun _ _ _ h => h) (Or.inl ⟨by rfl, ?_⟩) hHeld ?_
          · intro w' hSw
            obtain ⟨a0, a1, a2, a3, a4⟩ := hSw
            go_simp
          go_frame
          refine wpAnyH_ready (rs := [12]) (by kernel_rfl) (by simp) ?_
          refine AllReadyH.cons rfl (fun K hK => ?_) AllReadyH.nil
          go_simp
          refine hK.out _ _ (bxs_of ((setCell_keep _ _ _ _ _ HNE.out).trans K4.2)) (fun hHeld => ?_)
          clear hK K
          refine wpAnyH_done (by kernel_rfl) ?_ _
          go_wp2
          go_meet
          exact HFIN.out w4 _ K4.1 hown4 _ K4.2
        · skip
          go_simp
          refine hK.out _ _ (bxs_alloc hHeld _) (fun hHeld => ?_)
          clear hK K
          refine wpAnyH_ready (rs := [6]) (by kernel_rfl) (by simp) ?_
          refine AllReadyH.cons rfl (fun K hK => ?_) AllReadyH.nil
          refine step_append_row _ rfl _ _ 61 rfl (w.heap.size + 1) 99 i1 _ 5 56 Tryz.underlying61 hi1 hz1 hs1 hbb1 rfl (by decide) (.slice (some ⟨W0.heap.size, 0, none⟩) 0 0) 0 [] rfl (row_base ((row_none W0.drew 99 5).alloc _) hsz) (Q.v 4) R.waits.length (R.waits.flatMap Chg.qc) rfl (World.ownsRow.alloc (World.ownsRow.alloc (show W0.drew.ownsRow 0 99 5 (Q.v 4) _ _ from HR4.out) _) _) HONE.out (by unfold maxLen; omega) (by omega) (Nat.le_trans hsz (by first | (simp; done) | (simp; omega))) ?_
          intro v3 w3 hown3 hgrow3 hb3
          rw [Nat.zero_add, List.nil_append] at hown3
          have K3 := wait_kept HB.out HX.out (below_a2 _ _ _) hgrow3 (fun k e => by have e' : W0.heap.size = k := Option.some.inj e; omega)
          refine hK.out _ _ (bxs_of K3.2) (fun hHeld => ?_)
          clear hK K
          refine wpAnyH_ready (rs := [9]) (by kernel_rfl) (by simp) ?_
          refine AllReadyH.cons rfl (fun K hK => ?_) AllReadyH.nil
          refine step_append_row _ rfl _ _ 61 rfl (w.heap.size + 1) 99 i1 _ 5 56 Tryz.underlying61 hi1 hz1 hs1 hbb1 rfl (by decide) v3 _ _ rfl hown3 (.slice (some ⟨W0.heap.size + 1, 0, none⟩) 1 1) 1 [.int .i64 kd, .string nm, .int .i64 fi, .int .i64 at_, .string d] rfl (row_kept3 (row_at (row_one (W0.drew.alloc (.cells #[] 99)) 99 5 [.int .i64 kd, .string nm, .int .i64 fi, .int .i64 at_, .string d] rfl) (by simp)) hgrow3 (by simp [Value.ownBlock])) hone (by unfold maxLen; omega) (by omega) (Nat.le_trans (blk_lt K3.2) (Nat.le_refl _)) ?_
          intro v4 w4 hown4 hgrow4 hb4
          obtain ⟨a4, cap4, hv4, -⟩ := row_slice (row_base hown4 (Nat.zero_le _))
          subst hv4
          have K4 := wait_kept4 K3.1 K3.2 hown3 hgrow4
          have B4 : Blk w4 Q.b 64 _ := (K4.1.block _ HQB.out).trans HBQ.out
          have q4 := blk_cell B4 4 (v := Q.v 4) rfl
          have p4 := blk_frozen B4 4
          refine hK.out _ _ (bxs_of K4.2) (fun hHeld => ?_)
          clear hK K
          refine wpAnyH_take (i := 10) (v := (.pointer (some ⟨Q.b, 0, none⟩))) rfl (by kernel_rfl) (by kernel_rfl) (by kernel_rfl) (fun _ _ _ h => h) (Or.inl ⟨by rfl, ?_⟩) hHeld ?_
          · intro w' hSw
            obtain ⟨a0, a1, a2, a3, a4⟩ := hSw
            go_simp
          go_frame
          refine wpAnyH_take (i := 11) (v := (.pointer (some ⟨Q.b, 4, none⟩))) rfl (by kernel_rfl) (by kernel_rfl) (by kernel_rfl) (fun _ _ _ h => h) (Or.inl ⟨by rfl, ?_⟩) hHeld ?_
          · intro w' hSw
            obtain ⟨a0, a1, a2, a3, a4⟩ := hSw
            go_simp
          go_frame
          refine wpAnyH_ready (rs := [12]) (by kernel_rfl) (by simp) ?_
          refine AllReadyH.cons rfl (fun K hK => ?_) AllReadyH.nil
          go_simp
          refine hK.out _ _ (bxs_of ((setCell_keep _ _ _ _ _ HNE.out).trans K4.2)) (fun hHeld => ?_)
          clear hK K
          refine wpAnyH_done (by kernel_rfl) ?_ _
          go_wp2
          go_meet
          exact HFIN.out w4 _ K4.1 hown4 _ K4.2
      · skip
        go_simp
        refine hK.out _ _ (bxs_alloc hHeld _) (fun hHeld => ?_)
        clear hK K
        refine wpAnyH_ready (rs := [5]) (by kernel_rfl) (by simp) ?_
        refine AllReadyH.cons rfl (fun K hK => ?_) AllReadyH.nil
        go_simp
        refine hK.out _ _ hHeld (fun hHeld => ?_)
        clear hK K
        refine wpAnyH_ready (rs := [6]) (by kernel_rfl) (by simp) ?_
        refine AllReadyH.cons rfl (fun K hK => ?_) AllReadyH.nil
        refine step_append_row _ rfl _ _ 61 rfl (w.heap.size + 1) 99 i1 _ 5 56 Tryz.underlying61 hi1 hz1 hs1 hbb1 rfl (by decide) (.slice (some ⟨W0.heap.size, 0, none⟩) 0 0) 0 [] rfl (row_base ((row_none W0.drew 99 5).alloc _) hsz) (Q.v 4) R.waits.length (R.waits.flatMap Chg.qc) rfl (World.ownsRow.alloc (World.ownsRow.alloc (show W0.drew.ownsRow 0 99 5 (Q.v 4) _ _ from HR4.out) _) _) HONE.out (by unfold maxLen; omega) (by omega) (Nat.le_trans hsz (by first | (simp; done) | (simp; omega))) ?_
        intro v3 w3 hown3 hgrow3 hb3
        rw [Nat.zero_add, List.nil_append] at hown3
        have K3 := wait_kept HB.out HX.out (below_a2 _ _ _) hgrow3 (fun k e => by have e' : W0.heap.size = k := Option.some.inj e; omega)
        refine hK.out _ _ (bxs_of K3.2) (fun hHeld => ?_)
        clear hK K
        refine wpAnyH_ready (rs := [9]) (by kernel_rfl) (by simp) ?_
        refine AllReadyH.cons rfl (fun K hK => ?_) AllReadyH.nil
        refine step_append_row _ rfl _ _ 61 rfl (w.heap.size + 1) 99 i1 _ 5 56 Tryz.underlying61 hi1 hz1 hs1 hbb1 rfl (by decide) v3 _ _ rfl hown3 (.slice (some ⟨W0.heap.size + 1, 0, none⟩) 1 1) 1 [.int .i64 kd, .string nm, .int .i64 fi, .int .i64 at_, .string d] rfl (row_kept3 (row_at (row_one (W0.drew.alloc (.cells #[] 99)) 99 5 [.int .i64 kd, .string nm, .int .i64 fi, .int .i64 at_, .string d] rfl) (by simp)) hgrow3 (by simp [Value.ownBlock])) hone (by unfold maxLen; omega) (by omega) (Nat.le_trans (blk_lt K3.2) (Nat.le_refl _)) ?_
        intro v4 w4 hown4 hgrow4 hb4
        obtain ⟨a4, cap4, hv4, -⟩ := row_slice (row_base hown4 (Nat.zero_le _))
        subst hv4
        have K4 := wait_kept4 K3.1 K3.2 hown3 hgrow4
        have B4 : Blk w4 Q.b 64 _ := (K4.1.block _ HQB.out).trans HBQ.out
        have q4 := blk_cell B4 4 (v := Q.v 4) rfl
        have p4 := blk_frozen B4 4
        refine hK.out _ _ (bxs_of K4.2) (fun hHeld => ?_)
        clear hK K
        refine wpAnyH_take (i := 10) (v := (.pointer (some ⟨Q.b, 0, none⟩))) rfl (by kernel_rfl) (by kernel_rfl) (by kernel_rfl) (fun _ _ _ h => h) (Or.inl ⟨by rfl, ?_⟩) hHeld ?_
        · intro w' hSw
          obtain ⟨a0, a1, a2, a3, a4⟩ := hSw
          go_simp
        go_frame
        refine wpAnyH_take (i := 11) (v := (.pointer (some ⟨Q.b, 4, none⟩))) rfl (by kernel_rfl) (by kernel_rfl) (by kernel_rfl) (fun _ _ _ h => h) (Or.inl ⟨by rfl, ?_⟩) hHeld ?_
        · intro w' hSw
          obtain ⟨a0, a1, a2, a3, a4⟩ := hSw
          go_simp
        go_frame
        refine wpAnyH_ready (rs := [12]) (by kernel_rfl) (by simp) ?_
        refine AllReadyH.cons rfl (fun K hK => ?_) AllReadyH.nil
        go_simp
        refine hK.out _ _ (bxs_of ((setCell_keep _ _ _ _ _ HNE.out).trans K4.2)) (fun hHeld => ?_)
        clear hK K
        refine wpAnyH_done (by kernel_rfl) ?_ _
        go_wp2
        go_meet
        exact HFIN.out w4 _ K4.1 hown4 _ K4.2
    · skip
      go_simp
      refine hK.out _ _ hHeld (fun hHeld => ?_)
      clear hK K
      refine wpAnyH_ready (rs := [1, 8]) (by kernel_rfl) (by simp) ?_
      refine AllReadyH.cons rfl (fun K hK => ?_) (AllReadyH.cons rfl (fun K hK => ?_) AllReadyH.nil)
      · skip
        go_simp
        refine hK.out _ _ (bxs_alloc hHeld _) (fun hHeld => ?_)
        clear hK K
        refine wpAnyH_ready (rs := [6, 8]) (by kernel_rfl) (by simp) ?_
        refine AllReadyH.cons rfl (fun K hK => ?_) (AllReadyH.cons rfl (fun K hK => ?_) AllReadyH.nil)
        · skip
          refine step_append_row _ rfl _ _ 61 rfl (w.heap.size + 1) 99 i1 _ 5 56 Tryz.underlying61 hi1 hz1 hs1 hbb1 rfl (by decide) (.slice (some ⟨W0.heap.size, 0, none⟩) 0 0) 0 [] rfl (row_base (row_none W0.drew 99 5) hsz) (Q.v 4) R.waits.length (R.waits.flatMap Chg.qc) rfl (World.ownsRow.alloc (show W0.drew.ownsRow 0 99 5 (Q.v 4) _ _ from HR4.out) _) HONE.out (by unfold maxLen; omega) (by omega) (Nat.le_trans hsz (by first | (simp; done) | (simp; omega))) ?_
          intro v3 w3 hown3 hgrow3 hb3
          rw [Nat.zero_add, List.nil_append] at hown3
          have K3 := wait_kept HB.out HX.out (below_a1 _ _) hgrow3 (fun k e => by have e' : W0.heap.size = k := Option.some.inj e; omega)
          refine hK.out _ _ (bxs_of K3.2) (fun hHeld => ?_)
          clear hK K
          refine wpAnyH_ready (rs := [8]) (by kernel_rfl) (by simp) ?_
          refine AllReadyH.cons rfl (fun K hK => ?_) AllReadyH.nil
          go_simp
          refine hK.out _ _ (bxs_alloc hHeld _) (fun hHeld => ?_)
          clear hK K
          refine wpAnyH_ready (rs := [9]) (by kernel_rfl) (by simp) ?_
          refine AllReadyH.cons rfl (fun K hK => ?_) AllReadyH.nil
          refine step_append_row _ rfl _ _ 61 rfl (w.heap.size + 1) 99 i1 _ 5 56 Tryz.underlying61 hi1 hz1 hs1 hbb1 rfl (by decide) v3 _ _ rfl (hown3.alloc _) (.slice (some ⟨w3.heap.size, 0, none⟩) 1 1) 1 [.int .i64 kd, .string nm, .int .i64 fi, .int .i64 at_, .string d] rfl (row_one w3 99 5 [.int .i64 kd, .string nm, .int .i64 fi, .int .i64 at_, .string d] rfl) hone (by unfold maxLen; omega) (by omega) (Nat.le_trans (blk_lt (blk_alloc0 K3.2 _)) (Nat.le_refl _)) ?_
          intro v4 w4 hown4 hgrow4 hb4
          obtain ⟨a4, cap4, hv4, -⟩ := row_slice (row_base hown4 (Nat.zero_le _))
          subst hv4
          have K4 := wait_kept4 (K3.1.alloc K3.1.size _) (blk_alloc0 K3.2 _) (hown3.alloc _) hgrow4
          have B4 : Blk w4 Q.b 64 _ := (K4.1.block _ HQB.out).trans HBQ.out
          have q4 := blk_cell B4 4 (v := Q.v 4) rfl
          have p4 := blk_frozen B4 4
          refine hK.out _ _ (bxs_of K4.2) (fun hHeld => ?_)
          clear hK K
          refine wpAnyH_take (i := 10) (v := (.pointer (some ⟨Q.b, 0, none⟩))) rfl (by kernel_rfl) (by kernel_rfl) (by kernel_rfl) (fun _ _ _ h => h) (Or.inl ⟨by rfl, ?_⟩) hHeld ?_
          · intro w' hSw
            obtain ⟨a0, a1, a2, a3, a4⟩ := hSw
            go_simp
          go_frame
          refine wpAnyH_take (i := 11) (v := (.pointer (some ⟨Q.b, 4, none⟩))) rfl (by kernel_rfl) (by kernel_rfl) (by kernel_rfl) (fun _ _ _ h => h) (Or.inl ⟨by rfl, ?_⟩) hHeld ?_
          · intro w' hSw
            obtain ⟨a0, a1, a2, a3, a4⟩ := hSw
            go_simp
          go_frame
          refine wpAnyH_ready (rs := [12]) (by kernel_rfl) (by simp) ?_
          refine AllReadyH.cons rfl (fun K hK => ?_) AllReadyH.nil
          go_simp
          refine hK.out _ _ (bxs_of ((setCell_keep _ _ _ _ _ HNE.out).trans K4.2)) (fun hHeld => ?_)
          clear hK K
          refine wpAnyH_done (by kernel_rfl) ?_ _
          go_wp2
          go_meet
          exact HFIN.out w4 _ K4.1 hown4 _ K4.2
        · skip
          go_simp
          refine hK.out _ _ (bxs_alloc hHeld _) (fun hHeld => ?_)
          clear hK K
          refine wpAnyH_ready (rs := [6]) (by kernel_rfl) (by simp) ?_
          refine AllReadyH.cons rfl (fun K hK => ?_) AllReadyH.nil
          refine step_append_row _ rfl _ _ 61 rfl (w.heap.size + 1) 99 i1 _ 5 56 Tryz.underlying61 hi1 hz1 hs1 hbb1 rfl (by decide) (.slice (some ⟨W0.heap.size, 0, none⟩) 0 0) 0 [] rfl (row_base ((row_none W0.drew 99 5).alloc _) hsz) (Q.v 4) R.waits.length (R.waits.flatMap Chg.qc) rfl (World.ownsRow.alloc (World.ownsRow.alloc (show W0.drew.ownsRow 0 99 5 (Q.v 4) _ _ from HR4.out) _) _) HONE.out (by unfold maxLen; omega) (by omega) (Nat.le_trans hsz (by first | (simp; done) | (simp; omega))) ?_
          intro v3 w3 hown3 hgrow3 hb3
          rw [Nat.zero_add, List.nil_append] at hown3
          have K3 := wait_kept HB.out HX.out (below_a2 _ _ _) hgrow3 (fun k e => by have e' : W0.heap.size = k := Option.some.inj e; omega)
          refine hK.out _ _ (bxs_of K3.2) (fun hHeld => ?_)
          clear hK K
          refine wpAnyH_ready (rs := [9]) (by kernel_rfl) (by simp) ?_
          refine AllReadyH.cons rfl (fun K hK => ?_) AllReadyH.nil
          refine step_append_row _ rfl _ _ 61 rfl (w.heap.size + 1) 99 i1 _ 5 56 Tryz.underlying61 hi1 hz1 hs1 hbb1 rfl (by decide) v3 _ _ rfl hown3 (.slice (some ⟨W0.heap.size + 1, 0, none⟩) 1 1) 1 [.int .i64 kd, .string nm, .int .i64 fi, .int .i64 at_, .string d] rfl (row_kept3 (row_at (row_one (W0.drew.alloc (.cells #[] 99)) 99 5 [.int .i64 kd, .string nm, .int .i64 fi, .int .i64 at_, .string d] rfl) (by simp)) hgrow3 (by simp [Value.ownBlock])) hone (by unfold maxLen; omega) (by omega) (Nat.le_trans (blk_lt K3.2) (Nat.le_refl _)) ?_
          intro v4 w4 hown4 hgrow4 hb4
          obtain ⟨a4, cap4, hv4, -⟩ := row_slice (row_base hown4 (Nat.zero_le _))
          subst hv4
          have K4 := wait_kept4 K3.1 K3.2 hown3 hgrow4
          have B4 : Blk w4 Q.b 64 _ := (K4.1.block _ HQB.out).trans HBQ.out
          have q4 := blk_cell B4 4 (v := Q.v 4) rfl
          have p4 := blk_frozen B4 4
          refine hK.out _ _ (bxs_of K4.2) (fun hHeld => ?_)
          clear hK K
          refine wpAnyH_take (i := 10) (v := (.pointer (some ⟨Q.b, 0, none⟩))) rfl (by kernel_rfl) (by kernel_rfl) (by kernel_rfl) (fun _ _ _ h => h) (Or.inl ⟨by rfl, ?_⟩) hHeld ?_
          · intro w' hSw
            obtain ⟨a0, a1, a2, a3, a4⟩ := hSw
            go_simp
          go_frame
          refine wpAnyH_take (i := 11) (v := (.pointer (some ⟨Q.b, 4, none⟩))) rfl (by kernel_rfl) (by kernel_rfl) (by kernel_rfl) (fun _ _ _ h => h) (Or.inl ⟨by rfl, ?_⟩) hHeld ?_
          · intro w' hSw
            obtain ⟨a0, a1, a2, a3, a4⟩ := hSw
            go_simp
          go_frame
          refine wpAnyH_ready (rs := [12]) (by kernel_rfl) (by simp) ?_
          refine AllReadyH.cons rfl (fun K hK => ?_) AllReadyH.nil
          go_simp
          refine hK.out _ _ (bxs_of ((setCell_keep _ _ _ _ _ HNE.out).trans K4.2)) (fun hHeld => ?_)
          clear hK K
          refine wpAnyH_done (by kernel_rfl) ?_ _
          go_wp2
          go_meet
          exact HFIN.out w4 _ K4.1 hown4 _ K4.2
      · skip
        go_simp
        refine hK.out _ _ (bxs_alloc hHeld _) (fun hHeld => ?_)
        clear hK K
        refine wpAnyH_ready (rs := [1]) (by kernel_rfl) (by simp) ?_
        refine AllReadyH.cons rfl (fun K hK => ?_) AllReadyH.nil
        go_simp
        refine hK.out _ _ (bxs_alloc hHeld _) (fun hHeld => ?_)
        clear hK K
        refine wpAnyH_ready (rs := [6]) (by kernel_rfl) (by simp) ?_
        refine AllReadyH.cons rfl (fun K hK => ?_) AllReadyH.nil
        refine step_append_row _ rfl _ _ 61 rfl (w.heap.size + 1) 99 i1 _ 5 56 Tryz.underlying61 hi1 hz1 hs1 hbb1 rfl (by decide) (.slice (some ⟨W0.heap.size + 1, 0, none⟩) 0 0) 0 [] rfl (row_base (row_at (row_none (W0.drew.alloc (.cells #[.int .i64 kd, .string nm, .int .i64 fi, .int .i64 at_, .string d] 99)) 99 5) (by simp)) (Nat.le_succ_of_le hsz)) (Q.v 4) R.waits.length (R.waits.flatMap Chg.qc) rfl (World.ownsRow.alloc (World.ownsRow.alloc (show W0.drew.ownsRow 0 99 5 (Q.v 4) _ _ from HR4.out) _) _) HONE.out (by unfold maxLen; omega) (by omega) (Nat.le_trans hsz (by first | (simp; done) | (simp; omega))) ?_
        intro v3 w3 hown3 hgrow3 hb3
        rw [Nat.zero_add, List.nil_append] at hown3
        have K3 := wait_kept HB.out HX.out (below_a2 _ _ _) hgrow3 (fun k e => by have e' : W0.heap.size + 1 = k := Option.some.inj e; omega)
        refine hK.out _ _ (bxs_of K3.2) (fun hHeld => ?_)
        clear hK K
        refine wpAnyH_ready (rs := [9]) (by kernel_rfl) (by simp) ?_
        refine AllReadyH.cons rfl (fun K hK => ?_) AllReadyH.nil
        refine step_append_row _ rfl _ _ 61 rfl (w.heap.size + 1) 99 i1 _ 5 56 Tryz.underlying61 hi1 hz1 hs1 hbb1 rfl (by decide) v3 _ _ rfl hown3 (.slice (some ⟨W0.heap.size, 0, none⟩) 1 1) 1 [.int .i64 kd, .string nm, .int .i64 fi, .int .i64 at_, .string d] rfl (row_kept3 ((row_one W0.drew 99 5 [.int .i64 kd, .string nm, .int .i64 fi, .int .i64 at_, .string d] rfl).alloc _) hgrow3 (by simp [Value.ownBlock])) hone (by unfold maxLen; omega) (by omega) (Nat.le_trans (blk_lt K3.2) (Nat.le_refl _)) ?_
        intro v4 w4 hown4 hgrow4 hb4
        obtain ⟨a4, cap4, hv4, -⟩ := row_slice (row_base hown4 (Nat.zero_le _))
        subst hv4
        have K4 := wait_kept4 K3.1 K3.2 hown3 hgrow4
        have B4 : Blk w4 Q.b 64 _ := (K4.1.block _ HQB.out).trans HBQ.out
        have q4 := blk_cell B4 4 (v := Q.v 4) rfl
        have p4 := blk_frozen B4 4
        refine hK.out _ _ (bxs_of K4.2) (fun hHeld => ?_)
        clear hK K
        refine wpAnyH_take (i := 10) (v := (.pointer (some ⟨Q.b, 0, none⟩))) rfl (by kernel_rfl) (by kernel_rfl) (by kernel_rfl) (fun _ _ _ h => h) (Or.inl ⟨by rfl, ?_⟩) hHeld ?_
        · intro w' hSw
          obtain ⟨a0, a1, a2, a3, a4⟩ := hSw
          go_simp
        go_frame
        refine wpAnyH_take (i := 11) (v := (.pointer (some ⟨Q.b, 4, none⟩))) rfl (by kernel_rfl) (by kernel_rfl) (by kernel_rfl) (fun _ _ _ h => h) (Or.inl ⟨by rfl, ?_⟩) hHeld ?_
        · intro w' hSw
          obtain ⟨a0, a1, a2, a3, a4⟩ := hSw
          go_simp
        go_frame
        refine wpAnyH_ready (rs := [12]) (by kernel_rfl) (by simp) ?_
        refine AllReadyH.cons rfl (fun K hK => ?_) AllReadyH.nil
        go_simp
        refine hK.out _ _ (bxs_of ((setCell_keep _ _ _ _ _ HNE.out).trans K4.2)) (fun hHeld => ?_)
        clear hK K
        refine wpAnyH_done (by kernel_rfl) ?_ _
        go_wp2
        go_meet
        exact HFIN.out w4 _ K4.1 hown4 _ K4.2
    · skip
      go_simp
      refine hK.out _ _ (bxs_alloc hHeld _) (fun hHeld => ?_)
      clear hK K
      refine wpAnyH_ready (rs := [1, 5]) (by kernel_rfl) (by simp) ?_
      refine AllReadyH.cons rfl (fun K hK => ?_) (AllReadyH.cons rfl (fun K hK => ?_) AllReadyH.nil)
      · skip
        go_simp
        refine hK.out _ _ (bxs_alloc hHeld _) (fun hHeld => ?_)
        clear hK K
        refine wpAnyH_ready (rs := [5]) (by kernel_rfl) (by simp) ?_
        refine AllReadyH.cons rfl (fun K hK => ?_) AllReadyH.nil
        go_simp
        refine hK.out _ _ hHeld (fun hHeld => ?_)
        clear hK K
        refine wpAnyH_ready (rs := [6]) (by kernel_rfl) (by simp) ?_
        refine AllReadyH.cons rfl (fun K hK => ?_) AllReadyH.nil
        refine step_append_row _ rfl _ _ 61 rfl (w.heap.size + 1) 99 i1 _ 5 56 Tryz.underlying61 hi1 hz1 hs1 hbb1 rfl (by decide) (.slice (some ⟨W0.heap.size + 1, 0, none⟩) 0 0) 0 [] rfl (row_base (row_at (row_none (W0.drew.alloc (.cells #[.int .i64 kd, .string nm, .int .i64 fi, .int .i64 at_, .string d] 99)) 99 5) (by simp)) (Nat.le_succ_of_le hsz)) (Q.v 4) R.waits.length (R.waits.flatMap Chg.qc) rfl (World.ownsRow.alloc (World.ownsRow.alloc (show W0.drew.ownsRow 0 99 5 (Q.v 4) _ _ from HR4.out) _) _) HONE.out (by unfold maxLen; omega) (by omega) (Nat.le_trans hsz (by first | (simp; done) | (simp; omega))) ?_
        intro v3 w3 hown3 hgrow3 hb3
        rw [Nat.zero_add, List.nil_append] at hown3
        have K3 := wait_kept HB.out HX.out (below_a2 _ _ _) hgrow3 (fun k e => by have e' : W0.heap.size + 1 = k := Option.some.inj e; omega)
        refine hK.out _ _ (bxs_of K3.2) (fun hHeld => ?_)
        clear hK K
        refine wpAnyH_ready (rs := [9]) (by kernel_rfl) (by simp) ?_
        refine AllReadyH.cons rfl (fun K hK => ?_) AllReadyH.nil
        refine step_append_row _ rfl _ _ 61 rfl (w.heap.size + 1) 99 i1 _ 5 56 Tryz.underlying61 hi1 hz1 hs1 hbb1 rfl (by decide) v3 _ _ rfl hown3 (.slice (some ⟨W0.heap.size, 0, none⟩) 1 1) 1 [.int .i64 kd, .string nm, .int .i64 fi, .int .i64 at_, .string d] rfl (row_kept3 ((row_one W0.drew 99 5 [.int .i64 kd, .string nm, .int .i64 fi, .int .i64 at_, .string d] rfl).alloc _) hgrow3 (by simp [Value.ownBlock])) hone (by unfold maxLen; omega) (by omega) (Nat.le_trans (blk_lt K3.2) (Nat.le_refl _)) ?_
        intro v4 w4 hown4 hgrow4 hb4
        obtain ⟨a4, cap4, hv4, -⟩ := row_slice (row_base hown4 (Nat.zero_le _))
        subst hv4
        have K4 := wait_kept4 K3.1 K3.2 hown3 hgrow4
        have B4 : Blk w4 Q.b 64 _ := (K4.1.block _ HQB.out).trans HBQ.out
        have q4 := blk_cell B4 4 (v := Q.v 4) rfl
        have p4 := blk_frozen B4 4
        refine hK.out _ _ (bxs_of K4.2) (fun hHeld => ?_)
        clear hK K
        refine wpAnyH_take (i := 10) (v := (.pointer (some ⟨Q.b, 0, none⟩))) rfl (by kernel_rfl) (by kernel_rfl) (by kernel_rfl) (fun _ _ _ h => h) (Or.inl ⟨by rfl, ?_⟩) hHeld ?_
        · intro w' hSw
          obtain ⟨a0, a1, a2, a3, a4⟩ := hSw
          go_simp
        go_frame
        refine wpAnyH_take (i := 11) (v := (.pointer (some ⟨Q.b, 4, none⟩))) rfl (by kernel_rfl) (by kernel_rfl) (by kernel_rfl) (fun _ _ _ h => h) (Or.inl ⟨by rfl, ?_⟩) hHeld ?_
        · intro w' hSw
          obtain ⟨a0, a1, a2, a3, a4⟩ := hSw
          go_simp
        go_frame
        refine wpAnyH_ready (rs := [12]) (by kernel_rfl) (by simp) ?_
        refine AllReadyH.cons rfl (fun K hK => ?_) AllReadyH.nil
        go_simp
        refine hK.out _ _ (bxs_of ((setCell_keep _ _ _ _ _ HNE.out).trans K4.2)) (fun hHeld => ?_)
        clear hK K
        refine wpAnyH_done (by kernel_rfl) ?_ _
        go_wp2
        go_meet
        exact HFIN.out w4 _ K4.1 hown4 _ K4.2
      · skip
        go_simp
        refine hK.out _ _ hHeld (fun hHeld => ?_)
        clear hK K
        refine wpAnyH_ready (rs := [1]) (by kernel_rfl) (by simp) ?_
        refine AllReadyH.cons rfl (fun K hK => ?_) AllReadyH.nil
        go_simp
        refine hK.out _ _ (bxs_alloc hHeld _) (fun hHeld => ?_)
        clear hK K
        refine wpAnyH_ready (rs := [6]) (by kernel_rfl) (by simp) ?_
        refine AllReadyH.cons rfl (fun K hK => ?_) AllReadyH.nil
        refine step_append_row _ rfl _ _ 61 rfl (w.heap.size + 1) 99 i1 _ 5 56 Tryz.underlying61 hi1 hz1 hs1 hbb1 rfl (by decide) (.slice (some ⟨W0.heap.size + 1, 0, none⟩) 0 0) 0 [] rfl (row_base (row_at (row_none (W0.drew.alloc (.cells #[.int .i64 kd, .string nm, .int .i64 fi, .int .i64 at_, .string d] 99)) 99 5) (by simp)) (Nat.le_succ_of_le hsz)) (Q.v 4) R.waits.length (R.waits.flatMap Chg.qc) rfl (World.ownsRow.alloc (World.ownsRow.alloc (show W0.drew.ownsRow 0 99 5 (Q.v 4) _ _ from HR4.out) _) _) HONE.out (by unfold maxLen; omega) (by omega) (Nat.le_trans hsz (by first | (simp; done) | (simp; omega))) ?_
        intro v3 w3 hown3 hgrow3 hb3
        rw [Nat.zero_add, List.nil_append] at hown3
        have K3 := wait_kept HB.out HX.out (below_a2 _ _ _) hgrow3 (fun k e => by have e' : W0.heap.size + 1 = k := Option.some.inj e; omega)
        refine hK.out _ _ (bxs_of K3.2) (fun hHeld => ?_)
        clear hK K
        refine wpAnyH_ready (rs := [9]) (by kernel_rfl) (by simp) ?_
        refine AllReadyH.cons rfl (fun K hK => ?_) AllReadyH.nil
        refine step_append_row _ rfl _ _ 61 rfl (w.heap.size + 1) 99 i1 _ 5 56 Tryz.underlying61 hi1 hz1 hs1 hbb1 rfl (by decide) v3 _ _ rfl hown3 (.slice (some ⟨W0.heap.size, 0, none⟩) 1 1) 1 [.int .i64 kd, .string nm, .int .i64 fi, .int .i64 at_, .string d] rfl (row_kept3 ((row_one W0.drew 99 5 [.int .i64 kd, .string nm, .int .i64 fi, .int .i64 at_, .string d] rfl).alloc _) hgrow3 (by simp [Value.ownBlock])) hone (by unfold maxLen; omega) (by omega) (Nat.le_trans (blk_lt K3.2) (Nat.le_refl _)) ?_
        intro v4 w4 hown4 hgrow4 hb4
        obtain ⟨a4, cap4, hv4, -⟩ := row_slice (row_base hown4 (Nat.zero_le _))
        subst hv4
        have K4 := wait_kept4 K3.1 K3.2 hown3 hgrow4
        have B4 : Blk w4 Q.b 64 _ := (K4.1.block _ HQB.out).trans HBQ.out
        have q4 := blk_cell B4 4 (v := Q.v 4) rfl
        have p4 := blk_frozen B4 4
        refine hK.out _ _ (bxs_of K4.2) (fun hHeld => ?_)
        clear hK K
        refine wpAnyH_take (i := 10) (v := (.pointer (some ⟨Q.b, 0, none⟩))) rfl (by kernel_rfl) (by kernel_rfl) (by kernel_rfl) (fun _ _ _ h => h) (Or.inl ⟨by rfl, ?_⟩) hHeld ?_
        · intro w' hSw
          obtain ⟨a0, a1, a2, a3, a4⟩ := hSw
          go_simp
        go_frame
        refine wpAnyH_take (i := 11) (v := (.pointer (some ⟨Q.b, 4, none⟩))) rfl (by kernel_rfl) (by kernel_rfl) (by kernel_rfl) (fun _ _ _ h => h) (Or.inl ⟨by rfl, ?_⟩) hHeld ?_
        · intro w' hSw
          obtain ⟨a0, a1, a2, a3, a4⟩ := hSw
          go_simp
        go_frame
        refine wpAnyH_ready (rs := [12]) (by kernel_rfl) (by simp) ?_
        refine AllReadyH.cons rfl (fun K hK => ?_) AllReadyH.nil
        go_simp
        refine hK.out _ _ (bxs_of ((setCell_keep _ _ _ _ _ HNE.out).trans K4.2)) (fun hHeld => ?_)
        clear hK K
        refine wpAnyH_done (by kernel_rfl) ?_ _
        go_wp2
        go_meet
        exact HFIN.out w4 _ K4.1 hown4 _ K4.2
  case rest =>
    obtain ⟨Q1, hQ1, hS1, hX1⟩ := hcut
    have hb1 : Q1.b = Q.b := hS1.b
    clear HR4 c4a c4b c4c c4d c4 HB HX hsz HFIN hone HONE hi1 hz1 hs1 hbb1
    cases hcd : ofDir c with
    | true =>
      have k1 : decide (kd < 3) = true := decide_eq_true (hk1 hcd)
      have k2 : kd < 3 := hk1 hcd
      have HR0 := Lib.hid (hQ1.row 0 (.inl (by decide)))
      change Hid (wc.ownsRow 0 104 2 (Q1.v 0) R.seen.length (R.seen.flatMap entC)) at HR0
      have c0 := blk_cell hQ1.blk 0 (v := Q1.v 0) rfl
      have HQ1 := Lib.hid hQ1; have HS1 := Lib.hid hS1
      have HB1 := Lib.hid hQ1.blk
      have HX1 := Lib.hid hX1
      obtain ⟨x0, x1, x2, x3, x4⟩ := bxs_of hX1
      have HCC := Lib.hid hcc2; have HCD := Lib.hid hcd
      rw [hb1] at c0 HB1
      have HE := Lib.hid (show qchange c R = { ({ R with waits := R.waits ++ [c] } : RS) with seen := qDir R.seen c } by unfold qchange; rw [if_pos hcd])
      have HQL := Lib.hid hb1
      clear hQ1 hS1 hX1 hb1 hcd hk1 hk2 hk3
      go_upto_region 3 with (fail)
      have hD := qdir_any (w := wc.drew) (show wc.drew.ownsRow 0 104 2 (Q1.v 0) _ _ from HR0.out) (by omega) c HCD.out
      rw [HCC.out] at hD
      have HD := Lib.hid hD
      clear hD
      refine wp_region_held_drew (S := fun a => a.cell? ⟨w.heap.size, 0, none⟩ = some (.int .i64 kd) ∧ a.cell? ⟨w.heap.size, 1, none⟩ = some (.string nm) ∧ a.cell? ⟨w.heap.size, 2, none⟩ = some (.int .i64 fi) ∧ a.cell? ⟨w.heap.size, 3, none⟩ = some (.int .i64 at_) ∧ a.cell? ⟨w.heap.size, 4, none⟩ = some (.string d)) (by kernel_rfl) (bxs_of (show Blk wc.drew _ _ _ from HX1.out)) (fun hHeld => ?_)
      refine wpAnyH_take (i := 0) (v := (.pointer (some ⟨Q.b, 0, none⟩))) rfl (by kernel_rfl) (by kernel_rfl) (by kernel_rfl) (fun _ _ _ h => h) (Or.inl ⟨by rfl, ?_⟩) hHeld ?_
      · intro w' hSw
        obtain ⟨a0, a1, a2, a3, a4⟩ := hSw
        go_simp
      go_frame
      refine wpAnyH_take (i := 1) (v := (.pointer (some ⟨Q.b, 0, none⟩))) rfl (by kernel_rfl) (by kernel_rfl) (by kernel_rfl) (fun _ _ _ h => h) (Or.inl ⟨by rfl, ?_⟩) hHeld ?_
      · intro w' hSw
        obtain ⟨a0, a1, a2, a3, a4⟩ := hSw
        go_simp
      go_frame
      refine wpAnyH_take (i := 2) (v := (.pointer (some ⟨Q.b, 0, none⟩))) rfl (by kernel_rfl) (by kernel_rfl) (by kernel_rfl) (fun _ _ _ h => h) (Or.inl ⟨by rfl, ?_⟩) hHeld ?_
      · intro w' hSw
        obtain ⟨a0, a1, a2, a3, a4⟩ := hSw
        go_simp
      go_frame
      refine wpAnyH_take (i := 3) (v := (.pointer (some ⟨Q.b, 0, none⟩))) rfl (by kernel_rfl) (by kernel_rfl) (by kernel_rfl) (fun _ _ _ h => h) (Or.inl ⟨by rfl, ?_⟩) hHeld ?_
      · intro w' hSw
        obtain ⟨a0, a1, a2, a3, a4⟩ := hSw
        go_simp
      go_frame
      refine wpAnyH_take (i := 5) (v := (.agg #[.int .i64 kd, .string nm, .int .i64 fi, .int .i64 at_, .string d])) rfl (by kernel_rfl) (by kernel_rfl) (by kernel_rfl) (fun _ _ _ h => h) (Or.inl ⟨by rfl, ?_⟩) hHeld ?_
      · intro w' hSw
        obtain ⟨a0, a1, a2, a3, a4⟩ := hSw
        go_simp
      go_frame
      refine wpAnyH_ready (rs := [4]) (by kernel_rfl) (by simp) ?_
      refine AllReadyH.cons rfl (fun K hK => ?_) AllReadyH.nil
      go_simp
      refine hK.out _ _ hHeld (fun hHeld => ?_)
      clear hK K
      refine wpAnyH_ready (rs := [6]) (by kernel_rfl) (by simp) ?_
      refine AllReadyH.cons rfl (fun K hK => ?_) AllReadyH.nil
      go_simp
      (with_reducible refine HD.out.mono ?_)
      rintro e w2 ⟨v2, rfl, hr2, hb2⟩
      obtain ⟨a2, cap2, hv2, -⟩ := row_slice (row_base hr2 (Nat.zero_le _))
      subst hv2
      have hB2 : Blk w2 Q.b 64 _ := (hb2.block _ (blk_lt (show Blk wc.drew _ _ _ from HB1.out))).trans HB1.out
      have q0 := blk_cell hB2 0 (v := Q1.v 0) rfl
      have p0 := blk_frozen hB2 0
      have HX2 : Hid (Blk w2 w.heap.size 99 #[.int .i64 kd, .string nm, .int .i64 fi, .int .i64 at_, .string d]) := Lib.hid ((hb2.block _ (blk_lt (show Blk wc.drew _ _ _ from HX1.out))).trans HX1.out)
      have HR2 := Lib.hid hr2; have HB2 := Lib.hid hb2
      clear hr2 hb2 hB2
      go_simp
      refine hK.out _ _ (bxs_of HX2.out) (fun hHeld => ?_)
      clear hK K
      refine wpAnyH_take (i := 7) (v := (.pointer (some ⟨Q.b, 0, none⟩))) rfl (by kernel_rfl) (by kernel_rfl) (by kernel_rfl) (fun _ _ _ h => h) (Or.inl ⟨by rfl, ?_⟩) hHeld ?_
      · intro w' hSw
        obtain ⟨a0, a1, a2, a3, a4⟩ := hSw
        go_simp
      go_frame
      refine wpAnyH_take (i := 8) (v := (.pointer (some ⟨Q.b, 0, none⟩))) rfl (by kernel_rfl) (by kernel_rfl) (by kernel_rfl) (fun _ _ _ h => h) (Or.inl ⟨by rfl, ?_⟩) hHeld ?_
      · intro w' hSw
        obtain ⟨a0, a1, a2, a3, a4⟩ := hSw
        go_simp
      go_frame
      refine wpAnyH_ready (rs := [9]) (by kernel_rfl) (by simp) ?_
      refine AllReadyH.cons rfl (fun K hK => ?_) AllReadyH.nil
      go_simp
      refine hK.out _ _ (bxs_of ((setCell_keep _ _ _ _ _ HNE.out).trans HX2.out)) (fun hHeld => ?_)
      clear hK K
      refine wpAnyH_done (by kernel_rfl) ?_ _
      go_wp2
      go_returns
      refine ⟨rfl, ?_⟩
      have hp := put_seen HQ1.out.drew (qDir R.seen c) HB2.out HR2.out
      rw [HE.out, ← HQL.out]
      exact ⟨_, hp.1, HS1.out.trans (QStep.trans (QStep.below (Same.refl wc).drew.below) hp.2)⟩
    | false =>
      have k1 : decide (kd < 3) = false := decide_eq_false (by have := hk2 hcd; omega)
      have k2 : ¬ kd < 3 := by have := hk2 hcd; omega
      obtain ⟨b1, V1⟩ := Q1
      simp only at hb1
      subst hb1
      obtain ⟨i, hi⟩ : ∃ i, i = fileC c := ⟨_, rfl⟩
      have hfi : fi = (i : Int) := by rw [hk3 hcd, hi]
      subst hfi
      have hil : i < R.seenB.length := by rw [hi]; exact file_lt hc hcd
      obtain ⟨sv, hsv⟩ : ∃ sv, sv = R.seenB.getD i [] := ⟨_, rfl⟩
      have HE := Lib.hid (show qchange c R = { ({ R with waits := R.waits ++ [c] } : RS) with seenB := R.seenB.set i (qByt sv c) } by unfold qchange; rw [if_neg (by rw [hcd]; decide), hsv, hi])
      obtain ⟨i2, hi2, hz2, hs2, hbb2⟩ := infoQS
      have hR2 := hQ1.row 2 (.inl (by decide))
      change wc.ownsRow 0 9 1 (V1 2) R.seenB.length (R.seenB.flatMap strC) at hR2
      have HR2 := Lib.hid hR2
      have c2 : wc.cell? ⟨Q.b, 2, none⟩ = some (V1 2) := blk_cell hQ1.blk 2 rfl
      have c2a := cell_alloc c2 (.cells #[] 9)
      have HQ1 := Lib.hid hQ1; have HS1 := Lib.hid hS1; have HX1 := Lib.hid hX1; have HB1 : Hid (Blk wc Q.b 64 (qcells ⟨Q.b, V1⟩ { R with waits := R.waits ++ [c] })) := Lib.hid hQ1.blk
      obtain ⟨x0, x1, x2, x3, x4⟩ := bxs_of hX1
      have HLE := Lib.hid (h4 _ (show sv ∈ R.seenB by rw [hsv, List.getD_eq_getElem?_getD, List.getElem?_eq_getElem hil]; exact List.getElem_mem hil))
      have HCC := Lib.hid hcc2; have HCD := Lib.hid hcd; have HOK := Lib.hid hc
      clear hQ1 hS1 hX1 hcd hk1 hk2 hk3 hR2 hi h4 hc
      go_upto_region 5 with (first
        | (at_builtin; refine wpList_append_row _ rfl _ _ 43 rfl wc.heap.size 9 i2 _ 1 16 Tryz.underlying43 hi2 hz2 hs2 hbb2 rfl (by decide) (.slice (some ⟨wc.heap.size, 0, none⟩) 0 0) 0 [] rfl (row_none wc 9 1) (V1 2) R.seenB.length (R.seenB.flatMap strC) rfl (HR2.out.alloc _) (one_str _) (by unfold maxLen; omega) (by omega) (by simp) ?_; intro v5 w5 hown5 hgrow5 hbk5; rw [Nat.zero_add, List.nil_append] at hown5; obtain ⟨g5, cap5, hv5, hg5, hg5'⟩ := hown5.form (by omega); subst hv5; have HB5 := Lib.hid (grown_new hgrow5); have hB5 : Blk w5 Q.b 64 _ := (HB5.out.block _ (blk_lt HB1.out)).trans HB1.out; have q2 := blk_cell hB5 2 (v := V1 2) rfl; have p2 := blk_frozen hB5 2; have HO5 := Lib.hid hown5; clear hown5 hgrow5 hbk5 hB5))
      have hne5 : g5 ≠ Q.b := fun e => by have := blk_lt HB1.out; omega
      have hne6 : w.heap.size ≠ g5 := fun e => by have := blk_lt HX1.out; omega
      have HR5 := Lib.hid (show (w5.setCell ⟨Q.b, 2, none⟩ (.slice (some ⟨g5, 0, none⟩) R.seenB.length cap5)).ownsRow wc.heap.size 9 1 (.slice (some ⟨g5, 0, none⟩) R.seenB.length cap5) R.seenB.length (R.seenB.flatMap strC) from row_kept5 HO5.out (fun g e => by cases e; exact setCell_keep _ _ _ _ _ hne5))
      have HX5 := Lib.hid (show Blk (w5.setCell ⟨Q.b, 2, none⟩ (.slice (some ⟨g5, 0, none⟩) R.seenB.length cap5)) w.heap.size 99 _ from (setCell_keep _ _ _ _ _ HNE.out).trans ((HB5.out.block _ (blk_lt HX1.out)).trans HX1.out))
      have HQ5 := Lib.hid (show Q.b < (w5.setCell ⟨Q.b, 2, none⟩ (.slice (some ⟨g5, 0, none⟩) R.seenB.length cap5)).heap.size by rw [size_setCell']; exact Nat.lt_of_lt_of_le (blk_lt HB1.out) HB5.out.size)
      have HC2 := Lib.hid (show (w5.setCell ⟨Q.b, 2, none⟩ (.slice (some ⟨g5, 0, none⟩) R.seenB.length cap5)).cell? ⟨Q.b, 2, none⟩ = some (.slice (some ⟨g5, 0, none⟩) R.seenB.length cap5) from blk_cell (blk_set ((HB5.out.block _ (blk_lt HB1.out)).trans HB1.out) 2 _) 2 rfl)
      have HN5 := Lib.hid (show w.heap.size ≠ g5 ∧ Q.b ≠ g5 from ⟨hne6, hne5.symm⟩)
      have HPB := Lib.hid (fun w6 hb6 => put_bytes HQ1.out HB5.out HO5.out (w6 := w6) hb6 i (qByt sv c))
      have HI5 := Lib.hid (show (R.seenB.flatMap strC)[i]? = some (.string (bz sv)) by rw [hsv]; exact str_at R.seenB i hil)
      clear hsv
      clear x0 x1 x2 x3 x4 q2 p2 c2 c2a hne5 hne6 hg5 hg5' HO5
      revert HR5 HX5 HQ5 HC2 HPB
      generalize w5.setCell ⟨Q.b, 2, none⟩ (.slice (some ⟨g5, 0, none⟩) R.seenB.length cap5) = W5
      intro HR5 HX5 HQ5 HC2 HPB
      have hD := qbytes_any (w := W5.drew) c HCD.out HOK.out sv (by have := HLE.out; omega)
      rw [HCC.out] at hD
      have HD := Lib.hid hD
      obtain ⟨z5, -⟩ := row6 HR5.out (Below.refl _ _) HI5.out
      obtain ⟨x0, x1, x2, x3, x4⟩ := bxs_of HX5.out
      have c2 := HC2.out
      have hiI : (i : Int) < R.seenB.length := by omega
      have hi0 : ¬ (i : Int) < 0 := by omega
      clear hD
      refine wp_region_held_drew (S := fun a => a.cell? ⟨w.heap.size, 0, none⟩ = some (.int .i64 kd) ∧ a.cell? ⟨w.heap.size, 1, none⟩ = some (.string nm) ∧ a.cell? ⟨w.heap.size, 2, none⟩ = some (.int .i64 (i : Int)) ∧ a.cell? ⟨w.heap.size, 3, none⟩ = some (.int .i64 at_) ∧ a.cell? ⟨w.heap.size, 4, none⟩ = some (.string d) ∧ a.cell? ⟨Q.b, 2, none⟩ = some (.slice (some ⟨g5, 0, none⟩) R.seenB.length cap5)) (by kernel_rfl) ⟨x0, x1, x2, x3, x4, c2⟩ (fun hHeld => ?_)
      refine wpAnyH_take (i := 0) (v := (.pointer (some ⟨Q.b, 0, none⟩))) rfl (by kernel_rfl) (by kernel_rfl) (by kernel_rfl) (fun _ _ _ h => h) (Or.inl ⟨by rfl, ?_⟩) hHeld ?_
      · intro w' hSw
        obtain ⟨a0, a1, a2, a3, a4, a5⟩ := hSw
        go_simp
      go_frame
      refine wpAnyH_take (i := 1) (v := (.pointer (some ⟨Q.b, 0, none⟩))) rfl (by kernel_rfl) (by kernel_rfl) (by kernel_rfl) (fun _ _ _ h => h) (Or.inl ⟨by rfl, ?_⟩) hHeld ?_
      · intro w' hSw
        obtain ⟨a0, a1, a2, a3, a4, a5⟩ := hSw
        go_simp
      go_frame
      refine wpAnyH_take (i := 2) (v := (.pointer (some ⟨Q.b, 2, none⟩))) rfl (by kernel_rfl) (by kernel_rfl) (by kernel_rfl) (fun _ _ _ h => h) (Or.inl ⟨by rfl, ?_⟩) hHeld ?_
      · intro w' hSw
        obtain ⟨a0, a1, a2, a3, a4, a5⟩ := hSw
        go_simp
      go_frame
      refine wpAnyH_take (i := 3) (v := (.slice (some ⟨g5, 0, none⟩) R.seenB.length cap5)) rfl (by kernel_rfl) (by kernel_rfl) (by kernel_rfl) (fun _ _ _ h => h) (Or.inl ⟨by rfl, ?_⟩) hHeld ?_
      · intro w' hSw
        obtain ⟨a0, a1, a2, a3, a4, a5⟩ := hSw
        go_simp
      go_frame
      refine wpAnyH_take (i := 4) (v := (.pointer (some ⟨w.heap.size, 2, none⟩))) rfl (by kernel_rfl) (by kernel_rfl) (by kernel_rfl) (fun _ _ _ h => h) (Or.inl ⟨by rfl, ?_⟩) hHeld ?_
      · intro w' hSw
        obtain ⟨a0, a1, a2, a3, a4, a5⟩ := hSw
        go_simp
      go_frame
      refine wpAnyH_take (i := 5) (v := (.int .i64 (i : Int))) rfl (by kernel_rfl) (by kernel_rfl) (by kernel_rfl) (fun _ _ _ h => h) (Or.inl ⟨by rfl, ?_⟩) hHeld ?_
      · intro w' hSw
        obtain ⟨a0, a1, a2, a3, a4, a5⟩ := hSw
        go_simp
      go_frame
      refine wpAnyH_take (i := 6) (v := (.pointer (some ⟨Q.b, 0, none⟩))) rfl (by kernel_rfl) (by kernel_rfl) (by kernel_rfl) (fun _ _ _ h => h) (Or.inl ⟨by rfl, ?_⟩) hHeld ?_
      · intro w' hSw
        obtain ⟨a0, a1, a2, a3, a4, a5⟩ := hSw
        go_simp
      go_frame
      refine wpAnyH_take (i := 7) (v := (.pointer (some ⟨Q.b, 0, none⟩))) rfl (by kernel_rfl) (by kernel_rfl) (by kernel_rfl) (fun _ _ _ h => h) (Or.inl ⟨by rfl, ?_⟩) hHeld ?_
      · intro w' hSw
        obtain ⟨a0, a1, a2, a3, a4, a5⟩ := hSw
        go_simp
      go_frame
      refine wpAnyH_take (i := 8) (v := (.pointer (some ⟨Q.b, 2, none⟩))) rfl (by kernel_rfl) (by kernel_rfl) (by kernel_rfl) (fun _ _ _ h => h) (Or.inl ⟨by rfl, ?_⟩) hHeld ?_
      · intro w' hSw
        obtain ⟨a0, a1, a2, a3, a4, a5⟩ := hSw
        go_simp
      go_frame
      refine wpAnyH_take (i := 9) (v := (.slice (some ⟨g5, 0, none⟩) R.seenB.length cap5)) rfl (by kernel_rfl) (by kernel_rfl) (by kernel_rfl) (fun _ _ _ h => h) (Or.inl ⟨by rfl, ?_⟩) hHeld ?_
      · intro w' hSw
        obtain ⟨a0, a1, a2, a3, a4, a5⟩ := hSw
        go_simp
      go_frame
      refine wpAnyH_take (i := 10) (v := (.pointer (some ⟨w.heap.size, 2, none⟩))) rfl (by kernel_rfl) (by kernel_rfl) (by kernel_rfl) (fun _ _ _ h => h) (Or.inl ⟨by rfl, ?_⟩) hHeld ?_
      · intro w' hSw
        obtain ⟨a0, a1, a2, a3, a4, a5⟩ := hSw
        go_simp
      go_frame
      refine wpAnyH_take (i := 11) (v := (.int .i64 (i : Int))) rfl (by kernel_rfl) (by kernel_rfl) (by kernel_rfl) (fun _ _ _ h => h) (Or.inl ⟨by rfl, ?_⟩) hHeld ?_
      · intro w' hSw
        obtain ⟨a0, a1, a2, a3, a4, a5⟩ := hSw
        go_simp
      go_frame
      refine wpAnyH_take (i := 12) (v := (.pointer (some ⟨g5, i, none⟩))) rfl (by kernel_rfl) (by kernel_rfl) (by kernel_rfl) (fun _ _ _ h => h) (Or.inl ⟨by rfl, ?_⟩) hHeld ?_
      · intro w' hSw
        obtain ⟨a0, a1, a2, a3, a4, a5⟩ := hSw
        go_simp
      go_frame
      refine wpAnyH_take (i := 14) (v := (.agg #[.int .i64 kd, .string nm, .int .i64 (i : Int), .int .i64 at_, .string d])) rfl (by kernel_rfl) (by kernel_rfl) (by kernel_rfl) (fun _ _ _ h => h) (Or.inl ⟨by rfl, ?_⟩) hHeld ?_
      · intro w' hSw
        obtain ⟨a0, a1, a2, a3, a4, a5⟩ := hSw
        go_simp
      go_frame
      refine wpAnyH_ready (rs := [13]) (by kernel_rfl) (by simp) ?_
      refine AllReadyH.cons rfl (fun K hK => ?_) AllReadyH.nil
      go_simp
      refine hK.out _ _ hHeld (fun hHeld => ?_)
      clear hK K
      refine wpAnyH_ready (rs := [15]) (by kernel_rfl) (by simp) ?_
      refine AllReadyH.cons rfl (fun K hK => ?_) AllReadyH.nil
      go_simp
      (with_reducible refine HD.out.mono ?_)
      rintro e w6 ⟨rfl, hb6⟩
      have q6 := row6 (show W5.drew.ownsRow _ _ _ _ _ _ from HR5.out) hb6 HI5.out
      have p6 := q6.2
      have HX6 : Hid (Blk w6 w.heap.size 99 #[.int .i64 kd, .string nm, .int .i64 (i : Int), .int .i64 at_, .string d]) := Lib.hid ((hb6.block _ (blk_lt (show Blk W5.drew _ _ _ from HX5.out))).trans HX5.out)
      have HC6 : Hid (w6.cell? ⟨Q.b, 2, none⟩ = some (.slice (some ⟨g5, 0, none⟩) R.seenB.length cap5)) := Lib.hid ((hb6.cell (p := ⟨Q.b, 2, none⟩) HQ5.out).trans c2)
      have HB6 := Lib.hid hb6
      obtain ⟨y0, y1, y2, y3, y4⟩ := bxs_of HX6.out
      replace q6 := q6.1
      clear hb6
      go_simp
      refine hK.out _ _ ⟨y0, y1, y2, y3, y4, HC6.out⟩ (fun hHeld => ?_)
      clear hK K
      refine wpAnyH_take (i := 16) (v := (.pointer (some ⟨g5, i, none⟩))) rfl (by kernel_rfl) (by kernel_rfl) (by kernel_rfl) (fun _ _ _ h => h) (Or.inl ⟨by rfl, ?_⟩) hHeld ?_
      · intro w' hSw
        obtain ⟨a0, a1, a2, a3, a4, a5⟩ := hSw
        go_simp
      go_frame
      refine wpAnyH_ready (rs := [17]) (by kernel_rfl) (by simp) ?_
      refine AllReadyH.cons rfl (fun K hK => ?_) AllReadyH.nil
      go_simp
      refine hK.out _ _ (cell6_set HN5.out.1 HN5.out.2 ⟨y0, y1, y2, y3, y4, HC6.out⟩ _ _) (fun hHeld => ?_)
      clear hK K
      refine wpAnyH_done (by kernel_rfl) ?_ _
      go_wp2
      go_returns
      refine ⟨rfl, ?_⟩
      obtain ⟨Q', hq1, hq2⟩ := HPB.out w6 ((Same.refl W5).drew.below.trans HB6.out)
      rw [HE.out]
      exact ⟨Q', hq1, HS1.out.trans hq2⟩
end Go.Proofs.YtkfncnpeockiaaaGreatDoor
