/-
  Layer 13: readJournal: the journal of the file, and whether it counts, laid into the recovery; errAbsent if there is none. Condition: the disk is calm, the sizes fit.
-/
import Derived.Deep.RegionWith
import Derived.Test.YthfebcfdhmihcaaGreatDoorMh16
namespace Go.Proofs.YthfebcfdhmihcaaGreatDoor
open Go.RowKit
variable {P : Nat → Prop} {ea : Addr} {b n m : Nat} {l : List F13} {Q : PQ} {w : World}

set_option maxRecDepth 100000 in
set_option maxHeartbeats 2000000 in
theorem readj_none {rb : Nat} {p : List UInt8} {j0 j1 j2 j3 : Value} {hot cr : Bool} (h : Dk P ea b n m l Q w) (hr : Blk w rb 79 (rcC b p j0 j1 j2 j3 hot cr)) (hp : p.length ≤ 999000) (hx : lookF l (p ++ jx) = none) :
    Calls Tryz.prog 88 #[.pointer (some ⟨rb, 0, none⟩)] w fun e w' => e = .returned (.iface 283 (.pointer (some ea))) ∧ Below w.heap.size w w' := by
  have c0 := blk_cell hr 0 (v := .pointer (some ⟨b, 0, none⟩)) rfl
  have c1 := blk_cell hr 1 (v := .string (ba p)) rfl
  have c0' := cell_alloc c0 (.cells zJrn 55)
  have c1' := cell_alloc c1 (.cells zJrn 55)
  have HJ1 := Lib.hid (journalOf_none (dk_drew h) p hp hx)
  have HJ2 := Lib.hid (journalOf_none (dk_drew (dk_alloc h (.cells zJrn 55))) p hp hx)
  have HZ := Lib.hid (show Blk (w.alloc (.cells zJrn 55)).drew w.heap.size 55 zJrn from blk_new w 55 zJrn)
  have HUD := Lib.hid (fun W (hb : Below w.drew.heap.size w.drew W) => (⟨hb.os, hb.tape, hb.output, hb.size, hb.block⟩ : Below w.heap.size w W))
  have HUA := Lib.hid (fun W (hb : Below (w.alloc (.cells zJrn 55)).drew.heap.size (w.alloc (.cells zJrn 55)).drew W) => blw_new (w := w) (o := .cells zJrn 55) (⟨hb.os, hb.tape, hb.output, hb.size, hb.block⟩ : Below (w.alloc (.cells zJrn 55)).heap.size (w.alloc (.cells zJrn 55)) W))
  clear h hr
  unfold zJrn at *
  go_enter Tryz.func88, Tryz.ntmps88
  go_upto_region 1 with (fail)
  go_cut [4] from 5 (fun u wx => u = .iface 283 (.pointer (some ea)) ∧ Hid (Below w.heap.size w wx))
  case first =>
    go_region_with (first
      | (go_at_call 27; (with_reducible refine HJ1.out.mono ?_); rintro e w2 ⟨rfl, hB⟩; have HB := Lib.hid (HUD.out _ hB); clear hB)
      | (go_at_call 27; (with_reducible refine HJ2.out.mono ?_); rintro e w2 ⟨rfl, hB⟩; have hz := blk_below HZ.out hB; have z0 := blk_cell hz 0 rfl; have z1 := blk_cell hz 1 rfl; have z2 := blk_cell hz 2 rfl; have z3 := blk_cell hz 3 rfl; have f0 := blk_frozen hz 0; have f1 := blk_frozen hz 1; have f2 := blk_frozen hz 2; have f3 := blk_frozen hz 3; have HB := Lib.hid (HUA.out _ hB); clear hB hz))
    all_goals go_wp2
    all_goals go_meet
    all_goals refine ⟨rfl, Lib.hid ?_⟩
    all_goals first | exact HB.out.alloc HB.out.size _ | exact put4_below HB.out (Nat.le_refl _) _ _ _ _
  case rest =>
    obtain ⟨rfl, hB⟩ := hcut
    go_wp2
    go_ret
    exact ⟨rfl, hB.out⟩
end Go.Proofs.YthfebcfdhmihcaaGreatDoor
