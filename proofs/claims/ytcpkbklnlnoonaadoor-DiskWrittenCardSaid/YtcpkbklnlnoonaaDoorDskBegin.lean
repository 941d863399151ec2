/-
  Layer 7: begin at a disk that is up: a counted call's number, its fault, its crash. Condition: none but the sizes that the invariant holds.
-/
import Derived.Test.YtcpkbklnlnoonaaDoorDskFind
import Derived.Deep.RegionHeld3
import Derived.Deep.RegionWith
namespace Go.Proofs.YtcpkbklnlnoonaaDoor
open Go.RowKit
variable {L : Loc} {ρ ρ' : Nat → Option Role} {n : Nat} {S : DS} {w w' : World}

theorem setCell_keep (w : World) (b i : Nat) (v : Value) : ∀ g, g ≠ b → (w.setCell ⟨b, i, none⟩ v).heap[g]? = w.heap[g]? := fun g hg => heap_setCell_other w ⟨b, i, none⟩ g v hg
theorem size_setCell' (w : World) (a : Addr) (v : Value) : (w.setCell a v).heap.size = w.heap.size := by simp [World.setCell]

set_option maxHeartbeats 1000000 in
theorem begin_ok (h : Inv L ρ n S w) (hd : S.down = false) (hf : S.flt (S.ops + 1) = 0) (hn : n + 1 ≤ 100000) :
    Calls Tryd.prog 31 #[.pointer (some ⟨L.b, 0, none⟩)] w fun e w' => e = .returned .nilIface ∧ Inv L ρ (n + 1) (begS S) w' ∧ Step L ρ w L ρ w' ∧ ∀ k, k < w.heap.size → k ≠ L.b → w'.heap[k]? = w.heap[k]? := by
  have H := Lib.hid h
  have hbd := h.bnd.2.1
  have hB := h.blk
  rw [hd] at hB
  have c4 := blk_cell hB 4 rfl
  have f4 := blk_frozen hB 4
  have c7 := blk_cell hB 7 rfl
  have hB1 := blk_set hB 4 (.int .i64 (S.ops + 1))
  have d4 := blk_cell hB1 4 rfl
  have d5 := blk_cell hB1 5 rfl
  have d6 := blk_cell hB1 6 rfl
  have d7 := blk_frozen hB1 7
  have d7' := blk_cell hB1 7 rfl
  have hfl : FltI ρ (w.setCell ⟨L.b, 4, none⟩ (.int .i64 (S.ops + 1))).drew L.fm S.flt := fltI_keep h.flt (fun g hg => setCell_keep _ _ _ _ g (fun e => by subst e; rw [h.hb] at hg; cases hg)) (fun _ _ h => h)
  have hlk := fltI_look hfl (k := (S.ops : Int) + 1) (by omega) (by omega)
  rw [hf] at hlk
  obtain ⟨B, hBo⟩ : ∃ B : Bool, B = ((S.ops : Int) + 1 == S.crash) := ⟨_, rfl⟩
  have HB := Lib.hid hB; have HBo := Lib.hid hBo
  clear h hB hfl hB1 hf hd
  have e1 : wrap64 ((S.ops : Int) + 1) = (S.ops : Int) + 1 := by unfold wrap64; omega
  go_enter Tryd.func31, Tryd.ntmps31
  go_wp2
  go_region
  go_wp2
  go_region
  go_wp2
  go_ret
  have hk : ∀ g, g ≠ L.b → (((w.setCell ⟨L.b, 4, none⟩ (.int .i64 (S.ops + 1))).setCell ⟨L.b, 7, none⟩ (.bool ((S.ops : Int) + 1 == S.crash))).drew.drew).heap[g]? = w.heap[g]? := fun g hg => (setCell_keep _ _ _ _ g hg).trans (setCell_keep _ _ _ _ g hg)
  have hz : (((w.setCell ⟨L.b, 4, none⟩ (.int .i64 (S.ops + 1))).setCell ⟨L.b, 7, none⟩ (.bool ((S.ops : Int) + 1 == S.crash))).drew.drew).heap.size = w.heap.size := by rw [show ∀ x : World, x.drew.heap = x.heap from fun _ => rfl, show ∀ x : World, x.drew.heap = x.heap from fun _ => rfl, size_setCell', size_setCell']
  refine ⟨rfl, inv_disk H.out (Nat.le_succ _) hn ?_ hk (Nat.le_of_eq hz.symm) rfl rfl rfl rfl rfl rfl (by simp only [begS]; omega), Step.disk hk H.out.hb hz rfl rfl rfl, fun k _ hne => hk k hne⟩
  have hfin := blk_set (blk_set HB.out 4 (.int .i64 (S.ops + 1))) 7 (.bool ((S.ops : Int) + 1 == S.crash))
  have ec : (((S.ops + 1 : Nat) : Int)) = (S.ops : Int) + 1 := by omega
  have ed : decide (((S.ops + 1 : Nat) : Int) = S.crash) = ((S.ops : Int) + 1 == S.crash) := by rw [ec]; rfl
  simp only [begS, ed]
  rw [ec]
  exact hfin

set_option maxHeartbeats 1000000 in
theorem begin_fault (h : Inv L ρ n S w) (hd : S.down = false) (x : Int) (hf : S.flt (S.ops + 1) = x) (hx : x ≠ 0) (hn : n + 1 ≤ 100000) :
    Calls Tryd.prog 31 #[.pointer (some ⟨L.b, 0, none⟩)] w fun e w' => ∃ g, e = .returned (.iface 72 (.pointer (some ⟨g, 0, none⟩))) ∧ Blk w' g 74 #[.int .i64 (S.ops + 1), .int .i64 x] ∧ ρ g = none ∧ Inv L ρ (n + 1) (cntS S) w' ∧ Step L ρ w L ρ w' := by
  have H := Lib.hid h
  have hbd := h.bnd.2.1
  have hB := h.blk
  rw [hd] at hB
  have c4 := blk_cell hB 4 rfl
  have f4 := blk_frozen hB 4
  have c7 := blk_cell hB 7 rfl
  have hB1 := blk_set hB 4 (.int .i64 (S.ops + 1))
  have d4 := blk_cell hB1 4 rfl
  have d5 := blk_cell hB1 5 rfl
  have hfl : FltI ρ (w.setCell ⟨L.b, 4, none⟩ (.int .i64 (S.ops + 1))).drew L.fm S.flt := fltI_keep h.flt (fun g hg => setCell_keep _ _ _ _ g (fun e => by subst e; rw [h.hb] at hg; cases hg)) (fun _ _ h => h)
  have hlk := fltI_look hfl (k := (S.ops : Int) + 1) (by omega) (by omega)
  have hxb : (x == 0) = false := by simpa using hx
  rw [hf, hxb] at hlk
  have HB := Lib.hid hB; have HD := Lib.hid hd
  clear h hB hfl hB1 hf hd hx hxb
  have e1 : wrap64 ((S.ops : Int) + 1) = (S.ops : Int) + 1 := by unfold wrap64; omega
  go_enter Tryd.func31, Tryd.ntmps31
  go_wp2
  go_region
  go_wp2
  go_ret
  have ec : (((S.ops + 1 : Nat) : Int)) = (S.ops : Int) + 1 := by omega
  have hk : ∀ g, g ≠ L.b → ((w.setCell ⟨L.b, 4, none⟩ (.int .i64 (S.ops + 1))).drew).heap[g]? = w.heap[g]? := fun g hg => setCell_keep _ _ _ _ g hg
  have hz : ((w.setCell ⟨L.b, 4, none⟩ (.int .i64 (S.ops + 1))).drew).heap.size = w.heap.size := size_setCell' _ _ _
  have hI : Inv L ρ (n + 1) (cntS S) (w.setCell ⟨L.b, 4, none⟩ (.int .i64 (S.ops + 1))).drew := inv_disk H.out (Nat.le_succ _) hn (by
    have hfin := blk_set HB.out 4 (.int .i64 (S.ops + 1))
    simp only [cntS, ec, HD.out]
    exact hfin) hk (Nat.le_of_eq hz.symm) rfl rfl rfl rfl rfl rfl (by simp only [cntS]; omega)
  have hS : Step L ρ w L ρ (w.setCell ⟨L.b, 4, none⟩ (.int .i64 (S.ops + 1))).drew := Step.disk hk H.out.hb hz rfl rfl rfl
  refine ⟨w.heap.size, ?_, ?_, H.out.old _ (Nat.le_refl _), hI.alloc _, hS.trans (Step.below ((Below.refl _ _).alloc (Nat.le_refl _) _))⟩
  · first | rfl | simp [size_setCell']
  · exact blk_at (by first | rfl | simp [size_setCell'])
end Go.Proofs.YtcpkbklnlnoonaaDoor
