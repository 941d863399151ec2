/-
  Layer 7: exceeds: would a file become longer, and all visible files together longer than the capacity, if it had so many bytes. Condition: the paths of the visible state are distinct, and there is one.
-/
import Derived.Test.YtcpkbklnlnoonaaDoorDskUsed
import Derived.Deep.RegionHeld3
namespace Go.Proofs.YtcpkbklnlnoonaaDoor
open Go.RowKit
variable {L : Loc} {ρ ρ' : Nat → Option Role} {n : Nat} {S : DS} {w w' : World}

def excB (S : DS) (i : Nat) (size : Int) : Bool := decide (0 < size - ((S.con false i).length : Int)) && decide ((S.room : Int) < (usedN S : Int) + (size - ((S.con false i).length : Int)))
structure ExcI (L : Loc) (ρ : Nat → Option Role) (n : Nat) (S : DS) (w v : World) : Prop where
  inv : Inv L ρ n S v
  below : Below w.heap.size w v
theorem exc_drew (h : ExcI L ρ n S w w') : ExcI L ρ n S w w'.drew := ⟨h.inv.drew, h.below.drew⟩
theorem exc_next {w2 : World} (h : ExcI L ρ n S w w') (hb : Below w'.heap.size w' w2) : ExcI L ρ n S w w2 := ⟨h.inv.below hb, h.below.trans (hb.mono h.below.size)⟩
theorem exc_of (h : ExcI L ρ n S w w') : w'.cell? ⟨L.b, 0, none⟩ = some (.int .i64 S.room) ∧ ExcI L ρ n S w w' := ⟨blk_cell h.inv.blk 0 rfl, h⟩
theorem below_drewN {B : Nat} {a w : World} (h : Below B a w) (n : Nat) : Below B a (w.drewN n) := h.trans ⟨rfl, rfl, rfl, Nat.le_refl _, fun _ _ => rfl⟩
theorem usedN_le (h : Inv L ρ n S w) : usedN S ≤ 400000000000 := by
  have hbnd : sumLeft (lenOf S) (fun _ => true) (S.dirs false) = usedN S := sumLeft_all (fun q _ => rfl)
  have hle := sumLeft_le (f := lenOf S) (left := fun _ => true) (m := 4000000) (l := S.dirs false) (fun q hq => h.clen false q.2 (h.dok false q hq))
  have hb3 := h.bnd.2.2.1 false
  have hb4 := h.bnd.2.2.2
  omega

set_option maxHeartbeats 2000000 in
set_option maxRecDepth 100000 in
theorem exceeds_any (h : Inv L ρ n S w) (hk : ((S.dirs false).map (·.1)).Nodup) (hne : S.dirs false ≠ []) (i : Nat) (hi : i < S.nf) (z : Int) (h1 : 0 ≤ z) (h2 : z ≤ 1000000000) :
    Calls Tryd.prog 21 #[.pointer (some ⟨L.b, 0, none⟩), .pointer (some ⟨L.F i, 0, none⟩), .int .i64 z] w fun e w' => e = .returned (.bool (excB S i z)) ∧ Below w.heap.size w w' := by
  have v0 := blk_cell (h.fil i hi) 0 rfl
  obtain ⟨va, vc, hv, hvc⟩ := bys_slice (h.con false i hi)
  rw [hv] at v0
  have hcl := h.clen false i hi
  have hul := usedN_le h
  have hrl := h.room
  obtain ⟨r, hr⟩ : ∃ r, r = excB S i z := ⟨_, rfl⟩
  rw [← hr]
  unfold excB at hr
  have HU := Lib.hid (fun (v : World) (hI : Inv L ρ n S v) => used_any hI hk hne)
  have HI := Lib.hid (show ExcI L ρ n S w w from ⟨h, Below.refl _ _⟩)
  generalize (S.con false i).length = cl at *
  generalize usedN S = un at *
  have e1 : IntKind.i64.wrap (z - (cl : Int)) = z - (cl : Int) := IntWalk.i64_in _ ⟨by omega, by omega⟩
  clear h hk hv
  by_cases hm : 0 < z - (cl : Int)
  · have t1 : decide (0 < z - (cl : Int)) = true := decide_eq_true hm
    have e2 : IntKind.i64.wrap ((un : Int) + (z - (cl : Int))) = (un : Int) + (z - (cl : Int)) := IntWalk.i64_in _ ⟨by omega, by omega⟩
    rw [t1, Bool.true_and] at hr
    have HR := Lib.hid hr
    clear hr
    generalize hmz : z - (cl : Int) = m at *
    go_enter Tryd.func21, Tryd.ntmps21
    go_upto_region 2 with (fail)
    go_region_held3 (fun v => v.cell? ⟨L.b, 0, none⟩ = some (.int .i64 S.room) ∧ ExcI L ρ n S w v)
      (first | assumption | exact exc_of HI.out | exact exc_of (exc_drew HI.out) | exact exc_of (exc_next (And.right (by assumption)) (by assumption)))
      ((go_at_call 36; (with_reducible refine (HU.out _ (ExcI.inv (And.right (by assumption)))).mono ?_); rintro e w2 ⟨rfl, hb⟩))
    all_goals go_wp2
    all_goals go_ret
    all_goals exact ⟨by rw [HR.out]; rfl, ExcI.below (And.right (by assumption))⟩
  · have t1 : decide (0 < z - (cl : Int)) = false := decide_eq_false hm
    rw [t1, Bool.false_and] at hr
    subst hr
    generalize hmz : z - (cl : Int) = m at *
    go_enter Tryd.func21, Tryd.ntmps21
    go_wp2
    go_quiet (fail)
    go_wp2
    go_ret
    exact ⟨rfl, below_drewN HI.out.below _⟩
end Go.Proofs.YtcpkbklnlnoonaaDoor
