/-
  Layer 7: the choice that Sync makes among the pending changes: those of the contents of one file. Condition: the file and the change are of this disk.
-/
import Derived.Test.YtcpkbklnlnoonaaDoorDskRow
namespace Go.Proofs.YtcpkbklnlnoonaaDoor
open Go.RowKit
variable {L : Loc} {ρ ρ' : Nat → Option Role} {n : Nat} {S : DS} {w w' : World}

def ofFile (f : Nat) : Chg → Bool
  | .write i _ _ => i == f
  | .trunc i _ => i == f
  | _ => false
def ofDir : Chg → Bool
  | .create _ _ => true
  | .remove _ => true
  | _ => false
theorem inv_inj (h : Inv L ρ n S w) {i j : Nat} (hi : i < S.nf) (hj : j < S.nf) (e : L.F i = L.F j) : i = j := by
  have h1 := h.fro i hi
  rw [e, h.fro j hj] at h1
  injection h1 with h1
  injection h1 with h1
  exact h1.symm
theorem ptr_eql (h : Inv L ρ n S w) {i j : Nat} (hi : i < S.nf) (hj : j < S.nf) (hk : ∀ g, ρ g ≠ none → w'.heap[g]? = w.heap[g]?) :
    (binOp .eql 45 (.pointer (some ⟨L.F i, 0, none⟩)) (.pointer (some ⟨L.F j, 0, none⟩))).run Tryd.prog w' = .ok (.bool (i == j)) w' := by
  obtain ⟨q, hq, hq2⟩ : ∃ q, Tryd.prog.info? 50 = some q ∧ q.size = 2 := by
    have hm : (Tryd.prog.info? 50).map (·.size) = some 2 := by kernel_rfl
    exact Option.map_eq_some_iff.1 hm
  by_cases e : i = j
  · subst e
    rw [show (i == i) = true by simp]
    exact run_eql_ptr_same (P := Tryd.prog) w' ⟨L.F i, 0, none⟩ (by kernel_rfl) hq
  · rw [show (i == j) = false by simpa using e]
    have hb : ∀ k, k < S.nf → w'.heap[(⟨L.F k, 0, none⟩ : Addr).block]? = some (.cells #[L.V false k, L.V true k] 50 (0, 0)) := fun k hk' => (hk _ (by rw [h.fro k hk']; simp)).trans (h.fil k hk')
    exact run_eql_ptr_other (P := Tryd.prog) w' (by kernel_rfl) hq (by omega) (fun e' => e (inv_inj h hi hj (by injection e'))) (hb i hi) (hb j hj)

theorem sync11_any (h : Inv L ρ n S w) (f : Nat) (hf : f < S.nf) (c : Chg) (hc : c.Ok S.nf) (x : Addr) (hx : w.cell? x = some (.pointer (some ⟨L.F f, 0, none⟩))) (hxs : x.spot = none) :
    Calls Tryd.prog 26 #[.agg (c.cells L.F).toArray, .pointer (some x)] w fun e w' => e = .returned (.bool (ofFile f c)) ∧ Below w.heap.size w w' := by
  have hxl : x.block < w.heap.size := World.block_lt_of_cell? w _ hx
  have key : ∀ (k : Int) (nm : ByteArray) (fp : Option Addr) (o : Int) (d : ByteArray) (r : Bool), (c.cells L.F).toArray = #[.int .i64 k, .string nm, .pointer fp, .int .i64 o, .string d] →
      ((k == 2 || k == 3) = false ∧ r = false ∨ (k == 2 || k == 3) = true ∧ ∀ w' : World, Below w.heap.size w w' → (binOp .eql 45 (.pointer fp) (.pointer (some ⟨L.F f, 0, none⟩))).run Tryd.prog w' = .ok (.bool r) w') →
      Calls Tryd.prog 26 #[.agg (c.cells L.F).toArray, .pointer (some x)] w fun e w' => e = .returned (.bool r) ∧ Below w.heap.size w w' := by
    intro k nm fp o d r hcl hr
    rw [hcl]
    have hb1 : Below w.heap.size w (w.alloc (.cells #[.int .i64 k, .string nm, .pointer fp, .int .i64 o, .string d] 52)) := (Below.refl _ _).alloc (Nat.le_refl _) _
    have HB1 := Lib.hid hb1
    have HX := Lib.hid hx
    have HBX := Lib.hid (blk_new w 52 #[.int .i64 k, .string nm, .pointer fp, .int .i64 o, .string d])
    clear hb1 hcl
    rcases hr with ⟨e, rfl⟩ | ⟨e, hr⟩
    · go_enter Tryd.func26, Tryd.ntmps26
      go_wp2_with (go_at_call 27; (with_reducible refine (ofCont_any k nm fp o d _).mono ?_); rw [e]; rintro e' w1 ⟨rfl, hb⟩)
      go_ret
      exact ⟨rfl, HB1.out.trans (hb.mono HB1.out.size)⟩
    · clear hx
      go_enter Tryd.func26, Tryd.ntmps26
      go_wp2_with (go_at_call 27; (with_reducible refine (ofCont_any k nm fp o d _).mono ?_); rw [e]; rintro e' w1 ⟨rfl, hb⟩
                   have HB2 := Lib.hid (HB1.out.trans (hb.mono HB1.out.size))
                   have hq := hr w1 HB2.out
                   have hx1 : w1.cell? x = some (.pointer (some ⟨L.F f, 0, none⟩)) := by
                     rw [HB2.out.cell hxl]; exact HX.out
                   have hbx : Blk w1 w.heap.size 52 #[.int .i64 k, .string nm, .pointer fp, .int .i64 o, .string d] := (hb.block _ (blk_lt HBX.out)).trans HBX.out
                   have b2 := blk_cell hbx 2 rfl
                   clear hbx hb)
      go_ret
      exact ⟨rfl, HB2.out⟩
  cases c with
  | create nm i => exact key 0 (bz nm) (some ⟨L.F i, 0, none⟩) 0 (bz []) false rfl (.inl ⟨rfl, rfl⟩)
  | remove nm => exact key 1 (bz nm) none 0 (bz []) false rfl (.inl ⟨rfl, rfl⟩)
  | write i o d => exact key 2 (bz []) (some ⟨L.F i, 0, none⟩) o (bz d) (i == f) rfl (.inr ⟨rfl, fun w' hb => ptr_eql h hc.1 hf (fun g hg => hb.block g (h.lt hg))⟩)
  | trunc i z => exact key 3 (bz []) (some ⟨L.F i, 0, none⟩) z (bz []) (i == f) rfl (.inr ⟨rfl, fun w' hb => ptr_eql h hc.1 hf (fun g hg => hb.block g (h.lt hg))⟩)
end Go.Proofs.YtcpkbklnlnoonaaDoor
