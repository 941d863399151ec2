/-
  Layer 7: number: the error of the api that an error is, or that a fault wraps: errors.As by Go's own text, at a target of type *api.Errno. Condition: the variable errors.errorType holds what the program's text lays there.
  Layer 7: perform: a change becomes visible, and is pending behind those that already are. Condition: the change is one of this disk's, the sizes are those that the invariant holds.
  Layer 7: New, Ops: an empty disk that is up; the number of counted calls. Condition: none.
  Layer 7: Content: the visible bytes of a file, or none. Condition: the name has at most a million bytes.
  Layer 7: ofContents, and the choice that Sync makes among the pending changes. Condition: none.
  Layer 7, the row of pending changes: one entry read, an append in place where there is room, the tail cleared; the invariant where the row alone has turned. Conditions: the sizes are those that the invariant holds.
  Layer 7: isPath: is a name a path. Condition: the name has at most 2^63 - 1 bytes.
  Layer 7: used and exceeds: the length of all visible files together; would a file become longer, and all together longer than the capacity. Condition: the paths of the visible state are distinct.
  Layer 7: exceeds: would a file become longer, and all visible files together longer than the capacity, if it had so many bytes. Condition: the paths of the visible state are distinct, and there is one.
  Layer 7, settle on the abstract state: the state behind each round, and behind the whole. No program text is walked here.
  Layer 7: the choice that Sync makes among the pending changes: those of the contents of one file. Condition: the file and the change are of this disk.
  Layer 7: settle with the choice that Sync makes: the chosen pending changes become durable, in order, the others stay pending. Condition: the sizes that the invariant holds.
-/
import Derived.Maps.AppendAt
import Derived.Laws.IdiomStrings
import Derived.Laws.BytesArg
import Derived.LaidEqlPtr
import Derived.Maps.RangeWalk
import Derived.StillTailTactics
import Derived.Deep.RegionHeld3
import Derived.LaidEql
import Derived.Stop.Asserts
import Derived.RowKitTokens
import Derived.Test.YthfebcfdhmihcaaGreatDoorMh1
namespace Go.Proofs.YthfebcfdhmihcaaGreatDoor
open Go.RowKit
variable {L : Loc} {ρ ρ' : Nat → Option Role} {n : Nat} {S : DS} {w w' : World}

def perfS (c : Chg) (S : DS) : DS := { applyS false c S with pend := S.pend ++ [c] }
theorem applyS_pend (s : Bool) (c : Chg) (S : DS) : (applyS s c S).pend = S.pend := by cases c <;> rfl
theorem applyS_nf (s : Bool) (c : Chg) (S : DS) : (applyS s c S).nf = S.nf := by cases c <;> rfl
theorem row_shape {e : TypeId} {size k : Nat} {v : Value} {xs : List Value} (h : w.ownsRow 0 e size v (k + 1) xs) : ∃ g cap, v = .slice (some ⟨g, 0, none⟩) (k + 1) cap := by
  rcases h.2 with ⟨_, h0⟩ | ⟨g, cap, cur, rfl, _⟩
  · omega
  · exact ⟨g, cap, rfl⟩
theorem row_any {e : TypeId} {size k : Nat} {v : Value} {xs : List Value} (h : w.ownsRow 0 e size v k xs) : ∃ a cap, v = .slice a k cap := by
  rcases h.2 with ⟨rfl, rfl⟩ | ⟨g, cap, cur, rfl, _⟩
  · exact ⟨none, 0, rfl⟩
  · exact ⟨_, cap, rfl⟩

/-- The append of perform, in a world where the new change lies in a block of its own. -/
theorem pend_append (h : Inv L ρ n S w) (c : Chg) (a : Nat) (hbx : Blk w a 96 (c.cells L.F).toArray) (hok : c.Ok S.nf) (hn : n + 1 ≤ 100000) (_hla : ρ a = none) :
    ∃ v1 w1, (Builtin.append_ #[90, 90] 90 #[L.pv, .slice (some ⟨a, 0, none⟩) 1 1]).run Tryz.prog w = .ok v1 w1 ∧ (∃ g cap, v1 = .slice (some ⟨g, 0, none⟩) (S.pend.length + 1) cap) ∧ w.grownBy w1 L.pv.ownBlock ∧
      ∃ ρ', Inv { L with pv := v1 } ρ' (n + 1) { S with pend := S.pend ++ [c] } (w1.setCell ⟨L.b, 3, none⟩ v1) ∧ Step L ρ w { L with pv := v1 } ρ' (w1.setCell ⟨L.b, 3, none⟩ v1) := by
  obtain ⟨i, hi, hz0, hz1, hz2⟩ := info_parts chg_info
  have hbd := h.bnd.1
  obtain ⟨v1, w1, hr, h1, h2, _, h4⟩ := run_append_own_at (P := Tryz.prog) w 0 90 90 96 i _ 5 56 (by kernel_rfl) hi hz0 hz1 hz2 (by decide) (by decide) L.pv S.pend.length _ h.pnd ⟨a, 0, none⟩ 1 1 (c.cells L.F) (by rw [cells_len])
    (fun j u hj => by
      have := blk_cell hbx j (v := u) (by simpa using hj)
      rw [Addr.add_lit]; simpa using this) (cells_one _ _) (by unfold maxLen; omega) (by omega) (Nat.zero_le _)
  have hrow : w1.ownsRow 0 96 5 v1 (S.pend ++ [c]).length ((S.pend ++ [c]).flatMap (Chg.cells L.F)) := by
    rw [List.length_append, List.flatMap_append]
    simpa using h1
  obtain ⟨ρ', hI, hS⟩ := inv_pend (n' := n + 1) h (S.pend ++ [c]) h2 hrow (fun x hx => by
    rcases List.mem_append.1 hx with hx | hx
    · exact h.pok x hx
    · simp at hx; subst hx; exact hok) h4 (Nat.le_succ _) hn (by simp; omega)
  exact ⟨v1, w1, hr, row_shape h1, h2, ρ', hI, hS⟩

/-- What the drawn region of perform reads of its change. -/
def Bx5 (g : Nat) (k : Int) (nm : ByteArray) (fp : Option Addr) (o : Int) (d : ByteArray) (a : World) : Prop := a.cell? ⟨g, 0, none⟩ = some (.int .i64 k) ∧ a.cell? ⟨g, 1, none⟩ = some (.string nm) ∧ a.cell? ⟨g, 2, none⟩ = some (.pointer fp) ∧ a.cell? ⟨g, 3, none⟩ = some (.int .i64 o) ∧ a.cell? ⟨g, 4, none⟩ = some (.string d)
theorem bx5_of {g : Nat} {k : Int} {nm : ByteArray} {fp : Option Addr} {o : Int} {d : ByteArray} {a : World} (h : Blk a g 96 #[.int .i64 k, .string nm, .pointer fp, .int .i64 o, .string d]) : Bx5 g k nm fp o d a :=
  ⟨blk_cell h 0 rfl, blk_cell h 1 rfl, blk_cell h 2 rfl, blk_cell h 3 rfl, blk_cell h 4 rfl⟩

set_option maxHeartbeats 2000000 in
set_option maxRecDepth 20000 in
theorem perform_lit (c : Chg) (k : Int) (nm : ByteArray) (fp : Option Addr) (o : Int) (d : ByteArray) (hcl : c.cells L.F = [.int .i64 k, .string nm, .pointer fp, .int .i64 o, .string d]) (h : Inv L ρ n S w) (hok : c.Ok S.nf) (hn : n + 2 ≤ 100000) :
    Calls Tryz.prog 61 #[.pointer (some ⟨L.b, 0, none⟩), .agg #[.int .i64 k, .string nm, .pointer fp, .int .i64 o, .string d]] w fun e w' => e = .returned (.tuple #[]) ∧ ∃ L' ρ', Inv L' ρ' (n + 2) (perfS c S) w' ∧ Step L ρ w L' ρ' w' ∧ L'.F = L.F := by
  have hb1 : Below w.heap.size w (w.alloc (.cells #[.int .i64 k, .string nm, .pointer fp, .int .i64 o, .string d] 96)) := (Below.refl _ _).alloc (Nat.le_refl _) _
  have hA := apply_any false c (h.alloc (.cells #[.int .i64 k, .string nm, .pointer fp, .int .i64 o, .string d] 96)) hok (by omega)
  rw [hcl, show stI false = 0 from rfl] at hA
  have hbx : Blk (w.alloc (.cells #[.int .i64 k, .string nm, .pointer fp, .int .i64 o, .string d] 96)) w.heap.size 96 #[.int .i64 k, .string nm, .pointer fp, .int .i64 o, .string d] := blk_new _ _ _
  have hr0 := h.old w.heap.size (Nat.le_refl _)
  have HA := Lib.hid hA; have HBX := Lib.hid hbx; have HB1 := Lib.hid hb1; have HR := Lib.hid hr0; have HO := Lib.hid hok; have HN := Lib.hid hn; have HCL := Lib.hid hcl
  have bc := bx5_of hbx
  obtain ⟨u0, u1, u2, u3, u4⟩ := bc
  clear h hA hbx hb1 hr0 hok hn hcl
  go_enter Tryz.func61, Tryz.ntmps61
  go_wp2_with (go_at_call 96; (with_reducible refine HA.out.mono ?_); rintro e w1 ⟨rfl, L', ρ', hI, hS, hF, hpv⟩; have HI := Lib.hid hI; have HS := Lib.hid hS; have HF := Lib.hid hF; clear hI hS hF hpv)
  have hI := HI.out
  have hLb : L'.b = L.b := HS.out.b
  have hbx1 : Blk w1.drew w.heap.size 96 #[.int .i64 k, .string nm, .pointer fp, .int .i64 o, .string d] := (HS.out.blk w.heap.size (by simp) HR.out).trans HBX.out
  have hIA := hI.drew.alloc (.cells #[.int .i64 k, .string nm, .pointer fp, .int .i64 o, .string d] 96)
  have hnb : Blk (w1.drew.alloc (.cells #[.int .i64 k, .string nm, .pointer fp, .int .i64 o, .string d] 96)) w1.heap.size 96 (c.cells L'.F).toArray := by rw [HF.out, HCL.out]; exact blk_new w1.drew _ _
  obtain ⟨v1, w2, hrun, ⟨g, cap, hv1⟩, hg2, ρ2, hI2, hS2⟩ := pend_append hIA c w1.heap.size hnb (by rw [applyS_nf]; exact HO.out) (by have := HN.out; omega) (hI.old _ (Nat.le_refl _))
  have hBA := hIA.blk
  rw [hLb] at hBA
  have hB2 : Blk w2 L.b 93 _ := (hg2.block L.b (blk_lt hBA) (fun e => by have h1 := hIA.pro _ e.symm; have h2 := hIA.hb; rw [hLb, h1] at h2; cases h2)).trans hBA
  have p3 := blk_cell hI.drew.blk 3 rfl
  have p3a := blk_cell hBA 3 rfl
  have q3 := blk_cell hB2 3 rfl
  have f3 := blk_frozen hB2 3
  rw [hLb] at p3
  have hbx1a : Blk (w1.drew.alloc (.cells #[.int .i64 k, .string nm, .pointer fp, .int .i64 o, .string d] 96)) w.heap.size 96 #[.int .i64 k, .string nm, .pointer fp, .int .i64 o, .string d] := by
    unfold Blk
    rw [heap_alloc_old _ _ (blk_lt hbx1)]; exact hbx1
  have hρx : ρ' w.heap.size = none := by rw [HS.out.ro _ (by simp)]; exact HR.out
  have hbx2 : Blk w2 w.heap.size 96 #[.int .i64 k, .string nm, .pointer fp, .int .i64 o, .string d] := (hg2.block _ (blk_lt hbx1a) (fun e => by have h1 := hIA.pro _ e.symm; rw [hρx] at h1; cases h1)).trans hbx1a
  have hne : w.heap.size ≠ L.b := fun e => by have h1 := hI.hb; rw [hLb, ← e, hρx] at h1; cases h1
  have hbx3 : Blk (w2.setCell ⟨L.b, 3, none⟩ v1) w.heap.size 96 #[.int .i64 k, .string nm, .pointer fp, .int .i64 o, .string d] := (setCell_keep _ _ _ _ _ hne).trans hbx2
  have hfin : ∃ L2 ρ3, Inv L2 ρ3 (n + 2) (perfS c S) (w2.setCell ⟨L.b, 3, none⟩ v1) ∧ Step L ρ w L2 ρ3 (w2.setCell ⟨L.b, 3, none⟩ v1) ∧ L2.F = L.F := by
    have hI3 : Inv { L' with pv := v1 } ρ2 (n + 2) { applyS false c S with pend := (applyS false c S).pend ++ [c] } (w2.setCell ⟨L.b, 3, none⟩ v1) := by rw [← hLb]; exact hI2
    have hS3 : Step L' ρ' (w1.drew.alloc (.cells #[.int .i64 k, .string nm, .pointer fp, .int .i64 o, .string d] 96)) { L' with pv := v1 } ρ2 (w2.setCell ⟨L.b, 3, none⟩ v1) := by rw [← hLb]; exact hS2
    refine ⟨{ L' with pv := v1 }, ρ2, ?_, ?_, HF.out⟩
    · have e : perfS c S = { applyS false c S with pend := (applyS false c S).pend ++ [c] } := by unfold perfS; rw [applyS_pend]
      rw [e]; exact hI3
    · have s0 : Step L' ρ' w1 L' ρ' w1.drew := ⟨rfl, rfl, rfl, Nat.le_refl _, fun _ _ _ => rfl, fun _ _ => rfl, rfl⟩
      have s1 : Step L' ρ' w1.drew L' ρ' (w1.drew.alloc (.cells #[.int .i64 k, .string nm, .pointer fp, .int .i64 o, .string d] 96)) := Step.below ((Below.refl _ _).alloc (Nat.le_refl _) _)
      exact (Step.below HB1.out).trans (HS.out.trans (s0.trans (s1.trans hS3)))
  have X1 := bx5_of hbx1; have X1a := bx5_of hbx1a; have X2 := bx5_of hbx2; have X3 := bx5_of hbx3
  have HFIN := Lib.hid hfin; have HRUN := Lib.hid hrun; have HX1 := Lib.hid X1; have HX1A := Lib.hid X1a; have HX2 := Lib.hid X2; have HX3 := Lib.hid X3
  have HP3A := Lib.hid p3a
  subst hv1
  clear hI hIA hnb hrun hg2 hI2 hS2 hBA hB2 hbx1 hbx1a hbx2 hbx3 hρx hne hfin X1 X1a X2 X3 hLb u0 u1 u2 u3 u4 p3a
  generalize L'.pv = pv at *
  refine wp_region_held_drew (S := Bx5 w.heap.size k nm fp o d) (by kernel_rfl) HX1.out (fun hHeld => ?_)
  refine wpAnyH_take (i := 0) (v := .pointer (some ⟨L.b, 0, none⟩)) rfl (by kernel_rfl) (by kernel_rfl) (by kernel_rfl) (fun _ _ _ h => h) (Or.inl ⟨by rfl, ?_⟩) hHeld ?_
  · intro w' hSw
    obtain ⟨a0, a1, a2, a3, a4⟩ := hSw
    go_simp
  go_frame
  refine wpAnyH_take (i := 1) (v := .pointer (some ⟨L.b, 0, none⟩)) rfl (by kernel_rfl) (by kernel_rfl) (by kernel_rfl) (fun _ _ _ h => h) (Or.inl ⟨by rfl, ?_⟩) hHeld ?_
  · intro w' hSw
    obtain ⟨a0, a1, a2, a3, a4⟩ := hSw
    go_simp
  go_frame
  refine wpAnyH_take (i := 2) (v := .pointer (some ⟨L.b, 0, none⟩)) rfl (by kernel_rfl) (by kernel_rfl) (by kernel_rfl) (fun _ _ _ h => h) (Or.inl ⟨by rfl, ?_⟩) hHeld ?_
  · intro w' hSw
    obtain ⟨a0, a1, a2, a3, a4⟩ := hSw
    go_simp
  go_frame
  refine wpAnyH_take (i := 3) (v := .pointer (some ⟨L.b, 3, none⟩)) rfl (by kernel_rfl) (by kernel_rfl) (by kernel_rfl) (fun _ _ _ h => h) (Or.inl ⟨by rfl, ?_⟩) hHeld ?_
  · intro w' hSw
    obtain ⟨a0, a1, a2, a3, a4⟩ := hSw
    go_simp
  go_frame
  refine wpAnyH_take (i := 5) (v := .agg #[.int .i64 k, .string nm, .pointer fp, .int .i64 o, .string d]) rfl (by kernel_rfl) (by kernel_rfl) (by kernel_rfl) (fun _ _ _ h => h) (Or.inl ⟨by rfl, ?_⟩) hHeld ?_
  · intro w' hSw
    obtain ⟨a0, a1, a2, a3, a4⟩ := hSw
    go_simp
  go_frame
  refine wpAnyH_ready (rs := [4, 6]) (by kernel_rfl) (by simp) ?_
  refine AllReadyH.cons rfl (fun K hK => ?_) (AllReadyH.cons rfl (fun K hK => ?_) AllReadyH.nil)
  · go_simp
    refine hK.out _ _ HX1.out (fun hHeld => ?_)
    clear hK K
    refine wpAnyH_ready (rs := [6]) (by kernel_rfl) (by simp) ?_
    refine AllReadyH.cons rfl (fun K hK => ?_) AllReadyH.nil
    go_simp
    refine hK.out _ _ HX1A.out (fun hHeld => ?_)
    clear hK K
    try go_frame
    refine wpAnyH_ready (rs := [7]) (by kernel_rfl) (by simp) ?_
    refine AllReadyH.cons rfl (fun K hK => ?_) AllReadyH.nil
    rw [if_pos (by rfl)]
    refine Lib.wp_append_run _ _ _ _ _ rfl _ _ rfl rfl _ _ HRUN.out ?_
    refine hK.out _ _ HX2.out (fun hHeld => ?_)
    clear hK K
    try go_frame
    refine wpAnyH_take (i := 8) (v := .pointer (some ⟨L.b, 0, none⟩)) rfl (by kernel_rfl) (by kernel_rfl) (by kernel_rfl) (fun _ _ _ h => h) (Or.inl ⟨by rfl, ?_⟩) hHeld ?_
    · intro w' hSw
      obtain ⟨a0, a1, a2, a3, a4⟩ := hSw
      go_simp
    go_frame
    refine wpAnyH_take (i := 9) (v := .pointer (some ⟨L.b, 3, none⟩)) rfl (by kernel_rfl) (by kernel_rfl) (by kernel_rfl) (fun _ _ _ h => h) (Or.inl ⟨by rfl, ?_⟩) hHeld ?_
    · intro w' hSw
      obtain ⟨a0, a1, a2, a3, a4⟩ := hSw
      go_simp
    go_frame
    refine wpAnyH_ready (rs := [10]) (by kernel_rfl) (by simp) ?_
    refine AllReadyH.cons rfl (fun K hK => ?_) AllReadyH.nil
    go_simp
    refine hK.out _ _ HX3.out (fun hHeld => ?_)
    clear hK K
    try go_frame
    refine wpAnyH_done (by kernel_rfl) ?_ _
    go_wp2
    go_returns
    exact ⟨rfl, HFIN.out⟩
  · go_simp
    refine hK.out _ _ HX1A.out (fun hHeld => ?_)
    clear hK K
    have p3a : (w1.alloc (.cells #[.int .i64 k, .string nm, .pointer fp, .int .i64 o, .string d] 96)).cell? ⟨L.b, 3, none⟩ = some pv := HP3A.out
    refine wpAnyH_ready (rs := [4]) (by kernel_rfl) (by simp) ?_
    refine AllReadyH.cons rfl (fun K hK => ?_) AllReadyH.nil
    go_simp
    refine hK.out _ _ HX1A.out (fun hHeld => ?_)
    clear hK K
    try go_frame
    refine wpAnyH_ready (rs := [7]) (by kernel_rfl) (by simp) ?_
    refine AllReadyH.cons rfl (fun K hK => ?_) AllReadyH.nil
    rw [if_pos (by rfl)]
    refine Lib.wp_append_run _ _ _ _ _ rfl _ _ rfl rfl _ _ HRUN.out ?_
    refine hK.out _ _ HX2.out (fun hHeld => ?_)
    clear hK K
    try go_frame
    refine wpAnyH_take (i := 8) (v := .pointer (some ⟨L.b, 0, none⟩)) rfl (by kernel_rfl) (by kernel_rfl) (by kernel_rfl) (fun _ _ _ h => h) (Or.inl ⟨by rfl, ?_⟩) hHeld ?_
    · intro w' hSw
      obtain ⟨a0, a1, a2, a3, a4⟩ := hSw
      go_simp
    go_frame
    refine wpAnyH_take (i := 9) (v := .pointer (some ⟨L.b, 3, none⟩)) rfl (by kernel_rfl) (by kernel_rfl) (by kernel_rfl) (fun _ _ _ h => h) (Or.inl ⟨by rfl, ?_⟩) hHeld ?_
    · intro w' hSw
      obtain ⟨a0, a1, a2, a3, a4⟩ := hSw
      go_simp
    go_frame
    refine wpAnyH_ready (rs := [10]) (by kernel_rfl) (by simp) ?_
    refine AllReadyH.cons rfl (fun K hK => ?_) AllReadyH.nil
    go_simp
    refine hK.out _ _ HX3.out (fun hHeld => ?_)
    clear hK K
    try go_frame
    refine wpAnyH_done (by kernel_rfl) ?_ _
    go_wp2
    go_returns
    exact ⟨rfl, HFIN.out⟩
end Go.Proofs.YthfebcfdhmihcaaGreatDoor

namespace Go.Proofs.YthfebcfdhmihcaaGreatDoor
open Go.RowKit
variable {L : Loc} {ρ ρ' : Nat → Option Role} {n : Nat} {S : DS} {w w' : World}

def roomN (r : Int) : Nat := if r < 0 ∨ 4000000 < r then 4000000 else r.toNat
def newS (r : Int) : DS := ⟨roomN r, fun _ => [], fun _ _ => [], 0, [], 0, fun _ => 0, 0, false⟩
def newL (b : Nat) : Loc := ⟨b, fun _ => none, none, .slice none 0 0, fun _ => 0, fun _ _ => .slice none 0 0⟩
def newR (b : Nat) : Nat → Option Role := fun k => if k = b then some .disk else none
theorem roomN_le (r : Int) : roomN r ≤ 4000000 := by unfold roomN; split <;> omega
theorem roomN_eq (r : Int) : (roomN r : Int) = if r < 0 ∨ 4000000 < r then 4000000 else r := by unfold roomN; split <;> omega
theorem inv_new (r : Int) (b : Nat) (hb : Blk w b 93 #[.int .i64 (roomN r), .map none, .map none, .slice none 0 0, .int .i64 0, .map none, .int .i64 0, .bool false]) : Inv (newL b) (newR b) 0 (newS r) w where
  hb := by simp [newR, newL]
  blk := hb
  mp _ := .inl ⟨rfl, rfl⟩
  flt := .inl ⟨rfl, fun _ => rfl⟩
  pnd := World.ownsRow_nil _ _ _ _
  pro _ h := by cases h
  fro i hi := by cases hi
  fil i hi := by cases hi
  con _ i hi := by cases hi
  cro _ i _ hi _ := by cases hi
  clen _ i hi := by cases hi
  dok _ p hp := by cases hp
  pok c hc := by cases hc
  old k hk := by unfold newR; rw [if_neg (fun e => by have := blk_lt hb; omega)]
  room := roomN_le r
  bnd := ⟨Nat.le_refl _, Nat.le_refl _, fun _ => Nat.le_refl _, by decide⟩

theorem new_any (r : Int) (w : World) : Calls Tryz.prog 22 #[.int .i64 r] w fun e w' => e = .returned (.pointer (some ⟨w.heap.size, 0, none⟩)) ∧ Inv (newL w.heap.size) (newR w.heap.size) 0 (newS r) w' ∧ Below w.heap.size w w' := by
  obtain ⟨q, hq⟩ : ∃ q : Int, q = roomN r := ⟨_, rfl⟩
  have hE := roomN_eq r
  rw [← hq] at hE
  have HQ := Lib.hid hq
  by_cases h1 : r < 0
  · rw [if_pos (.inl h1)] at hE
    have HE := Lib.hid hE; clear hE hq
    go_enter Tryz.func22, Tryz.ntmps22
    go_wp2
    go_ret
    refine ⟨rfl, inv_new r _ ?_, (Below.refl _ _).alloc (Nat.le_refl _) _⟩
    rw [← HQ.out, HE.out]; exact blk_new _ _ _
  · by_cases h2 : 4000000 < r
    · rw [if_pos (.inr h2)] at hE
      have HE := Lib.hid hE; clear hE hq
      go_enter Tryz.func22, Tryz.ntmps22
      go_wp2
      go_ret
      refine ⟨rfl, inv_new r _ ?_, (Below.refl _ _).alloc (Nat.le_refl _) _⟩
      rw [← HQ.out, HE.out]; exact blk_new _ _ _
    · rw [if_neg (by omega)] at hE
      have HE := Lib.hid hE; clear hE hq
      go_enter Tryz.func22, Tryz.ntmps22
      go_wp2
      go_ret
      refine ⟨rfl, inv_new r _ ?_, (Below.refl _ _).alloc (Nat.le_refl _) _⟩
      rw [← HQ.out, HE.out]; exact blk_new _ _ _

end Go.Proofs.YthfebcfdhmihcaaGreatDoor

namespace Go.Proofs.YthfebcfdhmihcaaGreatDoor
open Go.RowKit
variable {L : Loc} {ρ ρ' : Nat → Option Role} {n : Nat} {S : DS} {w w' : World}

theorem bys_string {v : Value} {l : List UInt8} (h : Bys w v l) : (convert 100 9 v).run Tryz.prog w = .ok (.string (bz l)) w := by
  rcases bys_cases h with ⟨rfl, rfl⟩ | ⟨g, cap, cur, rfl, hg, h1, h2, h3, h4⟩
  · kernel_rfl
  · refine run_convert_bytes_back (P := Tryz.prog) w 100 9 5 ⟨g, 0, none⟩ cap l (by kernel_rfl) (by kernel_rfl) (by kernel_rfl) (fun j hj => ?_)
    rw [Addr.add_lit, Nat.zero_add, cell_of_row w g j cur 5 (0, 0) hg]
    have e : (cur.toList.take l.length)[j]? = (Lib.byteCells l)[j]? := by rw [h4]
    rw [List.getElem?_take_of_lt hj] at e
    simp only [Lib.byteCells, List.getElem?_map, List.getElem?_eq_getElem hj, Option.map_some] at e
    simpa using e
/-- What Content returns. -/
def contZ (S : DS) (p : List UInt8) : List UInt8 := match findL (S.dirs false) p with | none => [] | some i => S.con false i
def hasZ (S : DS) (p : List UInt8) : Bool := (findL (S.dirs false) p).isSome
theorem content_any (h : Inv L ρ n S w) (p : ByteArray) (hp : p.size ≤ 1000000) :
    Calls Tryz.prog 19 #[.pointer (some ⟨L.b, 0, none⟩), .string p] w fun e w' => e = .returned (.tuple #[.string (bz (contZ S p.data.toList)), .bool (hasZ S p.data.toList)]) ∧ w' = w := by
  have HF := Lib.hid (find_any h p hp)
  unfold contZ hasZ
  cases hq : findL (S.dirs false) p.data.toList with
  | none =>
    rw [hq] at HF
    simp only [ptrF, Option.map_none] at HF
    clear h hq
    go_enter Tryz.func19, Tryz.ntmps19
    go_wp2_with (go_at_call 55; (with_reducible refine HF.out.mono ?_); rintro e w1 ⟨rfl, rfl⟩)
    go_ret2
    exact ⟨rfl, rfl⟩
  | some i =>
    rw [hq] at HF
    simp only [ptrF, Option.map_some] at HF
    have hi : i < S.nf := by
      unfold findL at hq
      cases hf : (S.dirs false).find? (fun q => q.1 == p.data.toList) with
      | none => rw [hf] at hq; cases hq
      | some q =>
        rw [hf] at hq
        cases hq
        exact h.dok false q (List.mem_of_find?_eq_some hf)
    have c0 := blk_cell (h.fil i hi) 0 rfl
    have hcv := bys_string (h.con false i hi)
    clear h hq hi
    simp only [Option.isSome_some]
    generalize L.V false i = V at c0 hcv
    generalize bz (S.con false i) = B at hcv ⊢
    go_enter Tryz.func19, Tryz.ntmps19
    go_wp2_with (go_at_call 55; (with_reducible refine HF.out.mono ?_); rintro e w1 ⟨rfl, rfl⟩)
    go_ret2
    exact ⟨rfl, rfl⟩
end Go.Proofs.YthfebcfdhmihcaaGreatDoor

namespace Go.Proofs.YthfebcfdhmihcaaGreatDoor
open Go.RowKit

theorem ofCont_any (k : Int) (nm : ByteArray) (fp : Option Addr) (o : Int) (d : ByteArray) (w : World) :
    Calls Tryz.prog 68 #[.agg #[.int .i64 k, .string nm, .pointer fp, .int .i64 o, .string d]] w fun e w' => e = .returned (.bool (k == 2 || k == 3)) ∧ Below w.heap.size w w' := by
  have hB : Below w.heap.size w (w.alloc (.cells #[.int .i64 k, .string nm, .pointer fp, .int .i64 o, .string d] 96)) := (Below.refl _ _).alloc (Nat.le_refl _) _
  have HB := Lib.hid hB; clear hB
  by_cases h2 : k = 2
  · subst h2
    go_enter Tryz.func68, Tryz.ntmps68
    go_wp2
    go_ret
    exact ⟨rfl, HB.out⟩
  · have e2 : (k == 2) = false := by simpa using h2
    rw [e2, Bool.false_or]
    generalize hq : (k == 3) = q
    go_enter Tryz.func68, Tryz.ntmps68
    go_wp2
    go_ret
    exact ⟨rfl, HB.out⟩
end Go.Proofs.YthfebcfdhmihcaaGreatDoor

namespace Go.Proofs.YthfebcfdhmihcaaGreatDoor
open Go.RowKit
variable {L : Loc} {ρ ρ' : Nat → Option Role} {n : Nat} {S : DS} {w w' : World}

theorem rows_len (F : Nat → Nat) (l : List Chg) : (l.flatMap (Chg.cells F)).length = l.length * 5 := by
  induction l with
  | nil => rfl
  | cons c l ih => rw [List.flatMap_cons, List.length_append, ih, cells_len, List.length_cons]; omega
theorem rows_take (F : Nat → Nat) (l : List Chg) (k : Nat) : (l.take k).flatMap (Chg.cells F) = (l.flatMap (Chg.cells F)).take (k * 5) := by
  induction l generalizing k with
  | nil => simp
  | cons c l ih =>
    cases k with
    | zero => simp
    | succ k =>
      rw [List.take_succ_cons, List.flatMap_cons, List.flatMap_cons, ih, show (k + 1) * 5 = (c.cells F).length + k * 5 by rw [cells_len]; omega, List.take_length_add_append]
theorem rows_drop (F : Nat → Nat) (l : List Chg) (k : Nat) : (l.drop k).flatMap (Chg.cells F) = (l.flatMap (Chg.cells F)).drop (k * 5) := by
  induction l generalizing k with
  | nil => simp
  | cons c l ih =>
    cases k with
    | zero => simp
    | succ k =>
      rw [List.drop_succ_cons, List.flatMap_cons, ih, show (k + 1) * 5 = (c.cells F).length + k * 5 by rw [cells_len]; omega, List.drop_length_add_append]
theorem rows_at (F : Nat → Nat) (l : List Chg) (i j : Nat) (hi : i < l.length) (hj : j < 5) : (l.flatMap (Chg.cells F))[i * 5 + j]? = (l[i].cells F)[j]? := by
  have h := rows_drop F l i
  rw [← List.getElem?_drop, ← h, List.drop_eq_getElem_cons hi, List.flatMap_cons, List.getElem?_append_left (by rw [cells_len]; exact hj)]

/-- The row of pending changes, by its block. -/
structure PRow (w : World) (g cap : Nat) (F : Nat → Nat) (l : List Chg) (cur : Array Value) : Prop where
  blk : w.heap[g]? = some (.cells cur 96 (0, 0))
  len : l.length ≤ cap
  max : cap ≤ maxLen
  size : cur.size = cap * 5
  take : cur.toList.take (l.length * 5) = l.flatMap (Chg.cells F)
theorem prow_of {v : Value} {F : Nat → Nat} {l : List Chg} (h : w.ownsRow 0 96 5 v l.length (l.flatMap (Chg.cells F))) : (v = .slice none 0 0 ∧ l = []) ∨ ∃ g cap cur, v = .slice (some ⟨g, 0, none⟩) l.length cap ∧ PRow w g cap F l cur := by
  rcases h.2 with ⟨rfl, h0⟩ | ⟨g, cap, cur, rfl, _, hg, h1, h2, h3, h4⟩
  · exact .inl ⟨rfl, List.eq_nil_of_length_eq_zero h0⟩
  · exact .inr ⟨g, cap, cur, rfl, hg, h1, h2, h3, h4⟩
theorem prow_back {g cap : Nat} {F : Nat → Nat} {l : List Chg} {cur : Array Value} (h : PRow w g cap F l cur) : w.ownsRow 0 96 5 (.slice (some ⟨g, 0, none⟩) l.length cap) l.length (l.flatMap (Chg.cells F)) :=
  ⟨rows_len F l, .inr ⟨g, cap, cur, rfl, Nat.zero_le _, h.blk, h.len, h.max, h.size, h.take⟩⟩
theorem prow_cell {g cap : Nat} {F : Nat → Nat} {l : List Chg} {cur : Array Value} (h : PRow w g cap F l cur) (i j : Nat) (hi : i < l.length) (hj : j < 5) {v : Value} (hv : (l[i].cells F)[j]? = some v) : w.cell? ⟨g, i * 5 + j, none⟩ = some v := by
  rw [cell_of_row w g (i * 5 + j) cur 96 (0, 0) h.blk]
  have e := rows_at F l i j hi hj
  rw [hv, ← h.take, List.getElem?_take_of_lt (by omega)] at e
  simpa using e
/-- A shorter part of the row. -/
theorem prow_take {g cap : Nat} {F : Nat → Nat} {l : List Chg} {cur : Array Value} (h : PRow w g cap F l cur) (k : Nat) (hk : k ≤ l.length) : PRow w g cap F (l.take k) cur := by
  have e : (l.take k).length = k := by rw [List.length_take]; omega
  refine ⟨h.blk, by rw [e]; exact Nat.le_trans hk h.len, h.max, h.size, ?_⟩
  rw [e, rows_take, ← h.take, List.take_take]
  congr 1
  omega
/-- An entry written at place k of the row. -/
theorem prow_put {g cap : Nat} {F : Nat → Nat} {l : List Chg} {cur : Array Value} (h : PRow w g cap F l cur) (k : Nat) (hk : k < l.length) (c : Chg) :
    PRow (w.setRow g (cur.toList.take (k * 5) ++ c.cells F ++ cur.toList.drop (k * 5 + (c.cells F).length)).toArray) g cap F (l.take k ++ c :: l.drop (k + 1)) (cur.toList.take (k * 5) ++ c.cells F ++ cur.toList.drop (k * 5 + (c.cells F).length)).toArray := by
  have hl : (l.take k ++ c :: l.drop (k + 1)).length = l.length := by simp; omega
  have hc := h.len
  have hz := h.size
  have hk5 : k * 5 + 5 ≤ l.length * 5 := by omega
  have hcz : l.length * 5 ≤ cap * 5 := Nat.mul_le_mul_right _ hc
  refine ⟨setRow_heap w g cur _ 96 _ h.blk, by rw [hl]; exact hc, h.max, ?_, ?_⟩
  · simp only [List.size_toArray, List.length_append, List.length_take, List.length_drop, Array.length_toList, cells_len]
    omega
  · rw [hl]
    have ht := h.take
    rw [List.flatMap_append, List.flatMap_cons, rows_take, rows_drop, ← ht, List.take_take, List.append_assoc, List.take_append, List.take_append]
    simp only [List.length_take, Array.length_toList, cells_len]
    rw [List.take_take, show min (l.length * 5) (k * 5) = k * 5 by omega, show min (k * 5) (l.length * 5) = k * 5 by omega, show min (k * 5) cur.size = k * 5 by omega, List.take_of_length_le (l := c.cells F) (by rw [cells_len]; omega), List.drop_take, show (k + 1) * 5 = k * 5 + 5 by omega]
    congr 3
theorem prow_room {P : Program} {t ty : TypeId} {i : TypeInfo} (ht : P.underlying t = some (.slice 96)) (hi : P.info? 96 = some i) (hz : i.size = 5) {g cap : Nat} {F : Nat → Nat} {l : List Chg} {cur : Array Value} (h : PRow w g cap F l cur) (k : Nat) (hk : k < l.length) (c : Chg)
    (a : Nat) (ha : Blk w a 96 (c.cells F).toArray) :
    (Builtin.append_ #[t, t] ty #[.slice (some ⟨g, 0, none⟩) k cap, .slice (some ⟨a, 0, none⟩) 1 1]).run P w = .ok (.slice (some ⟨g, 0, none⟩) (k + 1) cap) (w.setRow g (cur.toList.take (k * 5) ++ c.cells F ++ cur.toList.drop (k * 5 + (c.cells F).length)).toArray) := by
  have hc := h.len
  have hsz := h.size
  have := run_append_room (P := P) w t ty 96 i ht hi g k cap cur h.blk ⟨a, 0, none⟩ 1 1 (c.cells F) (by rw [cells_len, hz]) (fun j u hj => by
    have := blk_cell ha j (v := u) (by simpa using hj)
    rw [Addr.add_lit]; simpa using this) (cells_one _ _) (by omega) (by rw [hz, cells_len, hsz]; omega)
  rw [hz] at this
  exact this
theorem wpList_append_is {P : Program} {w w' : World} {ops : Array Oper} {rest : List Oper} {o : Oper} {a : Act} {Q : Exit → Act → World → Prop} (hgd : o.guard = none) (s x : Operand) (t u : TypeId)
    (ho : o.op = .call { callee := .builtin .append, args := #[s, x], argTypes := #[t, u] }) {vs vx v : Value} (hs : a.eval s = vs) (hx : a.eval x = vx)
    (hrun : (Builtin.append_ #[t, u] o.type #[vs, vx]).run P w = .ok v w') (h : wpList P ops Q rest (a.put o.dst v) w') : wpList P ops Q (o :: rest) a w := by
  refine wpList_plain hgd fun K hK => ?_
  unfold Oper.wp
  simp [execOp, ho, resolve, invoke, builtin, hs, hx, hrun, Result.andThen]
  exact hK _ _ h
/-- clear of the tail of the row. -/
theorem prow_clear {P : Program} {t ty : TypeId} (ht : P.underlying t = some (.slice 96)) {z : Value} (hv : ∀ w, (zeroValue 96).run P w = .ok z w) (hz5 : z.cells.size = 5) (hz1 : ∀ u ∈ z.cells.toList, u.oneCell' = true) {g cap : Nat} {F : Nat → Nat} {l : List Chg} {cur : Array Value} (h : PRow w g cap F l cur) (k m c : Nat) (hk : k + m ≤ l.length) (hm : 0 < m) :
    ∃ cur', (Builtin.clear_ #[t] ty #[.slice (some ⟨g, k * 5, none⟩) m c]).run P w = .ok (.tuple #[]) (w.setRow g cur') ∧ PRow (w.setRow g cur') g cap F (l.take k) cur' := by
  obtain ⟨zs, hzs⟩ : ∃ zs, zs = (Builtin.zeroCells z.cells m).toList := ⟨_, rfl⟩
  have hzl : zs.length = m * 5 := by rw [hzs, Array.length_toList, size_zeroCells, hz5]
  have hz1' : ∀ u ∈ zs, u.oneCell' = true := by
    intro u hu
    rw [hzs] at hu
    simp only [Builtin.zeroCells, Array.mem_toList_iff, Array.mem_map, Array.mem_range] at hu
    obtain ⟨q, -, rfl⟩ := hu
    have hq : q % z.cells.size < z.cells.size := Nat.mod_lt _ (by omega)
    refine hz1 _ ?_
    rw [getElem!_pos z.cells _ hq]
    simp
  have hc := h.len
  have hsz := h.size
  have hfit : k * 5 + 0 + zs.length ≤ cur.size := by rw [hzl, hsz]; omega
  have hst := run_storeCells_at P g (k * 5) 96 zs 0 cur w h.blk hfit hz1'
  simp only [Nat.add_zero] at hst
  refine ⟨(cur.toList.take (k * 5) ++ zs ++ cur.toList.drop (k * 5 + zs.length)).toArray, ?_, ?_⟩
  · simp only [Builtin.clear_]
    obtain ⟨m', rfl⟩ : ∃ m', m = m' + 1 := ⟨m - 1, by omega⟩
    simp [run_underlying ht, hv, ← hzs, hst]
  · have hkl : k ≤ l.length := by omega
    have e : (l.take k).length = k := by rw [List.length_take]; omega
    refine ⟨setRow_heap w g cur _ 96 _ h.blk, by rw [e]; omega, h.max, ?_, ?_⟩
    · simp only [List.size_toArray, List.length_append, List.length_take, List.length_drop, Array.length_toList, hzl]
      omega
    · rw [e, rows_take, ← h.take, List.take_take, List.append_assoc, List.take_append]
      simp only [List.length_take, Array.length_toList]
      rw [List.take_take, show min (k * 5) (k * 5) = k * 5 by omega, show min (k * 5) (l.length * 5) = k * 5 by omega, show k * 5 - min (k * 5) cur.size = 0 by omega, List.take_zero, List.append_nil]

/-- The row alone has turned. -/
theorem inv_row (h : Inv L ρ n S w) (l : List Chg) (hg : w.grownBy w' L.pv.ownBlock) (hb : w'.ownsRow 0 96 5 L.pv l.length (l.flatMap (Chg.cells L.F))) (hok : ∀ c, c ∈ l → c.Ok S.nf) (hl : l.length ≤ n) :
    Inv L ρ n { S with pend := l } w' ∧ Step L ρ w L ρ w' := by
  have hkr : ∀ k r, ρ k = some r → r ≠ .pend → w'.heap[k]? = w.heap[k]? := fun k r hr hne => hg.block k (h.lt (by rw [hr]; simp)) (fun e => by have := h.pro k e.symm; rw [hr] at this; cases this; exact hne rfl)
  refine ⟨?_, ⟨hg.os, hg.tape, hg.output, hg.size, fun k hk hr => hg.block k hk (fun e => by have := h.pro k e.symm; rw [hr] at this; cases this), fun _ _ => rfl, rfl⟩⟩
  exact {
    hb := h.hb
    blk := (hkr _ _ h.hb (by simp)).trans h.blk
    mp := fun t => mapI_keep (h.mp t) (fun g hg' => hkr g _ hg' (by simp)) (fun _ _ h => h)
    flt := fltI_keep h.flt (fun g hg' => hkr g _ hg' (by simp)) (fun _ _ h => h)
    pnd := hb
    pro := h.pro
    fro := h.fro
    fil := fun j hj => (hkr _ _ (h.fro j hj) (by simp)).trans (h.fil j hj)
    con := fun t j hj => row_keep (h.con t j hj) (fun g hg' => hkr g _ (h.cro t j g hj hg') (by simp))
    cro := h.cro
    clen := h.clen
    dok := h.dok
    pok := hok
    old := fun k hk => h.old k (Nat.le_trans hg.size hk)
    room := h.room
    bnd := ⟨hl, h.bnd.2.1, h.bnd.2.2.1, h.bnd.2.2.2⟩ }
theorem setRow_grown' (w : World) (g : Nat) (cs : Array Value) : w.grownBy (w.setRow g cs) (some g) := ⟨rfl, rfl, rfl, by simp, fun k _ hk => setRow_other w g k cs (fun e => hk (by rw [e]))⟩
end Go.Proofs.YthfebcfdhmihcaaGreatDoor

namespace Go.Proofs.YthfebcfdhmihcaaGreatDoor
open Go.RowKit

def inPathB (c : UInt8) : Bool := (97 ≤ c.toNat && c.toNat ≤ 122) || (65 ≤ c.toNat && c.toNat ≤ 90) || (48 ≤ c.toNat && c.toNat ≤ 57) || c.toNat == 46 || c.toNat == 95 || c.toNat == 45 || c.toNat == 47
def pathB (l : List UInt8) : Bool := decide (l ≠ []) && decide (l.length ≤ 40) && l.all inPathB
theorem idx_in (c : UInt8) : decide ((0 : Int) ≤ Lib.indexByte [46, 95, 45, 47] c) = (c.toNat == 46 || c.toNat == 95 || c.toNat == 45 || c.toNat == 47) := by
  have h : ∀ n : Fin 256, decide ((0 : Int) ≤ Lib.indexByte [46, 95, 45, 47] (n.val.toUInt8)) = ((n.val == 46) || (n.val == 95) || (n.val == 45) || (n.val == 47)) := by decide +kernel
  have := h ⟨c.toNat, c.toNat_lt⟩
  simpa using this

set_option maxHeartbeats 1000000 in
theorem isin_any (c : UInt8) (w : World) : Calls Tryz.prog 103 #[.int .u8 (c.toNat : Int)] w fun e w' => e = .returned (.bool (inPathB c)) ∧ w = w' := by
  have hI := idx_in c
  have hS := fun w => Tryz.strings_IndexByte ⟨#[46, 95, 45, 47]⟩ (c.toNat : Int) w
  rw [show ((c.toNat : Int)).toNat.toUInt8 = c by simp, show (⟨#[46, 95, 45, 47]⟩ : ByteArray).data.toList = [46, 95, 45, 47] from rfl] at hS
  obtain ⟨r, hr⟩ : ∃ r, r = inPathB c := ⟨_, rfl⟩
  rw [← hr]
  unfold inPathB at hr
  generalize Lib.indexByte [46, 95, 45, 47] c = ix at hI hS
  rw [Bool.or_assoc, Bool.or_assoc, Bool.or_assoc, ← Bool.or_assoc (c.toNat == 46), ← Bool.or_assoc (c.toNat == 46 || c.toNat == 95), ← hI] at hr
  have HR := Lib.hid hr
  have hc := c.toNat_lt
  generalize c.toNat = m at *
  clear hr hI
  have HR' := HR.out
  by_cases a1 : 97 ≤ m ∧ m ≤ 122
  · have HT := Lib.hid (show r = true by rw [HR.out]; simp [a1.1, a1.2])
    have x1 : (97 : Int) ≤ m := by omega
    have x2 : (m : Int) ≤ 122 := by omega
    clear HR HR' a1
    go_enter Tryz.func103, Tryz.ntmps103
    go_wp2
    all_goals go_ret
    all_goals exact ⟨by rw [HT.out]; rfl, rfl⟩
  · have q1 : (decide (97 ≤ m) && decide (m ≤ 122)) = false := by simp; omega
    by_cases a2 : 65 ≤ m ∧ m ≤ 90
    · have HT := Lib.hid (show r = true by rw [HR.out]; simp [a2.1, a2.2])
      have x0 : ¬ (97 : Int) ≤ m := by omega
      have x0' : (m : Int) < 97 := by omega
      have x1 : (65 : Int) ≤ m := by omega
      have x2 : (m : Int) ≤ 90 := by omega
      clear HR HR' a1 a2 q1
      go_enter Tryz.func103, Tryz.ntmps103
      go_wp2
      all_goals go_ret
      all_goals exact ⟨by rw [HT.out]; rfl, rfl⟩
    · have q2 : (decide (65 ≤ m) && decide (m ≤ 90)) = false := by simp; omega
      by_cases a3 : 48 ≤ m ∧ m ≤ 57
      · have HT := Lib.hid (show r = true by rw [HR.out]; simp [a3.1, a3.2])
        have x0 : (m : Int) < 97 := by omega
        have x1 : (m : Int) < 65 := by omega
        have x2 : (48 : Int) ≤ m := by omega
        have x3 : (m : Int) ≤ 57 := by omega
        clear HR HR' a1 a2 a3 q1 q2
        go_enter Tryz.func103, Tryz.ntmps103
        go_wp2
        all_goals go_ret
        all_goals exact ⟨by rw [HT.out]; rfl, rfl⟩
      · have q3 : (decide (48 ≤ m) && decide (m ≤ 57)) = false := by simp; omega
        have HT := Lib.hid (show r = decide (0 ≤ ix) by rw [HR.out, q1, q2, q3]; simp)
        have a1' : ¬ ((97 : Int) ≤ m ∧ (m : Int) ≤ 122) := by omega
        have a2' : ¬ ((65 : Int) ≤ m ∧ (m : Int) ≤ 90) := by omega
        have a3' : ¬ ((48 : Int) ≤ m ∧ (m : Int) ≤ 57) := by omega
        clear HR HR' a1 a2 a3 q1 q2 q3
        go_enter Tryz.func103, Tryz.ntmps103
        go_wp2_with (go_at_call 135; (with_reducible refine (hS _).mono ?_); rintro e w' ⟨rfl, rfl⟩)
        all_goals first
          | (exfalso; omega)
          | (go_ret; exact ⟨by rw [HT.out]; rfl, rfl⟩)

theorem path_false {l : List UInt8} {k : Nat} (h : k < l.length) (hb : inPathB l[k] = false) : pathB l = false := by
  have : l.all inPathB = false := by
    rw [List.all_eq_false]
    exact ⟨l[k], List.getElem_mem h, by simp [hb]⟩
  unfold pathB
  rw [this, Bool.and_false]
theorem getElem_list (s : ByteArray) (k : Nat) (h : k < s.size) : s[k] = s.data.toList[k]'(by simpa using h) := by simp; rfl
set_option maxHeartbeats 1000000 in
theorem ispath_any (s : ByteArray) (hs : s.size ≤ 9223372036854775807) (w : World) : Calls Tryz.prog 60 #[.string s] w fun e w' => e = .returned (.bool (pathB s.data.toList)) ∧ w = w' := by
  have hl : s.data.toList.length = s.size := by simp
  by_cases h0 : s.size = 0
  · have hn : s.data.toList = [] := List.eq_nil_of_length_eq_zero (by omega)
    have HT := Lib.hid (show pathB s.data.toList = false by rw [hn]; rfl)
    have t1 : (s.toList == []) = true := beq_iff_eq.2 (by rw [ByteArray.toList_eq]; exact hn)
    clear hl h0 hn
    go_enter Tryz.func60, Tryz.ntmps60
    go_wp2
    all_goals go_ret
    all_goals exact ⟨by rw [HT.out]; rfl, rfl⟩
  have hne : s.data.toList ≠ [] := fun e => h0 (by rw [← hl, e]; rfl)
  have t1 : (s.toList == []) = false := beq_eq_false_iff_ne.2 (by rw [ByteArray.toList_eq]; exact hne)
  by_cases h40 : 40 < s.size
  · have HT := Lib.hid (show pathB s.data.toList = false by unfold pathB; rw [show decide (s.data.toList.length ≤ 40) = false by rw [hl]; simp; omega]; simp)
    have t2 : decide ((40 : Int) < (s.size : Int)) = true := decide_eq_true (by omega)
    clear hl h0 hne
    go_enter Tryz.func60, Tryz.ntmps60
    go_wp2
    all_goals go_ret
    all_goals exact ⟨by rw [HT.out]; rfl, rfl⟩
  have t2 : decide ((40 : Int) < (s.size : Int)) = false := decide_eq_false (by omega)
  have HT := Lib.hid (show s.data.toList.all inPathB = true → pathB s.data.toList = true by intro h; unfold pathB; rw [h, hl]; simp only [Bool.and_true, Bool.and_eq_true, decide_eq_true_eq]; exact ⟨hne, by omega⟩)
  have HL := Lib.hid hl
  obtain ⟨r, hr⟩ : ∃ r, r = pathB s.data.toList := ⟨_, rfl⟩
  have HR := Lib.hid hr
  rw [← hr]
  clear hr hl hne h0
  go_enter Tryz.func60, Tryz.ntmps60
  go_wp2
  go_loop [13] (fun iv => ∃ k : Nat, k ≤ s.size ∧ iv = .int .i64 k ∧ Hid ((s.data.toList.take k).all inPathB = true)) (fun iv => s.size - (intOf iv).toNat)
  case atStart => exact ⟨0, by omega, rfl, Lib.hid rfl⟩
  case round =>
    obtain ⟨k, hk, rfl, hI⟩ := hrel
    by_cases hlt : k < s.size
    · have HK := Lib.hid (fun w => isin_any s[k] w)
      have hkl : k < s.data.toList.length := by rw [HL.out]; exact hlt
      cases hb : inPathB s[k] with
      | false =>
        rw [hb] at HK
        have HF := Lib.hid (show pathB s.data.toList = false from path_false hkl (by rw [← getElem_list s k hlt]; exact hb))
        clear hb
        go_wp2_with (go_at_call 103; (with_reducible refine (HK.out _).mono ?_); rintro e w' ⟨rfl, rfl⟩)
        go_ret
        exact ⟨by rw [HR.out, HF.out]; rfl, rfl⟩
      | true =>
        rw [hb] at HK
        have HA := Lib.hid (show (s.data.toList.take (k + 1)).all inPathB = true by
          rw [List.take_add_one, List.getElem?_eq_getElem hkl, List.all_append, hI.out, ← getElem_list s k hlt]
          simp [hb])
        clear hb
        go_wp2_with (go_at_call 103; (with_reducible refine (HK.out _).mono ?_); rintro e w' ⟨rfl, rfl⟩)
        go_round
        case rel => exact ⟨k + 1, by omega, by go_num, HA⟩
        case measure => simp [intOf]; omega
    · have HF := Lib.hid (show pathB s.data.toList = true from HT.out (by
        have := hI.out
        rwa [List.take_of_length_le (by rw [HL.out]; omega)] at this))
      go_wp2
      go_ret
      exact ⟨by rw [HR.out, HF.out]; rfl, rfl⟩
end Go.Proofs.YthfebcfdhmihcaaGreatDoor

namespace Go.Proofs.YthfebcfdhmihcaaGreatDoor
open Go.RowKit
variable {L : Loc} {ρ ρ' : Nat → Option Role} {n : Nat} {S : DS} {w w' : World}

def lenOf (S : DS) (i : Nat) : Nat := (S.con false i).length
def sumLeft (f : Nat → Nat) (left : Lit → Bool) : List (List UInt8 × Nat) → Nat
  | [] => 0
  | q :: l => (if left (.string q.1) = true then f q.2 else 0) + sumLeft f left l
def usedN (S : DS) : Nat := ((S.dirs false).map fun q => lenOf S q.2).sum
theorem sumLeft_all {f : Nat → Nat} {left : Lit → Bool} : ∀ {l : List (List UInt8 × Nat)}, (∀ q, q ∈ l → left (.string q.1) = true) → sumLeft f left l = (l.map fun q => f q.2).sum
  | [], _ => rfl
  | q :: l, h => by rw [sumLeft, if_pos (h q (List.mem_cons_self ..)), sumLeft_all (fun q' hq => h q' (List.mem_cons_of_mem _ hq)), List.map_cons, List.sum_cons]
theorem sumLeft_none {f : Nat → Nat} {left : Lit → Bool} (h : ∀ z, left z = false) : ∀ l : List (List UInt8 × Nat), sumLeft f left l = 0
  | [] => rfl
  | q :: l => by rw [sumLeft, h, sumLeft_none h l]; rfl
theorem sumLeft_other {f : Nat → Nat} {left : Lit → Bool} {p : List UInt8} : ∀ {l : List (List UInt8 × Nat)}, (∀ q, q ∈ l → q.1 ≠ p) → sumLeft f (fun z => left z && !z.sameKey (.string p)) l = sumLeft f left l
  | [], _ => rfl
  | q :: l, h => by
    have h1 : (Lit.string q.1).sameKey (.string p) = false := beq_eq_false_iff_ne.2 (h q (List.mem_cons_self ..))
    rw [sumLeft, sumLeft, sumLeft_other (fun q' hq => h q' (List.mem_cons_of_mem _ hq)), h1]
    simp
theorem sumLeft_step {f : Nat → Nat} {left : Lit → Bool} {p : List UInt8} {i : Nat} (hl : left (.string p) = true) : ∀ {l : List (List UInt8 × Nat)}, (l.map (·.1)).Nodup → findL l p = some i →
    sumLeft f left l = f i + sumLeft f (fun z => left z && !z.sameKey (.string p)) l
  | [], _, h => by cases h
  | q :: l, hn, h => by
    rw [List.map_cons, List.nodup_cons] at hn
    by_cases e : q.1 = p
    · have hi : q.2 = i := by
        have : (q.1 == p) = true := by simpa using e
        simp only [findL, List.find?_cons, this, Option.map_some, Option.some.injEq] at h
        exact h
      have hs : (Lit.string q.1).sameKey (.string p) = true := by show (q.1 == p) = true; simpa using e
      have ho := sumLeft_other (f := f) (left := left) (p := p) (l := l) (fun q' hq e' => hn.1 (by rw [e, ← e']; exact List.mem_map_of_mem hq))
      rw [sumLeft, sumLeft, ho, hs, e, hl, hi]
      simp
    · have he : (q.1 == p) = false := by simpa using e
      have h' : findL l p = some i := by
        simp only [findL, List.find?_cons, he] at h
        exact h
      have hs : (Lit.string q.1).sameKey (.string p) = false := he
      rw [sumLeft, sumLeft, sumLeft_step hl hn.2 h', hs]
      simp
      omega
theorem fileD_has (F : Nat → Nat) (l : List (List UInt8 × Nat)) (p : List UInt8) : Maps.has (fileD F l) (.string p) = (findL l p).isSome := by
  simp only [fileD, Maps.has, findL, Option.isSome_map]
  induction l with
  | nil => rfl
  | cons q l ih =>
    have : (entL F q).1.sameKey (.string p) = (q.1 == p) := rfl
    simp only [List.map_cons, List.any_cons, this, List.find?_cons]
    cases hq : q.1 == p <;> simp_all
theorem findL_mem {l : List (List UInt8 × Nat)} {p : List UInt8} {i : Nat} (h : findL l p = some i) : (p, i) ∈ l := by
  unfold findL at h
  cases hf : l.find? (fun q => q.1 == p) with
  | none => rw [hf] at h; cases h
  | some q =>
    rw [hf] at h
    have h1 := List.find?_some hf
    have h2 := List.mem_of_find?_eq_some hf
    simp only [Option.map_some, Option.some.injEq] at h
    have h3 : q.1 = p := by simpa using h1
    rw [← h, ← h3]
    exact h2
theorem mem_findL {l : List (List UInt8 × Nat)} {q : List UInt8 × Nat} (h : q ∈ l) : (findL l q.1).isSome = true := by
  unfold findL
  rw [Option.isSome_map, List.find?_isSome]
  exact ⟨q, h, by simp⟩
theorem fileR_at {F : Nat → Nat} {l : List (List UInt8 × Nat)} {p : List UInt8} {i : Nat} {c : Option Addr} {y : DataW Unit × List MemPlace} (h : findL l p = some i) (hc : fileR (.pointer c) = some y) (hy : ∀ zd, (fileD F l).atKey (.string p) zd = y.1) : c = some ⟨F i, 0, none⟩ := by
  have e := fileD_at F l p
  rw [h, hy] at e
  simp only at e
  unfold fileR at hc
  split at hc
  · simp at hc; rw [← hc] at e; cases e
  · rename_i g hg
    simp at hc
    rw [← hc] at e
    injection e with e
    injection e with _ e
    have : g = F i := by omega
    subst this
    injection hg
  · cases hc
theorem keyStr_inv {key : Value} {kl : Lit} (h : keyOf Tryz.prog 9 key = some kl) : ∃ x : ByteArray, key = .string x := by
  cases key <;> simp [keyOf, show Tryz.prog.underlying 9 = some .string by kernel_rfl, mapKey] at h
  exact ⟨_, rfl⟩
theorem keyStr_lit {x : ByteArray} {kl : Lit} (h : keyOf Tryz.prog 9 (.string x) = some kl) : kl = .string x.data.toList := by
  simp [keyOf, show Tryz.prog.underlying 9 = some .string by kernel_rfl, mapKey] at h
  exact h.2.symm
theorem fileR_inv {v : Value} {y : DataW Unit × List MemPlace} (h : fileR v = some y) : ∃ c : Option Addr, v = .pointer c := by
  unfold fileR at h
  split at h
  · exact ⟨_, rfl⟩
  · exact ⟨_, rfl⟩
  · cases h
theorem sumLeft_le {f : Nat → Nat} {left : Lit → Bool} {m : Nat} : ∀ {l : List (List UInt8 × Nat)}, (∀ q, q ∈ l → f q.2 ≤ m) → sumLeft f left l ≤ l.length * m
  | [], _ => by simp [sumLeft]
  | q :: l, h => by
    have h1 := h q (List.mem_cons_self ..)
    have h2 := sumLeft_le (left := left) (fun q' hq => h q' (List.mem_cons_of_mem _ hq))
    rw [sumLeft, List.length_cons, Nat.add_mul]
    split <;> omega

set_option maxHeartbeats 2000000 in
set_option maxRecDepth 100000 in
theorem used_any (h : Inv L ρ n S w) (hk : ((S.dirs false).map (·.1)).Nodup) (hne : S.dirs false ≠ []) :
    Calls Tryz.prog 105 #[.pointer (some ⟨L.b, 0, none⟩)] w fun e w' => e = .returned (.int .i64 (usedN S)) ∧ Below w.heap.size w w' := by
  obtain ⟨g, hg, hgr, hown⟩ : ∃ g, L.m false = some g ∧ ρ g = some (.map false) ∧ w.ownsMap Tryz.prog 9 fileR g (S.dirs false).length (fileD L.F (S.dirs false)) := by
    rcases h.mp false with ⟨_, e⟩ | h
    · exact absurd e hne
    · exact h
  have c1 := blk_cell h.blk 1 rfl
  rw [hg] at c1
  have hbnd : sumLeft (lenOf S) (Maps.has (fileD L.F (S.dirs false))) (S.dirs false) = usedN S := sumLeft_all (fun q hq => by rw [fileD_has]; exact mem_findL hq)
  have hle : ∀ left, sumLeft (lenOf S) left (S.dirs false) ≤ (S.dirs false).length * 4000000 := fun left => sumLeft_le (fun q hq => h.clen false q.2 (h.dok false q hq))
  have hb3 := h.bnd.2.2.1 false
  have hb4 := h.bnd.2.2.2
  have hmul : (S.dirs false).length * 4000000 ≤ 400000000000 := by omega
  have HLE := Lib.hid hle; have HH := Lib.hid h; have HK := Lib.hid hk; have HBD := Lib.hid hbnd; have HMUL := Lib.hid hmul
  have hut : usedN S ≤ 400000000000 := by have := hle (Maps.has (fileD L.F (S.dirs false))); omega
  clear h hk hne hbnd hle hg hgr hb3 hb4 hmul
  go_enter Tryz.func105, Tryz.ntmps105
  go_wp2_with (first
    | (at_range; refine wpList_range_own _ rfl _ 88 rfl 9 94 lawStr underF fileR g _ _ rfl hown ?_; intro w0 hrg0 hg0 hs0)
    | go_in)
  go_frame
  go_loopw [3] (fun v wr => ∃ (left : Lit → Bool) (cnt acc : Nat), v = .int .i64 acc ∧ wr.ranges Tryz.prog 9 fileR g w.heap.size (S.dirs false).length (fileD L.F (S.dirs false)) left cnt ∧ acc ≤ 400000000000 ∧
      Hid (∀ kl, left kl = true → Maps.has (fileD L.F (S.dirs false)) kl = true) ∧ Hid (acc + sumLeft (lenOf S) left (S.dirs false) = usedN S) ∧ Hid (Below w.heap.size w wr))
    (fun _ wr => wr.rangeLeft g w.heap.size)
  case atStart => exact ⟨_, _, 0, rfl, hrg0, by omega, Lib.hid (fun kl h => h), Lib.hid (by rw [Nat.zero_add]; exact HBD.out), Lib.hid ⟨hg0.os, hg0.tape, hg0.output, hg0.size, fun k hk => hg0.block k hk (by simp)⟩⟩
  case round =>
    obtain ⟨left, cnt, acc, rfl, hrg, hacc, HL, HS, HB⟩ := hrel
    clear hown hrg0 hg0 hs0 c1
    go_wp2_with (first
      | (at_next; refine wpList_next_ranges _ rfl _ rfl 9 lawStr fileR Value.string Value.pointer (fun key kl hkey => keyStr_inv hkey) (fun v y hv => fileR_inv hv) g w.heap.size _ _ _ _ rfl hrg ?_ ?_)
      | go_in)
    · intro hc0 hl0
      have e := HS.out
      rw [sumLeft_none hl0, Nat.add_zero] at e
      subst e
      clear hrg
      go_wp2
      go_ret
      exact ⟨rfl, HB.out⟩
    · intro x c kl y1 y2 w1 cnt1 hkey hlx hy hat hrg1 hlt hg1 hs1 hen
      obtain rfl := keyStr_lit hkey
      have hhas := HL.out _ hlx
      rw [fileD_has] at hhas
      obtain ⟨i, hi⟩ := Option.isSome_iff_exists.1 hhas
      obtain rfl := fileR_at hi hy hat
      have him := HH.out.dok false _ (findL_mem hi)
      simp only at him
      have hB1 : Below w.heap.size w w1 := HB.out.trans ⟨hg1.os, hg1.tape, hg1.output, hg1.size, fun k hk => hg1.block k (Nat.lt_of_lt_of_le hk HB.out.size) (fun e => by injection e with e; omega)⟩
      have hI1 := HH.out.below hB1
      have v0 := blk_cell (hI1.fil i him) 0 rfl
      obtain ⟨va, vc, hv, hvc⟩ := bys_slice (hI1.con false i him)
      rw [hv] at v0
      have hst := sumLeft_step (f := lenOf S) hlx HK.out hi
      have hsum := HS.out
      rw [hst] at hsum
      have hlen : lenOf S i = (S.con false i).length := rfl
      have hle2 : acc + lenOf S i ≤ 400000000000 := by omega
      have hm0 : wr.rangeLeft g w.heap.size = cnt := hrg.left_eq
      have hm1 : w1.rangeLeft g w.heap.size = cnt1 := hrg1.left_eq
      have HL1 : Hid (∀ kl, (left kl && !kl.sameKey (.string x.data.toList)) = true → Maps.has (fileD L.F (S.dirs false)) kl = true) := Lib.hid (fun kl hkl => HL.out kl (by revert hkl; cases left kl <;> simp))
      have HS1 := Lib.hid (show acc + (S.con false i).length + sumLeft (lenOf S) (fun z => left z && !z.sameKey (.string x.data.toList)) (S.dirs false) = usedN S by rw [← hlen]; omega)
      have HB1 := Lib.hid hB1; have HRG1 := Lib.hid hrg1
      rw [hlen] at hle2
      generalize hcl : (S.con false i).length = cl at *
      have hadd : IntKind.i64.wrap ((acc : Int) + (cl : Int)) = ((acc + cl : Nat) : Int) := by rw [IntKind.wrap_i64]; omega
      clear hrg hrg1 hI1 hst hsum hv hB1 hhas hy hat hkey HL HS HB hg1 hcl
      go_wp2
      go_roundw
      case rel => exact ⟨_, cnt1, acc + cl, by first | rfl | go_num, HRG1.out, hle2, HL1, HS1, HB1⟩
      case measure => rw [hm0, hm1]; exact hlt
end Go.Proofs.YthfebcfdhmihcaaGreatDoor

namespace Go.Proofs.YthfebcfdhmihcaaGreatDoor
open Go.RowKit
variable {L : Loc} {ρ ρ' : Nat → Option Role} {n : Nat} {S : DS} {w w' : World}

def excB (S : DS) (i : Nat) (size : Int) : Bool := decide (0 < size - ((S.con false i).length : Int)) && decide ((S.room : Int) < (usedN S : Int) + (size - ((S.con false i).length : Int)))
structure ExcI (L : Loc) (ρ : Nat → Option Role) (n : Nat) (S : DS) (w v : World) : Prop where
  inv : Inv L ρ n S v
  below : Below w.heap.size w v
theorem exc_drew (h : ExcI L ρ n S w w') : ExcI L ρ n S w w'.drew := ⟨h.inv.drew, h.below.drew⟩
theorem exc_next {w2 : World} (h : ExcI L ρ n S w w') (hb : Below w'.heap.size w' w2) : ExcI L ρ n S w w2 := ⟨h.inv.below hb, h.below.trans (hb.mono h.below.size)⟩
theorem exc_of (h : ExcI L ρ n S w w') : w'.cell? ⟨L.b, 0, none⟩ = some (.int .i64 S.room) ∧ ExcI L ρ n S w w' := ⟨blk_cell h.inv.blk 0 rfl, h⟩
theorem below_drewN {B : Nat} {a w : World} (h : Below B a w) (n : Nat) : Below B a (w.drewN n) := h.trans ⟨rfl, rfl, rfl, Nat.le_refl _, fun _ _ => rfl⟩
theorem usedN_le (h : Inv L ρ n S w) : usedN S ≤ 400000000000 := by
  have hbnd : sumLeft (lenOf S) (fun _ => true) (S.dirs false) = usedN S := sumLeft_all (fun q _ => rfl)
  have hle := sumLeft_le (f := lenOf S) (left := fun _ => true) (m := 4000000) (l := S.dirs false) (fun q hq => h.clen false q.2 (h.dok false q hq))
  have hb3 := h.bnd.2.2.1 false
  have hb4 := h.bnd.2.2.2
  omega

set_option maxHeartbeats 2000000 in
set_option maxRecDepth 100000 in
theorem exceeds_any (h : Inv L ρ n S w) (hk : ((S.dirs false).map (·.1)).Nodup) (hne : S.dirs false ≠ []) (i : Nat) (hi : i < S.nf) (z : Int) (h1 : 0 ≤ z) (h2 : z ≤ 1000000000) :
    Calls Tryz.prog 64 #[.pointer (some ⟨L.b, 0, none⟩), .pointer (some ⟨L.F i, 0, none⟩), .int .i64 z] w fun e w' => e = .returned (.bool (excB S i z)) ∧ Below w.heap.size w w' := by
  have v0 := blk_cell (h.fil i hi) 0 rfl
  obtain ⟨va, vc, hv, hvc⟩ := bys_slice (h.con false i hi)
  rw [hv] at v0
  have hcl := h.clen false i hi
  have hul := usedN_le h
  have hrl := h.room
  obtain ⟨r, hr⟩ : ∃ r, r = excB S i z := ⟨_, rfl⟩
  rw [← hr]
  unfold excB at hr
  have HU := Lib.hid (fun (v : World) (hI : Inv L ρ n S v) => used_any hI hk hne)
  have HI := Lib.hid (show ExcI L ρ n S w w from ⟨h, Below.refl _ _⟩)
  generalize (S.con false i).length = cl at *
  generalize usedN S = un at *
  have e1 : IntKind.i64.wrap (z - (cl : Int)) = z - (cl : Int) := IntWalk.i64_in _ ⟨by omega, by omega⟩
  clear h hk hv
  by_cases hm : 0 < z - (cl : Int)
  · have t1 : decide (0 < z - (cl : Int)) = true := decide_eq_true hm
    have e2 : IntKind.i64.wrap ((un : Int) + (z - (cl : Int))) = (un : Int) + (z - (cl : Int)) := IntWalk.i64_in _ ⟨by omega, by omega⟩
    rw [t1, Bool.true_and] at hr
    have HR := Lib.hid hr
    clear hr
    generalize hmz : z - (cl : Int) = m at *
    go_enter Tryz.func64, Tryz.ntmps64
    go_upto_region 2 with (fail)
    go_region_held3 (fun v => v.cell? ⟨L.b, 0, none⟩ = some (.int .i64 S.room) ∧ ExcI L ρ n S w v)
      (first | assumption | exact exc_of HI.out | exact exc_of (exc_drew HI.out) | exact exc_of (exc_next (And.right (by assumption)) (by assumption)))
      ((go_at_call 105; (with_reducible refine (HU.out _ (ExcI.inv (And.right (by assumption)))).mono ?_); rintro e w2 ⟨rfl, hb⟩))
    all_goals go_wp2
    all_goals go_ret
    all_goals exact ⟨by rw [HR.out]; rfl, ExcI.below (And.right (by assumption))⟩
  · have t1 : decide (0 < z - (cl : Int)) = false := decide_eq_false hm
    rw [t1, Bool.false_and] at hr
    subst hr
    generalize hmz : z - (cl : Int) = m at *
    go_enter Tryz.func64, Tryz.ntmps64
    go_wp2
    go_quiet (fail)
    go_wp2
    go_ret
    exact ⟨rfl, below_drewN HI.out.below _⟩
end Go.Proofs.YthfebcfdhmihcaaGreatDoor

namespace Go.Proofs.YthfebcfdhmihcaaGreatDoor
open Go.RowKit

def stepP (p : Chg → Bool) (S : DS) (c : Chg) : DS := if p c = true then applyS true c S else S
def keptL (p : Chg → Bool) (l : List Chg) : List Chg := l.filter fun c => !p c
def foldP (p : Chg → Bool) (S : DS) (l : List Chg) : DS := l.foldl (stepP p) S
def midS (p : Chg → Bool) (S : DS) (i : Nat) : DS := { foldP p S (S.pend.take i) with pend := keptL p (S.pend.take i) ++ S.pend.drop (keptL p (S.pend.take i)).length }
def settleS (p : Chg → Bool) (S : DS) : DS := { foldP p S S.pend with pend := keptL p S.pend }

theorem applyS_with (s : Bool) (c : Chg) (S : DS) (x : List Chg) : applyS s c { S with pend := x } = { applyS s c S with pend := x } := by cases c <;> rfl
theorem stepP_nf (p : Chg → Bool) (S : DS) (c : Chg) : (stepP p S c).nf = S.nf := by
  unfold stepP
  split
  · exact applyS_nf _ _ _
  · rfl
theorem foldP_nf (p : Chg → Bool) (S : DS) (l : List Chg) : (foldP p S l).nf = S.nf := by
  induction l generalizing S with
  | nil => rfl
  | cons c l ih => exact (ih (stepP p S c)).trans (stepP_nf p S c)
theorem foldP_snoc (p : Chg → Bool) (S : DS) (l : List Chg) (c : Chg) : foldP p S (l ++ [c]) = stepP p (foldP p S l) c := by unfold foldP; rw [List.foldl_append]; rfl
theorem keptL_snoc (p : Chg → Bool) (l : List Chg) (c : Chg) : keptL p (l ++ [c]) = keptL p l ++ (if p c = true then [] else [c]) := by
  unfold keptL
  rw [List.filter_append]
  congr 1
  cases h : p c <;> simp [h]
theorem keptL_le (p : Chg → Bool) (l : List Chg) : (keptL p l).length ≤ l.length := List.length_filter_le _ _
theorem keptL_mem {p : Chg → Bool} {l : List Chg} {c : Chg} (h : c ∈ keptL p l) : c ∈ l := (List.mem_filter.1 h).1
theorem keptL_take (p : Chg → Bool) (l : List Chg) (i : Nat) : (keptL p (l.take i)).length ≤ i := Nat.le_trans (keptL_le _ _) (by rw [List.length_take]; omega)
theorem midS_zero (p : Chg → Bool) (S : DS) : midS p S 0 = S := by unfold midS; rfl
theorem midS_pend (p : Chg → Bool) (S : DS) (i : Nat) (hi : i ≤ S.pend.length) : (midS p S i).pend.length = S.pend.length := by
  have := keptL_take p S.pend i
  have e : (midS p S i).pend = keptL p (S.pend.take i) ++ S.pend.drop (keptL p (S.pend.take i)).length := rfl
  rw [e, List.length_append, List.length_drop]; omega
theorem midS_at (p : Chg → Bool) (S : DS) (i : Nat) (hi : i < S.pend.length) (h : i < (midS p S i).pend.length) : (midS p S i).pend[i] = S.pend[i] := by
  have hk := keptL_take p S.pend i
  have e : (midS p S i).pend = keptL p (S.pend.take i) ++ S.pend.drop (keptL p (S.pend.take i)).length := rfl
  simp only [e]
  rw [List.getElem_append_right hk, List.getElem_drop]
  congr 1
  omega
theorem midS_nf (p : Chg → Bool) (S : DS) (i : Nat) : (midS p S i).nf = S.nf := foldP_nf p S _
theorem take_snoc {α : Type} (l : List α) (i : Nat) (hi : i < l.length) : l.take (i + 1) = l.take i ++ [l[i]] := by rw [List.take_add_one, List.getElem?_eq_getElem hi]; rfl
theorem midS_true (p : Chg → Bool) (S : DS) (i : Nat) (hi : i < S.pend.length) (hp : p S.pend[i] = true) : midS p S (i + 1) = applyS true S.pend[i] (midS p S i) ∧ keptL p (S.pend.take (i + 1)) = keptL p (S.pend.take i) := by
  have e : keptL p (S.pend.take (i + 1)) = keptL p (S.pend.take i) := by rw [take_snoc _ _ hi, keptL_snoc, if_pos hp, List.append_nil]
  refine ⟨?_, e⟩
  unfold midS
  rw [e, take_snoc _ _ hi, foldP_snoc, applyS_with]
  simp only [stepP, if_pos hp]
theorem midS_false (p : Chg → Bool) (S : DS) (i : Nat) (hi : i < S.pend.length) (hp : p S.pend[i] = false) :
    midS p S (i + 1) = { midS p S i with pend := (midS p S i).pend.take (keptL p (S.pend.take i)).length ++ S.pend[i] :: (midS p S i).pend.drop ((keptL p (S.pend.take i)).length + 1) } ∧ (keptL p (S.pend.take (i + 1))).length = (keptL p (S.pend.take i)).length + 1 := by
  have hn : ¬ p S.pend[i] = true := by rw [hp]; simp
  have e : keptL p (S.pend.take (i + 1)) = keptL p (S.pend.take i) ++ [S.pend[i]] := by rw [take_snoc _ _ hi, keptL_snoc, if_neg hn]
  refine ⟨?_, by rw [e]; simp⟩
  unfold midS
  rw [e, take_snoc _ _ hi, foldP_snoc]
  simp only [stepP, if_neg hn]
  congr 1
  rw [List.length_append, List.length_singleton, List.take_left, List.drop_length_add_append, List.drop_drop, List.append_assoc]
  rfl
theorem midS_end (p : Chg → Bool) (S : DS) : settleS p S = { midS p S S.pend.length with pend := keptL p S.pend } := by
  unfold settleS midS
  rw [List.take_length]
end Go.Proofs.YthfebcfdhmihcaaGreatDoor

namespace Go.Proofs.YthfebcfdhmihcaaGreatDoor
open Go.RowKit
variable {L : Loc} {ρ ρ' : Nat → Option Role} {n : Nat} {S : DS} {w w' : World}

def ofFile (f : Nat) : Chg → Bool
  | .write i _ _ => i == f
  | .trunc i _ => i == f
  | _ => false
def ofDir : Chg → Bool
  | .create _ _ => true
  | .remove _ => true
  | _ => false
theorem inv_inj (h : Inv L ρ n S w) {i j : Nat} (hi : i < S.nf) (hj : j < S.nf) (e : L.F i = L.F j) : i = j := by
  have h1 := h.fro i hi
  rw [e, h.fro j hj] at h1
  injection h1 with h1
  injection h1 with h1
  exact h1.symm
theorem ptr_eql (h : Inv L ρ n S w) {i j : Nat} (hi : i < S.nf) (hj : j < S.nf) (hk : ∀ g, ρ g ≠ none → w'.heap[g]? = w.heap[g]?) :
    (binOp .eql 94 (.pointer (some ⟨L.F i, 0, none⟩)) (.pointer (some ⟨L.F j, 0, none⟩))).run Tryz.prog w' = .ok (.bool (i == j)) w' := by
  obtain ⟨q, hq, hq2⟩ : ∃ q, Tryz.prog.info? 104 = some q ∧ q.size = 2 := by
    have hm : (Tryz.prog.info? 104).map (·.size) = some 2 := by kernel_rfl
    exact Option.map_eq_some_iff.1 hm
  by_cases e : i = j
  · subst e
    rw [show (i == i) = true by simp]
    exact run_eql_ptr_same (P := Tryz.prog) w' ⟨L.F i, 0, none⟩ (by kernel_rfl) hq
  · rw [show (i == j) = false by simpa using e]
    have hb : ∀ k, k < S.nf → w'.heap[(⟨L.F k, 0, none⟩ : Addr).block]? = some (.cells #[L.V false k, L.V true k] 104 (0, 0)) := fun k hk' => (hk _ (by rw [h.fro k hk']; simp)).trans (h.fil k hk')
    exact run_eql_ptr_other (P := Tryz.prog) w' (by kernel_rfl) hq (by omega) (fun e' => e (inv_inj h hi hj (by injection e'))) (hb i hi) (hb j hj)

theorem sync11_any (h : Inv L ρ n S w) (f : Nat) (hf : f < S.nf) (c : Chg) (hc : c.Ok S.nf) (x : Addr) (hx : w.cell? x = some (.pointer (some ⟨L.F f, 0, none⟩))) (_hxs : x.spot = none) :
    Calls Tryz.prog 67 #[.agg (c.cells L.F).toArray, .pointer (some x)] w fun e w' => e = .returned (.bool (ofFile f c)) ∧ Below w.heap.size w w' := by
  have hxl : x.block < w.heap.size := World.block_lt_of_cell? w _ hx
  have key : ∀ (k : Int) (nm : ByteArray) (fp : Option Addr) (o : Int) (d : ByteArray) (r : Bool), (c.cells L.F).toArray = #[.int .i64 k, .string nm, .pointer fp, .int .i64 o, .string d] →
      ((k == 2 || k == 3) = false ∧ r = false ∨ (k == 2 || k == 3) = true ∧ ∀ w' : World, Below w.heap.size w w' → (binOp .eql 94 (.pointer fp) (.pointer (some ⟨L.F f, 0, none⟩))).run Tryz.prog w' = .ok (.bool r) w') →
      Calls Tryz.prog 67 #[.agg (c.cells L.F).toArray, .pointer (some x)] w fun e w' => e = .returned (.bool r) ∧ Below w.heap.size w w' := by
    intro k nm fp o d r hcl hr
    rw [hcl]
    have hb1 : Below w.heap.size w (w.alloc (.cells #[.int .i64 k, .string nm, .pointer fp, .int .i64 o, .string d] 96)) := (Below.refl _ _).alloc (Nat.le_refl _) _
    have HB1 := Lib.hid hb1
    have HX := Lib.hid hx
    have HBX := Lib.hid (blk_new w 96 #[.int .i64 k, .string nm, .pointer fp, .int .i64 o, .string d])
    clear hb1 hcl
    rcases hr with ⟨e, rfl⟩ | ⟨e, hr⟩
    · go_enter Tryz.func67, Tryz.ntmps67
      go_wp2_with (go_at_call 68; (with_reducible refine (ofCont_any k nm fp o d _).mono ?_); rw [e]; rintro e' w1 ⟨rfl, hb⟩)
      go_ret
      exact ⟨rfl, HB1.out.trans (hb.mono HB1.out.size)⟩
    · clear hx
      go_enter Tryz.func67, Tryz.ntmps67
      go_wp2_with (go_at_call 68; (with_reducible refine (ofCont_any k nm fp o d _).mono ?_); rw [e]; rintro e' w1 ⟨rfl, hb⟩
                   have HB2 := Lib.hid (HB1.out.trans (hb.mono HB1.out.size))
                   have hq := hr w1 HB2.out
                   have hx1 : w1.cell? x = some (.pointer (some ⟨L.F f, 0, none⟩)) := by
                     rw [HB2.out.cell hxl]; exact HX.out
                   have hbx : Blk w1 w.heap.size 96 #[.int .i64 k, .string nm, .pointer fp, .int .i64 o, .string d] := (hb.block _ (blk_lt HBX.out)).trans HBX.out
                   have b2 := blk_cell hbx 2 rfl
                   clear hbx hb)
      go_ret
      exact ⟨rfl, HB2.out⟩
  cases c with
  | create nm i => exact key 0 (bz nm) (some ⟨L.F i, 0, none⟩) 0 (bz []) false rfl (.inl ⟨rfl, rfl⟩)
  | remove nm => exact key 1 (bz nm) none 0 (bz []) false rfl (.inl ⟨rfl, rfl⟩)
  | write i o d => exact key 2 (bz []) (some ⟨L.F i, 0, none⟩) o (bz d) (i == f) rfl (.inr ⟨rfl, fun w' hb => ptr_eql h hc.1 hf (fun g hg => hb.block g (h.lt hg))⟩)
  | trunc i z => exact key 3 (bz []) (some ⟨L.F i, 0, none⟩) z (bz []) (i == f) rfl (.inr ⟨rfl, fun w' hb => ptr_eql h hc.1 hf (fun g hg => hb.block g (h.lt hg))⟩)
end Go.Proofs.YthfebcfdhmihcaaGreatDoor

namespace Go.Proofs.YthfebcfdhmihcaaGreatDoor
open Go.RowKit
variable {L : Loc} {ρ ρ' : Nat → Option Role} {n : Nat} {S : DS} {w w' : World}

abbrev SetQ (L : Loc) (ρ : Nat → Option Role) (n : Nat) (S' : DS) (w : World) (e : Ending) (w' : World) : Prop :=
  e = .returned (.tuple #[]) ∧ ∃ L' ρ', Inv L' ρ' n S' w' ∧ Step L ρ w L' ρ' w' ∧ L'.F = L.F
theorem prow_at {v : Value} {F : Nat → Nat} {l : List Chg} (h : w.ownsRow 0 96 5 v l.length (l.flatMap (Chg.cells F))) {g m cap : Nat} (hv : v = .slice (some ⟨g, 0, none⟩) m cap) : ∃ cur, PRow w g cap F l cur := by
  rcases prow_of h with ⟨e, _⟩ | ⟨g', cap', cur, e, hp⟩
  · rw [hv] at e; cases e
  · rw [hv] at e
    injection e with e1 _ e3
    injection e1 with e1
    injection e1 with e1
    subst e1 e3
    exact ⟨cur, hp⟩
theorem prow_keep {g cap : Nat} {F : Nat → Nat} {l : List Chg} {cur : Array Value} (h : PRow w g cap F l cur) (hk : w'.heap[g]? = w.heap[g]?) : PRow w' g cap F l cur := { h with blk := hk.trans h.blk }
theorem prow_lt {g cap : Nat} {F : Nat → Nat} {l : List Chg} {cur : Array Value} (h : PRow w g cap F l cur) : g < w.heap.size := (Array.getElem?_eq_some_iff.1 h.blk).1
theorem prow_chain {g cap : Nat} {F : Nat → Nat} {l : List Chg} {cur : Array Value} (h : PRow w g cap F l cur) {o o' : Obj} (hb : Below (w.alloc o).heap.size (w.alloc o) w') : (w'.alloc o').heap[g]? = w.heap[g]? := by
  have h0 := prow_lt h
  have h1 : g < (w.alloc o).heap.size := by simp; omega
  rw [heap_alloc_old w' o' (Nat.lt_of_lt_of_le h1 hb.size), hb.block g h1, heap_alloc_old w o h0]
theorem settle_run {ty : TypeId} {g cap : Nat} {F : Nat → Nat} {l : List Chg} {cur : Array Value} (h : PRow w g cap F l cur) (k : Nat) (hk : k < l.length) (c : Chg) (a : Nat) (ha : Blk w a 96 (c.cells F).toArray) :
    (Builtin.append_ #[90, 90] ty #[.slice (some ⟨g, 0, none⟩) k cap, .slice (some ⟨a, 0, none⟩) 1 1]).run Tryz.prog w = .ok (.slice (some ⟨g, 0, none⟩) (k + 1) cap) (w.setRow g (cur.toList.take (k * 5) ++ c.cells F ++ cur.toList.drop (k * 5 + (c.cells F).length)).toArray) := by
  obtain ⟨iq, hiq, -, hz1, -⟩ := info_parts chg_info
  exact prow_room (by kernel_rfl) hiq hz1 h k hk c a ha
theorem chg_lit (F : Nat → Nat) (c : Chg) : ∃ (k : Int) (nm : ByteArray) (fp : Option Addr) (o : Int) (d : ByteArray), c.cells F = [.int .i64 k, .string nm, .pointer fp, .int .i64 o, .string d] := by
  cases c <;> exact ⟨_, _, _, _, _, rfl⟩
theorem zeroChg (w : World) : (zeroValue 96).run Tryz.prog w = .ok (.agg #[.int .i64 0, .string ⟨#[]⟩, .pointer none, .int .i64 0, .string ⟨#[]⟩]) w := by kernel_rfl

theorem settleSync_down (h : Inv L ρ n S w) (hd : S.down = true) (fv : Value) : Calls Tryz.prog 66 #[.pointer (some ⟨L.b, 0, none⟩), fv] w fun e w' => e = .returned (.tuple #[]) ∧ w' = w := by
  have c7 := blk_cell h.blk 7 rfl
  rw [hd] at c7
  clear h
  go_enter Tryz.func66, Tryz.ntmps66
  go_wp2
  go_returns
  exact ⟨rfl, rfl⟩

/-- What holds at the head of each round. -/
structure SetI (p : Chg → Bool) (L : Loc) (ρ : Nat → Option Role) (n : Nat) (S : DS) (w : World) (i : Nat) (wr : World) : Prop where
  ex : ∃ L1 ρ1, Inv L1 ρ1 (n + i) (midS p S i) wr ∧ Step L ρ w L1 ρ1 wr ∧ L1.F = L.F ∧ L1.pv = L.pv

set_option maxHeartbeats 4000000 in
set_option maxRecDepth 100000 in
theorem settleSync_any (f : Nat) (x : Addr) (h : Inv L ρ n S w) (hd : S.down = false) (hf : f < S.nf) (hx : w.cell? x = some (.pointer (some ⟨L.F f, 0, none⟩))) (hxs : x.spot = none) (hxr : ρ x.block = none) (hn : n + S.pend.length + 1 ≤ 100000) (g cap : Nat) (hpv : L.pv = .slice (some ⟨g, 0, none⟩) S.pend.length cap) :
    Calls Tryz.prog 66 #[.pointer (some ⟨L.b, 0, none⟩), .func (.func 67) #[] #[.pointer (some x)]] w (SetQ L ρ (n + S.pend.length) (settleS (ofFile f) S) w) := by
  have c7 := blk_cell h.blk 7 rfl
  have c3 := blk_cell h.blk 3 rfl
  rw [hd] at c7
  rw [hpv] at c3
  have HI0 := Lib.hid (show SetI (ofFile f) L ρ n S w 0 w from ⟨L, ρ, by rw [midS_zero]; exact h, Step.refl _ _ _, rfl, rfl⟩)
  have HX := Lib.hid hx
  have HPV := Lib.hid hpv
  have HN := Lib.hid hn
  have HF := Lib.hid hf
  have hxl : x.block < w.heap.size := World.block_lt_of_cell? w _ hx
  have HXL := Lib.hid hxl
  have hcap : S.pend.length ≤ cap := by
    rcases prow_of h.pnd with ⟨e, _⟩ | ⟨g', cap', cur, e, hp⟩
    · rw [hpv] at e; cases e
    · rw [hpv] at e; cases e; exact hp.len
  have hcap0 : (0 : Int) ≤ cap := by omega
  obtain ⟨len, hlen⟩ : ∃ len, len = S.pend.length := ⟨_, rfl⟩
  have HL := Lib.hid hlen
  have HH := Lib.hid h
  rw [← hlen] at c3 hcap
  have hlb : len ≤ 100000 := by omega
  clear h hx hpv hn hd hf hxl hlen
  go_enter Tryz.func66, Tryz.ntmps66
  go_wp2
  go_loopw [4, 21] (fun rest iv wr => ∃ (i k : Nat), i ≤ len ∧ k ≤ i ∧ rest = .slice (some ⟨g, 0, none⟩) k cap ∧ iv = .int .i64 i ∧ Hid (k = (keptL (ofFile f) (S.pend.take i)).length) ∧ Hid (SetI (ofFile f) L ρ n S w i wr)) (fun _ iv _ => len - (intOf iv).toNat)
  case atStart => exact ⟨0, 0, Nat.zero_le _, Nat.le_refl _, rfl, rfl, Lib.hid rfl, HI0⟩
  case round =>
    obtain ⟨i, k, hi, hki, rfl, rfl, hk, hI⟩ := hrel
    by_cases hlt : i < len
    · have hlt' : i < S.pend.length := by have := HL.out; omega
      obtain ⟨L1, ρ1, hI1, hS1, hF1, hpv1⟩ := hI.out
      have hb1 : L1.b = L.b := hS1.b
      have hcO : S.pend[i].Ok S.nf := HH.out.pok _ (List.getElem_mem hlt')
      have hmp := midS_pend (ofFile f) S i (Nat.le_of_lt hlt')
      have hmi : i < (midS (ofFile f) S i).pend.length := by omega
      have hma := midS_at (ofFile f) S i hlt' hmi
      obtain ⟨cur, hP⟩ := prow_at hI1.pnd (hpv1.trans HPV.out)
      rw [hF1] at hP
      obtain ⟨ck, nm, fp, o, d, hcl⟩ := chg_lit L.F S.pend[i]
      have r0 := prow_cell hP i 0 hmi (by omega) (v := .int .i64 ck) (by rw [hma, hcl]; rfl)
      have r1 := prow_cell hP i 1 hmi (by omega) (v := .string nm) (by rw [hma, hcl]; rfl)
      have r2 := prow_cell hP i 2 hmi (by omega) (v := .pointer fp) (by rw [hma, hcl]; rfl)
      have r3 := prow_cell hP i 3 hmi (by omega) (v := .int .i64 o) (by rw [hma, hcl]; rfl)
      have r4 := prow_cell hP i 4 hmi (by omega) (v := .string d) (by rw [hma, hcl]; rfl)
      rw [Nat.add_zero] at r0
      have hIA := hI1.alloc (.cells #[.int .i64 ck, .string nm, .pointer fp, .int .i64 o, .string d] 96)
      have hbA : Below wr.heap.size wr (wr.alloc (.cells #[.int .i64 ck, .string nm, .pointer fp, .int .i64 o, .string d] 96)) := (Below.refl _ _).alloc (Nat.le_refl _) _
      have hSA : Step L ρ w L1 ρ1 (wr.alloc (.cells #[.int .i64 ck, .string nm, .pointer fp, .int .i64 o, .string d] 96)) := hS1.trans (Step.below hbA)
      have hxA : (wr.alloc (.cells #[.int .i64 ck, .string nm, .pointer fp, .int .i64 o, .string d] 96)).cell? x = some (.pointer (some ⟨L1.F f, 0, none⟩)) := by
        rw [hF1, World.cell?_of_block (a := x) (hSA.blk x.block HXL.out hxr)]; exact HX.out
      have hK := sync11_any hIA f (by rw [midS_nf]; exact HF.out) S.pend[i] (by rw [midS_nf]; exact hcO) x hxA hxs
      have hbx := blk_new wr 96 #[.int .i64 ck, .string nm, .pointer fp, .int .i64 o, .string d]
      rw [hF1, hcl] at hK
      have hro := hI1.old wr.heap.size (Nat.le_refl _)
      have HK := Lib.hid hK; have HIA := Lib.hid hIA; have HSA := Lib.hid hSA; have HBX := Lib.hid hbx; have HCL := Lib.hid hcl; have HB1 := Lib.hid hb1; have HP := Lib.hid hP; have HRO := Lib.hid hro; have HCO := Lib.hid hcO; have HF1 := Lib.hid hF1; have HPV1 := Lib.hid hpv1; have HMP := Lib.hid hmp
      have hlti : (i : Int) < len := by omega
      clear hK hIA hSA hbx hcl hb1 hP hro hcO hF1 hpv1 hma hmp hI1 hS1 hbA hxA hI
      by_cases hp : ofFile f S.pend[i] = true
      · rw [hp] at HK
        have HST := Lib.hid (midS_true (ofFile f) S i hlt' hp)
        clear hp
        go_wp2_with (first
          | (go_at_call 67; (with_reducible refine HK.out.mono ?_); rintro e w2 ⟨rfl, hb2⟩
             have HI2 := Lib.hid (HIA.out.below hb2)
             have HA := Lib.hid (apply_any true S.pend[i] HI2.out (by rw [midS_nf]; exact HCO.out) (by have := HN.out; have := HL.out; omega))
             rw [HF1.out, HCL.out, HB1.out, show stI true = 1 from rfl] at HA
             have hbx2 : Blk w2 wr.heap.size 96 _ := (hb2.block _ (blk_lt HBX.out)).trans HBX.out
             have HS2 := Lib.hid (HSA.out.trans (Step.below hb2))
             have b0 := blk_cell hbx2 0 rfl; have b1 := blk_cell hbx2 1 rfl; have b2 := blk_cell hbx2 2 rfl; have b3 := blk_cell hbx2 3 rfl; have b4 := blk_cell hbx2 4 rfl
             clear hb2 hbx2)
          | (go_at_call 96; (with_reducible refine HA.out.mono ?_); rintro e w3 ⟨rfl, L3, ρ3, hI3, hS3, hF3, hpv3⟩
             have HI3 := Lib.hid (show SetI (ofFile f) L ρ n S w (i + 1) w3 from ⟨L3, ρ3, by rw [HST.out.1, ← Nat.add_assoc]; exact hI3, HS2.out.trans hS3, hF3.trans HF1.out, hpv3.trans HPV1.out⟩)
             clear hI3 hS3 hF3 hpv3))
        go_roundw
        case rel => exact ⟨i + 1, k, by omega, by omega, rfl, by go_num, Lib.hid (by rw [HST.out.2]; exact hk.out), HI3⟩
        case measure => simp [intOf]; omega
      · have hpf : ofFile f S.pend[i] = false := by simpa using hp
        rw [hpf] at HK
        have HST := Lib.hid (midS_false (ofFile f) S i hlt' hpf)
        clear hp hpf
        go_wp2_with (first
          | (go_at_call 67; (with_reducible refine HK.out.mono ?_); rintro e w2 ⟨rfl, hb2⟩
             have HI2 := Lib.hid (HIA.out.below hb2)
             have hbx2 : Blk w2 wr.heap.size 96 _ := (hb2.block _ (blk_lt HBX.out)).trans HBX.out
             have HS2 := Lib.hid (HSA.out.trans (Step.below hb2))
             have HP2 := Lib.hid (prow_keep HP.out (w' := w2.alloc (.cells #[.int .i64 ck, .string nm, .pointer fp, .int .i64 o, .string d] 96)) (prow_chain HP.out hb2))
             have HRUN := Lib.hid (settle_run (ty := 90) HP2.out k (by have := HMP.out; have := HL.out; omega) S.pend[i] w2.heap.size (by rw [HCL.out]; exact blk_new w2 _ _))
             have b0 := blk_cell hbx2 0 rfl; have b1 := blk_cell hbx2 1 rfl; have b2 := blk_cell hbx2 2 rfl; have b3 := blk_cell hbx2 3 rfl; have b4 := blk_cell hbx2 4 rfl
             clear hb2 hbx2)
          | (at_builtin; refine wpList_append_is rfl _ _ _ _ rfl rfl rfl HRUN.out ?_))
        have hbB : Below w2.heap.size w2 (w2.alloc (.cells #[.int .i64 ck, .string nm, .pointer fp, .int .i64 o, .string d] 96)) := (Below.refl _ _).alloc (Nat.le_refl _) _
        have hI3 := inv_row (w' := ((w2.alloc (.cells #[.int .i64 ck, .string nm, .pointer fp, .int .i64 o, .string d] 96)).setRow g (cur.toList.take (k * 5) ++ S.pend[i].cells L.F ++ cur.toList.drop (k * 5 + (S.pend[i].cells L.F).length)).toArray)) (HI2.out.below hbB) ((midS (ofFile f) S i).pend.take k ++ S.pend[i] :: (midS (ofFile f) S i).pend.drop (k + 1)) (by rw [HPV1.out, HPV.out]; exact setRow_grown' _ g _)
          (by
            have hq := prow_back (prow_put HP2.out k (by have := HMP.out; have := HL.out; omega) S.pend[i])
            have hlq : ((midS (ofFile f) S i).pend.take k ++ S.pend[i] :: (midS (ofFile f) S i).pend.drop (k + 1)).length = S.pend.length := by
              have := HMP.out; have := HL.out
              rw [List.length_append, List.length_cons, List.length_take, List.length_drop]; omega
            rw [HPV1.out, HPV.out, HF1.out]
            rw [hlq] at hq ⊢
            exact hq)
          (fun y hy => by
            rw [midS_nf]
            rcases List.mem_append.1 hy with hy | hy
            · have := HI2.out.pok _ (List.mem_of_mem_take hy); rwa [midS_nf] at this
            · rcases List.mem_cons.1 hy with rfl | hy
              · exact HCO.out
              · have := HI2.out.pok _ (List.mem_of_mem_drop hy); rwa [midS_nf] at this)
          (by
            have h1 := HMP.out; have h2 := HL.out; have h3 := HH.out.bnd.1
            rw [List.length_append, List.length_cons, List.length_take, List.length_drop]; omega)
        have HI3 := Lib.hid (show SetI (ofFile f) L ρ n S w (i + 1) _ from ⟨L1, ρ1, by
          rw [HST.out.1, ← hk.out, ← Nat.add_assoc]
          exact hI3.1.mono (Nat.le_succ _) (by have := HN.out; have := HL.out; omega), HS2.out.trans ((Step.below hbB).trans hI3.2), HF1.out, HPV1.out⟩)
        rw [List.append_assoc] at HI3
        clear hI3 hbB
        go_wp2
        go_roundw
        case rel => exact ⟨i + 1, k + 1, by omega, by omega, rfl, by go_num, Lib.hid (by rw [HST.out.2, ← hk.out]), HI3⟩
        case measure => simp [intOf]; omega
    · obtain rfl : i = len := by omega
      obtain ⟨L1, ρ1, hI1, hS1, hF1, hpv1⟩ := hI.out
      have hb1 : L1.b = L.b := hS1.b
      have hmp := midS_pend (ofFile f) S S.pend.length (Nat.le_refl _)
      rw [HL.out] at hI1
      have hkl : k = (keptL (ofFile f) S.pend).length := by rw [hk.out, HL.out, List.take_length]
      have hkt : (midS (ofFile f) S S.pend.length).pend.take k = keptL (ofFile f) S.pend := by
        have e : (midS (ofFile f) S S.pend.length).pend = keptL (ofFile f) (S.pend.take S.pend.length) ++ S.pend.drop (keptL (ofFile f) (S.pend.take S.pend.length)).length := rfl
        rw [e, List.take_length, hkl, List.take_left]
      obtain ⟨cur, hP⟩ := prow_at hI1.pnd (hpv1.trans HPV.out)
      have hbk := hI1.blk
      rw [hb1, hpv1, HPV.out, ← HL.out] at hbk
      have hpr : ρ1 g = some .pend := hI1.pro g (by rw [hpv1, HPV.out]; rfl)
      have hbg : L.b ≠ g := fun e => by have h1 := hI1.hb; rw [hb1, e, hpr] at h1; cases h1
      have hkm : ∀ c, c ∈ keptL (ofFile f) S.pend → c.Ok (midS (ofFile f) S S.pend.length).nf := fun c hc => by rw [midS_nf]; exact HH.out.pok c (keptL_mem hc)
      have fin : ∀ (W : World) (cur' : Array Value), wr.grownBy W (some g) → PRow W g cap L1.F ((midS (ofFile f) S S.pend.length).pend.take k) cur' →
          SetQ L ρ (n + S.pend.length) (settleS (ofFile f) S) w (.returned (.tuple #[])) (W.setCell ⟨L.b, 3, none⟩ (.slice (some ⟨g, 0, none⟩) k cap)) := by
        intro W cur' hg hq
        have hq2 := prow_back hq
        rw [hkt, ← hkl] at hq2
        obtain ⟨ρ', hA, hB⟩ := inv_pend (n' := n + S.pend.length) hI1 (v1 := .slice (some ⟨g, 0, none⟩) k cap) (keptL (ofFile f) S.pend) (by rw [hpv1, HPV.out]; exact hg) (by rw [← hkl]; exact hq2) hkm (.inl (by rw [hpv1, HPV.out]; rfl)) (Nat.le_refl _) (by have := HN.out; omega) (by have := keptL_le (ofFile f) S.pend; have := HH.out.bnd.1; omega)
        rw [hb1] at hA hB
        exact ⟨rfl, _, ρ', by rw [midS_end]; exact hA, hS1.trans hB, hF1⟩
      have HFIN := Lib.hid fin
      have d3 := blk_cell hbk 3 rfl
      have f3 := blk_frozen hbk 3
      by_cases hkn : k = i
      · subst hkn
        have hc0 : ∀ (a : Option Addr) (c : Nat) ty, (Builtin.clear_ #[90] ty #[.slice a 0 c]).run Tryz.prog wr = .ok (.tuple #[]) wr := by
          intro a c ty
          cases a <;> simp [Builtin.clear_, run_underlying (P := Tryz.prog) (show Tryz.prog.underlying 90 = some (.slice 96) by kernel_rfl)] <;> rfl
        have hq0 := fin wr cur (grown_refl _ _) (by
          have := prow_take hP k (by rw [hmp]; have := HL.out; omega)
          exact this)
        have HQ := Lib.hid hq0
        clear fin HFIN hI1 hS1 hP hbk hkm hkt hq0 hpr hkl
        go_wp2
        all_goals go_returns
        all_goals first
          | exact HQ.out
          | (have e : cap = k := by omega
             rw [e] at HQ
             exact HQ.out)
      · have hkc : k < cap := by omega
        have hkn' : k < i := by omega
        have hcl := fun ty => prow_clear (P := Tryz.prog) (t := 90) (ty := ty) (by kernel_rfl) zeroChg (by rfl) (by simp [Value.cells, Value.oneCell']) hP k (i - k) (cap - k) (by rw [hmp]; have := HL.out; omega) (by omega)
        obtain ⟨cur', hclr, hP'⟩ := hcl 0
        have hW := setRow_grown' wr g cur'
        have hbW : Blk (wr.setRow g cur') L.b 93 _ := (setRow_other wr g L.b cur' hbg).trans hbk
        have e3 := blk_cell hbW 3 rfl
        have g3 := blk_frozen hbW 3
        have HQ := Lib.hid (fin (wr.setRow g cur') cur' hW hP')
        have hkc1 : ¬ cap - k = 0 := by omega
        have hkc2 : (k : Int) < cap := by omega
        clear fin HFIN hI1 hS1 hP hbk hkm hkt hpr hkl hcl hP' hW hbW
        go_wp2
        all_goals go_returns
        all_goals exact HQ.out

set_option maxHeartbeats 1000000 in
theorem settleSync_nil (fv : Value) (p : Chg → Bool) (h : Inv L ρ n S w) (hd : S.down = false) (hp : S.pend = []) (hpv : L.pv = .slice none 0 0) :
    Calls Tryz.prog 66 #[.pointer (some ⟨L.b, 0, none⟩), fv] w (SetQ L ρ n (settleS p S) w) := by
  have hB := h.blk
  rw [hd, hpv] at hB
  have c7 := blk_cell hB 7 rfl
  have c3 := blk_cell hB 3 rfl
  have f3 := blk_frozen hB 3
  have e : settleS p S = { S with pend := [] } := by unfold settleS foldP keptL; rw [hp]; rfl
  obtain ⟨ρ', hA, hS⟩ := inv_pend (n' := n) h (v1 := .slice none 0 0) [] (grown_refl w _) (World.ownsRow_nil _ _ _ _) (fun c hc => by cases hc) (.inl (by rw [hpv])) (Nat.le_refl _) h.bnd.2.2.2 (Nat.zero_le _)
  have HFIN := Lib.hid (show SetQ L ρ n (settleS p S) w (.returned (.tuple #[])) (w.setCell ⟨L.b, 3, none⟩ (.slice none 0 0)) from ⟨rfl, _, ρ', by rw [e]; exact hA, hS, rfl⟩)
  have hc0 : ∀ (c : Nat) ty, (Builtin.clear_ #[90] ty #[.slice none 0 c]).run Tryz.prog w = .ok (.tuple #[]) w := by
    intro c ty
    simp [Builtin.clear_, run_underlying (P := Tryz.prog) (show Tryz.prog.underlying 90 = some (.slice 96) by kernel_rfl)]
  clear h hB hp hpv hA hS e hd
  go_enter Tryz.func66, Tryz.ntmps66
  go_wp2
  go_loopw [4, 21] (fun rest iv wr => rest = .slice none 0 0 ∧ iv = .int .i64 0 ∧ wr = w) (fun _ _ _ => 0)
  case atStart => exact ⟨rfl, rfl, rfl⟩
  case round =>
    obtain ⟨rfl, rfl, rfl⟩ := hrel
    go_wp2
    go_returns
    exact HFIN.out
/-- settle with the choice that Sync makes. -/
theorem settleSync (f : Nat) (x : Addr) (h : Inv L ρ n S w) (hd : S.down = false) (hf : f < S.nf) (hx : w.cell? x = some (.pointer (some ⟨L.F f, 0, none⟩))) (hxs : x.spot = none) (hxr : ρ x.block = none) (hn : n + S.pend.length + 1 ≤ 100000) :
    Calls Tryz.prog 66 #[.pointer (some ⟨L.b, 0, none⟩), .func (.func 67) #[] #[.pointer (some x)]] w (SetQ L ρ (n + S.pend.length) (settleS (ofFile f) S) w) := by
  rcases prow_of h.pnd with ⟨e, hp⟩ | ⟨g, cap, cur, e, -⟩
  · have := settleSync_nil (.func (.func 67) #[] #[.pointer (some x)]) (ofFile f) h hd hp e
    rw [hp]
    exact this
  · exact settleSync_any f x h hd hf hx hxs hxr hn g cap e
end Go.Proofs.YthfebcfdhmihcaaGreatDoor

namespace Go.Proofs.YthfebcfdhmihcaaGreatDoor
open Go.RowKit Go.Extern.Stop Go.Stop Go.Extern

/-- What errors.errorType holds. -/
def Glob (w : World) : Prop := w.cell? ⟨1, 0, none⟩ = some (.iface 167 (.agg #[.pointer (some ⟨6, 57, none⟩)]))

theorem one_arg {α : Type} (v : Value) (h1 : Value → α) (h2 : Array Value → α) : ReflectliteValue.method.match_2 (fun _ => α) #[v] h1 h2 = h1 v := rfl
theorem two_args {α : Type} (v x : Value) (h1 : Value → Value → α) (h2 : Array Value → α) : ReflectliteValue.set.match_3 (fun _ => α) #[v, x] h1 h2 = h1 v x := rfl
theorem valueOf76 (t : Addr) (w : World) : (ReflectliteValue.unpack (.iface 125 (.pointer (some t)))).run Tryz.prog w
    = .ok (.agg #[.pointer (some ⟨6, 125, none⟩), .pointer (some ⟨w.heap.size, 0, none⟩), .int .u64 150]) (w.alloc (.cells #[.pointer (some t)] 125)) := by kernel_rfl
theorem type76 (a : Addr) (w : World) : (ReflectliteValue.methodAny (ReflectliteValue.valueError "reflectlite.Value.Type" 0) (fun t _ _ _ => ReflectliteType.toType t) #[.agg #[.pointer (some ⟨6, 125, none⟩), .pointer (some a), .int .u64 150]]).run Tryz.prog w
    = .ok (.iface 167 (.agg #[.pointer (some ⟨6, 125, none⟩)])) w := by kernel_rfl
theorem methodKind (h : Value) (w : World) : (Go.method 121 167 (.agg #[h]) "Kind").run Tryz.prog w = .ok (233, h) w := by kernel_rfl
theorem kind76 (w : World) : ((ReflectliteType.abiMethod fun t => (fun a : Nat => Value.int IntKind.u8 (a : Int)) <$> Rtype.kind t) #[.pointer (some ⟨6, 125, none⟩)]).run Tryz.prog w = .ok (.int .u8 22) w := by kernel_rfl
theorem kind25 (w : World) : ((ReflectliteType.abiMethod fun t => (fun a : Nat => Value.int IntKind.u8 (a : Int)) <$> Rtype.kind t) #[.pointer (some ⟨6, 29, none⟩)]).run Tryz.prog w = .ok (.int .u8 2) w := by kernel_rfl
theorem parts76 (a : Addr) (w : World) : (ReflectliteValue.parts (.agg #[.pointer (some ⟨6, 125, none⟩), .pointer (some a), .int .u64 150])).run Tryz.prog w = .ok (some (125, a, 150)) w := by kernel_rfl
theorem isNil76 (a p : Addr) (W : World) (ha : W.cell? a = some (.pointer (some p))) :
    (ReflectliteValue.method (ReflectliteValue.valueError "reflectlite.Value.IsNil" 0) ReflectliteValue.isNil #[.agg #[.pointer (some ⟨6, 125, none⟩), .pointer (some a), .int .u64 150]]).run Tryz.prog W = .ok (.bool false) W := by
  unfold ReflectliteValue.method
  rw [one_arg]
  simp only [Sem.run_bind, parts76, Result.andThen]
  simp [ReflectliteValue.isNil, loadVar, isAgg, underlying, ha, Result.andThen]
theorem methodElem (h : Value) (w : World) : (Go.method 121 167 (.agg #[h]) "Elem").run Tryz.prog w = .ok (243, .agg #[h]) w := by kernel_rfl
theorem methodImplements (h : Value) (w : World) : (Go.method 121 167 (.agg #[h]) "Implements").run Tryz.prog w = .ok (244, .agg #[h]) w := by kernel_rfl
theorem methodAssignableTo (h : Value) (w : World) : (Go.method 121 167 (.agg #[h]) "AssignableTo").run Tryz.prog w = .ok (241, .agg #[h]) w := by kernel_rfl
theorem elem76 (w : World) : (ReflectliteType.method ReflectliteType.elem #[.agg #[.pointer (some ⟨6, 125, none⟩)]]).run Tryz.prog w = .ok (.iface 167 (.agg #[.pointer (some ⟨6, 29, none⟩)])) w := by kernel_rfl
theorem implements25 (w : World) : (ReflectliteType.relation "Implements" ReflectliteType.implements_ #[.agg #[.pointer (some ⟨6, 29, none⟩)], .iface 167 (.agg #[.pointer (some ⟨6, 57, none⟩)])]).run Tryz.prog w = .ok (.bool true) w := by kernel_rfl
theorem typeOf25 (v : Value) (w : World) : (ReflectliteType.typeOf #[.iface 29 v]).run Tryz.prog w = .ok (.iface 167 (.agg #[.pointer (some ⟨6, 29, none⟩)])) w := by kernel_rfl
theorem assignable25 (w : World) : (ReflectliteType.relation "AssignableTo" ReflectliteType.assignableTo #[.agg #[.pointer (some ⟨6, 29, none⟩)], .iface 167 (.agg #[.pointer (some ⟨6, 29, none⟩)])]).run Tryz.prog w = .ok (.bool true) w := by kernel_rfl
theorem valueOf25 (x : Int) (w : World) : (ReflectliteValue.unpack (.iface 29 (.int .i64 x))).run Tryz.prog w
    = .ok (.agg #[.pointer (some ⟨6, 29, none⟩), .pointer (some ⟨w.heap.size, 0, none⟩), .int .u64 130]) (w.alloc (.cells #[.int .i64 x] 29)) := by kernel_rfl
theorem elemOf76 (w : World) : (Rtype.elem? 125).run Tryz.prog w = .ok (some 29) w := by kernel_rfl
theorem mk25 (p : Addr) (w : World) : (ReflectliteValue.mk 29 p ReflectliteValue.flagAddr).run Tryz.prog w = .ok (.agg #[.pointer (some ⟨6, 29, none⟩), .pointer (some p), .int .u64 386]) w := by kernel_rfl
theorem elemV76 (a p : Addr) (W : World) (ha : W.cell? a = some (.pointer (some p))) :
    (ReflectliteValue.method (ReflectliteValue.valueError "reflectlite.Value.Elem" 0) ReflectliteValue.elem #[.agg #[.pointer (some ⟨6, 125, none⟩), .pointer (some a), .int .u64 150]]).run Tryz.prog W
      = .ok (.agg #[.pointer (some ⟨6, 29, none⟩), .pointer (some p), .int .u64 386]) W := by
  unfold ReflectliteValue.method
  rw [one_arg]
  simp only [Sem.run_bind, parts76, Result.andThen]
  simp [ReflectliteValue.elem, loadVar, isAgg, underlying, ha, Result.andThen, elemOf76, mk25]
theorem parts25a (a : Addr) (w : World) : (ReflectliteValue.parts (.agg #[.pointer (some ⟨6, 29, none⟩), .pointer (some a), .int .u64 386])).run Tryz.prog w = .ok (some (29, a, 386)) w := by kernel_rfl
theorem parts25 (a : Addr) (w : World) : (ReflectliteValue.parts (.agg #[.pointer (some ⟨6, 29, none⟩), .pointer (some a), .int .u64 130])).run Tryz.prog w = .ok (some (29, a, 130)) w := by kernel_rfl
theorem direct25 (w : World) : (Rtype.directlyAssignable 29 29).run Tryz.prog w = .ok true w := by kernel_rfl
theorem set25 (ta b : Addr) (x : Int) (old : Value) (W : World) (hb : W.cell? b = some (.int .i64 x)) (ht : W.cell? ta = some old) (hf : W.frozen? ta = false) :
    (ReflectliteValue.set #[.agg #[.pointer (some ⟨6, 29, none⟩), .pointer (some ta), .int .u64 386], .agg #[.pointer (some ⟨6, 29, none⟩), .pointer (some b), .int .u64 130]]).run Tryz.prog W
      = .ok (.tuple #[]) (W.setCell ta (.int .i64 x)) := by
  unfold ReflectliteValue.set
  rw [two_args]
  simp only [Sem.run_bind, parts25a, parts25, Result.andThen]
  simp [ReflectliteValue.flagAddr, loadVar, isAgg, underlying, hb, Result.andThen, direct25, storeVar, Value.cells, storeCells, Addr.add]
  rw [run_store Tryz.prog W ta _ _ (by rfl)]
  simp [ht, hf]
end Go.Proofs.YthfebcfdhmihcaaGreatDoor
