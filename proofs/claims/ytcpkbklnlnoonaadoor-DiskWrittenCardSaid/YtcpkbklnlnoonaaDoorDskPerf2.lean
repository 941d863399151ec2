/-
  Layer 7: perform: a change becomes visible, and is pending behind those that already are. Condition: the change is one of this disk's, the sizes are those that the invariant holds.
-/
import Derived.Test.YtcpkbklnlnoonaaDoorDskPerform
import Derived.Maps.AppendAt
namespace Go.Proofs.YtcpkbklnlnoonaaDoor
open Go.RowKit
variable {L : Loc} {ρ ρ' : Nat → Option Role} {n : Nat} {S : DS} {w w' : World}

def perfS (c : Chg) (S : DS) : DS := { applyS false c S with pend := S.pend ++ [c] }
theorem applyS_pend (s : Bool) (c : Chg) (S : DS) : (applyS s c S).pend = S.pend := by cases c <;> rfl
theorem applyS_nf (s : Bool) (c : Chg) (S : DS) : (applyS s c S).nf = S.nf := by cases c <;> rfl
theorem row_shape {e : TypeId} {size k : Nat} {v : Value} {xs : List Value} (h : w.ownsRow 0 e size v (k + 1) xs) : ∃ g cap, v = .slice (some ⟨g, 0, none⟩) (k + 1) cap := by
  rcases h.2 with ⟨_, h0⟩ | ⟨g, cap, cur, rfl, _⟩
  · omega
  · exact ⟨g, cap, rfl⟩
theorem row_any {e : TypeId} {size k : Nat} {v : Value} {xs : List Value} (h : w.ownsRow 0 e size v k xs) : ∃ a cap, v = .slice a k cap := by
  rcases h.2 with ⟨rfl, rfl⟩ | ⟨g, cap, cur, rfl, _⟩
  · exact ⟨none, 0, rfl⟩
  · exact ⟨_, cap, rfl⟩

/-- The append of perform, in a world where the new change lies in a block of its own. -/
theorem pend_append (h : Inv L ρ n S w) (c : Chg) (a : Nat) (hbx : Blk w a 52 (c.cells L.F).toArray) (hok : c.Ok S.nf) (hn : n + 1 ≤ 100000) (hla : ρ a = none) :
    ∃ v1 w1, (Builtin.append_ #[39, 39] 39 #[L.pv, .slice (some ⟨a, 0, none⟩) 1 1]).run Tryd.prog w = .ok v1 w1 ∧ (∃ g cap, v1 = .slice (some ⟨g, 0, none⟩) (S.pend.length + 1) cap) ∧ w.grownBy w1 L.pv.ownBlock ∧
      ∃ ρ', Inv { L with pv := v1 } ρ' (n + 1) { S with pend := S.pend ++ [c] } (w1.setCell ⟨L.b, 3, none⟩ v1) ∧ Step L ρ w { L with pv := v1 } ρ' (w1.setCell ⟨L.b, 3, none⟩ v1) := by
  obtain ⟨i, hi, hz0, hz1, hz2⟩ := info_parts chg_info
  have hbd := h.bnd.1
  obtain ⟨v1, w1, hr, h1, h2, _, h4⟩ := run_append_own_at (P := Tryd.prog) w 0 39 39 52 i _ 5 56 (by kernel_rfl) hi hz0 hz1 hz2 (by decide) (by decide) L.pv S.pend.length _ h.pnd ⟨a, 0, none⟩ 1 1 (c.cells L.F) (by rw [cells_len])
    (fun j u hj => by
      have := blk_cell hbx j (v := u) (by simpa using hj)
      rw [Addr.add_lit]; simpa using this) (cells_one _ _) (by unfold maxLen; omega) (by omega) (Nat.zero_le _)
  have hrow : w1.ownsRow 0 52 5 v1 (S.pend ++ [c]).length ((S.pend ++ [c]).flatMap (Chg.cells L.F)) := by
    rw [List.length_append, List.flatMap_append]
    simpa using h1
  obtain ⟨ρ', hI, hS⟩ := inv_pend (n' := n + 1) h (S.pend ++ [c]) h2 hrow (fun x hx => by
    rcases List.mem_append.1 hx with hx | hx
    · exact h.pok x hx
    · simp at hx; subst hx; exact hok) h4 (Nat.le_succ _) hn (by simp; omega)
  exact ⟨v1, w1, hr, row_shape h1, h2, ρ', hI, hS⟩

/-- What the drawn region of perform reads of its change. -/
def Bx5 (g : Nat) (k : Int) (nm : ByteArray) (fp : Option Addr) (o : Int) (d : ByteArray) (a : World) : Prop := a.cell? ⟨g, 0, none⟩ = some (.int .i64 k) ∧ a.cell? ⟨g, 1, none⟩ = some (.string nm) ∧ a.cell? ⟨g, 2, none⟩ = some (.pointer fp) ∧ a.cell? ⟨g, 3, none⟩ = some (.int .i64 o) ∧ a.cell? ⟨g, 4, none⟩ = some (.string d)
theorem bx5_of {g : Nat} {k : Int} {nm : ByteArray} {fp : Option Addr} {o : Int} {d : ByteArray} {a : World} (h : Blk a g 52 #[.int .i64 k, .string nm, .pointer fp, .int .i64 o, .string d]) : Bx5 g k nm fp o d a :=
  ⟨blk_cell h 0 rfl, blk_cell h 1 rfl, blk_cell h 2 rfl, blk_cell h 3 rfl, blk_cell h 4 rfl⟩

set_option maxHeartbeats 2000000 in
set_option maxRecDepth 20000 in
theorem perform_lit (c : Chg) (k : Int) (nm : ByteArray) (fp : Option Addr) (o : Int) (d : ByteArray) (hcl : c.cells L.F = [.int .i64 k, .string nm, .pointer fp, .int .i64 o, .string d]) (h : Inv L ρ n S w) (hok : c.Ok S.nf) (hn : n + 2 ≤ 100000) :
    Calls Tryd.prog 18 #[.pointer (some ⟨L.b, 0, none⟩), .agg #[.int .i64 k, .string nm, .pointer fp, .int .i64 o, .string d]] w fun e w' => e = .returned (.tuple #[]) ∧ ∃ L' ρ', Inv L' ρ' (n + 2) (perfS c S) w' ∧ Step L ρ w L' ρ' w' ∧ L'.F = L.F := by
  have hb1 : Below w.heap.size w (w.alloc (.cells #[.int .i64 k, .string nm, .pointer fp, .int .i64 o, .string d] 52)) := (Below.refl _ _).alloc (Nat.le_refl _) _
  have hA := apply_any false c (h.alloc (.cells #[.int .i64 k, .string nm, .pointer fp, .int .i64 o, .string d] 52)) hok (by omega)
  rw [hcl, show stI false = 0 from rfl] at hA
  have hbx : Blk (w.alloc (.cells #[.int .i64 k, .string nm, .pointer fp, .int .i64 o, .string d] 52)) w.heap.size 52 #[.int .i64 k, .string nm, .pointer fp, .int .i64 o, .string d] := blk_new _ _ _
  have hr0 := h.old w.heap.size (Nat.le_refl _)
  have HA := Lib.hid hA; have HBX := Lib.hid hbx; have HB1 := Lib.hid hb1; have HR := Lib.hid hr0; have HO := Lib.hid hok; have HN := Lib.hid hn; have HCL := Lib.hid hcl
  have bc := bx5_of hbx
  obtain ⟨u0, u1, u2, u3, u4⟩ := bc
  clear h hA hbx hb1 hr0 hok hn hcl
  go_enter Tryd.func18, Tryd.ntmps18
  go_wp2_with (go_at_call 34; (with_reducible refine HA.out.mono ?_); rintro e w1 ⟨rfl, L', ρ', hI, hS, hF, hpv⟩; have HI := Lib.hid hI; have HS := Lib.hid hS; have HF := Lib.hid hF; clear hI hS hF hpv)
  have hI := HI.out
  have hLb : L'.b = L.b := HS.out.b
  have hbx1 : Blk w1.drew w.heap.size 52 #[.int .i64 k, .string nm, .pointer fp, .int .i64 o, .string d] := (HS.out.blk w.heap.size (by simp) HR.out).trans HBX.out
  have hIA := hI.drew.alloc (.cells #[.int .i64 k, .string nm, .pointer fp, .int .i64 o, .string d] 52)
  have hnb : Blk (w1.drew.alloc (.cells #[.int .i64 k, .string nm, .pointer fp, .int .i64 o, .string d] 52)) w1.heap.size 52 (c.cells L'.F).toArray := by rw [HF.out, HCL.out]; exact blk_new w1.drew _ _
  obtain ⟨v1, w2, hrun, ⟨g, cap, hv1⟩, hg2, ρ2, hI2, hS2⟩ := pend_append hIA c w1.heap.size hnb (by rw [applyS_nf]; exact HO.out) (by have := HN.out; omega) (hI.old _ (Nat.le_refl _))
  have hBA := hIA.blk
  rw [hLb] at hBA
  have hB2 : Blk w2 L.b 42 _ := (hg2.block L.b (blk_lt hBA) (fun e => by have h1 := hIA.pro _ e.symm; have h2 := hIA.hb; rw [hLb, h1] at h2; cases h2)).trans hBA
  have p3 := blk_cell hI.drew.blk 3 rfl
  have p3a := blk_cell hBA 3 rfl
  have q3 := blk_cell hB2 3 rfl
  have f3 := blk_frozen hB2 3
  rw [hLb] at p3
  have hbx1a : Blk (w1.drew.alloc (.cells #[.int .i64 k, .string nm, .pointer fp, .int .i64 o, .string d] 52)) w.heap.size 52 #[.int .i64 k, .string nm, .pointer fp, .int .i64 o, .string d] := by
    unfold Blk
    rw [heap_alloc_old _ _ (blk_lt hbx1)]; exact hbx1
  have hρx : ρ' w.heap.size = none := by rw [HS.out.ro _ (by simp)]; exact HR.out
  have hbx2 : Blk w2 w.heap.size 52 #[.int .i64 k, .string nm, .pointer fp, .int .i64 o, .string d] := (hg2.block _ (blk_lt hbx1a) (fun e => by have h1 := hIA.pro _ e.symm; rw [hρx] at h1; cases h1)).trans hbx1a
  have hne : w.heap.size ≠ L.b := fun e => by have h1 := hI.hb; rw [hLb, ← e, hρx] at h1; cases h1
  have hbx3 : Blk (w2.setCell ⟨L.b, 3, none⟩ v1) w.heap.size 52 #[.int .i64 k, .string nm, .pointer fp, .int .i64 o, .string d] := (setCell_keep _ _ _ _ _ hne).trans hbx2
  have hfin : ∃ L2 ρ3, Inv L2 ρ3 (n + 2) (perfS c S) (w2.setCell ⟨L.b, 3, none⟩ v1) ∧ Step L ρ w L2 ρ3 (w2.setCell ⟨L.b, 3, none⟩ v1) ∧ L2.F = L.F := by
    have hI3 : Inv { L' with pv := v1 } ρ2 (n + 2) { applyS false c S with pend := (applyS false c S).pend ++ [c] } (w2.setCell ⟨L.b, 3, none⟩ v1) := by rw [← hLb]; exact hI2
    have hS3 : Step L' ρ' (w1.drew.alloc (.cells #[.int .i64 k, .string nm, .pointer fp, .int .i64 o, .string d] 52)) { L' with pv := v1 } ρ2 (w2.setCell ⟨L.b, 3, none⟩ v1) := by rw [← hLb]; exact hS2
    refine ⟨{ L' with pv := v1 }, ρ2, ?_, ?_, HF.out⟩
    · have e : perfS c S = { applyS false c S with pend := (applyS false c S).pend ++ [c] } := by unfold perfS; rw [applyS_pend]
      rw [e]; exact hI3
    · have s0 : Step L' ρ' w1 L' ρ' w1.drew := ⟨rfl, rfl, rfl, Nat.le_refl _, fun _ _ _ => rfl, fun _ _ => rfl, rfl⟩
      have s1 : Step L' ρ' w1.drew L' ρ' (w1.drew.alloc (.cells #[.int .i64 k, .string nm, .pointer fp, .int .i64 o, .string d] 52)) := Step.below ((Below.refl _ _).alloc (Nat.le_refl _) _)
      exact (Step.below HB1.out).trans (HS.out.trans (s0.trans (s1.trans hS3)))
  have X1 := bx5_of hbx1; have X1a := bx5_of hbx1a; have X2 := bx5_of hbx2; have X3 := bx5_of hbx3
  have HFIN := Lib.hid hfin; have HRUN := Lib.hid hrun; have HX1 := Lib.hid X1; have HX1A := Lib.hid X1a; have HX2 := Lib.hid X2; have HX3 := Lib.hid X3
  have HP3A := Lib.hid p3a
  subst hv1
  clear hI hIA hnb hrun hg2 hI2 hS2 hBA hB2 hbx1 hbx1a hbx2 hbx3 hρx hne hfin X1 X1a X2 X3 hLb u0 u1 u2 u3 u4 p3a
  generalize L'.pv = pv at *
  refine wp_region_held_drew (S := Bx5 w.heap.size k nm fp o d) (by kernel_rfl) HX1.out (fun hHeld => ?_)
  refine wpAnyH_take (i := 0) (v := .pointer (some ⟨L.b, 0, none⟩)) rfl (by kernel_rfl) (by kernel_rfl) (by kernel_rfl) (fun _ _ _ h => h) (Or.inl ⟨by rfl, ?_⟩) hHeld ?_
  · intro w' hSw
    obtain ⟨a0, a1, a2, a3, a4⟩ := hSw
    go_simp
  simp only [Act.put, List.setIfInBounds_toArray, List.set_cons_zero, List.set_cons_succ]
  refine wpAnyH_take (i := 1) (v := .pointer (some ⟨L.b, 0, none⟩)) rfl (by kernel_rfl) (by kernel_rfl) (by kernel_rfl) (fun _ _ _ h => h) (Or.inl ⟨by rfl, ?_⟩) hHeld ?_
  · intro w' hSw
    obtain ⟨a0, a1, a2, a3, a4⟩ := hSw
    go_simp
  simp only [Act.put, List.setIfInBounds_toArray, List.set_cons_zero, List.set_cons_succ]
  refine wpAnyH_take (i := 2) (v := .pointer (some ⟨L.b, 0, none⟩)) rfl (by kernel_rfl) (by kernel_rfl) (by kernel_rfl) (fun _ _ _ h => h) (Or.inl ⟨by rfl, ?_⟩) hHeld ?_
  · intro w' hSw
    obtain ⟨a0, a1, a2, a3, a4⟩ := hSw
    go_simp
  simp only [Act.put, List.setIfInBounds_toArray, List.set_cons_zero, List.set_cons_succ]
  refine wpAnyH_take (i := 3) (v := .pointer (some ⟨L.b, 3, none⟩)) rfl (by kernel_rfl) (by kernel_rfl) (by kernel_rfl) (fun _ _ _ h => h) (Or.inl ⟨by rfl, ?_⟩) hHeld ?_
  · intro w' hSw
    obtain ⟨a0, a1, a2, a3, a4⟩ := hSw
    go_simp
  simp only [Act.put, List.setIfInBounds_toArray, List.set_cons_zero, List.set_cons_succ]
  refine wpAnyH_take (i := 5) (v := .agg #[.int .i64 k, .string nm, .pointer fp, .int .i64 o, .string d]) rfl (by kernel_rfl) (by kernel_rfl) (by kernel_rfl) (fun _ _ _ h => h) (Or.inl ⟨by rfl, ?_⟩) hHeld ?_
  · intro w' hSw
    obtain ⟨a0, a1, a2, a3, a4⟩ := hSw
    go_simp
  simp only [Act.put, List.setIfInBounds_toArray, List.set_cons_zero, List.set_cons_succ]
  refine wpAnyH_ready (rs := [4, 6]) (by kernel_rfl) (by simp) ?_
  refine AllReadyH.cons rfl (fun K hK => ?_) (AllReadyH.cons rfl (fun K hK => ?_) AllReadyH.nil)
  · go_simp
    refine hK.out _ _ HX1.out (fun hHeld => ?_)
    clear hK K
    refine wpAnyH_ready (rs := [6]) (by kernel_rfl) (by simp) ?_
    refine AllReadyH.cons rfl (fun K hK => ?_) AllReadyH.nil
    go_simp
    refine hK.out _ _ HX1A.out (fun hHeld => ?_)
    clear hK K
    try simp only [Act.put, List.setIfInBounds_toArray, List.set_cons_zero, List.set_cons_succ]
    refine wpAnyH_ready (rs := [7]) (by kernel_rfl) (by simp) ?_
    refine AllReadyH.cons rfl (fun K hK => ?_) AllReadyH.nil
    rw [if_pos (by rfl)]
    refine Lib.wp_append_run _ _ _ _ _ rfl _ _ rfl rfl _ _ HRUN.out ?_
    refine hK.out _ _ HX2.out (fun hHeld => ?_)
    clear hK K
    try simp only [Act.put, List.setIfInBounds_toArray, List.set_cons_zero, List.set_cons_succ]
    refine wpAnyH_take (i := 8) (v := .pointer (some ⟨L.b, 0, none⟩)) rfl (by kernel_rfl) (by kernel_rfl) (by kernel_rfl) (fun _ _ _ h => h) (Or.inl ⟨by rfl, ?_⟩) hHeld ?_
    · intro w' hSw
      obtain ⟨a0, a1, a2, a3, a4⟩ := hSw
      go_simp
    simp only [Act.put, List.setIfInBounds_toArray, List.set_cons_zero, List.set_cons_succ]
    refine wpAnyH_take (i := 9) (v := .pointer (some ⟨L.b, 3, none⟩)) rfl (by kernel_rfl) (by kernel_rfl) (by kernel_rfl) (fun _ _ _ h => h) (Or.inl ⟨by rfl, ?_⟩) hHeld ?_
    · intro w' hSw
      obtain ⟨a0, a1, a2, a3, a4⟩ := hSw
      go_simp
    simp only [Act.put, List.setIfInBounds_toArray, List.set_cons_zero, List.set_cons_succ]
    refine wpAnyH_ready (rs := [10]) (by kernel_rfl) (by simp) ?_
    refine AllReadyH.cons rfl (fun K hK => ?_) AllReadyH.nil
    go_simp
    refine hK.out _ _ HX3.out (fun hHeld => ?_)
    clear hK K
    try simp only [Act.put, List.setIfInBounds_toArray, List.set_cons_zero, List.set_cons_succ]
    refine wpAnyH_done (by kernel_rfl) ?_ _
    go_wp2
    go_returns
    exact ⟨rfl, HFIN.out⟩
  · go_simp
    refine hK.out _ _ HX1A.out (fun hHeld => ?_)
    clear hK K
    have p3a : (w1.alloc (.cells #[.int .i64 k, .string nm, .pointer fp, .int .i64 o, .string d] 52)).cell? ⟨L.b, 3, none⟩ = some pv := HP3A.out
    refine wpAnyH_ready (rs := [4]) (by kernel_rfl) (by simp) ?_
    refine AllReadyH.cons rfl (fun K hK => ?_) AllReadyH.nil
    go_simp
    refine hK.out _ _ HX1A.out (fun hHeld => ?_)
    clear hK K
    try simp only [Act.put, List.setIfInBounds_toArray, List.set_cons_zero, List.set_cons_succ]
    refine wpAnyH_ready (rs := [7]) (by kernel_rfl) (by simp) ?_
    refine AllReadyH.cons rfl (fun K hK => ?_) AllReadyH.nil
    rw [if_pos (by rfl)]
    refine Lib.wp_append_run _ _ _ _ _ rfl _ _ rfl rfl _ _ HRUN.out ?_
    refine hK.out _ _ HX2.out (fun hHeld => ?_)
    clear hK K
    try simp only [Act.put, List.setIfInBounds_toArray, List.set_cons_zero, List.set_cons_succ]
    refine wpAnyH_take (i := 8) (v := .pointer (some ⟨L.b, 0, none⟩)) rfl (by kernel_rfl) (by kernel_rfl) (by kernel_rfl) (fun _ _ _ h => h) (Or.inl ⟨by rfl, ?_⟩) hHeld ?_
    · intro w' hSw
      obtain ⟨a0, a1, a2, a3, a4⟩ := hSw
      go_simp
    simp only [Act.put, List.setIfInBounds_toArray, List.set_cons_zero, List.set_cons_succ]
    refine wpAnyH_take (i := 9) (v := .pointer (some ⟨L.b, 3, none⟩)) rfl (by kernel_rfl) (by kernel_rfl) (by kernel_rfl) (fun _ _ _ h => h) (Or.inl ⟨by rfl, ?_⟩) hHeld ?_
    · intro w' hSw
      obtain ⟨a0, a1, a2, a3, a4⟩ := hSw
      go_simp
    simp only [Act.put, List.setIfInBounds_toArray, List.set_cons_zero, List.set_cons_succ]
    refine wpAnyH_ready (rs := [10]) (by kernel_rfl) (by simp) ?_
    refine AllReadyH.cons rfl (fun K hK => ?_) AllReadyH.nil
    go_simp
    refine hK.out _ _ HX3.out (fun hHeld => ?_)
    clear hK K
    try simp only [Act.put, List.setIfInBounds_toArray, List.set_cons_zero, List.set_cons_succ]
    refine wpAnyH_done (by kernel_rfl) ?_ _
    go_wp2
    go_returns
    exact ⟨rfl, HFIN.out⟩
end Go.Proofs.YtcpkbklnlnoonaaDoor
