/-
  Layer 7: apply at the contents of a file: overwritten, or resized; all other parts of the disk, and all other blocks, stay. Condition: the change is one of this disk's, the sizes are those that the invariant holds.
-/
import Derived.Maps.RangeWalk
import Derived.Deep.RegionHeld3
import Derived.Test.YtkfncnpeockiaaaGreatDoorMg4
namespace Go.Proofs.YtkfncnpeockiaaaGreatDoor
open Go.RowKit
variable {L : Loc} {ρ ρ' : Nat → Option Role} {n : Nat} {S : DS} {w w' : World}

def offC (s : Bool) : Nat := if s then 1 else 0
theorem fil_set (s : Bool) (a b v : Value) (f : Bool → Nat → Value) (i : Nat) (h0 : f false i = a) (h1 : f true i = b) : (#[a, b] : Array Value).setIfInBounds (offC s) v = #[upd2 f s i v false i, upd2 f s i v true i] := by
  cases s <;> simp [offC, upd2, h0, h1]
theorem inv_con (h : Inv L ρ n S w) (s : Bool) (i : Nat) (hi : i < S.nf) {v1 : Value} {l1 : List UInt8} (hg : w.grownBy w' (L.V s i).ownBlock) (hb : Bys w' v1 l1) (hl : l1.length ≤ 4000000) (ho : v1.ownBlock = (L.V s i).ownBlock ∨ v1.ownBlock = some w.heap.size) :
    ∃ ρ', Inv { L with V := upd2 L.V s i v1 } ρ' n { S with con := upd2 S.con s i l1 } (w'.setCell ⟨L.F i, offC s, none⟩ v1) ∧ Step L ρ w { L with V := upd2 L.V s i v1 } ρ' (w'.setCell ⟨L.F i, offC s, none⟩ v1) := by
  have hlt : ∀ g, v1.ownBlock = some g → g < w'.heap.size := fun g hg' => (hb.lt g hg').2
  obtain ⟨ρ', hx, hro, hown, hold⟩ : ∃ ρ' : Nat → Option Role, (∀ k r, ρ k = some r → ρ' k = some r) ∧ (∀ k, k < w.heap.size → ρ' k = ρ k) ∧ (∀ g, v1.ownBlock = some g → ρ' g = some (.con s i)) ∧ (∀ k, w'.heap.size ≤ k → ρ' k = none) := by
    rcases ho with ho | ho
    · exact ⟨ρ, fun _ _ h => h, fun _ _ => rfl, fun g hg' => h.cro s i g hi (ho ▸ hg'), fun k hk => h.old k (Nat.le_trans hg.size hk)⟩
    · refine ⟨updN ρ w.heap.size (some (.con s i)), fun k r hk => ?_, fun k hk => ?_, fun g hg' => ?_, fun k hk => ?_⟩
      · unfold updN
        rw [if_neg (fun e => by subst e; rw [h.old _ (Nat.le_refl _)] at hk; cases hk)]; exact hk
      · unfold updN
        rw [if_neg (Nat.ne_of_lt hk)]
      · rw [ho] at hg'; cases hg'; simp [updN]
      · have := hlt _ ho
        unfold updN
        rw [if_neg (fun e => by omega)]; exact h.old k (Nat.le_trans hg.size hk)
  have hkr : ∀ k r, ρ k = some r → r ≠ .con s i → w'.heap[k]? = w.heap[k]? := fun k r hr hne => hg.block k (h.lt (by rw [hr]; simp)) (fun e => by have := h.cro s i k hi e.symm; rw [hr] at this; cases this; exact hne rfl)
  have hks : ∀ k, k ≠ L.F i → (w'.setCell ⟨L.F i, offC s, none⟩ v1).heap[k]? = w'.heap[k]? := setCell_keep _ _ _ _
  have hkb : ∀ k r, ρ k = some r → r ≠ .con s i → r ≠ .file i → (w'.setCell ⟨L.F i, offC s, none⟩ v1).heap[k]? = w.heap[k]? := fun k r hr h1 h2 => (hks k (fun e => by subst e; rw [h.fro i hi] at hr; cases hr; exact h2 rfl)).trans (hkr k r hr h1)
  have hfi : Blk (w'.setCell ⟨L.F i, offC s, none⟩ v1) (L.F i) 82 #[upd2 L.V s i v1 false i, upd2 L.V s i v1 true i] := by
    have h0 : Blk w' (L.F i) 82 #[L.V false i, L.V true i] := (hkr _ _ (h.fro i hi) (by simp)).trans (h.fil i hi)
    have := blk_set h0 (offC s) v1
    rw [fil_set s _ _ v1 L.V i rfl rfl] at this
    exact this
  refine ⟨ρ', ?_, ?_⟩
  · exact {
      hb := hx _ _ h.hb
      blk := (hkb _ _ h.hb (by simp) (by simp)).trans h.blk
      mp := fun t => mapI_keep (h.mp t) (fun g hg' => hkb g _ hg' (by simp) (by simp)) hx
      flt := fltI_keep h.flt (fun g hg' => hkb g _ hg' (by simp) (by simp)) hx
      pnd := row_keep h.pnd (fun g hg' => hkb g _ (h.pro g hg') (by simp) (by simp))
      pro := fun g hg' => hx _ _ (h.pro g hg')
      fro := fun j hj => hx _ _ (h.fro j hj)
      fil := fun j hj => by
        by_cases e : j = i
        · subst e; exact hfi
        · have e1 : upd2 L.V s i v1 false j = L.V false j := by simp [upd2, e]
          have e2 : upd2 L.V s i v1 true j = L.V true j := by simp [upd2, e]
          simp only [e1, e2]
          exact (hkb _ _ (h.fro j hj) (by simp) (by simpa using e)).trans (h.fil j hj)
      con := fun t j hj => by
        by_cases e : t = s ∧ j = i
        · obtain ⟨rfl, rfl⟩ := e
          simp only [upd2, and_self, if_true]
          exact row_keep hb (fun g hg' => hks g (fun e => by
            subst e
            have h1 := hown _ hg'
            rw [hx _ _ (h.fro j hj)] at h1; cases h1))
        · simp only [upd2, if_neg e]
          exact row_keep (h.con t j hj) (fun g hg' => hkb g _ (h.cro t j g hj hg') (by simpa using e) (by simp))
      cro := fun t j g hj hg' => by
        by_cases e : t = s ∧ j = i
        · obtain ⟨rfl, rfl⟩ := e
          simp only [upd2, and_self, if_true] at hg'
          exact hown g hg'
        · simp only [upd2, if_neg e] at hg'
          exact hx _ _ (h.cro t j g hj hg')
      clen := fun t j hj => by
        by_cases e : t = s ∧ j = i
        · simp only [upd2, if_pos e]; exact hl
        · simp only [upd2, if_neg e]; exact h.clen t j hj
      dok := h.dok
      pok := h.pok
      old := fun k hk => hold k (by rw [size_setCell'] at hk; exact hk)
      room := h.room
      bnd := h.bnd }
  · exact ⟨hg.os, hg.tape, hg.output, by rw [size_setCell']; exact hg.size, fun k hk hr => (hks k (fun e => by subst e; rw [h.fro i hi] at hr; cases hr)).trans (hg.block k hk (fun e => by have := h.cro s i k hi e.symm; rw [hr] at this; cases this)), hro, rfl⟩

/-- What a drawn region of apply reads of a change, and of its file. -/
def AppS (g f s : Nat) (o : Int) (d : ByteArray) (v : Value) (a : World) : Prop := a.cell? ⟨g, 2, none⟩ = some (.pointer (some ⟨f, 0, none⟩)) ∧ a.cell? ⟨g, 3, none⟩ = some (.int .i64 o) ∧ a.cell? ⟨g, 4, none⟩ = some (.string d) ∧ a.cell? ⟨f, s, none⟩ = some v ∧ a.frozen? ⟨f, s, none⟩ = false
theorem appS_of {g f s : Nat} {o : Int} {d : ByteArray} {v v0 v1 : Value} {x y : Value} {a : World} (hb : Blk a g 74 #[x, y, .pointer (some ⟨f, 0, none⟩), .int .i64 o, .string d]) (hf : Blk a f 82 #[v0, v1]) (hv : (#[v0, v1] : Array Value)[s]? = some v) : AppS g f s o d v a :=
  ⟨blk_cell hb 2 rfl, blk_cell hb 3 rfl, blk_cell hb 4 rfl, blk_cell hf s hv, blk_frozen hf s⟩
theorem appS_grown {g f s : Nat} {o : Int} {d : ByteArray} {v v0 v1 : Value} {x y : Value} {a a' : World} {r : Option Nat} (hb : Blk a g 74 #[x, y, .pointer (some ⟨f, 0, none⟩), .int .i64 o, .string d]) (hf : Blk a f 82 #[v0, v1]) (hv : (#[v0, v1] : Array Value)[s]? = some v)
    (hg : a.grownBy a' r) (h1 : some g ≠ r) (h2 : some f ≠ r) : AppS g f s o d v a' :=
  appS_of (a := a') ((hg.block g (blk_lt hb) h1).trans hb) ((hg.block f (blk_lt hf) h2).trans hf) hv
theorem app3_set {g f : Nat} {x y z : Value} {a : World} (hne : g ≠ f) (h : a.cell? ⟨g, 2, none⟩ = some x ∧ a.cell? ⟨g, 3, none⟩ = some y ∧ a.cell? ⟨g, 4, none⟩ = some z) (s : Nat) (v : Value) :
    (a.setCell ⟨f, s, none⟩ v).cell? ⟨g, 2, none⟩ = some x ∧ (a.setCell ⟨f, s, none⟩ v).cell? ⟨g, 3, none⟩ = some y ∧ (a.setCell ⟨f, s, none⟩ v).cell? ⟨g, 4, none⟩ = some z :=
  ⟨(World.cell?_of_block (a := ⟨g, 2, none⟩) (setCell_keep _ _ _ _ g hne)).trans h.1, (World.cell?_of_block (a := ⟨g, 3, none⟩) (setCell_keep _ _ _ _ g hne)).trans h.2.1, (World.cell?_of_block (a := ⟨g, 4, none⟩) (setCell_keep _ _ _ _ g hne)).trans h.2.2⟩
/-! ### the walks -/

set_option maxHeartbeats 1000000 in
set_option maxRecDepth 20000 in
theorem apply_write_false (i o : Nat) (d : ByteArray) (h0 : Inv L ρ n S w) (hi : i < S.nf) (ho : o + d.size ≤ 4000000) :
    Calls Tryz.prog 70 #[.pointer (some ⟨L.b, 0, none⟩), .agg #[.int .i64 2, .string ⟨#[]⟩, .pointer (some ⟨L.F i, 0, none⟩), .int .i64 o, .string d], .int .i64 0] w (AppQ L ρ n (applyS false (.write i o d.data.toList) S) w) := by
  obtain ⟨W, hW⟩ : ∃ W, W = w.alloc (.cells #[.int .i64 2, .string ⟨#[]⟩, .pointer (some ⟨L.F i, 0, none⟩), .int .i64 o, .string d] 74) := ⟨_, rfl⟩
  have bx : Blk W w.heap.size 74 #[.int .i64 2, .string ⟨#[]⟩, .pointer (some ⟨L.F i, 0, none⟩), .int .i64 o, .string d] := by rw [hW]; exact blk_new _ _ _
  have hAB : Step L ρ w L ρ W := by rw [hW]; exact Step.below ((Below.refl _ _).alloc (Nat.le_refl _) _)
  have h : Inv L ρ n S W.drew := by rw [hW]; exact (h0.alloc _).drew
  have rb : ρ w.heap.size = none := h0.old _ (Nat.le_refl _)
  have ne1 : some w.heap.size ≠ (L.V false i).ownBlock := fun e => by have := h.cro false i _ hi e.symm; rw [rb] at this; cases this
  have ne2 : some (L.F i) ≠ (L.V false i).ownBlock := fun e => by have := h.cro false i _ hi e.symm; rw [h.fro i hi] at this; cases this
  have ne3 : w.heap.size ≠ L.F i := fun e => by have := h.fro i hi; rw [← e, rb] at this; cases this
  have hfin : ∀ w2 v1, W.drew.grownBy w2 (L.V false i).ownBlock → Bys w2 v1 (overL (S.con false i) o d.data.toList) → (v1.ownBlock = (L.V false i).ownBlock ∨ v1.ownBlock = some W.heap.size) → AppQ L ρ n (applyS false (.write i o d.data.toList) S) w (.returned (.tuple #[])) (w2.setCell ⟨L.F i, 0, none⟩ v1) := fun w2 v1 g1 g2 g3 => by
    obtain ⟨ρ', hI, hS⟩ := inv_con h false i hi g1 g2 (by have e2 : d.data.toList.length = d.size := Array.length_toList; rw [overL_len, e2]; have := h.clen false i hi; split <;> omega) g3
    exact ⟨rfl, _, ρ', hI, (hAB.trans (show Step L ρ W L ρ W.drew from ⟨rfl, rfl, rfl, Nat.le_refl _, fun _ _ _ => rfl, fun _ _ => rfl, rfl⟩)).trans hS, rfl, rfl⟩
  have bf : Blk W.drew (L.F i) 82 #[L.V false i, L.V true i] := h.fil i hi
  have bx' : Blk W.drew w.heap.size 74 #[.int .i64 2, .string ⟨#[]⟩, .pointer (some ⟨L.F i, 0, none⟩), .int .i64 o, .string d] := bx
  have HC := Lib.hid (overwrite_any (L.V false i) (S.con false i) o d _ (h.con false i hi) (Nat.le_trans (h.clen false i hi) (by decide)) (by omega))
  have HF := Lib.hid hfin; have HX := Lib.hid bx'; have HB := Lib.hid bf; have N3 := Lib.hid ne3; have N1 := Lib.hid ne1; have N2 := Lib.hid ne2
  have x0 := blk_cell bx 0 rfl
  clear h h0 hAB hfin bx bx' bf ne1 ne2 ne3 rb hi ho
  rw [hW] at HC HF HX HB x0
  clear hW
  generalize L.V false i = V at HC HF N1 N2 HB
  generalize L.V true i = Vo at HB
  generalize L.F i = fb at *
  obtain ⟨z2, z3, z4, z5, z6⟩ := appS_of (s := 0) (v := V) HX.out HB.out rfl
  go_enter Tryz.func70, Tryz.ntmps70
  go_wp2
  refine wp_region_held_drew (S := fun a => a.cell? ⟨w.heap.size, 2, none⟩ = some (.pointer (some ⟨fb, 0, none⟩)) ∧ a.cell? ⟨w.heap.size, 3, none⟩ = some (.int .i64 o) ∧ a.cell? ⟨w.heap.size, 4, none⟩ = some (.string d)) (by kernel_rfl) ⟨z2, z3, z4⟩ (fun hHeld => ?_)
  refine wpAnyH_take (i := 0) (v := .pointer (some ⟨w.heap.size, 2, none⟩)) rfl (by kernel_rfl) (by kernel_rfl) (by kernel_rfl) (fun _ _ _ h => h) (Or.inl ⟨by rfl, ?_⟩) hHeld ?_
  · intro w' hSw
    obtain ⟨a0, a1, a2⟩ := hSw
    go_simp
  go_frame
  refine wpAnyH_take (i := 1) (v := .pointer (some ⟨fb, 0, none⟩)) rfl (by kernel_rfl) (by kernel_rfl) (by kernel_rfl) (fun _ _ _ h => h) (Or.inl ⟨by rfl, ?_⟩) hHeld ?_
  · intro w' hSw
    obtain ⟨a0, a1, a2⟩ := hSw
    go_simp
  go_frame
  refine wpAnyH_take (i := 2) (v := .int .i64 0) rfl (by kernel_rfl) (by kernel_rfl) (by kernel_rfl) (fun _ _ _ h => h) (Or.inl ⟨by rfl, ?_⟩) hHeld ?_
  · intro w' hSw
    obtain ⟨a0, a1, a2⟩ := hSw
    go_simp
  go_frame
  refine wpAnyH_take (i := 3) (v := .pointer (some ⟨w.heap.size, 2, none⟩)) rfl (by kernel_rfl) (by kernel_rfl) (by kernel_rfl) (fun _ _ _ h => h) (Or.inl ⟨by rfl, ?_⟩) hHeld ?_
  · intro w' hSw
    obtain ⟨a0, a1, a2⟩ := hSw
    go_simp
  go_frame
  refine wpAnyH_take (i := 4) (v := .pointer (some ⟨fb, 0, none⟩)) rfl (by kernel_rfl) (by kernel_rfl) (by kernel_rfl) (fun _ _ _ h => h) (Or.inl ⟨by rfl, ?_⟩) hHeld ?_
  · intro w' hSw
    obtain ⟨a0, a1, a2⟩ := hSw
    go_simp
  go_frame
  refine wpAnyH_take (i := 5) (v := .int .i64 0) rfl (by kernel_rfl) (by kernel_rfl) (by kernel_rfl) (fun _ _ _ h => h) (Or.inl ⟨by rfl, ?_⟩) hHeld ?_
  · intro w' hSw
    obtain ⟨a0, a1, a2⟩ := hSw
    go_simp
  go_frame
  refine wpAnyH_take (i := 6) (v := .pointer (some ⟨fb, 0, none⟩)) rfl (by kernel_rfl) (by kernel_rfl) (by kernel_rfl) (fun _ _ _ h => h) (Or.inl ⟨by rfl, ?_⟩) hHeld ?_
  · intro w' hSw
    obtain ⟨a0, a1, a2⟩ := hSw
    go_simp
  go_frame
  refine wpAnyH_take (i := 7) (v := .pointer (some ⟨fb, 0, none⟩)) rfl (by kernel_rfl) (by kernel_rfl) (by kernel_rfl) (fun _ _ _ h => h) (Or.inl ⟨by rfl, ?_⟩) hHeld ?_
  · intro w' hSw
    obtain ⟨a0, a1, a2⟩ := hSw
    go_simp
  go_frame
  refine wpAnyH_take (i := 8) (v := .pointer (some ⟨fb, 0, none⟩)) rfl (by kernel_rfl) (by kernel_rfl) (by kernel_rfl) (fun _ _ _ h => h) (Or.inl ⟨by rfl, ?_⟩) hHeld ?_
  · intro w' hSw
    obtain ⟨a0, a1, a2⟩ := hSw
    go_simp
  go_frame
  refine wpAnyH_take (i := 10) (v := .pointer (some ⟨w.heap.size, 3, none⟩)) rfl (by kernel_rfl) (by kernel_rfl) (by kernel_rfl) (fun _ _ _ h => h) (Or.inl ⟨by rfl, ?_⟩) hHeld ?_
  · intro w' hSw
    obtain ⟨a0, a1, a2⟩ := hSw
    go_simp
  go_frame
  refine wpAnyH_take (i := 11) (v := .int .i64 o) rfl (by kernel_rfl) (by kernel_rfl) (by kernel_rfl) (fun _ _ _ h => h) (Or.inl ⟨by rfl, ?_⟩) hHeld ?_
  · intro w' hSw
    obtain ⟨a0, a1, a2⟩ := hSw
    go_simp
  go_frame
  refine wpAnyH_take (i := 12) (v := .pointer (some ⟨w.heap.size, 4, none⟩)) rfl (by kernel_rfl) (by kernel_rfl) (by kernel_rfl) (fun _ _ _ h => h) (Or.inl ⟨by rfl, ?_⟩) hHeld ?_
  · intro w' hSw
    obtain ⟨a0, a1, a2⟩ := hSw
    go_simp
  go_frame
  refine wpAnyH_take (i := 13) (v := .string d) rfl (by kernel_rfl) (by kernel_rfl) (by kernel_rfl) (fun _ _ _ h => h) (Or.inl ⟨by rfl, ?_⟩) hHeld ?_
  · intro w' hSw
    obtain ⟨a0, a1, a2⟩ := hSw
    go_simp
  go_frame
  refine wpAnyH_take (i := 15) (v := .pointer (some ⟨fb, 0, none⟩)) rfl (by kernel_rfl) (by kernel_rfl) (by kernel_rfl) (fun _ _ _ h => h) (Or.inl ⟨by rfl, ?_⟩) hHeld ?_
  · intro w' hSw
    obtain ⟨a0, a1, a2⟩ := hSw
    go_simp
  go_frame
  refine wpAnyH_take (i := 16) (v := .pointer (some ⟨fb, 0, none⟩)) rfl (by kernel_rfl) (by kernel_rfl) (by kernel_rfl) (fun _ _ _ h => h) (Or.inl ⟨by rfl, ?_⟩) hHeld ?_
  · intro w' hSw
    obtain ⟨a0, a1, a2⟩ := hSw
    go_simp
  go_frame
  refine wpAnyH_ready (rs := [9]) (by kernel_rfl) (by simp) ?_
  refine AllReadyH.cons rfl (fun K hK => ?_) AllReadyH.nil
  go_simp
  refine hK.out _ _ hHeld (fun hHeld => ?_)
  clear hK K
  refine wpAnyH_ready (rs := [14]) (by kernel_rfl) (by simp) ?_
  refine AllReadyH.cons rfl (fun K hK => ?_) AllReadyH.nil
  go_simp
  (with_reducible refine HC.out.mono ?_)
  rintro e w2 ⟨v1, rfl, g2, g1, g3⟩
  obtain ⟨va, vc, rfl, hvc⟩ := bys_slice g2
  obtain ⟨y2, y3, y4, y5, y6⟩ := appS_grown (s := 0) (v := V) HX.out HB.out rfl g1 N1.out N2.out
  go_simp
  refine hK.out _ _ ⟨y2, y3, y4⟩ (fun hHeld => ?_)
  clear hK K
  refine wpAnyH_take (i := 17) (v := .pointer (some ⟨fb, 0, none⟩)) rfl (by kernel_rfl) (by kernel_rfl) (by kernel_rfl) (fun _ _ _ h => h) (Or.inl ⟨by rfl, ?_⟩) hHeld ?_
  · intro w' hSw
    obtain ⟨a0, a1, a2⟩ := hSw
    go_simp
  go_frame
  refine wpAnyH_ready (rs := [18]) (by kernel_rfl) (by simp) ?_
  refine AllReadyH.cons rfl (fun K hK => ?_) AllReadyH.nil
  go_simp
  refine hK.out _ _ (app3_set N3.out ⟨y2, y3, y4⟩ _ _) (fun hHeld => ?_)
  clear hK K
  refine wpAnyH_done (by kernel_rfl) ?_ _
  go_wp2
  go_returns
  exact HF.out _ _ g1 g2 g3

set_option maxHeartbeats 1000000 in
set_option maxRecDepth 20000 in
theorem apply_write_true (i o : Nat) (d : ByteArray) (h0 : Inv L ρ n S w) (hi : i < S.nf) (ho : o + d.size ≤ 4000000) :
    Calls Tryz.prog 70 #[.pointer (some ⟨L.b, 0, none⟩), .agg #[.int .i64 2, .string ⟨#[]⟩, .pointer (some ⟨L.F i, 0, none⟩), .int .i64 o, .string d], .int .i64 1] w (AppQ L ρ n (applyS true (.write i o d.data.toList) S) w) := by
  obtain ⟨W, hW⟩ : ∃ W, W = w.alloc (.cells #[.int .i64 2, .string ⟨#[]⟩, .pointer (some ⟨L.F i, 0, none⟩), .int .i64 o, .string d] 74) := ⟨_, rfl⟩
  have bx : Blk W w.heap.size 74 #[.int .i64 2, .string ⟨#[]⟩, .pointer (some ⟨L.F i, 0, none⟩), .int .i64 o, .string d] := by rw [hW]; exact blk_new _ _ _
  have hAB : Step L ρ w L ρ W := by rw [hW]; exact Step.below ((Below.refl _ _).alloc (Nat.le_refl _) _)
  have h : Inv L ρ n S W.drew := by rw [hW]; exact (h0.alloc _).drew
  have rb : ρ w.heap.size = none := h0.old _ (Nat.le_refl _)
  have ne1 : some w.heap.size ≠ (L.V true i).ownBlock := fun e => by have := h.cro true i _ hi e.symm; rw [rb] at this; cases this
  have ne2 : some (L.F i) ≠ (L.V true i).ownBlock := fun e => by have := h.cro true i _ hi e.symm; rw [h.fro i hi] at this; cases this
  have ne3 : w.heap.size ≠ L.F i := fun e => by have := h.fro i hi; rw [← e, rb] at this; cases this
  have hfin : ∀ w2 v1, W.drew.grownBy w2 (L.V true i).ownBlock → Bys w2 v1 (overL (S.con true i) o d.data.toList) → (v1.ownBlock = (L.V true i).ownBlock ∨ v1.ownBlock = some W.heap.size) → AppQ L ρ n (applyS true (.write i o d.data.toList) S) w (.returned (.tuple #[])) (w2.setCell ⟨L.F i, 1, none⟩ v1) := fun w2 v1 g1 g2 g3 => by
    obtain ⟨ρ', hI, hS⟩ := inv_con h true i hi g1 g2 (by have e2 : d.data.toList.length = d.size := Array.length_toList; rw [overL_len, e2]; have := h.clen true i hi; split <;> omega) g3
    exact ⟨rfl, _, ρ', hI, (hAB.trans (show Step L ρ W L ρ W.drew from ⟨rfl, rfl, rfl, Nat.le_refl _, fun _ _ _ => rfl, fun _ _ => rfl, rfl⟩)).trans hS, rfl, rfl⟩
  have bf : Blk W.drew (L.F i) 82 #[L.V false i, L.V true i] := h.fil i hi
  have bx' : Blk W.drew w.heap.size 74 #[.int .i64 2, .string ⟨#[]⟩, .pointer (some ⟨L.F i, 0, none⟩), .int .i64 o, .string d] := bx
  have HC := Lib.hid (overwrite_any (L.V true i) (S.con true i) o d _ (h.con true i hi) (Nat.le_trans (h.clen true i hi) (by decide)) (by omega))
  have HF := Lib.hid hfin; have HX := Lib.hid bx'; have HB := Lib.hid bf; have N3 := Lib.hid ne3; have N1 := Lib.hid ne1; have N2 := Lib.hid ne2
  have x0 := blk_cell bx 0 rfl
  clear h h0 hAB hfin bx bx' bf ne1 ne2 ne3 rb hi ho
  rw [hW] at HC HF HX HB x0
  clear hW
  generalize L.V true i = V at HC HF N1 N2 HB
  generalize L.V false i = Vo at HB
  generalize L.F i = fb at *
  obtain ⟨z2, z3, z4, z5, z6⟩ := appS_of (s := 1) (v := V) HX.out HB.out rfl
  go_enter Tryz.func70, Tryz.ntmps70
  go_wp2
  refine wp_region_held_drew (S := fun a => a.cell? ⟨w.heap.size, 2, none⟩ = some (.pointer (some ⟨fb, 0, none⟩)) ∧ a.cell? ⟨w.heap.size, 3, none⟩ = some (.int .i64 o) ∧ a.cell? ⟨w.heap.size, 4, none⟩ = some (.string d)) (by kernel_rfl) ⟨z2, z3, z4⟩ (fun hHeld => ?_)
  refine wpAnyH_take (i := 0) (v := .pointer (some ⟨w.heap.size, 2, none⟩)) rfl (by kernel_rfl) (by kernel_rfl) (by kernel_rfl) (fun _ _ _ h => h) (Or.inl ⟨by rfl, ?_⟩) hHeld ?_
  · intro w' hSw
    obtain ⟨a0, a1, a2⟩ := hSw
    go_simp
  go_frame
  refine wpAnyH_take (i := 1) (v := .pointer (some ⟨fb, 0, none⟩)) rfl (by kernel_rfl) (by kernel_rfl) (by kernel_rfl) (fun _ _ _ h => h) (Or.inl ⟨by rfl, ?_⟩) hHeld ?_
  · intro w' hSw
    obtain ⟨a0, a1, a2⟩ := hSw
    go_simp
  go_frame
  refine wpAnyH_take (i := 2) (v := .int .i64 1) rfl (by kernel_rfl) (by kernel_rfl) (by kernel_rfl) (fun _ _ _ h => h) (Or.inl ⟨by rfl, ?_⟩) hHeld ?_
  · intro w' hSw
    obtain ⟨a0, a1, a2⟩ := hSw
    go_simp
  go_frame
  refine wpAnyH_take (i := 3) (v := .pointer (some ⟨w.heap.size, 2, none⟩)) rfl (by kernel_rfl) (by kernel_rfl) (by kernel_rfl) (fun _ _ _ h => h) (Or.inl ⟨by rfl, ?_⟩) hHeld ?_
  · intro w' hSw
    obtain ⟨a0, a1, a2⟩ := hSw
    go_simp
  go_frame
  refine wpAnyH_take (i := 4) (v := .pointer (some ⟨fb, 0, none⟩)) rfl (by kernel_rfl) (by kernel_rfl) (by kernel_rfl) (fun _ _ _ h => h) (Or.inl ⟨by rfl, ?_⟩) hHeld ?_
  · intro w' hSw
    obtain ⟨a0, a1, a2⟩ := hSw
    go_simp
  go_frame
  refine wpAnyH_take (i := 5) (v := .int .i64 1) rfl (by kernel_rfl) (by kernel_rfl) (by kernel_rfl) (fun _ _ _ h => h) (Or.inl ⟨by rfl, ?_⟩) hHeld ?_
  · intro w' hSw
    obtain ⟨a0, a1, a2⟩ := hSw
    go_simp
  go_frame
  refine wpAnyH_take (i := 6) (v := .pointer (some ⟨fb, 0, none⟩)) rfl (by kernel_rfl) (by kernel_rfl) (by kernel_rfl) (fun _ _ _ h => h) (Or.inl ⟨by rfl, ?_⟩) hHeld ?_
  · intro w' hSw
    obtain ⟨a0, a1, a2⟩ := hSw
    go_simp
  go_frame
  refine wpAnyH_take (i := 7) (v := .pointer (some ⟨fb, 0, none⟩)) rfl (by kernel_rfl) (by kernel_rfl) (by kernel_rfl) (fun _ _ _ h => h) (Or.inl ⟨by rfl, ?_⟩) hHeld ?_
  · intro w' hSw
    obtain ⟨a0, a1, a2⟩ := hSw
    go_simp
  go_frame
  refine wpAnyH_take (i := 8) (v := .pointer (some ⟨fb, 1, none⟩)) rfl (by kernel_rfl) (by kernel_rfl) (by kernel_rfl) (fun _ _ _ h => h) (Or.inl ⟨by rfl, ?_⟩) hHeld ?_
  · intro w' hSw
    obtain ⟨a0, a1, a2⟩ := hSw
    go_simp
  go_frame
  refine wpAnyH_take (i := 10) (v := .pointer (some ⟨w.heap.size, 3, none⟩)) rfl (by kernel_rfl) (by kernel_rfl) (by kernel_rfl) (fun _ _ _ h => h) (Or.inl ⟨by rfl, ?_⟩) hHeld ?_
  · intro w' hSw
    obtain ⟨a0, a1, a2⟩ := hSw
    go_simp
  go_frame
  refine wpAnyH_take (i := 11) (v := .int .i64 o) rfl (by kernel_rfl) (by kernel_rfl) (by kernel_rfl) (fun _ _ _ h => h) (Or.inl ⟨by rfl, ?_⟩) hHeld ?_
  · intro w' hSw
    obtain ⟨a0, a1, a2⟩ := hSw
    go_simp
  go_frame
  refine wpAnyH_take (i := 12) (v := .pointer (some ⟨w.heap.size, 4, none⟩)) rfl (by kernel_rfl) (by kernel_rfl) (by kernel_rfl) (fun _ _ _ h => h) (Or.inl ⟨by rfl, ?_⟩) hHeld ?_
  · intro w' hSw
    obtain ⟨a0, a1, a2⟩ := hSw
    go_simp
  go_frame
  refine wpAnyH_take (i := 13) (v := .string d) rfl (by kernel_rfl) (by kernel_rfl) (by kernel_rfl) (fun _ _ _ h => h) (Or.inl ⟨by rfl, ?_⟩) hHeld ?_
  · intro w' hSw
    obtain ⟨a0, a1, a2⟩ := hSw
    go_simp
  go_frame
  refine wpAnyH_take (i := 15) (v := .pointer (some ⟨fb, 0, none⟩)) rfl (by kernel_rfl) (by kernel_rfl) (by kernel_rfl) (fun _ _ _ h => h) (Or.inl ⟨by rfl, ?_⟩) hHeld ?_
  · intro w' hSw
    obtain ⟨a0, a1, a2⟩ := hSw
    go_simp
  go_frame
  refine wpAnyH_take (i := 16) (v := .pointer (some ⟨fb, 0, none⟩)) rfl (by kernel_rfl) (by kernel_rfl) (by kernel_rfl) (fun _ _ _ h => h) (Or.inl ⟨by rfl, ?_⟩) hHeld ?_
  · intro w' hSw
    obtain ⟨a0, a1, a2⟩ := hSw
    go_simp
  go_frame
  refine wpAnyH_ready (rs := [9]) (by kernel_rfl) (by simp) ?_
  refine AllReadyH.cons rfl (fun K hK => ?_) AllReadyH.nil
  go_simp
  refine hK.out _ _ hHeld (fun hHeld => ?_)
  clear hK K
  refine wpAnyH_ready (rs := [14]) (by kernel_rfl) (by simp) ?_
  refine AllReadyH.cons rfl (fun K hK => ?_) AllReadyH.nil
  go_simp
  (with_reducible refine HC.out.mono ?_)
  rintro e w2 ⟨v1, rfl, g2, g1, g3⟩
  obtain ⟨va, vc, rfl, hvc⟩ := bys_slice g2
  obtain ⟨y2, y3, y4, y5, y6⟩ := appS_grown (s := 1) (v := V) HX.out HB.out rfl g1 N1.out N2.out
  go_simp
  refine hK.out _ _ ⟨y2, y3, y4⟩ (fun hHeld => ?_)
  clear hK K
  refine wpAnyH_take (i := 17) (v := .pointer (some ⟨fb, 1, none⟩)) rfl (by kernel_rfl) (by kernel_rfl) (by kernel_rfl) (fun _ _ _ h => h) (Or.inl ⟨by rfl, ?_⟩) hHeld ?_
  · intro w' hSw
    obtain ⟨a0, a1, a2⟩ := hSw
    go_simp
  go_frame
  refine wpAnyH_ready (rs := [18]) (by kernel_rfl) (by simp) ?_
  refine AllReadyH.cons rfl (fun K hK => ?_) AllReadyH.nil
  go_simp
  refine hK.out _ _ (app3_set N3.out ⟨y2, y3, y4⟩ _ _) (fun hHeld => ?_)
  clear hK K
  refine wpAnyH_done (by kernel_rfl) ?_ _
  go_wp2
  go_returns
  exact HF.out _ _ g1 g2 g3

set_option maxHeartbeats 1000000 in
set_option maxRecDepth 20000 in
theorem apply_trunc_false (i o : Nat) (h0 : Inv L ρ n S w) (hi : i < S.nf) (ho : o ≤ 4000000) :
    Calls Tryz.prog 70 #[.pointer (some ⟨L.b, 0, none⟩), .agg #[.int .i64 3, .string ⟨#[]⟩, .pointer (some ⟨L.F i, 0, none⟩), .int .i64 o, .string ⟨#[]⟩], .int .i64 0] w (AppQ L ρ n (applyS false (.trunc i o) S) w) := by
  obtain ⟨W, hW⟩ : ∃ W, W = w.alloc (.cells #[.int .i64 3, .string ⟨#[]⟩, .pointer (some ⟨L.F i, 0, none⟩), .int .i64 o, .string ⟨#[]⟩] 74) := ⟨_, rfl⟩
  have bx : Blk W w.heap.size 74 #[.int .i64 3, .string ⟨#[]⟩, .pointer (some ⟨L.F i, 0, none⟩), .int .i64 o, .string ⟨#[]⟩] := by rw [hW]; exact blk_new _ _ _
  have hAB : Step L ρ w L ρ W := by rw [hW]; exact Step.below ((Below.refl _ _).alloc (Nat.le_refl _) _)
  have h : Inv L ρ n S W.drew := by rw [hW]; exact (h0.alloc _).drew
  have rb : ρ w.heap.size = none := h0.old _ (Nat.le_refl _)
  have ne1 : some w.heap.size ≠ (L.V false i).ownBlock := fun e => by have := h.cro false i _ hi e.symm; rw [rb] at this; cases this
  have ne2 : some (L.F i) ≠ (L.V false i).ownBlock := fun e => by have := h.cro false i _ hi e.symm; rw [h.fro i hi] at this; cases this
  have ne3 : w.heap.size ≠ L.F i := fun e => by have := h.fro i hi; rw [← e, rb] at this; cases this
  have hfin : ∀ w2 v1, W.drew.grownBy w2 (L.V false i).ownBlock → Bys w2 v1 (resizeL (S.con false i) o) → (v1.ownBlock = (L.V false i).ownBlock ∨ v1.ownBlock = some W.heap.size) → AppQ L ρ n (applyS false (.trunc i o) S) w (.returned (.tuple #[])) (w2.setCell ⟨L.F i, 0, none⟩ v1) := fun w2 v1 g1 g2 g3 => by
    obtain ⟨ρ', hI, hS⟩ := inv_con h false i hi g1 g2 (by rw [resizeL_len]; exact ho) g3
    exact ⟨rfl, _, ρ', hI, (hAB.trans (show Step L ρ W L ρ W.drew from ⟨rfl, rfl, rfl, Nat.le_refl _, fun _ _ _ => rfl, fun _ _ => rfl, rfl⟩)).trans hS, rfl, rfl⟩
  have bf : Blk W.drew (L.F i) 82 #[L.V false i, L.V true i] := h.fil i hi
  have bx' : Blk W.drew w.heap.size 74 #[.int .i64 3, .string ⟨#[]⟩, .pointer (some ⟨L.F i, 0, none⟩), .int .i64 o, .string ⟨#[]⟩] := bx
  have HC := Lib.hid (resize_any (L.V false i) (S.con false i) o _ (h.con false i hi) (Nat.le_trans (h.clen false i hi) (by decide)) (by omega))
  have HF := Lib.hid hfin; have HX := Lib.hid bx'; have HB := Lib.hid bf; have N3 := Lib.hid ne3; have N1 := Lib.hid ne1; have N2 := Lib.hid ne2
  have x0 := blk_cell bx 0 rfl
  clear h h0 hAB hfin bx bx' bf ne1 ne2 ne3 rb hi ho
  rw [hW] at HC HF HX HB x0
  clear hW
  generalize L.V false i = V at HC HF N1 N2 HB
  generalize L.V true i = Vo at HB
  generalize L.F i = fb at *
  obtain ⟨z2, z3, z4, z5, z6⟩ := appS_of (s := 0) (v := V) HX.out HB.out rfl
  go_enter Tryz.func70, Tryz.ntmps70
  go_wp2
  refine wp_region_held_drew (S := fun a => a.cell? ⟨w.heap.size, 2, none⟩ = some (.pointer (some ⟨fb, 0, none⟩)) ∧ a.cell? ⟨w.heap.size, 3, none⟩ = some (.int .i64 o) ∧ a.cell? ⟨w.heap.size, 4, none⟩ = some (.string ⟨#[]⟩)) (by kernel_rfl) ⟨z2, z3, z4⟩ (fun hHeld => ?_)
  refine wpAnyH_take (i := 0) (v := .pointer (some ⟨w.heap.size, 2, none⟩)) rfl (by kernel_rfl) (by kernel_rfl) (by kernel_rfl) (fun _ _ _ h => h) (Or.inl ⟨by rfl, ?_⟩) hHeld ?_
  · intro w' hSw
    obtain ⟨a0, a1, a2⟩ := hSw
    go_simp
  go_frame
  refine wpAnyH_take (i := 1) (v := .pointer (some ⟨fb, 0, none⟩)) rfl (by kernel_rfl) (by kernel_rfl) (by kernel_rfl) (fun _ _ _ h => h) (Or.inl ⟨by rfl, ?_⟩) hHeld ?_
  · intro w' hSw
    obtain ⟨a0, a1, a2⟩ := hSw
    go_simp
  go_frame
  refine wpAnyH_take (i := 2) (v := .int .i64 0) rfl (by kernel_rfl) (by kernel_rfl) (by kernel_rfl) (fun _ _ _ h => h) (Or.inl ⟨by rfl, ?_⟩) hHeld ?_
  · intro w' hSw
    obtain ⟨a0, a1, a2⟩ := hSw
    go_simp
  go_frame
  refine wpAnyH_take (i := 3) (v := .pointer (some ⟨w.heap.size, 2, none⟩)) rfl (by kernel_rfl) (by kernel_rfl) (by kernel_rfl) (fun _ _ _ h => h) (Or.inl ⟨by rfl, ?_⟩) hHeld ?_
  · intro w' hSw
    obtain ⟨a0, a1, a2⟩ := hSw
    go_simp
  go_frame
  refine wpAnyH_take (i := 4) (v := .pointer (some ⟨fb, 0, none⟩)) rfl (by kernel_rfl) (by kernel_rfl) (by kernel_rfl) (fun _ _ _ h => h) (Or.inl ⟨by rfl, ?_⟩) hHeld ?_
  · intro w' hSw
    obtain ⟨a0, a1, a2⟩ := hSw
    go_simp
  go_frame
  refine wpAnyH_take (i := 5) (v := .int .i64 0) rfl (by kernel_rfl) (by kernel_rfl) (by kernel_rfl) (fun _ _ _ h => h) (Or.inl ⟨by rfl, ?_⟩) hHeld ?_
  · intro w' hSw
    obtain ⟨a0, a1, a2⟩ := hSw
    go_simp
  go_frame
  refine wpAnyH_take (i := 6) (v := .pointer (some ⟨fb, 0, none⟩)) rfl (by kernel_rfl) (by kernel_rfl) (by kernel_rfl) (fun _ _ _ h => h) (Or.inl ⟨by rfl, ?_⟩) hHeld ?_
  · intro w' hSw
    obtain ⟨a0, a1, a2⟩ := hSw
    go_simp
  go_frame
  refine wpAnyH_take (i := 7) (v := .pointer (some ⟨fb, 0, none⟩)) rfl (by kernel_rfl) (by kernel_rfl) (by kernel_rfl) (fun _ _ _ h => h) (Or.inl ⟨by rfl, ?_⟩) hHeld ?_
  · intro w' hSw
    obtain ⟨a0, a1, a2⟩ := hSw
    go_simp
  go_frame
  refine wpAnyH_take (i := 8) (v := .pointer (some ⟨fb, 0, none⟩)) rfl (by kernel_rfl) (by kernel_rfl) (by kernel_rfl) (fun _ _ _ h => h) (Or.inl ⟨by rfl, ?_⟩) hHeld ?_
  · intro w' hSw
    obtain ⟨a0, a1, a2⟩ := hSw
    go_simp
  go_frame
  refine wpAnyH_take (i := 10) (v := .pointer (some ⟨w.heap.size, 3, none⟩)) rfl (by kernel_rfl) (by kernel_rfl) (by kernel_rfl) (fun _ _ _ h => h) (Or.inl ⟨by rfl, ?_⟩) hHeld ?_
  · intro w' hSw
    obtain ⟨a0, a1, a2⟩ := hSw
    go_simp
  go_frame
  refine wpAnyH_take (i := 11) (v := .int .i64 o) rfl (by kernel_rfl) (by kernel_rfl) (by kernel_rfl) (fun _ _ _ h => h) (Or.inl ⟨by rfl, ?_⟩) hHeld ?_
  · intro w' hSw
    obtain ⟨a0, a1, a2⟩ := hSw
    go_simp
  go_frame
  refine wpAnyH_take (i := 13) (v := .pointer (some ⟨fb, 0, none⟩)) rfl (by kernel_rfl) (by kernel_rfl) (by kernel_rfl) (fun _ _ _ h => h) (Or.inl ⟨by rfl, ?_⟩) hHeld ?_
  · intro w' hSw
    obtain ⟨a0, a1, a2⟩ := hSw
    go_simp
  go_frame
  refine wpAnyH_take (i := 14) (v := .pointer (some ⟨fb, 0, none⟩)) rfl (by kernel_rfl) (by kernel_rfl) (by kernel_rfl) (fun _ _ _ h => h) (Or.inl ⟨by rfl, ?_⟩) hHeld ?_
  · intro w' hSw
    obtain ⟨a0, a1, a2⟩ := hSw
    go_simp
  go_frame
  refine wpAnyH_ready (rs := [9]) (by kernel_rfl) (by simp) ?_
  refine AllReadyH.cons rfl (fun K hK => ?_) AllReadyH.nil
  go_simp
  refine hK.out _ _ hHeld (fun hHeld => ?_)
  clear hK K
  refine wpAnyH_ready (rs := [12]) (by kernel_rfl) (by simp) ?_
  refine AllReadyH.cons rfl (fun K hK => ?_) AllReadyH.nil
  go_simp
  (with_reducible refine HC.out.mono ?_)
  rintro e w2 ⟨v1, rfl, g2, g1, g3⟩
  obtain ⟨va, vc, rfl, hvc⟩ := bys_slice g2
  obtain ⟨y2, y3, y4, y5, y6⟩ := appS_grown (s := 0) (v := V) HX.out HB.out rfl g1 N1.out N2.out
  go_simp
  refine hK.out _ _ ⟨y2, y3, y4⟩ (fun hHeld => ?_)
  clear hK K
  refine wpAnyH_take (i := 15) (v := .pointer (some ⟨fb, 0, none⟩)) rfl (by kernel_rfl) (by kernel_rfl) (by kernel_rfl) (fun _ _ _ h => h) (Or.inl ⟨by rfl, ?_⟩) hHeld ?_
  · intro w' hSw
    obtain ⟨a0, a1, a2⟩ := hSw
    go_simp
  go_frame
  refine wpAnyH_ready (rs := [16]) (by kernel_rfl) (by simp) ?_
  refine AllReadyH.cons rfl (fun K hK => ?_) AllReadyH.nil
  go_simp
  refine hK.out _ _ (app3_set N3.out ⟨y2, y3, y4⟩ _ _) (fun hHeld => ?_)
  clear hK K
  refine wpAnyH_done (by kernel_rfl) ?_ _
  go_wp2
  go_returns
  exact HF.out _ _ g1 g2 g3

set_option maxHeartbeats 1000000 in
set_option maxRecDepth 20000 in
theorem apply_trunc_true (i o : Nat) (h0 : Inv L ρ n S w) (hi : i < S.nf) (ho : o ≤ 4000000) :
    Calls Tryz.prog 70 #[.pointer (some ⟨L.b, 0, none⟩), .agg #[.int .i64 3, .string ⟨#[]⟩, .pointer (some ⟨L.F i, 0, none⟩), .int .i64 o, .string ⟨#[]⟩], .int .i64 1] w (AppQ L ρ n (applyS true (.trunc i o) S) w) := by
  obtain ⟨W, hW⟩ : ∃ W, W = w.alloc (.cells #[.int .i64 3, .string ⟨#[]⟩, .pointer (some ⟨L.F i, 0, none⟩), .int .i64 o, .string ⟨#[]⟩] 74) := ⟨_, rfl⟩
  have bx : Blk W w.heap.size 74 #[.int .i64 3, .string ⟨#[]⟩, .pointer (some ⟨L.F i, 0, none⟩), .int .i64 o, .string ⟨#[]⟩] := by rw [hW]; exact blk_new _ _ _
  have hAB : Step L ρ w L ρ W := by rw [hW]; exact Step.below ((Below.refl _ _).alloc (Nat.le_refl _) _)
  have h : Inv L ρ n S W.drew := by rw [hW]; exact (h0.alloc _).drew
  have rb : ρ w.heap.size = none := h0.old _ (Nat.le_refl _)
  have ne1 : some w.heap.size ≠ (L.V true i).ownBlock := fun e => by have := h.cro true i _ hi e.symm; rw [rb] at this; cases this
  have ne2 : some (L.F i) ≠ (L.V true i).ownBlock := fun e => by have := h.cro true i _ hi e.symm; rw [h.fro i hi] at this; cases this
  have ne3 : w.heap.size ≠ L.F i := fun e => by have := h.fro i hi; rw [← e, rb] at this; cases this
  have hfin : ∀ w2 v1, W.drew.grownBy w2 (L.V true i).ownBlock → Bys w2 v1 (resizeL (S.con true i) o) → (v1.ownBlock = (L.V true i).ownBlock ∨ v1.ownBlock = some W.heap.size) → AppQ L ρ n (applyS true (.trunc i o) S) w (.returned (.tuple #[])) (w2.setCell ⟨L.F i, 1, none⟩ v1) := fun w2 v1 g1 g2 g3 => by
    obtain ⟨ρ', hI, hS⟩ := inv_con h true i hi g1 g2 (by rw [resizeL_len]; exact ho) g3
    exact ⟨rfl, _, ρ', hI, (hAB.trans (show Step L ρ W L ρ W.drew from ⟨rfl, rfl, rfl, Nat.le_refl _, fun _ _ _ => rfl, fun _ _ => rfl, rfl⟩)).trans hS, rfl, rfl⟩
  have bf : Blk W.drew (L.F i) 82 #[L.V false i, L.V true i] := h.fil i hi
  have bx' : Blk W.drew w.heap.size 74 #[.int .i64 3, .string ⟨#[]⟩, .pointer (some ⟨L.F i, 0, none⟩), .int .i64 o, .string ⟨#[]⟩] := bx
  have HC := Lib.hid (resize_any (L.V true i) (S.con true i) o _ (h.con true i hi) (Nat.le_trans (h.clen true i hi) (by decide)) (by omega))
  have HF := Lib.hid hfin; have HX := Lib.hid bx'; have HB := Lib.hid bf; have N3 := Lib.hid ne3; have N1 := Lib.hid ne1; have N2 := Lib.hid ne2
  have x0 := blk_cell bx 0 rfl
  clear h h0 hAB hfin bx bx' bf ne1 ne2 ne3 rb hi ho
  rw [hW] at HC HF HX HB x0
  clear hW
  generalize L.V true i = V at HC HF N1 N2 HB
  generalize L.V false i = Vo at HB
  generalize L.F i = fb at *
  obtain ⟨z2, z3, z4, z5, z6⟩ := appS_of (s := 1) (v := V) HX.out HB.out rfl
  go_enter Tryz.func70, Tryz.ntmps70
  go_wp2
  refine wp_region_held_drew (S := fun a => a.cell? ⟨w.heap.size, 2, none⟩ = some (.pointer (some ⟨fb, 0, none⟩)) ∧ a.cell? ⟨w.heap.size, 3, none⟩ = some (.int .i64 o) ∧ a.cell? ⟨w.heap.size, 4, none⟩ = some (.string ⟨#[]⟩)) (by kernel_rfl) ⟨z2, z3, z4⟩ (fun hHeld => ?_)
  refine wpAnyH_take (i := 0) (v := .pointer (some ⟨w.heap.size, 2, none⟩)) rfl (by kernel_rfl) (by kernel_rfl) (by kernel_rfl) (fun _ _ _ h => h) (Or.inl ⟨by rfl, ?_⟩) hHeld ?_
  · intro w' hSw
    obtain ⟨a0, a1, a2⟩ := hSw
    go_simp
  go_frame
  refine wpAnyH_take (i := 1) (v := .pointer (some ⟨fb, 0, none⟩)) rfl (by kernel_rfl) (by kernel_rfl) (by kernel_rfl) (fun _ _ _ h => h) (Or.inl ⟨by rfl, ?_⟩) hHeld ?_
  · intro w' hSw
    obtain ⟨a0, a1, a2⟩ := hSw
    go_simp
  go_frame
  refine wpAnyH_take (i := 2) (v := .int .i64 1) rfl (by kernel_rfl) (by kernel_rfl) (by kernel_rfl) (fun _ _ _ h => h) (Or.inl ⟨by rfl, ?_⟩) hHeld ?_
  · intro w' hSw
    obtain ⟨a0, a1, a2⟩ := hSw
    go_simp
  go_frame
  refine wpAnyH_take (i := 3) (v := .pointer (some ⟨w.heap.size, 2, none⟩)) rfl (by kernel_rfl) (by kernel_rfl) (by kernel_rfl) (fun _ _ _ h => h) (Or.inl ⟨by rfl, ?_⟩) hHeld ?_
  · intro w' hSw
    obtain ⟨a0, a1, a2⟩ := hSw
    go_simp
  go_frame
  refine wpAnyH_take (i := 4) (v := .pointer (some ⟨fb, 0, none⟩)) rfl (by kernel_rfl) (by kernel_rfl) (by kernel_rfl) (fun _ _ _ h => h) (Or.inl ⟨by rfl, ?_⟩) hHeld ?_
  · intro w' hSw
    obtain ⟨a0, a1, a2⟩ := hSw
    go_simp
  go_frame
  refine wpAnyH_take (i := 5) (v := .int .i64 1) rfl (by kernel_rfl) (by kernel_rfl) (by kernel_rfl) (fun _ _ _ h => h) (Or.inl ⟨by rfl, ?_⟩) hHeld ?_
  · intro w' hSw
    obtain ⟨a0, a1, a2⟩ := hSw
    go_simp
  go_frame
  refine wpAnyH_take (i := 6) (v := .pointer (some ⟨fb, 0, none⟩)) rfl (by kernel_rfl) (by kernel_rfl) (by kernel_rfl) (fun _ _ _ h => h) (Or.inl ⟨by rfl, ?_⟩) hHeld ?_
  · intro w' hSw
    obtain ⟨a0, a1, a2⟩ := hSw
    go_simp
  go_frame
  refine wpAnyH_take (i := 7) (v := .pointer (some ⟨fb, 0, none⟩)) rfl (by kernel_rfl) (by kernel_rfl) (by kernel_rfl) (fun _ _ _ h => h) (Or.inl ⟨by rfl, ?_⟩) hHeld ?_
  · intro w' hSw
    obtain ⟨a0, a1, a2⟩ := hSw
    go_simp
  go_frame
  refine wpAnyH_take (i := 8) (v := .pointer (some ⟨fb, 1, none⟩)) rfl (by kernel_rfl) (by kernel_rfl) (by kernel_rfl) (fun _ _ _ h => h) (Or.inl ⟨by rfl, ?_⟩) hHeld ?_
  · intro w' hSw
    obtain ⟨a0, a1, a2⟩ := hSw
    go_simp
  go_frame
  refine wpAnyH_take (i := 10) (v := .pointer (some ⟨w.heap.size, 3, none⟩)) rfl (by kernel_rfl) (by kernel_rfl) (by kernel_rfl) (fun _ _ _ h => h) (Or.inl ⟨by rfl, ?_⟩) hHeld ?_
  · intro w' hSw
    obtain ⟨a0, a1, a2⟩ := hSw
    go_simp
  go_frame
  refine wpAnyH_take (i := 11) (v := .int .i64 o) rfl (by kernel_rfl) (by kernel_rfl) (by kernel_rfl) (fun _ _ _ h => h) (Or.inl ⟨by rfl, ?_⟩) hHeld ?_
  · intro w' hSw
    obtain ⟨a0, a1, a2⟩ := hSw
    go_simp
  go_frame
  refine wpAnyH_take (i := 13) (v := .pointer (some ⟨fb, 0, none⟩)) rfl (by kernel_rfl) (by kernel_rfl) (by kernel_rfl) (fun _ _ _ h => h) (Or.inl ⟨by rfl, ?_⟩) hHeld ?_
  · intro w' hSw
    obtain ⟨a0, a1, a2⟩ := hSw
    go_simp
  go_frame
  refine wpAnyH_take (i := 14) (v := .pointer (some ⟨fb, 0, none⟩)) rfl (by kernel_rfl) (by kernel_rfl) (by kernel_rfl) (fun _ _ _ h => h) (Or.inl ⟨by rfl, ?_⟩) hHeld ?_
  · intro w' hSw
    obtain ⟨a0, a1, a2⟩ := hSw
    go_simp
  go_frame
  refine wpAnyH_ready (rs := [9]) (by kernel_rfl) (by simp) ?_
  refine AllReadyH.cons rfl (fun K hK => ?_) AllReadyH.nil
  go_simp
  refine hK.out _ _ hHeld (fun hHeld => ?_)
  clear hK K
  refine wpAnyH_ready (rs := [12]) (by kernel_rfl) (by simp) ?_
  refine AllReadyH.cons rfl (fun K hK => ?_) AllReadyH.nil
  go_simp
  (with_reducible refine HC.out.mono ?_)
  rintro e w2 ⟨v1, rfl, g2, g1, g3⟩
  obtain ⟨va, vc, rfl, hvc⟩ := bys_slice g2
  obtain ⟨y2, y3, y4, y5, y6⟩ := appS_grown (s := 1) (v := V) HX.out HB.out rfl g1 N1.out N2.out
  go_simp
  refine hK.out _ _ ⟨y2, y3, y4⟩ (fun hHeld => ?_)
  clear hK K
  refine wpAnyH_take (i := 15) (v := .pointer (some ⟨fb, 1, none⟩)) rfl (by kernel_rfl) (by kernel_rfl) (by kernel_rfl) (fun _ _ _ h => h) (Or.inl ⟨by rfl, ?_⟩) hHeld ?_
  · intro w' hSw
    obtain ⟨a0, a1, a2⟩ := hSw
    go_simp
  go_frame
  refine wpAnyH_ready (rs := [16]) (by kernel_rfl) (by simp) ?_
  refine AllReadyH.cons rfl (fun K hK => ?_) AllReadyH.nil
  go_simp
  refine hK.out _ _ (app3_set N3.out ⟨y2, y3, y4⟩ _ _) (fun hHeld => ?_)
  clear hK K
  refine wpAnyH_done (by kernel_rfl) ?_ _
  go_wp2
  go_returns
  exact HF.out _ _ g1 g2 g3
end Go.Proofs.YtkfncnpeockiaaaGreatDoor
