/-
  Layer 7: apply for every change, and perform: a change becomes visible, and is pending behind those that already are. Condition: the change is one of this disk's, the sizes are those that the invariant holds.
-/
import Derived.Test.YtcpkbklnlnoonaaDoorDskApply2
import Derived.Deep.RegionLaw
namespace Go.Proofs.YtcpkbklnlnoonaaDoor
open Go.RowKit
variable {L : Loc} {ρ ρ' : Nat → Option Role} {n : Nat} {S : DS} {w w' : World}

theorem str_back (d : List UInt8) : (bz d).data.toList = d := rfl
/-- apply, at any change and in either state. -/
theorem apply_any (s : Bool) (c : Chg) (h : Inv L ρ n S w) (hc : c.Ok S.nf) (hn : n + 1 ≤ 100000) :
    Calls Tryd.prog 34 #[.pointer (some ⟨L.b, 0, none⟩), .agg (c.cells L.F).toArray, .int .i64 (stI s)] w (AppQ L ρ (n + 1) (applyS s c S) w) := by
  have up : ∀ {S' : DS} {e : Ending} {w' : World}, AppQ L ρ n S' w e w' → AppQ L ρ (n + 1) S' w e w' := fun ⟨h1, L', ρ', h2, h3, h4⟩ => ⟨h1, L', ρ', h2.mono (Nat.le_succ _) hn, h3, h4⟩
  cases c with
  | create nm i =>
    obtain ⟨hi, hl⟩ := hc
    have hsz : (bz nm).size ≤ 1000000 := by rw [bz_size]; exact hl
    cases hg : L.m s with
    | none => exact apply_create_none s (bz nm) i h hsz hi hn hg
    | some g => exact apply_create_some s (bz nm) i h hsz hi hn g hg
  | remove nm =>
    have hsz : (bz nm).size ≤ 1000000 := by rw [bz_size]; exact hc
    exact (apply_remove s (bz nm) h hsz).mono fun e w' hq => up hq
  | write i o d =>
    obtain ⟨hi, hl⟩ := hc
    have hsz : o + (bz d).size ≤ 4000000 := by rw [bz_size]; exact hl
    cases s
    · exact (apply_write_false i o (bz d) h hi hsz).mono fun e w' hq => up hq
    · exact (apply_write_true i o (bz d) h hi hsz).mono fun e w' hq => up hq
  | trunc i z =>
    obtain ⟨hi, hl⟩ := hc
    cases s
    · exact (apply_trunc_false i z h hi hl).mono fun e w' hq => up hq
    · exact (apply_trunc_true i z h hi hl).mono fun e w' hq => up hq

/-- The pending changes turned: in their own row, or in a new one. -/
theorem inv_pend {n' : Nat} (h : Inv L ρ n S w) {v1 : Value} (l : List Chg) (hg : w.grownBy w' L.pv.ownBlock) (hb : w'.ownsRow 0 52 5 v1 l.length (l.flatMap (Chg.cells L.F))) (hok : ∀ c, c ∈ l → c.Ok S.nf) (ho : v1.ownBlock = L.pv.ownBlock ∨ v1.ownBlock = some w.heap.size) (hn : n ≤ n') (hn' : n' ≤ 100000) (hl : l.length ≤ n') :
    ∃ ρ', Inv { L with pv := v1 } ρ' n' { S with pend := l } (w'.setCell ⟨L.b, 3, none⟩ v1) ∧ Step L ρ w { L with pv := v1 } ρ' (w'.setCell ⟨L.b, 3, none⟩ v1) := by
  have hlt : ∀ g, v1.ownBlock = some g → g < w'.heap.size := fun g hg' => (hb.lt g hg').2
  obtain ⟨ρ', hx, hro, hown, hold⟩ : ∃ ρ' : Nat → Option Role, (∀ k r, ρ k = some r → ρ' k = some r) ∧ (∀ k, k < w.heap.size → ρ' k = ρ k) ∧ (∀ g, v1.ownBlock = some g → ρ' g = some .pend) ∧ (∀ k, w'.heap.size ≤ k → ρ' k = none) := by
    rcases ho with ho | ho
    · exact ⟨ρ, fun _ _ h => h, fun _ _ => rfl, fun g hg' => h.pro g (ho ▸ hg'), fun k hk => h.old k (Nat.le_trans hg.size hk)⟩
    · refine ⟨updN ρ w.heap.size (some .pend), fun k r hk => ?_, fun k hk => ?_, fun g hg' => ?_, fun k hk => ?_⟩
      · unfold updN
        rw [if_neg (fun e => by subst e; rw [h.old _ (Nat.le_refl _)] at hk; cases hk)]; exact hk
      · unfold updN
        rw [if_neg (Nat.ne_of_lt hk)]
      · rw [ho] at hg'; cases hg'; simp [updN]
      · have := hlt _ ho
        unfold updN
        rw [if_neg (fun e => by omega)]; exact h.old k (Nat.le_trans hg.size hk)
  have hkr : ∀ k r, ρ k = some r → r ≠ .pend → w'.heap[k]? = w.heap[k]? := fun k r hr hne => hg.block k (h.lt (by rw [hr]; simp)) (fun e => by have := h.pro k e.symm; rw [hr] at this; cases this; exact hne rfl)
  have hks : ∀ k, k ≠ L.b → (w'.setCell ⟨L.b, 3, none⟩ v1).heap[k]? = w'.heap[k]? := setCell_keep _ _ _ _
  have hkb : ∀ k r, ρ k = some r → r ≠ .pend → r ≠ .disk → (w'.setCell ⟨L.b, 3, none⟩ v1).heap[k]? = w.heap[k]? := fun k r hr h1 h2 => (hks k (fun e => by subst e; rw [h.hb] at hr; cases hr; exact h2 rfl)).trans (hkr k r hr h1)
  refine ⟨ρ', ?_, ?_⟩
  · exact {
      hb := hx _ _ h.hb
      blk := by
        have h0 : Blk w' L.b 42 _ := (hkr _ _ h.hb (by simp)).trans h.blk
        exact blk_set h0 3 v1
      mp := fun t => mapI_keep (h.mp t) (fun g hg' => hkb g _ hg' (by simp) (by simp)) hx
      flt := fltI_keep h.flt (fun g hg' => hkb g _ hg' (by simp) (by simp)) hx
      pnd := row_keep hb (fun g hg' => hks g (fun e => by
        subst e
        have h1 := hown _ hg'
        rw [hx _ _ h.hb] at h1; cases h1))
      pro := hown
      fro := fun j hj => hx _ _ (h.fro j hj)
      fil := fun j hj => (hkb _ _ (h.fro j hj) (by simp) (by simp)).trans (h.fil j hj)
      con := fun t j hj => row_keep (h.con t j hj) (fun g hg' => hkb g _ (h.cro t j g hj hg') (by simp) (by simp))
      cro := fun t j g hj hg' => hx _ _ (h.cro t j g hj hg')
      clen := h.clen
      dok := h.dok
      pok := hok
      old := fun k hk => hold k (by rw [size_setCell'] at hk; exact hk)
      room := h.room
      bnd := ⟨hl, Nat.le_trans h.bnd.2.1 hn, fun t => Nat.le_trans (h.bnd.2.2.1 t) hn, hn'⟩ }
  · exact ⟨hg.os, hg.tape, hg.output, by rw [size_setCell']; exact hg.size, fun k hk hr => (hks k (fun e => by subst e; rw [h.hb] at hr; cases hr)).trans (hg.block k hk (fun e => by have := h.pro k e.symm; rw [hr] at this; cases this)), hro, rfl⟩
theorem cells_len (F : Nat → Nat) (c : Chg) : (c.cells F).length = 5 := by cases c <;> rfl
theorem cells_one (F : Nat → Nat) (c : Chg) : ∀ u ∈ c.cells F, u.oneCell' = true := by
  intro u hu
  cases c <;> simp only [Chg.cells, List.mem_cons, List.not_mem_nil, or_false] at hu <;> rcases hu with rfl | rfl | rfl | rfl | rfl <;> rfl
theorem chg_info : (Tryd.prog.info? 52).map (fun i => (i.zero, i.size, i.bytes)) = some (some (.agg #[.int .i64 0, .string ⟨#[]⟩, .pointer none, .int .i64 0, .string ⟨#[]⟩]), 5, 56) := by kernel_rfl
end Go.Proofs.YtcpkbklnlnoonaaDoor
