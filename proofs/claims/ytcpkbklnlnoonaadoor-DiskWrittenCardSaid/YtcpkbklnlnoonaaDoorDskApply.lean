/-
  Layer 7: apply: a change in one of the two states: a path created or removed, a file's contents overwritten or resized; all other parts of the disk, and all other blocks, stay. Condition: the change is one of this disk's, the sizes are those that the invariant holds.
-/
import Derived.Test.YtcpkbklnlnoonaaDoorDskBegin
import Derived.StillTailTactics
namespace Go.Proofs.YtcpkbklnlnoonaaDoor
open Go.RowKit
variable {L : Loc} {ρ ρ' : Nat → Option Role} {n : Nat} {S : DS} {w w' : World}

def stI (s : Bool) : Int := if s then 1 else 0
def applyS (s : Bool) (c : Chg) (S : DS) : DS := match c with
  | .create nm i => { S with dirs := upd S.dirs s (putL (S.dirs s) nm i) }
  | .remove nm => { S with dirs := upd S.dirs s (delL (S.dirs s) nm) }
  | .write i o d => { S with con := upd2 S.con s i (overL (S.con s i) o d) }
  | .trunc i z => { S with con := upd2 S.con s i (resizeL (S.con s i) z) }

/-- The map of one state turned in place. -/
theorem inv_map {S' : DS} {n' : Nat} (h : Inv L ρ n S w) (s : Bool) (l : List (List UInt8 × Nat)) (hS : S' = { S with dirs := upd S.dirs s l }) (hn : n ≤ n') (hn' : n' ≤ 100000) (hl : l.length ≤ n') (hm : MapI ρ L.F w' (L.m s) (.map s) l)
    (hk : ∀ g, ρ g ≠ some (.map s) → w'.heap[g]? = w.heap[g]?) (hz : w.heap.size ≤ w'.heap.size) (hd : ∀ p, p ∈ l → p.2 < S.nf) : Inv L ρ n' S' w' := by
  subst hS
  exact {
    hb := h.hb
    blk := (hk _ (by rw [h.hb]; simp)).trans h.blk
    mp := fun t => by
      by_cases e : t = s
      · subst e; simp only [upd, if_true]; exact hm
      · simp only [upd, if_neg e]
        exact mapI_keep (h.mp t) (fun g hg => hk g (by rw [hg]; simpa using e)) (fun _ _ h => h)
    flt := fltI_keep h.flt (fun g hg => hk g (by rw [hg]; simp)) (fun _ _ h => h)
    pnd := row_keep h.pnd (fun g hg => hk g (by rw [h.pro g hg]; simp))
    pro := h.pro
    fro := h.fro
    fil := fun i hi => (hk _ (by rw [h.fro i hi]; simp)).trans (h.fil i hi)
    con := fun t i hi => row_keep (h.con t i hi) (fun g hg => hk g (by rw [h.cro t i g hi hg]; simp))
    cro := h.cro
    clen := h.clen
    dok := fun t p hp => by
      by_cases e : t = s
      · subst e; simp only [upd, if_true] at hp; exact hd p hp
      · simp only [upd, if_neg e] at hp; exact h.dok t p hp
    pok := h.pok
    old := fun k hk' => h.old k (Nat.le_trans hz hk')
    room := h.room
    bnd := ⟨Nat.le_trans h.bnd.1 hn, Nat.le_trans h.bnd.2.1 hn, fun t => by
      by_cases e : t = s
      · subst e; simp only [upd, if_true]; exact hl
      · simp only [upd, if_neg e]; exact Nat.le_trans (h.bnd.2.2.1 t) hn, hn'⟩ }

theorem grown_keep {g : Nat} (h : w.grownBy w' (some g)) (hI : Inv L ρ n S w) {r : Role} (hg : ρ g = some r) : ∀ k, k < w.heap.size → ρ k ≠ some r → w'.heap[k]? = w.heap[k]? := fun k hk hr => h.block k hk (fun e => by cases e; exact hr hg)

/-- The delete of the program at the map of one state. -/
theorem mapI_drop {F : Nat → Nat} {m : Option Nat} {r : Role} {l : List (List UInt8 × Nat)} (h : MapI ρ F w m r l) {p : ByteArray} (hp : p.size ≤ 1000000) :
    ∃ w', (Builtin.delete_ #[37, 9] 0 #[.map m, .string p]).run Tryd.prog w = .ok (.tuple #[]) w' ∧ MapI ρ F w' m r (delL l p.data.toList) ∧ w'.heap.size = w.heap.size ∧ w'.os = w.os ∧ w'.tape = w.tape ∧ w'.output = w.output ∧ ∀ k, ρ k ≠ some r → w'.heap[k]? = w.heap[k]? := by
  rcases h with ⟨rfl, rfl⟩ | ⟨g, rfl, hg, hown⟩
  · exact ⟨w, Maps.drop_nil lawStr underF (keyStr hp) _, .inl ⟨rfl, rfl⟩, rfl, rfl, rfl, rfl, fun _ _ => rfl⟩
  · obtain ⟨w', hrun, hown', hturn⟩ := hown.drop lawStr underF (keyStr hp) 0
    rw [fileD_del] at hown'
    have hsz := hown'.size_le
    rw [fileD_size] at hsz
    have hgr := hturn.grown
    have hzz : w'.heap.size = w.heap.size := by obtain ⟨es, clock, es', clock', _, rfl⟩ := hturn; exact Array.size_setIfInBounds
    refine ⟨w', hrun, .inr ⟨g, rfl, hg, ?_⟩, hzz, hgr.os, hgr.tape, hgr.output, fun k hr => ?_⟩
    · obtain ⟨es, clock, hb, F', hs, hD⟩ := hown'
      refine ⟨es, clock, hb, F', ?_, hD⟩
      have e1 := congrArg Maps.size hD
      rw [fileD_size] at e1
      simp [Maps.size, length_sorted] at e1
      omega
    · rcases Nat.lt_or_ge k w.heap.size with hk | hk
      · exact hgr.block k hk (fun e => by cases e; exact hr hg)
      · rw [Array.getElem?_eq_none hk, Array.getElem?_eq_none (by rw [hzz]; exact hk)]
/-- The store of the program at the map of one state that is not nil. -/
theorem mapI_store {F : Nat → Nat} {g : Nat} {r : Role} {l : List (List UInt8 × Nat)} (h : MapI ρ F w (some g) r l) {p : ByteArray} (hp : p.size ≤ 1000000) (hl : l.length ≤ 1000000) (i : Nat) :
    ∃ w', (Instr.mapUpdate 37 (.map (some g)) (.string p) (.pointer (some ⟨F i, 0, none⟩))).run Tryd.prog w = .ok () w' ∧ MapI ρ F w' (some g) r (putL l p.data.toList i) ∧ w'.heap.size = w.heap.size ∧ w'.os = w.os ∧ w'.tape = w.tape ∧ w'.output = w.output ∧ ∀ k, ρ k ≠ some r → w'.heap[k]? = w.heap[k]? := by
  rcases h with ⟨e, _⟩ | ⟨g', e, hg, hown⟩
  · cases e
  · cases e
    obtain ⟨w', hrun, hown', hturn⟩ := hown.store lawStr underF (by unfold maxLen; omega) (keyStr hp) (val := .pointer (some ⟨F i, 0, none⟩)) (d := .lit (.int .i64 (F i))) (ps := []) rfl
    rw [fileD_put] at hown'
    have hgr := hturn.grown
    have hzz : w'.heap.size = w.heap.size := by obtain ⟨es, clock, es', clock', _, rfl⟩ := hturn; exact Array.size_setIfInBounds
    refine ⟨w', hrun, .inr ⟨g, rfl, hg, ?_⟩, hzz, hgr.os, hgr.tape, hgr.output, fun k hr => ?_⟩
    · obtain ⟨es, clock, hb, F', hs, hD⟩ := hown'
      refine ⟨es, clock, hb, F', ?_, hD⟩
      have e1 := congrArg Maps.size hD
      rw [fileD_size] at e1
      simp [Maps.size, length_sorted] at e1
      omega
    · rcases Nat.lt_or_ge k w.heap.size with hk | hk
      · exact hgr.block k hk (fun e => by cases e; exact hr hg)
      · rw [Array.getElem?_eq_none hk, Array.getElem?_eq_none (by rw [hzz]; exact hk)]

theorem eqlM_none (w : World) : (binOp .eql 37 (.map none) (.map none)).run Tryd.prog w = .ok (.bool true) w := by kernel_rfl
theorem eqlM_some (g : Nat) (w : World) : (binOp .eql 37 (.map (some g)) (.map none)).run Tryd.prog w = .ok (.bool false) w := by kernel_rfl
/-- What apply leaves. -/
abbrev AppQ (L : Loc) (ρ : Nat → Option Role) (n : Nat) (S : DS) (w : World) (e : Ending) (w' : World) : Prop :=
  e = .returned (.tuple #[]) ∧ ∃ L' ρ', Inv L' ρ' n S w' ∧ Step L ρ w L' ρ' w' ∧ L'.F = L.F ∧ L'.pv = L.pv

set_option maxHeartbeats 1000000 in
theorem apply_remove (s : Bool) (nm : ByteArray) (h : Inv L ρ n S w) (hnm : nm.size ≤ 1000000) :
    Calls Tryd.prog 34 #[.pointer (some ⟨L.b, 0, none⟩), .agg #[.int .i64 1, .string nm, .pointer none, .int .i64 0, .string ⟨#[]⟩], .int .i64 (stI s)] w (AppQ L ρ n (applyS s (.remove nm.data.toList) S) w) := by
  have hA := h.alloc (.cells #[.int .i64 1, .string nm, .pointer none, .int .i64 0, .string ⟨#[]⟩] 52)
  have hAB : Step L ρ w L ρ (w.alloc (.cells #[.int .i64 1, .string nm, .pointer none, .int .i64 0, .string ⟨#[]⟩] 52)) := Step.below ((Below.refl _ _).alloc (Nat.le_refl _) _)
  obtain ⟨W, hW⟩ : ∃ W, W = w.alloc (.cells #[.int .i64 1, .string nm, .pointer none, .int .i64 0, .string ⟨#[]⟩] 52) := ⟨_, rfl⟩
  rw [← hW] at hA hAB
  obtain ⟨w', hrun, hM, hz, e1, e2, e3, hk⟩ := mapI_drop (hA.drew.mp s) hnm
  have hI : Inv L ρ n (applyS s (.remove nm.data.toList) S) w' := inv_map hA.drew s _ rfl (Nat.le_refl _) hA.bnd.2.2.2 (Nat.le_trans (delL_len _ _) (hA.bnd.2.2.1 s)) hM hk (Nat.le_of_eq hz.symm) (fun p hp => hA.dok s p (List.mem_filter.1 hp).1)
  have hS : Step L ρ W L ρ w' := ⟨e1, e2, e3, Nat.le_of_eq hz.symm, fun k _ hr => hk k (by rw [hr]; simp), fun _ _ => rfl, rfl⟩
  have HI := Lib.hid hI; have HS := Lib.hid (hAB.trans hS)
  have HK := Lib.hid hA.blk
  have bx : Blk W w.heap.size 52 #[.int .i64 1, .string nm, .pointer none, .int .i64 0, .string ⟨#[]⟩] := by rw [hW]; exact blk_new _ _ _
  have x0 := blk_cell bx 0 rfl
  have x1 := blk_cell bx 1 rfl
  clear h hA hAB hM hk hI hS bx e1 e2 e3 hz
  rw [hW] at hrun HK x0 x1
  clear hW
  cases s
  · simp only [stI, Bool.false_eq_true, if_false]
    have c1 := blk_cell HK.out 1 rfl
    go_enter Tryd.func34, Tryd.ntmps34
    go_wp2
    go_region
    go_wp2
    go_returns
    exact ⟨rfl, L, ρ, HI.out, HS.out, rfl, rfl⟩
  · simp only [stI, if_true]
    have c1 := blk_cell HK.out 2 rfl
    go_enter Tryd.func34, Tryd.ntmps34
    go_wp2
    go_region
    go_wp2
    go_returns
    exact ⟨rfl, L, ρ, HI.out, HS.out, rfl, rfl⟩

set_option maxHeartbeats 1000000 in
set_option maxRecDepth 20000 in
theorem apply_create_some (s : Bool) (nm : ByteArray) (i : Nat) (h : Inv L ρ n S w) (hnm : nm.size ≤ 1000000) (hi : i < S.nf) (hn : n + 1 ≤ 100000) (g : Nat) (hg : L.m s = some g) :
    Calls Tryd.prog 34 #[.pointer (some ⟨L.b, 0, none⟩), .agg #[.int .i64 0, .string nm, .pointer (some ⟨L.F i, 0, none⟩), .int .i64 0, .string ⟨#[]⟩], .int .i64 (stI s)] w (AppQ L ρ (n + 1) (applyS s (.create nm.data.toList i) S) w) := by
  have hA := h.alloc (.cells #[.int .i64 0, .string nm, .pointer (some ⟨L.F i, 0, none⟩), .int .i64 0, .string ⟨#[]⟩] 52)
  have hAB : Step L ρ w L ρ (w.alloc (.cells #[.int .i64 0, .string nm, .pointer (some ⟨L.F i, 0, none⟩), .int .i64 0, .string ⟨#[]⟩] 52)) := Step.below ((Below.refl _ _).alloc (Nat.le_refl _) _)
  obtain ⟨W, hW⟩ : ∃ W, W = w.alloc (.cells #[.int .i64 0, .string nm, .pointer (some ⟨L.F i, 0, none⟩), .int .i64 0, .string ⟨#[]⟩] 52) := ⟨_, rfl⟩
  rw [← hW] at hA hAB
  have hmp := hA.drew.mp s
  rw [hg] at hmp
  obtain ⟨w', hrun, hM, hz, e1, e2, e3, hk⟩ := mapI_store hmp hnm (by have := hA.bnd.2.2.1 s; omega) i
  have hI : Inv L ρ (n + 1) (applyS s (.create nm.data.toList i) S) w' := inv_map hA.drew s _ rfl (Nat.le_succ _) hn (Nat.le_trans (putL_len _ _ _) (Nat.succ_le_succ (hA.bnd.2.2.1 s))) (by rw [hg]; exact hM) hk (Nat.le_of_eq hz.symm) (fun p hp => by
    rcases putL_mem hp with rfl | hp
    · exact hi
    · exact hA.dok s p hp)
  have hS : Step L ρ W L ρ w' := ⟨e1, e2, e3, Nat.le_of_eq hz.symm, fun k _ hr => hk k (by rw [hr]; simp), fun _ _ => rfl, rfl⟩
  have HI := Lib.hid hI; have HS := Lib.hid (hAB.trans hS)
  have HK := Lib.hid hA.blk
  have bx : Blk W w.heap.size 52 #[.int .i64 0, .string nm, .pointer (some ⟨L.F i, 0, none⟩), .int .i64 0, .string ⟨#[]⟩] := by rw [hW]; exact blk_new _ _ _
  have x0 := blk_cell bx 0 rfl
  have x1 := blk_cell bx 1 rfl
  have x2 := blk_cell bx 2 rfl
  clear h hA hAB hM hk hI hS bx e1 e2 e3 hz hmp hi
  rw [hW] at hrun HK x0 x1 x2
  clear hW
  cases s
  · simp only [stI, Bool.false_eq_true, if_false]
    rw [hg] at HK
    have c1 := blk_cell HK.out 1 rfl
    clear hg hn hnm
    have eqn := eqlM_none
    have eqs := eqlM_some
    go_enter Tryd.func34, Tryd.ntmps34
    go_wp2
    go_region
    go_wp2
    go_returns
    exact ⟨rfl, L, ρ, HI.out, HS.out, rfl, rfl⟩
  · simp only [stI, if_true]
    rw [hg] at HK
    have c1 := blk_cell HK.out 2 rfl
    clear hg hn hnm
    have eqn := eqlM_none
    have eqs := eqlM_some
    go_enter Tryd.func34, Tryd.ntmps34
    go_wp2
    go_region
    go_wp2
    go_returns
    exact ⟨rfl, L, ρ, HI.out, HS.out, rfl, rfl⟩

def offM (s : Bool) : Nat := if s then 2 else 1
theorem inv_newmap (h : Inv L ρ n S w) (s : Bool) (g : Nat) (hg : ρ g = none) (hgb : w.heap[g]? = some (.map #[] 0)) (hm : L.m s = none) :
    Inv { L with m := upd L.m s (some g) } (updN ρ g (some (.map s))) n S (w.setCell ⟨L.b, offM s, none⟩ (.map (some g))) := by
  have hx : ∀ k r, ρ k = some r → updN ρ g (some (.map s)) k = some r := fun k r hk => by
    unfold updN
    rw [if_neg (fun e => by subst e; rw [hg] at hk; cases hk)]; exact hk
  have hne : g ≠ L.b := fun e => by subst e; rw [h.hb] at hg; cases hg
  have hk : ∀ k, k ≠ L.b → (w.setCell ⟨L.b, offM s, none⟩ (.map (some g))).heap[k]? = w.heap[k]? := setCell_keep _ _ _ _
  have hkr : ∀ k r, ρ k = some r → r ≠ .disk → (w.setCell ⟨L.b, offM s, none⟩ (.map (some g))).heap[k]? = w.heap[k]? := fun k r hr hd => hk k (fun e => by subst e; rw [h.hb] at hr; cases hr; exact hd rfl)
  have hd0 : S.dirs s = [] := by
    rcases h.mp s with ⟨_, e⟩ | ⟨g', e, _⟩
    · exact e
    · rw [hm] at e; cases e
  have hgs : g < w.heap.size := (Array.getElem?_eq_some_iff.1 hgb).1
  exact {
    hb := hx _ _ h.hb
    blk := by
      have := blk_set h.blk (offM s) (.map (some g))
      cases s
      · exact this
      · exact this
    mp := fun t => by
      by_cases e : t = s
      · subst e
        simp only [upd, if_true]
        refine .inr ⟨g, rfl, by simp [updN], ?_⟩
        rw [hd0]
        exact ⟨#[], 0, (hk g hne).trans hgb, ⟨by simp, MapKept.stamped_empty 0, by simp⟩, Nat.le_refl _, rfl⟩
      · simp only [upd, if_neg e]
        exact mapI_keep (h.mp t) (fun k hk' => hkr k _ hk' (by simp)) hx
    flt := fltI_keep h.flt (fun k hk' => hkr k _ hk' (by simp)) hx
    pnd := row_keep h.pnd (fun k hk' => hkr k _ (h.pro k hk') (by simp))
    pro := fun k hk' => hx _ _ (h.pro k hk')
    fro := fun i hi => hx _ _ (h.fro i hi)
    fil := fun i hi => (hkr _ _ (h.fro i hi) (by simp)).trans (h.fil i hi)
    con := fun t i hi => row_keep (h.con t i hi) (fun k hk' => hkr k _ (h.cro t i k hi hk') (by simp))
    cro := fun t i k hi hk' => hx _ _ (h.cro t i k hi hk')
    clen := h.clen
    dok := h.dok
    pok := h.pok
    old := fun k hk' => by
      rw [size_setCell'] at hk'
      unfold updN
      rw [if_neg (fun e => by omega)]; exact h.old k hk'
    room := h.room
    bnd := h.bnd }
theorem step_newmap (h : Inv L ρ n S w) (s : Bool) (g : Nat) (w0 : World) (hg : w0.heap.size ≤ g) (hb : Below w0.heap.size w0 w) (h0 : Inv L ρ n S w0) (v : Value) :
    Step L ρ w0 { L with m := upd L.m s (some g) } (updN ρ g (some (.map s))) (w.setCell ⟨L.b, offM s, none⟩ v) :=
  ⟨hb.os, hb.tape, hb.output, by rw [size_setCell']; exact hb.size, fun k hk hr => (setCell_keep _ _ _ _ k (fun e => by subst e; rw [h.hb] at hr; cases hr)).trans (hb.block k hk),
   fun k hk => by unfold updN; rw [if_neg (fun e => by omega)], rfl⟩

set_option maxHeartbeats 1000000 in
set_option maxRecDepth 20000 in
theorem apply_create_none (s : Bool) (nm : ByteArray) (i : Nat) (h : Inv L ρ n S w) (hnm : nm.size ≤ 1000000) (hi : i < S.nf) (hn : n + 1 ≤ 100000) (hg : L.m s = none) :
    Calls Tryd.prog 34 #[.pointer (some ⟨L.b, 0, none⟩), .agg #[.int .i64 0, .string nm, .pointer (some ⟨L.F i, 0, none⟩), .int .i64 0, .string ⟨#[]⟩], .int .i64 (stI s)] w (AppQ L ρ (n + 1) (applyS s (.create nm.data.toList i) S) w) := by
  have hA := h.alloc (.cells #[.int .i64 0, .string nm, .pointer (some ⟨L.F i, 0, none⟩), .int .i64 0, .string ⟨#[]⟩] 52)
  have hb2 : Below w.heap.size w ((w.alloc (.cells #[.int .i64 0, .string nm, .pointer (some ⟨L.F i, 0, none⟩), .int .i64 0, .string ⟨#[]⟩] 52)).alloc (.map #[] 0)) := ((Below.refl _ _).alloc (Nat.le_refl _) _).alloc (by simp) _
  have HK := Lib.hid hA.blk
  have hA2 := hA.alloc (.map #[] 0)
  have HK2 := Lib.hid hA2.blk
  have bx : Blk ((w.alloc (.cells #[.int .i64 0, .string nm, .pointer (some ⟨L.F i, 0, none⟩), .int .i64 0, .string ⟨#[]⟩] 52)).alloc (.map #[] 0)) w.heap.size 52 #[.int .i64 0, .string nm, .pointer (some ⟨L.F i, 0, none⟩), .int .i64 0, .string ⟨#[]⟩] := by
    unfold Blk
    rw [heap_alloc_old _ _ (by simp)]
    exact heap_alloc_new _ _
  have hgb : ((w.alloc (.cells #[.int .i64 0, .string nm, .pointer (some ⟨L.F i, 0, none⟩), .int .i64 0, .string ⟨#[]⟩] 52)).alloc (.map #[] 0)).heap[w.heap.size + 1]? = some (.map #[] 0) := by
    have := heap_alloc_new (w.alloc (.cells #[.int .i64 0, .string nm, .pointer (some ⟨L.F i, 0, none⟩), .int .i64 0, .string ⟨#[]⟩] 52)) (.map #[] 0)
    simpa using this
  have hρ : ρ (w.heap.size + 1) = none := h.old _ (by omega)
  have hNM := inv_newmap hA2 s (w.heap.size + 1) hρ hgb hg
  have hST := step_newmap hA2 s (w.heap.size + 1) w (by omega) hb2 h (.map (some (w.heap.size + 1)))
  have hbne : w.heap.size ≠ L.b := fun e => by have := h.lt (g := L.b) (by rw [h.hb]; simp); omega
  have bx3 : Blk (((w.alloc (.cells #[.int .i64 0, .string nm, .pointer (some ⟨L.F i, 0, none⟩), .int .i64 0, .string ⟨#[]⟩] 52)).alloc (.map #[] 0)).setCell ⟨L.b, offM s, none⟩ (.map (some (w.heap.size + 1)))) w.heap.size 52 #[.int .i64 0, .string nm, .pointer (some ⟨L.F i, 0, none⟩), .int .i64 0, .string ⟨#[]⟩] := (setCell_keep _ _ _ _ _ hbne).trans bx
  have hmp := hNM.drew.mp s
  simp only [upd, if_true] at hmp
  obtain ⟨w', hrun, hM, hz, e1, e2, e3, hk⟩ := mapI_store hmp hnm (by have := hA.bnd.2.2.1 s; omega) i
  have hI : Inv { L with m := upd L.m s (some (w.heap.size + 1)) } (updN ρ (w.heap.size + 1) (some (.map s))) (n + 1) (applyS s (.create nm.data.toList i) S) w' := inv_map hNM.drew s _ rfl (Nat.le_succ _) hn (Nat.le_trans (putL_len _ _ _) (Nat.succ_le_succ (hA.bnd.2.2.1 s))) (by simp only [upd, if_true]; exact hM) hk (Nat.le_of_eq hz.symm) (fun p hp => by
    rcases putL_mem hp with rfl | hp
    · exact hi
    · exact hA.dok s p hp)
  have hS : Step L ρ w { L with m := upd L.m s (some (w.heap.size + 1)) } (updN ρ (w.heap.size + 1) (some (.map s))) w' := hST.trans ⟨e1, e2, e3, Nat.le_of_eq hz.symm, fun k _ hr => hk k (by rw [hr]; simp), fun _ _ => rfl, rfl⟩
  have HI := Lib.hid hI; have HS := Lib.hid hS; have HKN := Lib.hid hNM.blk
  have x0 := blk_cell bx3 0 rfl
  have x1 := blk_cell bx3 1 rfl
  have x2 := blk_cell bx3 2 rfl
  have hmm := @run_makeMap Tryd.prog
  clear h hA hA2 hNM hST hmp hM hk hI hS bx bx3 hgb hρ hbne e1 e2 e3 hz hi hb2
  have eqn := eqlM_none
  cases s
  · simp only [stI, Bool.false_eq_true, if_false]
    simp only [offM, Bool.false_eq_true, if_false] at hrun HKN x0 x1 x2
    rw [hg] at HK HK2
    have c1 := blk_cell HK.out 1 rfl
    have c1' := blk_cell HK2.out 1 rfl
    have f1 := blk_frozen HK2.out 1
    have d1 := blk_cell HKN.out 1 rfl
    simp only [upd, if_true] at d1
    clear hg hn hnm
    go_enter Tryd.func34, Tryd.ntmps34
    go_wp2
    go_region
    go_wp2
    go_returns
    exact ⟨rfl, _, _, HI.out, HS.out, rfl, rfl⟩
  · simp only [stI, if_true]
    simp only [offM, if_true] at hrun HKN x0 x1 x2
    rw [hg] at HK HK2
    have c1 := blk_cell HK.out 2 rfl
    have c1' := blk_cell HK2.out 2 rfl
    have f1 := blk_frozen HK2.out 2
    have d1 := blk_cell HKN.out 2 rfl
    simp only [upd, if_true] at d1
    clear hg hn hnm
    go_enter Tryd.func34, Tryd.ntmps34
    go_wp2
    go_region
    go_wp2
    go_returns
    exact ⟨rfl, _, _, HI.out, HS.out, rfl, rfl⟩
end Go.Proofs.YtcpkbklnlnoonaaDoor
