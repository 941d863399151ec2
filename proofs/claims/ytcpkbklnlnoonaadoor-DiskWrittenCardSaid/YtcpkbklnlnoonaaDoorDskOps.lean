/-
  Layer 7: what Create, Write and Sync do inside a counted call: a new file, a write, the pending changes of one file made durable. Condition: the sizes that the invariant holds; the paths of the visible state are distinct.
-/
import Derived.Test.YtcpkbklnlnoonaaDoorDskPath
import Derived.Test.YtcpkbklnlnoonaaDoorDskExc
import Derived.Test.YtcpkbklnlnoonaaDoorDskSettle
import Derived.Test.YtcpkbklnlnoonaaDoorDskCall
namespace Go.Proofs.YtcpkbklnlnoonaaDoor
open Go.RowKit
variable {L : Loc} {ρ ρ' : Nat → Option Role} {n : Nat} {S : DS} {w w' : World}

def newFile (S : DS) : DS := { S with nf := S.nf + 1, con := fun s i => if i = S.nf then [] else S.con s i }
def newLoc (L : Loc) (nf g : Nat) : Loc := { L with F := updN L.F nf g, V := fun s i => if i = nf then .slice none 0 0 else L.V s i }
theorem cells_upd {F : Nat → Nat} {nf g : Nat} {c : Chg} (h : c.Ok nf) : c.cells (updN F nf g) = c.cells F := by
  cases c with
  | create nm i => have := h.1; simp only [Chg.cells, updN, if_neg (Nat.ne_of_lt this)]
  | remove nm => rfl
  | write i o d => have := h.1; simp only [Chg.cells, updN, if_neg (Nat.ne_of_lt this)]
  | trunc i z => have := h.1; simp only [Chg.cells, updN, if_neg (Nat.ne_of_lt this)]
theorem ok_mono {c : Chg} {a b : Nat} (h : c.Ok a) (hab : a ≤ b) : c.Ok b := by
  cases c with
  | create nm i => exact ⟨Nat.lt_of_lt_of_le h.1 hab, h.2⟩
  | remove nm => exact h
  | write i o d => exact ⟨Nat.lt_of_lt_of_le h.1 hab, h.2⟩
  | trunc i z => exact ⟨Nat.lt_of_lt_of_le h.1 hab, h.2⟩
/-- A file that no path refers to yet. -/
theorem inv_newfile (h : Inv L ρ n S w) : Inv (newLoc L S.nf w.heap.size) (updN ρ w.heap.size (some (.file S.nf))) n (newFile S) (w.alloc (.cells #[.slice none 0 0, .slice none 0 0] 50)) ∧
    Step L ρ w (newLoc L S.nf w.heap.size) (updN ρ w.heap.size (some (.file S.nf))) (w.alloc (.cells #[.slice none 0 0, .slice none 0 0] 50)) := by
  have hnew := h.old w.heap.size (Nat.le_refl _)
  have hx : ∀ k r, ρ k = some r → updN ρ w.heap.size (some (.file S.nf)) k = some r := fun k r hk => by
    unfold updN
    rw [if_neg (fun e => by subst e; rw [hnew] at hk; cases hk)]; exact hk
  have hA := h.alloc (.cells #[.slice none 0 0, .slice none 0 0] 50)
  have hrows : S.pend.flatMap (Chg.cells (updN L.F S.nf w.heap.size)) = S.pend.flatMap (Chg.cells L.F) := by
    rw [List.flatMap_def, List.flatMap_def]
    congr 1
    exact List.map_congr_left fun c hc => cells_upd (h.pok c hc)
  refine ⟨?_, ?_⟩
  · exact {
      hb := hx _ _ hA.hb
      blk := hA.blk
      mp := fun s => mapI_F (mapI_keep (hA.mp s) (fun _ _ => rfl) hx) (fun p hp => by have := h.dok s p hp; simp only [newLoc, updN, if_neg (Nat.ne_of_lt this)])
      flt := fltI_keep hA.flt (fun _ _ => rfl) hx
      pnd := by
        show World.ownsRow _ _ _ _ _ _ (S.pend.flatMap (Chg.cells (updN L.F S.nf w.heap.size)))
        rw [hrows]; exact hA.pnd
      pro := fun g hg => hx _ _ (hA.pro g hg)
      fro := fun i hi => by
        by_cases e : i = S.nf
        · subst e; simp [newLoc, updN]
        · have hi' : i < S.nf := by have : i < S.nf + 1 := hi; omega
          simp only [newLoc, updN, if_neg e]
          exact hx _ _ (h.fro i hi')
      fil := fun i hi => by
        by_cases e : i = S.nf
        · subst e; simp only [newLoc, updN, if_true]; exact blk_new _ _ _
        · have hi' : i < S.nf := by have : i < S.nf + 1 := hi; omega
          simp only [newLoc, updN, if_neg e]
          exact hA.fil i hi'
      con := fun s i hi => by
        by_cases e : i = S.nf
        · subst e; simp only [newLoc, newFile, if_true]; exact World.ownsRow_nil _ _ _ _
        · have hi' : i < S.nf := by have : i < S.nf + 1 := hi; omega
          simp only [newLoc, newFile, if_neg e]
          exact hA.con s i hi'
      cro := fun s i g hi hg => by
        by_cases e : i = S.nf
        · subst e; simp only [newLoc, if_true] at hg; cases hg
        · have hi' : i < S.nf := by have : i < S.nf + 1 := hi; omega
          simp only [newLoc, if_neg e] at hg
          exact hx _ _ (h.cro s i g hi' hg)
      clen := fun s i hi => by
        by_cases e : i = S.nf
        · subst e; simp [newFile]
        · have hi' : i < S.nf := by have : i < S.nf + 1 := hi; omega
          simp only [newFile, if_neg e]
          exact h.clen s i hi'
      dok := fun s p hp => Nat.lt_succ_of_lt (h.dok s p hp)
      pok := fun c hc => ok_mono (h.pok c hc) (Nat.le_succ _)
      old := fun k hk => by
        have hk' : w.heap.size + 1 ≤ k := by simpa using hk
        unfold updN
        rw [if_neg (fun e => by omega)]; exact h.old k (by omega)
      room := h.room
      bnd := h.bnd }
  · exact ⟨rfl, rfl, rfl, by simp, fun k hk _ => heap_alloc_old w _ hk, fun k hk => by unfold updN; rw [if_neg (Nat.ne_of_lt hk)], rfl⟩

/-- What a counted call returns, and the state behind it. -/
abbrev IsR (r : Int × DS) (N : Nat) : Int → DS → Nat → World → Prop := fun x S' n' _ => (cutE S' x, S') = r ∧ n' ≤ N
def OutQ (L : Loc) (ρ : Nat → Option Role) (w : World) (r : Int × DS) (N : Nat) (e : Ending) (w' : World) : Prop :=
  ∃ L' ρ' n', e = .returned (.int .i64 r.1) ∧ Inv L' ρ' n' r.2 w' ∧ Step L ρ w L' ρ' w' ∧ n' ≤ N
theorem out_of {r : Int × DS} {N : Nat} {e : Ending} (h : CallQ L ρ w (IsR r N) e w') : OutQ L ρ w r N e w' := by
  obtain ⟨x, L', ρ', n', S', he, hI, hS, hr, hn⟩ := h
  subst hr
  exact ⟨L', ρ', n', he, hI, hS, hn⟩

/-! ### Sync -/
def syncIn (S : DS) (f : Nat) : DS := if S.down = true then S else settleS (ofFile f) S
def syncZ (S : DS) (p : List UInt8) : Int × DS := match findL (S.dirs false) p with
  | none => (cutE (begS S) 8, begS S)
  | some f => (cutE (syncIn (begS S) f) 0, syncIn (begS S) f)
theorem sync1_any (f bx : Nat) (h : Inv L ρ n S w) (hf : f < S.nf) (hbx : w.cell? ⟨bx, 0, none⟩ = some (.pointer (some ⟨L.b, 0, none⟩))) (hn : n + S.pend.length + 1 ≤ 100000) :
    Calls Tryd.prog 24 #[.pointer (some ⟨L.F f, 0, none⟩), .pointer (some ⟨bx, 0, none⟩)] w (PostQ L ρ w (fun x S' n' _ => x = 0 ∧ S' = syncIn S f ∧ n' ≤ n + S.pend.length)) := by
  have hA := h.alloc (.cells #[.pointer (some ⟨L.F f, 0, none⟩)] 45)
  have hb1 : Below w.heap.size w (w.alloc (.cells #[.pointer (some ⟨L.F f, 0, none⟩)] 45)) := (Below.refl _ _).alloc (Nat.le_refl _) _
  have hx : (w.alloc (.cells #[.pointer (some ⟨L.F f, 0, none⟩)] 45)).cell? ⟨w.heap.size, 0, none⟩ = some (.pointer (some ⟨L.F f, 0, none⟩)) := by simp
  have hbxA : (w.alloc (.cells #[.pointer (some ⟨L.F f, 0, none⟩)] 45)).cell? ⟨bx, 0, none⟩ = some (.pointer (some ⟨L.b, 0, none⟩)) := by
    rw [World.cell?_alloc_lt _ _ ⟨bx, 0, none⟩ (World.block_lt_of_cell? w _ hbx)]; exact hbx
  cases hd : S.down with
  | true =>
    have HC := Lib.hid (settleSync_down hA hd (.func (.func 26) #[] #[.pointer (some ⟨w.heap.size, 0, none⟩)]))
    have HA := Lib.hid hA; have HB1 := Lib.hid hb1
    have e : syncIn S f = S := by unfold syncIn; rw [if_pos hd]
    clear h hA hb1 hx
    go_enter Tryd.func24, Tryd.ntmps24
    go_wp2_with (go_at_call 25; (with_reducible refine HC.out.mono ?_); rintro e w1 ⟨rfl, rfl⟩)
    go_ret
    exact ⟨0, L, ρ, n, S, rfl, HA.out, Step.below HB1.out, rfl, e.symm, Nat.le_add_right _ _⟩
  | false =>
    have HC := Lib.hid (settleSync f ⟨w.heap.size, 0, none⟩ hA hd hf hx rfl (h.old _ (Nat.le_refl _)) hn)
    have HB1 := Lib.hid hb1
    have e : syncIn S f = settleS (ofFile f) S := by unfold syncIn; rw [if_neg (by rw [hd]; simp)]
    clear h hA hb1 hx
    go_enter Tryd.func24, Tryd.ntmps24
    go_wp2_with (go_at_call 25; (with_reducible refine HC.out.mono ?_); rintro e' w1 ⟨rfl, L', ρ', hI, hS, hF⟩; have HI := Lib.hid hI; have HS := Lib.hid hS; clear hI hS hF)
    go_ret
    exact ⟨0, L', ρ', _, _, rfl, HI.out, (Step.below HB1.out).trans HS.out, rfl, e.symm, Nat.le_refl _⟩
theorem findL_nf (h : Inv L ρ n S w) {s : Bool} {p : List UInt8} {i : Nat} (hf : findL (S.dirs s) p = some i) : i < S.nf := h.dok s _ (findL_mem hf)
theorem sync_any (p : ByteArray) (hp : p.size ≤ 1000000) (h : Inv L ρ n S w) (hd : S.down = false) (hfl : S.flt (S.ops + 1) = 0) (hn : n + S.pend.length + 2 ≤ 100000) :
    Calls Tryd.prog 11 #[.pointer (some ⟨L.b, 0, none⟩), .string p] w (OutQ L ρ w (syncZ S p.data.toList) (n + 1 + S.pend.length)) := by
  have hA := h.alloc (.cells #[.pointer (some ⟨L.b, 0, none⟩)] 23)
  have hb1 : Below w.heap.size w (w.alloc (.cells #[.pointer (some ⟨L.b, 0, none⟩)] 23)) := (Below.refl _ _).alloc (Nat.le_refl _) _
  have hx : (w.alloc (.cells #[.pointer (some ⟨L.b, 0, none⟩)] 23)).cell? ⟨w.heap.size, 0, none⟩ = some (.pointer (some ⟨L.b, 0, none⟩)) := by simp
  have hr := h.old w.heap.size (Nat.le_refl _)
  have hC := callOn_Sync1 (.pointer (some ⟨w.heap.size, 0, none⟩)) p hp hA hd hfl (by omega) (Q := IsR (syncZ S p.data.toList) (n + 1 + S.pend.length))
    (fun hq w1 _ => ⟨by unfold syncZ; rw [hq], by omega⟩)
    (fun i hq w1 hI1 hS1 _ => by
      refine (sync1_any i w.heap.size hI1 (findL_nf hI1 (s := false) hq) (step_cell hS1 hr hx) (by show n + 1 + S.pend.length + 1 ≤ 100000; omega)).mono fun e w2 hq2 => ?_
      obtain ⟨x, L', ρ', n', S', he, hI, hS, rfl, rfl, hn'⟩ := hq2
      exact ⟨0, L', ρ', n', _, he, hI, hS, by unfold syncZ; rw [hq], hn'⟩)
  have HC := Lib.hid hC; have HB1 := Lib.hid hb1
  clear hC hA hb1 hx h hd hfl hr
  go_enter Tryd.func11, Tryd.ntmps11
  go_wp2_with (go_at_call 19; (with_reducible refine HC.out.mono ?_); rintro e w1 ⟨x, L', ρ', n', S', rfl, hI, hS, hQ⟩; have HI := Lib.hid hI; have HS := Lib.hid hS; have HQ := Lib.hid hQ; clear hI hS hQ)
  go_ret
  exact out_of ⟨x, L', ρ', n', S', rfl, HI.out, (Step.below HB1.out).trans HS.out, HQ.out⟩
end Go.Proofs.YtcpkbklnlnoonaaDoor
