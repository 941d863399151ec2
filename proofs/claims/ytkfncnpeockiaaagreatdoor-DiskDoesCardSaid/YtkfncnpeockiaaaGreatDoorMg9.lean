/-
  Layer 7: what Create, Write and Sync do inside a counted call: a new file, a write, the pending changes of one file made durable. Condition: the sizes that the invariant holds; the paths of the visible state are distinct.
  Layer 7: Create and Write: what they do inside a counted call, and the calls. Condition: the sizes that the invariant holds; the paths of the visible state are distinct.
  Layer 7: Write: what it does inside a counted call, and the call. Condition: the sizes that the invariant holds; the paths of the visible state are distinct.
  Layer 7: maps.Clone of a map of files: nil for nil, else a new block with the same entries. Condition: none.
  Layer 7: Restart without choices, where the durable directory is empty: what is pending is lost, no path is left, and the machine is up. Condition: the sizes that the invariant holds.
-/
import Derived.Shelf.SlMaps.Clone
import Derived.Laws.IdiomRangeMap
import Derived.Deep.Cut
import Derived.Test.YtkfncnpeockiaaaGreatDoorMg6
import Derived.Test.YtkfncnpeockiaaaGreatDoorMg7
import Derived.Test.YtkfncnpeockiaaaGreatDoorMg8
namespace Go.Proofs.YtkfncnpeockiaaaGreatDoor
open Go.RowKit
variable {L : Loc} {ρ ρ' : Nat → Option Role} {n : Nat} {S : DS} {w w' : World}

def newFile (S : DS) : DS := { S with nf := S.nf + 1, con := fun s i => if i = S.nf then [] else S.con s i }
def newLoc (L : Loc) (nf g : Nat) : Loc := { L with F := updN L.F nf g, V := fun s i => if i = nf then .slice none 0 0 else L.V s i }
theorem cells_upd {F : Nat → Nat} {nf g : Nat} {c : Chg} (h : c.Ok nf) : c.cells (updN F nf g) = c.cells F := by
  cases c with
  | create nm i => have := h.1; simp only [Chg.cells, updN, if_neg (Nat.ne_of_lt this)]
  | remove nm => rfl
  | write i o d => have := h.1; simp only [Chg.cells, updN, if_neg (Nat.ne_of_lt this)]
  | trunc i z => have := h.1; simp only [Chg.cells, updN, if_neg (Nat.ne_of_lt this)]
theorem ok_mono {c : Chg} {a b : Nat} (h : c.Ok a) (hab : a ≤ b) : c.Ok b := by
  cases c with
  | create nm i => exact ⟨Nat.lt_of_lt_of_le h.1 hab, h.2⟩
  | remove nm => exact h
  | write i o d => exact ⟨Nat.lt_of_lt_of_le h.1 hab, h.2⟩
  | trunc i z => exact ⟨Nat.lt_of_lt_of_le h.1 hab, h.2⟩
/-- A file that no path refers to yet. -/
theorem inv_newfile (h : Inv L ρ n S w) : Inv (newLoc L S.nf w.heap.size) (updN ρ w.heap.size (some (.file S.nf))) n (newFile S) (w.alloc (.cells #[.slice none 0 0, .slice none 0 0] 82)) ∧
    Step L ρ w (newLoc L S.nf w.heap.size) (updN ρ w.heap.size (some (.file S.nf))) (w.alloc (.cells #[.slice none 0 0, .slice none 0 0] 82)) := by
  have hnew := h.old w.heap.size (Nat.le_refl _)
  have hx : ∀ k r, ρ k = some r → updN ρ w.heap.size (some (.file S.nf)) k = some r := fun k r hk => by
    unfold updN
    rw [if_neg (fun e => by subst e; rw [hnew] at hk; cases hk)]; exact hk
  have hA := h.alloc (.cells #[.slice none 0 0, .slice none 0 0] 82)
  have hrows : S.pend.flatMap (Chg.cells (updN L.F S.nf w.heap.size)) = S.pend.flatMap (Chg.cells L.F) := by
    rw [List.flatMap_def, List.flatMap_def]
    congr 1
    exact List.map_congr_left fun c hc => cells_upd (h.pok c hc)
  refine ⟨?_, ?_⟩
  · exact {
      hb := hx _ _ hA.hb
      blk := hA.blk
      mp := fun s => mapI_F (mapI_keep (hA.mp s) (fun _ _ => rfl) hx) (fun p hp => by have := h.dok s p hp; simp only [newLoc, updN, if_neg (Nat.ne_of_lt this)])
      flt := fltI_keep hA.flt (fun _ _ => rfl) hx
      pnd := by
        show World.ownsRow _ _ _ _ _ _ (S.pend.flatMap (Chg.cells (updN L.F S.nf w.heap.size)))
        rw [hrows]; exact hA.pnd
      pro := fun g hg => hx _ _ (hA.pro g hg)
      fro := fun i hi => by
        by_cases e : i = S.nf
        · subst e; simp [newLoc, updN]
        · have hi' : i < S.nf := by have : i < S.nf + 1 := hi; omega
          simp only [newLoc, updN, if_neg e]
          exact hx _ _ (h.fro i hi')
      fil := fun i hi => by
        by_cases e : i = S.nf
        · subst e; simp only [newLoc, updN, if_true]; exact blk_new _ _ _
        · have hi' : i < S.nf := by have : i < S.nf + 1 := hi; omega
          simp only [newLoc, updN, if_neg e]
          exact hA.fil i hi'
      con := fun s i hi => by
        by_cases e : i = S.nf
        · subst e; simp only [newLoc, newFile, if_true]; exact World.ownsRow_nil _ _ _ _
        · have hi' : i < S.nf := by have : i < S.nf + 1 := hi; omega
          simp only [newLoc, newFile, if_neg e]
          exact hA.con s i hi'
      cro := fun s i g hi hg => by
        by_cases e : i = S.nf
        · subst e; simp only [newLoc, if_true] at hg; cases hg
        · have hi' : i < S.nf := by have : i < S.nf + 1 := hi; omega
          simp only [newLoc, if_neg e] at hg
          exact hx _ _ (h.cro s i g hi' hg)
      clen := fun s i hi => by
        by_cases e : i = S.nf
        · subst e; simp [newFile]
        · have hi' : i < S.nf := by have : i < S.nf + 1 := hi; omega
          simp only [newFile, if_neg e]
          exact h.clen s i hi'
      dok := fun s p hp => Nat.lt_succ_of_lt (h.dok s p hp)
      pok := fun c hc => ok_mono (h.pok c hc) (Nat.le_succ _)
      old := fun k hk => by
        have hk' : w.heap.size + 1 ≤ k := by simpa using hk
        unfold updN
        rw [if_neg (fun e => by omega)]; exact h.old k (by omega)
      room := h.room
      bnd := h.bnd }
  · exact ⟨rfl, rfl, rfl, by simp, fun k hk _ => heap_alloc_old w _ hk, fun k hk => by unfold updN; rw [if_neg (Nat.ne_of_lt hk)], rfl⟩

/-- What a counted call returns, and the state behind it. -/
abbrev IsR (r : Int × DS) (N : Nat) : Int → DS → Nat → World → Prop := fun x S' n' _ => (cutE S' x, S') = r ∧ n' ≤ N
def OutQ (L : Loc) (ρ : Nat → Option Role) (w : World) (r : Int × DS) (N : Nat) (e : Ending) (w' : World) : Prop :=
  ∃ L' ρ' n', e = .returned (.int .i64 r.1) ∧ Inv L' ρ' n' r.2 w' ∧ Step L ρ w L' ρ' w' ∧ n' ≤ N
theorem out_of {r : Int × DS} {N : Nat} {e : Ending} (h : CallQ L ρ w (IsR r N) e w') : OutQ L ρ w r N e w' := by
  obtain ⟨x, L', ρ', n', S', he, hI, hS, hr, hn⟩ := h
  subst hr
  exact ⟨L', ρ', n', he, hI, hS, hn⟩

/-! ### Sync -/
def syncIn (S : DS) (f : Nat) : DS := if S.down = true then S else settleS (ofFile f) S
def syncZ (S : DS) (p : List UInt8) : Int × DS := match findL (S.dirs false) p with
  | none => (cutE (begS S) 8, begS S)
  | some f => (cutE (syncIn (begS S) f) 0, syncIn (begS S) f)
theorem sync1_any (f bx : Nat) (h : Inv L ρ n S w) (hf : f < S.nf) (hbx : w.cell? ⟨bx, 0, none⟩ = some (.pointer (some ⟨L.b, 0, none⟩))) (hn : n + S.pend.length + 1 ≤ 100000) :
    Calls Tryz.prog 39 #[.pointer (some ⟨L.F f, 0, none⟩), .pointer (some ⟨bx, 0, none⟩)] w (PostQ L ρ w (fun x S' n' _ => x = 0 ∧ S' = syncIn S f ∧ n' ≤ n + S.pend.length)) := by
  have hA := h.alloc (.cells #[.pointer (some ⟨L.F f, 0, none⟩)] 71)
  have hb1 : Below w.heap.size w (w.alloc (.cells #[.pointer (some ⟨L.F f, 0, none⟩)] 71)) := (Below.refl _ _).alloc (Nat.le_refl _) _
  have hx : (w.alloc (.cells #[.pointer (some ⟨L.F f, 0, none⟩)] 71)).cell? ⟨w.heap.size, 0, none⟩ = some (.pointer (some ⟨L.F f, 0, none⟩)) := by simp
  have hbxA : (w.alloc (.cells #[.pointer (some ⟨L.F f, 0, none⟩)] 71)).cell? ⟨bx, 0, none⟩ = some (.pointer (some ⟨L.b, 0, none⟩)) := by
    rw [World.cell?_alloc_lt _ _ ⟨bx, 0, none⟩ (World.block_lt_of_cell? w _ hbx)]; exact hbx
  cases hd : S.down with
  | true =>
    have HC := Lib.hid (settleSync_down hA hd (.func (.func 41) #[] #[.pointer (some ⟨w.heap.size, 0, none⟩)]))
    have HA := Lib.hid hA; have HB1 := Lib.hid hb1
    have e : syncIn S f = S := by unfold syncIn; rw [if_pos hd]
    clear h hA hb1 hx
    go_enter Tryz.func39, Tryz.ntmps39
    go_wp2_with (go_at_call 40; (with_reducible refine HC.out.mono ?_); rintro e w1 ⟨rfl, rfl⟩)
    go_ret
    exact ⟨0, L, ρ, n, S, rfl, HA.out, Step.below HB1.out, rfl, e.symm, Nat.le_add_right _ _⟩
  | false =>
    have HC := Lib.hid (settleSync f ⟨w.heap.size, 0, none⟩ hA hd hf hx rfl (h.old _ (Nat.le_refl _)) hn)
    have HB1 := Lib.hid hb1
    have e : syncIn S f = settleS (ofFile f) S := by unfold syncIn; rw [if_neg (by rw [hd]; simp)]
    clear h hA hb1 hx
    go_enter Tryz.func39, Tryz.ntmps39
    go_wp2_with (go_at_call 40; (with_reducible refine HC.out.mono ?_); rintro e' w1 ⟨rfl, L', ρ', hI, hS, hF⟩; have HI := Lib.hid hI; have HS := Lib.hid hS; clear hI hS hF)
    go_ret
    exact ⟨0, L', ρ', _, _, rfl, HI.out, (Step.below HB1.out).trans HS.out, rfl, e.symm, Nat.le_refl _⟩
theorem findL_nf (h : Inv L ρ n S w) {s : Bool} {p : List UInt8} {i : Nat} (hf : findL (S.dirs s) p = some i) : i < S.nf := h.dok s _ (findL_mem hf)
theorem sync_any (p : ByteArray) (hp : p.size ≤ 1000000) (h : Inv L ρ n S w) (hd : S.down = false) (hfl : S.flt (S.ops + 1) = 0) (hn : n + S.pend.length + 2 ≤ 100000) :
    Calls Tryz.prog 14 #[.pointer (some ⟨L.b, 0, none⟩), .string p] w (OutQ L ρ w (syncZ S p.data.toList) (n + 1 + S.pend.length)) := by
  have hA := h.alloc (.cells #[.pointer (some ⟨L.b, 0, none⟩)] 25)
  have hb1 : Below w.heap.size w (w.alloc (.cells #[.pointer (some ⟨L.b, 0, none⟩)] 25)) := (Below.refl _ _).alloc (Nat.le_refl _) _
  have hx : (w.alloc (.cells #[.pointer (some ⟨L.b, 0, none⟩)] 25)).cell? ⟨w.heap.size, 0, none⟩ = some (.pointer (some ⟨L.b, 0, none⟩)) := by simp
  have hr := h.old w.heap.size (Nat.le_refl _)
  have hC := callOn_Sync1 (.pointer (some ⟨w.heap.size, 0, none⟩)) p hp hA hd hfl (by omega) (Q := IsR (syncZ S p.data.toList) (n + 1 + S.pend.length))
    (fun hq w1 _ => ⟨by unfold syncZ; rw [hq], by omega⟩)
    (fun i hq w1 hI1 hS1 _ => by
      refine (sync1_any i w.heap.size hI1 (findL_nf hI1 (s := false) hq) (step_cell hS1 hr hx) (by show n + 1 + S.pend.length + 1 ≤ 100000; omega)).mono fun e w2 hq2 => ?_
      obtain ⟨x, L', ρ', n', S', he, hI, hS, rfl, rfl, hn'⟩ := hq2
      exact ⟨0, L', ρ', n', _, he, hI, hS, by unfold syncZ; rw [hq], hn'⟩)
  have HC := Lib.hid hC; have HB1 := Lib.hid hb1
  clear hC hA hb1 hx h hd hfl hr
  go_enter Tryz.func14, Tryz.ntmps14
  go_wp2_with (go_at_call 38; (with_reducible refine HC.out.mono ?_); rintro e w1 ⟨x, L', ρ', n', S', rfl, hI, hS, hQ⟩; have HI := Lib.hid hI; have HS := Lib.hid hS; have HQ := Lib.hid hQ; clear hI hS hQ)
  go_ret
  exact out_of ⟨x, L', ρ', n', S', rfl, HI.out, (Step.below HB1.out).trans HS.out, HQ.out⟩
end Go.Proofs.YtkfncnpeockiaaaGreatDoor

namespace Go.Proofs.YtkfncnpeockiaaaGreatDoor
open Go.RowKit
variable {L : Loc} {ρ ρ' : Nat → Option Role} {n : Nat} {S : DS} {w w' : World}

theorem mapI_len {F : Nat → Nat} {m : Option Nat} {r : Role} {l : List (List UInt8 × Nat)} (h : MapI ρ F w m r l) (ty : TypeId) :
    (Builtin.len_ #[54] ty #[.map m]).run Tryz.prog w = .ok (.int .i64 l.length) w := by
  rcases h with ⟨rfl, rfl⟩ | ⟨g, rfl, _, hown⟩
  · exact Maps.len_nil underF ty
  · rw [hown.len underF ty, fileD_size]
theorem neqP_none (w : World) : (binOp .neq 71 (.pointer none) (.pointer none)).run Tryz.prog w = .ok (.bool false) w := by kernel_rfl

/-! ### Create -/
def createIn (S : DS) (p : List UInt8) : Int × DS :=
  if pathB p = false then (13, S) else match findL (S.dirs false) p with
  | some _ => (9, S)
  | none => if 60 ≤ (S.dirs false).length then (6, S) else (0, perfS (.create p S.nf) (newFile S))
def createZ (S : DS) (p : List UInt8) : Int × DS := (cutE (createIn (begS S) p).2 (createIn (begS S) p).1, (createIn (begS S) p).2)
theorem cell_alloc {a : Addr} {v : Value} (h : w.cell? a = some v) (o : Obj) : (w.alloc o).cell? a = some v := by
  rw [World.cell?_alloc_lt _ _ a (World.block_lt_of_cell? w _ h)]; exact h

set_option maxHeartbeats 1000000 in
theorem create1_any (p : ByteArray) (hp : p.size ≤ 1000000) (b1 b2 : Nat) (h : Inv L ρ n S w) (h1 : w.cell? ⟨b1, 0, none⟩ = some (.string p)) (h2 : w.cell? ⟨b2, 0, none⟩ = some (.pointer (some ⟨L.b, 0, none⟩))) (hn : n + 2 ≤ 100000) :
    Calls Tryz.prog 53 #[.pointer (some ⟨b1, 0, none⟩), .pointer (some ⟨b2, 0, none⟩)] w (PostQ L ρ w (fun x S' n' _ => x = (createIn S p.data.toList).1 ∧ S' = (createIn S p.data.toList).2 ∧ n' ≤ n + 2)) := by
  have HP := Lib.hid (fun w => ispath_any p (by omega) w)
  have HH := Lib.hid h
  cases hpb : pathB p.data.toList with
  | false =>
    rw [hpb] at HP
    have e : createIn S p.data.toList = (13, S) := by unfold createIn; rw [if_pos hpb]
    have HE := Lib.hid e
    clear h e hpb
    go_enter Tryz.func53, Tryz.ntmps53
    go_wp2_with (go_at_call 54; (with_reducible refine (HP.out _).mono ?_); rintro e w1 ⟨rfl, rfl⟩)
    go_ret
    exact ⟨13, L, ρ, n, S, rfl, HH.out, Step.refl _ _ _, by rw [HE.out], by rw [HE.out], Nat.le_add_right _ _⟩
  | true =>
    rw [hpb] at HP
    have HF := Lib.hid (find_any h p hp)
    cases hq : findL (S.dirs false) p.data.toList with
    | some i =>
      have e : createIn S p.data.toList = (9, S) := by unfold createIn; rw [if_neg (by rw [hpb]; simp), hq]
      have HE := Lib.hid e
      rw [hq] at HF
      simp only [ptrF, Option.map_some] at HF
      clear h e hpb hq
      go_enter Tryz.func53, Tryz.ntmps53
      go_wp2_with (first | (go_at_call 54; (with_reducible refine (HP.out _).mono ?_); rintro e w1 ⟨rfl, rfl⟩) | (go_at_call 46; (with_reducible refine HF.out.mono ?_); rintro e w1 ⟨rfl, rfl⟩))
      go_ret
      exact ⟨9, L, ρ, n, S, rfl, HH.out, Step.refl _ _ _, by rw [HE.out], by rw [HE.out], Nat.le_add_right _ _⟩
    | none =>
      rw [hq] at HF
      simp only [ptrF, Option.map_none] at HF
      have hnq := neqP_none
      have c1 := blk_cell h.blk 1 rfl
      have hlen := mapI_len (h.mp false)
      obtain ⟨m, hm⟩ : ∃ m, m = L.m false := ⟨_, rfl⟩
      rw [← hm] at c1 hlen
      obtain ⟨dl, hdl⟩ : ∃ dl, dl = (S.dirs false).length := ⟨_, rfl⟩
      rw [← hdl] at hlen
      by_cases h60 : 60 ≤ dl
      · have e : createIn S p.data.toList = (6, S) := by unfold createIn; rw [if_neg (by rw [hpb]; simp), hq]; simp only; rw [if_pos (by omega)]
        have HE := Lib.hid e
        have t1 : (60 : Int) ≤ dl := by omega
        clear h e hpb hq hm hdl h60
        go_enter Tryz.func53, Tryz.ntmps53
        go_wp2_with (first | (go_at_call 54; (with_reducible refine (HP.out _).mono ?_); rintro e w1 ⟨rfl, rfl⟩) | (go_at_call 46; (with_reducible refine HF.out.mono ?_); rintro e w1 ⟨rfl, rfl⟩))
        go_ret
        exact ⟨6, L, ρ, n, S, rfl, HH.out, Step.refl _ _ _, by rw [HE.out], by rw [HE.out], Nat.le_add_right _ _⟩
      · have e : createIn S p.data.toList = (0, perfS (.create p.data.toList S.nf) (newFile S)) := by unfold createIn; rw [if_neg (by rw [hpb]; simp), hq]; simp only; rw [if_neg (by omega)]
        have HE := Lib.hid e
        have t1 : (dl : Int) < 60 := by omega
        have hps : p.data.toList.length ≤ 1000000 := by have : p.data.toList.length = p.size := by simp
                                                        omega
        have hN := inv_newfile h
        have hok : (Chg.create p.data.toList S.nf).Ok (newFile S).nf := ⟨Nat.lt_succ_self _, hps⟩
        have hF0 : (newLoc L S.nf w.heap.size).F S.nf = w.heap.size := by simp [newLoc, updN]
        have hcl : (Chg.create p.data.toList S.nf).cells (newLoc L S.nf w.heap.size).F = [.int .i64 0, .string p, .pointer (some ⟨w.heap.size, 0, none⟩), .int .i64 0, .string ⟨#[]⟩] := by
          simp only [Chg.cells, hF0, bz_back]; rfl
        have hC := perform_lit (.create p.data.toList S.nf) 0 p (some ⟨w.heap.size, 0, none⟩) 0 ⟨#[]⟩ hcl hN.1 hok hn
        rw [show (newLoc L S.nf w.heap.size).b = L.b from rfl] at hC
        have HC := Lib.hid hC; have HS := Lib.hid hN.2
        clear h e hpb hq hm hdl h60 hN hok hF0 hcl hC
        go_enter Tryz.func53, Tryz.ntmps53
        go_wp2_with (first | (go_at_call 54; (with_reducible refine (HP.out _).mono ?_); rintro e w1 ⟨rfl, rfl⟩) | (go_at_call 46; (with_reducible refine HF.out.mono ?_); rintro e w1 ⟨rfl, rfl⟩) | (go_at_call 55; (with_reducible refine HC.out.mono ?_); rintro e w1 ⟨rfl, L', ρ', hI, hS1, hF1⟩; have HI := Lib.hid hI; have HS1 := Lib.hid hS1; clear hI hS1 hF1))
        go_ret
        exact ⟨0, L', ρ', _, _, rfl, HI.out, HS.out.trans HS1.out, by rw [HE.out], by rw [HE.out], Nat.le_refl _⟩
theorem create_any (p : ByteArray) (hp : p.size ≤ 1000000) (h : Inv L ρ n S w) (hd : S.down = false) (hfl : S.flt (S.ops + 1) = 0) (hn : n + 3 ≤ 100000) :
    Calls Tryz.prog 22 #[.pointer (some ⟨L.b, 0, none⟩), .string p] w (OutQ L ρ w (createZ S p.data.toList) (n + 3)) := by
  have hA := (h.alloc (.cells #[.pointer (some ⟨L.b, 0, none⟩)] 25)).alloc (.cells #[.string p] 9)
  have hb1 : Below w.heap.size w ((w.alloc (.cells #[.pointer (some ⟨L.b, 0, none⟩)] 25)).alloc (.cells #[.string p] 9)) := ((Below.refl _ _).alloc (Nat.le_refl _) _).alloc (by simp) _
  have hx : (w.alloc (.cells #[.pointer (some ⟨L.b, 0, none⟩)] 25)).cell? ⟨w.heap.size, 0, none⟩ = some (.pointer (some ⟨L.b, 0, none⟩)) := by simp
  have hx2 := cell_alloc hx (.cells #[.string p] 9)
  have hy : ((w.alloc (.cells #[.pointer (some ⟨L.b, 0, none⟩)] 25)).alloc (.cells #[.string p] 9)).cell? ⟨w.heap.size + 1, 0, none⟩ = some (.string p) := by
    rw [World.cell?_alloc_at _ _ _ _ (by simp)]; rfl
  have r1 := h.old w.heap.size (Nat.le_refl _)
  have r2 := h.old (w.heap.size + 1) (Nat.le_succ _)
  have hC := call_Create1 #[.pointer (some ⟨w.heap.size + 1, 0, none⟩), .pointer (some ⟨w.heap.size, 0, none⟩)] hA hd hfl (by omega) (Q := IsR (createZ S p.data.toList) (n + 3))
    (fun w1 hI1 hS1 _ => by
      refine (create1_any p hp (w.heap.size + 1) w.heap.size hI1 (step_cell hS1 r2 hy) (step_cell hS1 r1 hx2) (by omega)).mono fun e w2 hq2 => ?_
      obtain ⟨x, L', ρ', n', S', he, hI, hS, rfl, rfl, hn'⟩ := hq2
      exact ⟨_, L', ρ', n', _, he, hI, hS, rfl, by omega⟩)
  have HC := Lib.hid hC; have HB1 := Lib.hid hb1
  clear hC hA hb1 hx hx2 hy h hd hfl r1 r2
  go_enter Tryz.func22, Tryz.ntmps22
  go_wp2_with (go_at_call 43; (with_reducible refine HC.out.mono ?_); rintro e w1 ⟨x, L', ρ', n', S', rfl, hI, hS, hQ⟩; have HI := Lib.hid hI; have HS := Lib.hid hS; have HQ := Lib.hid hQ; clear hI hS hQ)
  go_ret
  exact out_of ⟨x, L', ρ', n', S', rfl, HI.out, (Step.below HB1.out).trans HS.out, HQ.out⟩
end Go.Proofs.YtkfncnpeockiaaaGreatDoor

namespace Go.Proofs.YtkfncnpeockiaaaGreatDoor
open Go.RowKit
variable {L : Loc} {ρ ρ' : Nat → Option Role} {n : Nat} {S : DS} {w w' : World}

def writeIn (S : DS) (i : Nat) (o : Int) (d : List UInt8) : Int × DS :=
  if o < 0 ∨ 4000000 - (d.length : Int) < o then (3, S) else if d = [] then (0, S) else if excB S i (o + (d.length : Int)) = true then (31, S) else (0, perfS (.write i o.toNat d) S)
def writeZ (S : DS) (p : List UInt8) (o : Int) (d : List UInt8) : Int × DS := match findL (S.dirs false) p with
  | none => (cutE (begS S) 8, begS S)
  | some i => (cutE (writeIn (begS S) i o d).2 (writeIn (begS S) i o d).1, (writeIn (begS S) i o d).2)

set_option maxHeartbeats 2000000 in
theorem write1_any (i : Nat) (o : Int) (d : ByteArray) (b1 b2 b3 : Nat) (h : Inv L ρ n S w) (hk : ((S.dirs false).map (·.1)).Nodup) (hne : S.dirs false ≠ []) (hi : i < S.nf) (ho1 : -9223372036854775808 ≤ o) (ho2 : o ≤ 9223372036854775807) (hd : d.size ≤ 4611686018427387904)
    (h1 : w.cell? ⟨b1, 0, none⟩ = some (.int .i64 o)) (h2 : w.cell? ⟨b2, 0, none⟩ = some (.string d)) (h3 : w.cell? ⟨b3, 0, none⟩ = some (.pointer (some ⟨L.b, 0, none⟩))) (hn : n + 2 ≤ 100000) :
    Calls Tryz.prog 57 #[.pointer (some ⟨L.F i, 0, none⟩), .pointer (some ⟨b1, 0, none⟩), .pointer (some ⟨b2, 0, none⟩), .pointer (some ⟨b3, 0, none⟩)] w (PostQ L ρ w (fun x S' n' _ => x = (writeIn S i o d.data.toList).1 ∧ S' = (writeIn S i o d.data.toList).2 ∧ n' ≤ n + 2)) := by
  have HH := Lib.hid h
  have hdl : d.data.toList.length = d.size := by simp
  by_cases hr : o < 0 ∨ 4000000 - (d.size : Int) < o
  · have HE := Lib.hid (show writeIn S i o d.data.toList = (3, S) by unfold writeIn; rw [hdl, if_pos hr])
    have e1 : IntKind.i64.wrap (4000000 - (d.size : Int)) = 4000000 - (d.size : Int) := IntWalk.i64_in _ ⟨by omega, by omega⟩
    clear h hk hne hdl
    rcases hr with hr | hr
    · go_enter Tryz.func57, Tryz.ntmps57
      go_wp2
      all_goals go_ret
      all_goals exact ⟨3, L, ρ, n, S, rfl, HH.out, Step.refl _ _ _, by rw [HE.out], by rw [HE.out], Nat.le_add_right _ _⟩
    · go_enter Tryz.func57, Tryz.ntmps57
      go_wp2
      all_goals go_ret
      all_goals exact ⟨3, L, ρ, n, S, rfl, HH.out, Step.refl _ _ _, by rw [HE.out], by rw [HE.out], Nat.le_add_right _ _⟩
  have hr1 : 0 ≤ o := by omega
  have hr2 : o ≤ 4000000 - (d.size : Int) := by omega
  have e1 : IntKind.i64.wrap (4000000 - (d.size : Int)) = 4000000 - (d.size : Int) := IntWalk.i64_in _ ⟨by omega, by omega⟩
  have u1 : decide (o < 0) = false := decide_eq_false (by omega)
  have u2 : decide (4000000 - (d.size : Int) < o) = false := decide_eq_false (by omega)
  by_cases h0 : d.size = 0
  · have hn0 : d.data.toList = [] := List.eq_nil_of_length_eq_zero (by omega)
    have HE := Lib.hid (show writeIn S i o d.data.toList = (0, S) by unfold writeIn; rw [hdl, if_neg hr, if_pos hn0])
    have t1 : (d.toList == []) = true := beq_iff_eq.2 (by rw [ByteArray.toList_eq]; exact hn0)
    clear h hk hne hdl h0 hn0 hr
    go_enter Tryz.func57, Tryz.ntmps57
    go_wp2
    all_goals go_ret
    all_goals exact ⟨0, L, ρ, n, S, rfl, HH.out, Step.refl _ _ _, by rw [HE.out], by rw [HE.out], Nat.le_add_right _ _⟩
  have hn0 : d.data.toList ≠ [] := fun e => h0 (by rw [← hdl, e]; rfl)
  have t1 : (d.toList == []) = false := beq_eq_false_iff_ne.2 (by rw [ByteArray.toList_eq]; exact hn0)
  have e2 : IntKind.i64.wrap (o + (d.size : Int)) = o + (d.size : Int) := IntWalk.i64_in _ ⟨by omega, by omega⟩
  have HX := Lib.hid (exceeds_any h hk hne i hi (o + (d.size : Int)) (by omega) (by omega))
  cases hx : excB S i (o + (d.size : Int)) with
  | true =>
    have HE := Lib.hid (show writeIn S i o d.data.toList = (31, S) by unfold writeIn; rw [hdl, if_neg hr, if_neg hn0, if_pos hx])
    rw [hx] at HX
    clear h hk hne hdl h0 hn0 hr hx
    go_enter Tryz.func57, Tryz.ntmps57
    go_wp2_with (go_at_call 58; (with_reducible refine HX.out.mono ?_); rintro e w1 ⟨rfl, hb⟩; have HB := Lib.hid hb; clear hb)
    all_goals go_ret
    all_goals exact ⟨31, L, ρ, n, S, rfl, HH.out.below HB.out, Step.below HB.out, by rw [HE.out], by rw [HE.out], Nat.le_add_right _ _⟩
  | false =>
    have HE := Lib.hid (show writeIn S i o d.data.toList = (0, perfS (.write i o.toNat d.data.toList) S) by unfold writeIn; rw [hdl, if_neg hr, if_neg hn0, if_neg (by rw [hx]; simp)])
    rw [hx] at HX
    have hok : (Chg.write i o.toNat d.data.toList).Ok S.nf := ⟨hi, by rw [hdl]; omega⟩
    have hcl : (Chg.write i o.toNat d.data.toList).cells L.F = [.int .i64 2, .string ⟨#[]⟩, .pointer (some ⟨L.F i, 0, none⟩), .int .i64 o, .string d] := by
      simp only [Chg.cells, bz_back]
      rw [show ((o.toNat : Nat) : Int) = o by omega]
      rfl
    have HCL := Lib.hid hcl; have HOK := Lib.hid hok
    have HN := Lib.hid hn
    have hl1 := World.block_lt_of_cell? w _ h1
    have hl2 := World.block_lt_of_cell? w _ h2
    have hl3 := World.block_lt_of_cell? w _ h3
    have H1 := Lib.hid h1; have H2 := Lib.hid h2; have H3 := Lib.hid h3
    clear h hk hne hdl h0 hn0 hr hx hok hcl
    go_enter Tryz.func57, Tryz.ntmps57
    go_wp2_with (first
      | (go_at_call 58; (with_reducible refine HX.out.mono ?_); rintro e w1 ⟨rfl, hb⟩
         have HB := Lib.hid hb
         have k1 : w1.cell? ⟨b1, 0, none⟩ = some (.int .i64 o) := (hb.cell hl1).trans H1.out
         have k2 : w1.cell? ⟨b2, 0, none⟩ = some (.string d) := (hb.cell hl2).trans H2.out
         have k3 : w1.cell? ⟨b3, 0, none⟩ = some (.pointer (some ⟨L.b, 0, none⟩)) := (hb.cell hl3).trans H3.out
         have HC := Lib.hid (perform_lit (.write i o.toNat d.data.toList) 2 ⟨#[]⟩ (some ⟨L.F i, 0, none⟩) o d HCL.out (HH.out.below hb) HOK.out HN.out)
         clear hb)
      | (go_at_call 55; (with_reducible refine HC.out.mono ?_); rintro e w2 ⟨rfl, L', ρ', hI, hS1, hF1⟩; have HI := Lib.hid hI; have HS1 := Lib.hid hS1; clear hI hS1 hF1))
    all_goals go_ret
    all_goals exact ⟨0, L', ρ', _, _, rfl, HI.out, (Step.below HB.out).trans HS1.out, by rw [HE.out], by rw [HE.out], Nat.le_refl _⟩
theorem findL_ne {l : List (List UInt8 × Nat)} {p : List UInt8} {i : Nat} (h : findL l p = some i) : l ≠ [] := fun e => by rw [e] at h; cases h
theorem write_any (p : ByteArray) (hp : p.size ≤ 1000000) (o : Int) (ho1 : -9223372036854775808 ≤ o) (ho2 : o ≤ 9223372036854775807) (d : ByteArray) (hd' : d.size ≤ 4611686018427387904) (h : Inv L ρ n S w) (hk : ((S.dirs false).map (·.1)).Nodup) (hd : S.down = false) (hfl : S.flt (S.ops + 1) = 0) (hn : n + 3 ≤ 100000) :
    Calls Tryz.prog 24 #[.pointer (some ⟨L.b, 0, none⟩), .string p, .int .i64 o, .string d] w (OutQ L ρ w (writeZ S p.data.toList o d.data.toList) (n + 3)) := by
  have hA := ((h.alloc (.cells #[.pointer (some ⟨L.b, 0, none⟩)] 25)).alloc (.cells #[.int .i64 o] 3)).alloc (.cells #[.string d] 9)
  have hb1 : Below w.heap.size w (((w.alloc (.cells #[.pointer (some ⟨L.b, 0, none⟩)] 25)).alloc (.cells #[.int .i64 o] 3)).alloc (.cells #[.string d] 9)) := (((Below.refl _ _).alloc (Nat.le_refl _) _).alloc (by simp) _).alloc (by simp; omega) _
  have hx : (w.alloc (.cells #[.pointer (some ⟨L.b, 0, none⟩)] 25)).cell? ⟨w.heap.size, 0, none⟩ = some (.pointer (some ⟨L.b, 0, none⟩)) := by simp
  have hx2 := cell_alloc (cell_alloc hx (.cells #[.int .i64 o] 3)) (.cells #[.string d] 9)
  have hy : ((w.alloc (.cells #[.pointer (some ⟨L.b, 0, none⟩)] 25)).alloc (.cells #[.int .i64 o] 3)).cell? ⟨w.heap.size + 1, 0, none⟩ = some (.int .i64 o) := by
    rw [World.cell?_alloc_at _ _ _ _ (by simp)]; rfl
  have hy2 := cell_alloc hy (.cells #[.string d] 9)
  have hz : (((w.alloc (.cells #[.pointer (some ⟨L.b, 0, none⟩)] 25)).alloc (.cells #[.int .i64 o] 3)).alloc (.cells #[.string d] 9)).cell? ⟨w.heap.size + 1 + 1, 0, none⟩ = some (.string d) := by
    rw [World.cell?_alloc_at _ _ _ _ (by simp)]; rfl
  have r1 := h.old w.heap.size (Nat.le_refl _)
  have r2 := h.old (w.heap.size + 1) (Nat.le_succ _)
  have r3 := h.old (w.heap.size + 1 + 1) (by omega)
  have hC := callOn_Write1 (.pointer (some ⟨w.heap.size + 1, 0, none⟩)) (.pointer (some ⟨w.heap.size + 1 + 1, 0, none⟩)) (.pointer (some ⟨w.heap.size, 0, none⟩)) p hp hA hd hfl (by omega) (Q := IsR (writeZ S p.data.toList o d.data.toList) (n + 3))
    (fun hq w1 _ => ⟨by unfold writeZ; rw [hq], by omega⟩)
    (fun i hq w1 hI1 hS1 _ => by
      refine (write1_any i o d (w.heap.size + 1) (w.heap.size + 1 + 1) w.heap.size hI1 hk (findL_ne hq) (findL_nf hI1 (s := false) hq) ho1 ho2 hd' (step_cell hS1 r2 hy2) (step_cell hS1 r3 hz) (step_cell hS1 r1 hx2) (by omega)).mono fun e w2 hq2 => ?_
      obtain ⟨x, L', ρ', n', S', he, hI, hS, rfl, rfl, hn'⟩ := hq2
      exact ⟨_, L', ρ', n', _, he, hI, hS, by unfold writeZ; rw [hq], by omega⟩)
  have HC := Lib.hid hC; have HB1 := Lib.hid hb1
  clear hC hA hb1 hx hx2 hy hy2 hz h hd hfl r1 r2 r3
  go_enter Tryz.func24, Tryz.ntmps24
  go_wp2_with (go_at_call 38; (with_reducible refine HC.out.mono ?_); rintro e w1 ⟨x, L', ρ', n', S', rfl, hI, hS, hQ⟩; have HI := Lib.hid hI; have HS := Lib.hid hS; have HQ := Lib.hid hQ; clear hI hS hQ)
  go_ret
  exact out_of ⟨x, L', ρ', n', S', rfl, HI.out, (Step.below HB1.out).trans HS.out, HQ.out⟩
end Go.Proofs.YtkfncnpeockiaaaGreatDoor

namespace Go.Proofs.YtkfncnpeockiaaaGreatDoor
open Go.RowKit
variable {L : Loc} {ρ ρ' : Nat → Option Role} {n : Nat} {S : DS} {w w' : World}

theorem mclone_nil (w : World) : Calls Tryz.prog 48 #[.map none] w fun e w' => e = .returned (.map none) ∧ w' = w := by
  have hq := fun w => run_eql_map_nil_sl (P := Tryz.prog) w 54 _ _ none underF
  go_enter Tryz.func48, Tryz.ntmps48
  go_wp2
  go_ret
  exact ⟨rfl, rfl⟩
set_option maxRecDepth 100000 in
set_option maxHeartbeats 2000000 in
theorem mclone_some (b : Nat) (es : Array MapEntry) (clock : Nat) (w : World) (hb : w.heap[b]? = some (.map es clock)) :
    Calls Tryz.prog 48 #[.map (some b)] w fun e w' => e = .returned (.map (some w.heap.size)) ∧ w' = w.alloc (.map es clock) := by
  have hq := fun w => run_eql_map_nil_sl (P := Tryz.prog) w 54 _ _ (some b) underF
  go_enter Tryz.func48, Tryz.ntmps48
  go_wp2
  rw [run_callFunc_extern Tryz.func73 (by kernel_rfl) (by kernel_rfl) (by kernel_rfl) (e := Extern.MapsClone.clone) (by kernel_rfl), run_maps_clone_sl w 54 hb]
  simp only [Result.andThen]
  rw [Oper.upon_value]
  go_wp2
  rw [run_typeAssert_map_sl _ 54 20 _ _ _ underF]
  simp only [Result.andThen]
  rw [Oper.upon_value]
  go_wp2
  go_ret
  exact ⟨rfl, rfl⟩
/-- The copy of one of the disk's maps. -/
def MapC (F : Nat → Nat) (w0 w : World) (m : Option Nat) (l : List (List UInt8 × Nat)) : Prop := (m = none ∧ l = []) ∨ (m = some w0.heap.size ∧ w.ownsMap Tryz.prog 9 fileR w0.heap.size l.length (fileD F l))
theorem mclone_any {F : Nat → Nat} {m : Option Nat} {r : Role} {l : List (List UInt8 × Nat)} (h : MapI ρ F w m r l) :
    Calls Tryz.prog 48 #[.map m] w fun e w' => ∃ m', e = .returned (.map m') ∧ MapC F w w' m' l ∧ Below w.heap.size w w' := by
  rcases h with ⟨rfl, rfl⟩ | ⟨b, rfl, _, hown⟩
  · exact (mclone_nil w).mono fun e w' ⟨he, hw⟩ => ⟨none, he, .inl ⟨rfl, rfl⟩, by rw [hw]; exact Below.refl _ _⟩
  · have hlt := hown.lt
    obtain ⟨es, clock, hb, F', hs, hD⟩ := hown
    exact (mclone_some b es clock w hb).mono fun e w' ⟨he, hw⟩ => ⟨some w.heap.size, he, .inr ⟨rfl, es, clock, by rw [hw]; exact heap_alloc_new _ _, F', hs, hD⟩, by rw [hw]; exact (Below.refl _ _).alloc (Nat.le_refl _) _⟩
end Go.Proofs.YtkfncnpeockiaaaGreatDoor

namespace Go.Proofs.YtkfncnpeockiaaaGreatDoor
open Go.RowKit
variable {L : Loc} {ρ ρ' : Nat → Option Role} {n : Nat} {S : DS} {w w' : World}

theorem survive_zero (b : Nat) (k : Int) (nm : ByteArray) (fp : Option Addr) (o : Int) (d : ByteArray) (w : World) :
    Calls Tryz.prog 47 #[.pointer (some ⟨b, 0, none⟩), .agg #[.int .i64 k, .string nm, .pointer fp, .int .i64 o, .string d], .int .u64 0] w fun e w' => e = .returned (.tuple #[]) ∧ Below w.heap.size w w' := by
  have HB : Hid (Below w.heap.size w (w.alloc (.cells #[.int .i64 k, .string nm, .pointer fp, .int .i64 o, .string d] 74))) := Lib.hid ((Below.refl _ _).alloc (Nat.le_refl _) _)
  go_enter Tryz.func47, Tryz.ntmps47
  go_wp2
  go_returns
  exact ⟨rfl, HB.out⟩

def restS (S : DS) (l : List (List UInt8 × Nat)) : DS := { S with dirs := upd S.dirs false l, pend := [], flt := fun _ => 0, crash := 0, down := false }
/-- The disk's own block and the visible map turned anew. -/
theorem inv_rest (h : Inv L ρ n S w) (l : List (List UInt8 × Nat)) (m' : Option Nat) (w0 : World) (hw0 : w.heap.size ≤ w0.heap.size) (hl : l.length ≤ n) (hd : ∀ p, p ∈ l → p.2 < S.nf)
    (hw : Blk w' L.b 59 #[.int .i64 S.room, .map m', .map (L.m true), .slice none 0 0, .int .i64 S.ops, .map none, .int .i64 0, .bool false])
    (hk : ∀ g, ρ g ≠ none → g ≠ L.b → w'.heap[g]? = w.heap[g]?) (hz : w.heap.size ≤ w'.heap.size) (hz0 : w0.heap.size < w'.heap.size) (hm : MapC L.F w0 w' m' l)
    (hs : w'.os = w.os ∧ w'.tape = w.tape ∧ w'.output = w.output) (ho : ∀ k, k < w.heap.size → ρ k = none → w'.heap[k]? = w.heap[k]?) :
    ∃ L' ρ', Inv L' ρ' n (restS S l) w' ∧ Step L ρ w L' ρ' w' ∧ L'.F = L.F := by
  obtain ⟨ρ', hx, hro, hmI, hold⟩ : ∃ ρ' : Nat → Option Role, (∀ k r, ρ k = some r → ρ' k = some r) ∧ (∀ k, k < w.heap.size → ρ' k = ρ k) ∧ MapI ρ' L.F w' m' (.map false) l ∧ (∀ k, w'.heap.size ≤ k → ρ' k = none) := by
    rcases hm with ⟨rfl, rfl⟩ | ⟨rfl, hown⟩
    · exact ⟨ρ, fun _ _ h => h, fun _ _ => rfl, .inl ⟨rfl, rfl⟩, fun k hk => h.old k (Nat.le_trans hz hk)⟩
    · refine ⟨updN ρ w0.heap.size (some (.map false)), fun k r hk => ?_, fun k hk => ?_, .inr ⟨w0.heap.size, rfl, by simp [updN], hown⟩, fun k hk => ?_⟩
      · unfold updN
        rw [if_neg (fun e => by subst e; rw [h.old _ hw0] at hk; cases hk)]; exact hk
      · unfold updN
        rw [if_neg (by omega)]
      · unfold updN
        rw [if_neg (by omega)]; exact h.old k (Nat.le_trans hz hk)
  have hkb : ∀ k r, ρ k = some r → r ≠ .disk → w'.heap[k]? = w.heap[k]? := fun k r hr h2 => hk k (by rw [hr]; simp) (fun e => by subst e; rw [h.hb] at hr; cases hr; exact h2 rfl)
  refine ⟨{ L with m := upd L.m false m', fm := none, pv := .slice none 0 0 }, ρ', ?_, ⟨hs.1, hs.2.1, hs.2.2, hz, ho, hro, rfl⟩, rfl⟩
  exact {
    hb := hx _ _ h.hb
    blk := by
      have : upd L.m false m' true = L.m true := by simp [upd]
      show Blk w' L.b 59 #[.int .i64 S.room, .map (upd L.m false m' false), .map (upd L.m false m' true), .slice none 0 0, .int .i64 S.ops, .map none, .int .i64 0, .bool false]
      rw [this]
      exact hw
    mp := fun t => by
      cases t
      · exact hmI
      · exact mapI_keep (h.mp true) (fun g hg' => hkb g _ hg' (by simp)) hx
    flt := .inl ⟨rfl, fun _ => rfl⟩
    pnd := World.ownsRow_nil _ _ _ _
    pro := fun _ hg => by cases hg
    fro := fun j hj => hx _ _ (h.fro j hj)
    fil := fun j hj => (hkb _ _ (h.fro j hj) (by simp)).trans (h.fil j hj)
    con := fun t j hj => row_keep (h.con t j hj) (fun g hg' => hkb g _ (h.cro t j g hj hg') (by simp))
    cro := fun t j g hj hg' => hx _ _ (h.cro t j g hj hg')
    clen := h.clen
    dok := fun t p hp => by
      cases t
      · exact hd p hp
      · exact h.dok true p hp
    pok := fun c hc => by cases hc
    old := hold
    room := h.room
    bnd := ⟨Nat.zero_le _, h.bnd.2.1, fun t => by
      cases t
      · exact hl
      · exact h.bnd.2.2.1 true, h.bnd.2.2.2⟩ }

theorem rest_fin (h : Inv L ρ n S w) {W9 w2 W11 : World} {m' : Option Nat} (l : List (List UInt8 × Nat)) (hl : l.length ≤ n) (hd : ∀ p, p ∈ l → p.2 < S.nf)
    (hk9 : ∀ g, g ≠ L.b → W9.heap[g]? = w.heap[g]?) (hz9 : W9.heap.size = w.heap.size) (hs9 : W9.os = w.os ∧ W9.tape = w.tape ∧ W9.output = w.output) (hmc : MapC L.F W9.drew w2 m' l) (hb : Below W9.drew.heap.size W9.drew w2)
    (hbx : Blk w2 L.b 59 #[.int .i64 S.room, .map (L.m false), .map (L.m true), .slice none 0 0, .int .i64 S.ops, .map L.fm, .int .i64 S.crash, .bool S.down])
    (h11 : Below (w2.setCell ⟨L.b, 1, none⟩ (.map m')).heap.size (w2.setCell ⟨L.b, 1, none⟩ (.map m')) W11) (hlt : w2.heap.size < W11.heap.size) :
    ∃ L' ρ', Inv L' ρ' n (restS S l) (((W11.setCell ⟨L.b, 5, none⟩ (.map none)).setCell ⟨L.b, 6, none⟩ (.int .i64 0)).setCell ⟨L.b, 7, none⟩ (.bool false)) ∧ Step L ρ w L' ρ' (((W11.setCell ⟨L.b, 5, none⟩ (.map none)).setCell ⟨L.b, 6, none⟩ (.int .i64 0)).setCell ⟨L.b, 7, none⟩ (.bool false)) ∧ L'.F = L.F := by
  have hzd : W9.drew.heap.size = w.heap.size := hz9
  have hlb : L.b < w.heap.size := h.lt (by rw [h.hb]; simp)
  have hz1 : (w2.setCell ⟨L.b, 1, none⟩ (.map m')).heap.size = w2.heap.size := size_setCell' _ _ _
  have hb10 := blk_set hbx 1 (.map m')
  have hb11 : Blk W11 L.b 59 _ := (h11.block _ (blk_lt hb10)).trans hb10
  have hk : ∀ g, g < w2.heap.size → g ≠ L.b → (((W11.setCell ⟨L.b, 5, none⟩ (.map none)).setCell ⟨L.b, 6, none⟩ (.int .i64 0)).setCell ⟨L.b, 7, none⟩ (.bool false)).heap[g]? = w2.heap[g]? := fun g hg hne =>
    (setCell_keep _ _ _ _ g hne).trans ((setCell_keep _ _ _ _ g hne).trans ((setCell_keep _ _ _ _ g hne).trans ((h11.block g (by rw [hz1]; exact hg)).trans (setCell_keep _ _ _ _ g hne))))
  have hk2 : ∀ g, g < w.heap.size → g ≠ L.b → w2.heap[g]? = w.heap[g]? := fun g hg hne => (hb.block g (by rw [hzd]; exact hg)).trans (hk9 g hne)
  have hsz2 : w.heap.size ≤ w2.heap.size := by have := hb.size; omega
  have hszf : (((W11.setCell ⟨L.b, 5, none⟩ (.map none)).setCell ⟨L.b, 6, none⟩ (.int .i64 0)).setCell ⟨L.b, 7, none⟩ (.bool false)).heap.size = W11.heap.size := by rw [size_setCell', size_setCell', size_setCell']
  refine inv_rest h l m' W9.drew (by omega) hl hd (blk_set (blk_set (blk_set hb11 5 _) 6 _) 7 _) (fun g hg hne => (hk g (Nat.lt_of_lt_of_le (h.lt hg) hsz2) hne).trans (hk2 g (h.lt hg) hne)) (by omega) (by have := hb.size; omega) ?_ ?_ (fun k hk' hr => ?_)
  · rcases hmc with ⟨rfl, rfl⟩ | ⟨rfl, es, clock, hbb, rest⟩
    · exact .inl ⟨rfl, rfl⟩
    · have hlt0 : W9.drew.heap.size < w2.heap.size := (Array.getElem?_eq_some_iff.1 hbb).1
      exact .inr ⟨rfl, es, clock, (hk _ hlt0 (by omega)).trans hbb, rest⟩
  · exact ⟨h11.os.trans (hb.os.trans hs9.1), h11.tape.trans (hb.tape.trans hs9.2.1), h11.output.trans (hb.output.trans hs9.2.2)⟩
  · have hne : k ≠ L.b := fun e => by subst e; rw [h.hb] at hr; cases hr
    exact (hk k (Nat.lt_of_lt_of_le hk' hsz2) hne).trans (hk2 k hk' hne)

set_option maxHeartbeats 4000000 in
set_option maxRecDepth 100000 in
theorem rest_zero (h : Inv L ρ n S w) (hz : S.dirs true = []) :
    Calls Tryz.prog 17 #[.pointer (some ⟨L.b, 0, none⟩), .slice none 0 0] w fun e w' => e = .returned (.tuple #[]) ∧ ∃ L' ρ', Inv L' ρ' n (restS S []) w' ∧ Step L ρ w L' ρ' w' ∧ L'.F = L.F := by
  have c3 := blk_cell h.blk 3 rfl
  obtain ⟨a, cap, hpv⟩ := row_any h.pnd
  obtain ⟨len, hlen⟩ : ∃ len, len = S.pend.length := ⟨_, rfl⟩
  rw [← hlen] at hpv
  rw [hpv] at c3
  have hrow : ∀ i, i < len → ∃ (g : Nat) (k : Int) (nm : ByteArray) (fp : Option Addr) (o : Int) (d : ByteArray), a = some ⟨g, 0, none⟩ ∧ g < w.heap.size ∧ w.cell? ⟨g, i * 5, none⟩ = some (.int .i64 k) ∧ w.cell? ⟨g, i * 5 + 1, none⟩ = some (.string nm) ∧ w.cell? ⟨g, i * 5 + 2, none⟩ = some (.pointer fp) ∧ w.cell? ⟨g, i * 5 + 3, none⟩ = some (.int .i64 o) ∧ w.cell? ⟨g, i * 5 + 4, none⟩ = some (.string d) := by
    intro i hi
    have hi' : i < S.pend.length := by omega
    rcases prow_of h.pnd with ⟨e, hp⟩ | ⟨g, cap', cur, e, hp⟩
    · rw [hp] at hi'; cases hi'
    · rw [hpv] at e
      injection e with e1 _ _
      subst e1
      obtain ⟨k, nm, fp, o, d, hcl⟩ := chg_lit L.F S.pend[i]
      have r0 := prow_cell hp i 0 hi' (by omega) (v := .int .i64 k) (by rw [hcl]; rfl)
      rw [Nat.add_zero] at r0
      exact ⟨g, k, nm, fp, o, d, rfl, prow_lt hp, r0, prow_cell hp i 1 hi' (by omega) (by rw [hcl]; rfl), prow_cell hp i 2 hi' (by omega) (by rw [hcl]; rfl), prow_cell hp i 3 hi' (by omega) (by rw [hcl]; rfl), prow_cell hp i 4 hi' (by omega) (by rw [hcl]; rfl)⟩
  have HROW := Lib.hid hrow; have HH := Lib.hid h; have HZ := Lib.hid hz
  have hlb : len ≤ 100000 := by have := h.bnd.1; have := h.bnd.2.2.2; omega
  clear h hrow hz hpv hlen
  go_enter Tryz.func17, Tryz.ntmps17
  go_wp2
  go_loopw [16] (fun iv wr => ∃ i : Nat, i ≤ len ∧ iv = .int .i64 i ∧ Hid (Below w.heap.size w wr)) (fun iv _ => len - (intOf iv).toNat)
  case atStart => exact ⟨0, Nat.zero_le _, rfl, Lib.hid (Below.refl _ _)⟩
  case round =>
    obtain ⟨i, hi, rfl, hB⟩ := hrel
    by_cases hlt : i < len
    · obtain ⟨g, k, nm, fp, o, d, rfl, hg, r0, r1, r2, r3, r4⟩ := HROW.out i hlt
      have q0 := (hB.out.cell (p := ⟨g, i * 5, none⟩) hg).trans r0
      have q1 := (hB.out.cell (p := ⟨g, i * 5 + 1, none⟩) hg).trans r1
      have q2 := (hB.out.cell (p := ⟨g, i * 5 + 2, none⟩) hg).trans r2
      have q3 := (hB.out.cell (p := ⟨g, i * 5 + 3, none⟩) hg).trans r3
      have q4 := (hB.out.cell (p := ⟨g, i * 5 + 4, none⟩) hg).trans r4
      have hlti : (i : Int) < len := by omega
      have t0 : decide ((i : Int) < 0) = false := decide_eq_false (by omega)
      have t1 : ¬ ((i : Int) < 0) := by omega
      clear r0 r1 r2 r3 r4 c3
      go_wp2_with (go_at_call 47; (with_reducible refine (survive_zero _ k nm fp o d _).mono ?_); rintro e w2 ⟨rfl, hb⟩)
      go_roundw
      case rel => exact ⟨i + 1, by omega, by go_num, Lib.hid (hB.out.trans (((Below.refl _ _).alloc (Nat.le_refl _) _ |>.trans (hb.mono (by simp))).mono hB.out.size))⟩
      case measure => simp [intOf]; omega
    · have hIr := HH.out.below hB.out
      have hblk := hIr.blk
      have d3 := blk_cell hblk 3 rfl
      have f3 := blk_frozen hblk 3
      have hb9 := blk_set hblk 3 (.slice none 0 0)
      have hk9 : ∀ g, g ≠ L.b → (wr.setCell ⟨L.b, 3, none⟩ (.slice none 0 0)).heap[g]? = wr.heap[g]? := setCell_keep _ _ _ _
      have hz9 : (wr.setCell ⟨L.b, 3, none⟩ (.slice none 0 0)).heap.size = wr.heap.size := size_setCell' _ _ _
      have hs9 : (wr.setCell ⟨L.b, 3, none⟩ (.slice none 0 0)).os = wr.os ∧ (wr.setCell ⟨L.b, 3, none⟩ (.slice none 0 0)).tape = wr.tape ∧ (wr.setCell ⟨L.b, 3, none⟩ (.slice none 0 0)).output = wr.output := ⟨rfl, rfl, rfl⟩
      have hm9 : MapI ρ L.F (wr.setCell ⟨L.b, 3, none⟩ (.slice none 0 0)) (L.m true) (.map true) (S.dirs true) := mapI_keep (hIr.mp true) (fun g hg => hk9 g (fun e => by subst e; have := hIr.hb; rw [this] at hg; cases hg)) (fun _ _ h => h)
      have HM9 := Lib.hid hm9; have HB9 := Lib.hid hb9; have HK9 := Lib.hid hk9; have HZ9 := Lib.hid hz9; have HS9 := Lib.hid hs9; have HI := Lib.hid hIr
      have hc2 := blk_cell hb9 2 rfl
      clear hIr hblk hb9 hk9 hz9 hs9 hm9 c3
      have hge : ¬ ((i : Int) < len) := by omega
      go_upto_region 10 with (fail)
      revert HM9 HB9 HK9 HZ9 HS9 hc2
      generalize wr.setCell ⟨L.b, 3, none⟩ (.slice none 0 0) = W9
      intro HM9 HB9 HK9 HZ9 HS9 hc2
      have HC2 := Lib.hid (show W9.cell? ⟨L.b, 2, none⟩ = some (.map (L.m true)) from hc2)
      clear hc2
      go_region_held3 (fun v => v.cell? ⟨L.b, 2, none⟩ = some (.map (L.m true)))
        (first | assumption | exact HC2.out | exact blk_cell (blk_set (by assumption) 1 _) 2 rfl)
        ((go_at_call 48; refine (mclone_any (w := W9.drew) HM9.out).mono ?_; rintro e w2 ⟨m', rfl, hmc, hb⟩
          have hbx : Blk w2 L.b 59 #[.int .i64 S.room, .map (L.m false), .map (L.m true), .slice none 0 0, .int .i64 S.ops, .map L.fm, .int .i64 S.crash, .bool S.down] := (hb.block _ (blk_lt HB9.out)).trans HB9.out
          have x1 := blk_cell hbx 1 rfl; have x2 := blk_cell hbx 2 rfl; have x3 := blk_frozen hbx 1))
      have hb10 := blk_set hbx 1 (.map m')
      rw [HZ.out] at hmc
      have HFIN := Lib.hid (fun (W11 : World) h11 hlt => rest_fin (W11 := W11) HI.out [] (Nat.zero_le _) (fun _ hp => by cases hp) HK9.out HZ9.out HS9.out hmc hb hbx h11 hlt)
      have hz10 : (w2.setCell ⟨L.b, 1, none⟩ (.map m')).heap.size = w2.heap.size := size_setCell' _ _ _
      have hmc' : (m' = none) ∨ ∃ g, m' = some g ∧ g ≠ L.b ∧ w2.ownsMap Tryz.prog 9 fileR g 0 (fileD L.F []) := by
        rcases hmc with ⟨e, _⟩ | ⟨e, ho⟩
        · exact .inl e
        · refine .inr ⟨_, e, fun e' => ?_, ho⟩
          have hlb : L.b < W9.heap.size := blk_lt HB9.out
          have : W9.drew.heap.size = W9.heap.size := rfl
          omega
      have hown10 : (m' = none) ∨ ∃ g, m' = some g ∧ (w2.setCell ⟨L.b, 1, none⟩ (.map m')).ownsMap Tryz.prog 9 fileR g 0 (fileD L.F []) := by
        rcases hmc' with e | ⟨g, e, hne, es, clock, hbb, rest⟩
        · exact .inl e
        · exact .inr ⟨g, e, es, clock, (setCell_keep _ _ _ _ g hne).trans hbb, rest⟩
      clear hmc hmc' hb hbx x1 x2 x3
      revert HFIN hb10 hz10 hown10
      generalize w2.setCell ⟨L.b, 1, none⟩ (.map m') = W10
      intro hb10 HFIN hz10 hown10
      have HB10 := Lib.hid hb10
      have y1 : W10.cell? ⟨L.b, 1, none⟩ = some (.map m') := blk_cell hb10 1 rfl
      rw [← hz10] at HFIN
      clear hz10
      rcases hown10 with rfl | ⟨g, rfl, hown⟩
      · have hr1 := run_range_nilMap (P := Tryz.prog) W10 54 _ _ underF
        have hr2 := fun ty => run_next_nilMap (P := Tryz.prog) W10 ty 0 0 #[]
        have hb11 : Blk (W10.alloc (.mapIter none 0 #[] 0)) L.b 59 _ := (heap_alloc_old W10 _ (blk_lt hb10)).trans hb10
        have z5 := blk_cell hb11 5 rfl; have z6 := blk_cell hb11 6 rfl; have z7 := blk_cell hb11 7 rfl
        have p5 := blk_frozen hb11 5; have p6 := blk_frozen hb11 6; have p7 := blk_frozen hb11 7
        have HQ := Lib.hid (HFIN.out (W10.alloc (.mapIter none 0 #[] 0)) ((Below.refl _ _).alloc (Nat.le_refl _) _) (by simp))
        clear HFIN hb10 hb11
        go_wp2
        go_loopw [] (fun wr' => wr' = W10.alloc (.mapIter none 0 #[] 0)) (fun _ => 0)
        case atStart => rfl
        case round =>
          obtain rfl := hrel
          go_wp2
          go_returns
          obtain ⟨L', ρ', h1, h2, h3⟩ := HQ.out
          exact ⟨rfl, L', ρ', h1, (Step.below hB.out).trans h2, h3⟩
      · clear hb10
        go_wp2_with (first
          | (at_range; refine wpList_range_own _ rfl _ 54 rfl 9 71 lawStr underF fileR g _ _ rfl hown ?_; intro w0 hrg0 hg0 hs0)
          | go_in)
        go_frame
        go_loopw [] (fun wr' => ∃ (left : Lit → Bool) (cnt : Nat), wr'.ranges Tryz.prog 9 fileR g W10.heap.size 0 (fileD L.F []) left cnt ∧ Hid (∀ kl, left kl = false) ∧ Hid (Below W10.heap.size W10 wr') ∧ Hid (W10.heap.size < wr'.heap.size)) (fun wr' => wr'.rangeLeft g W10.heap.size)
        case atStart => exact ⟨_, _, hrg0, Lib.hid (fun kl => rfl), Lib.hid ⟨hg0.os, hg0.tape, hg0.output, hg0.size, fun k hk => hg0.block k hk (by simp)⟩, Lib.hid (by omega)⟩
        case round =>
          obtain ⟨left, cnt, hrg, HL, HB2, HLT⟩ := hrel
          clear hown hrg0 hg0 hs0
          go_wp2_with (first
            | (at_next; refine wpList_next_ranges _ rfl _ rfl 9 lawStr fileR Value.string Value.pointer (fun key kl hkey => keyStr_inv hkey) (fun v y hv => fileR_inv hv) g W10.heap.size _ _ _ _ rfl hrg ?_ ?_)
            | go_in)
          · intro hc0 hl0
            have hb11 : Blk _ L.b 59 _ := (HB2.out.block _ (blk_lt HB10.out)).trans HB10.out
            have z5 := blk_cell hb11 5 rfl; have z6 := blk_cell hb11 6 rfl; have z7 := blk_cell hb11 7 rfl
            have p5 := blk_frozen hb11 5; have p6 := blk_frozen hb11 6; have p7 := blk_frozen hb11 7
            have HQ := Lib.hid (HFIN.out _ HB2.out HLT.out)
            clear hb11 HFIN hrg
            go_wp2
            go_returns
            obtain ⟨L', ρ', h1, h2, h3⟩ := HQ.out
            exact ⟨rfl, L', ρ', h1, (Step.below hB.out).trans h2, h3⟩
          · intro x c kl y1 y2 w1 cnt1 hkey hlx
            rw [HL.out] at hlx
            cases hlx
end Go.Proofs.YtkfncnpeockiaaaGreatDoor
