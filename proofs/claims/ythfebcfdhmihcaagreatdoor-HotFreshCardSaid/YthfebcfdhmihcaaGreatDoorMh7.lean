/-
  Layer 11, pages in memory, and the small functions: great, own, Page, the document's Page and noughts: each returns its plain function and changes nothing that was there. Condition: numbers are ints, a slice has at most 2^62 elements.
  Layer 7: Names: a new slice that holds the paths that are seen, in order; nothing that was there has turned. Condition: the paths lie in order in the state.
  Layer 7: the states through which Restart passes: nothing pending and the visible map a copy of the durable one; a visible file a copy of its durable contents; the machine up. Condition: the sizes that the invariant holds.
  Laws on memory that no function of the project is named in: 'append(v, x...)' of one own row onto another, nil ones too. Condition: lengths far below what a machine bears.
  Layer 7: slices.Clone of a file's contents. Condition: at most four million bytes.
  Layer 7: Restart in general: what the choices leave, then all that is seen is what is durable. Condition: the sizes that the invariant holds; the choices lie in memory that is not the disk's.
  Layer 13, the disk in memory as hot uses it: a calm disk with these files, beside blocks that are not its own; each call by what it makes of the files. Condition: the disk is calm, the sizes fit.
  What the rows of layer 13's statements share: what the five listed variables hold, as the program's text lays them (errors.errorType, hot.errAbsent, the tables of math/bits and internal/strconv); a world in which they lie so.
  Layer 8, the small functions: fixed, number, within, nearest, valid and the document's Four and Right: each returns its plain function and changes nothing that was there. Condition: numbers are ints; a string has at most 2^63 - 1 bytes.
-/
import Derived.Laws.IdiomRangeMap
import Derived.Deep.Cut
import Derived.Deep.AppendLies
import Derived.Deep.AppendSrc
import Derived.Test.YthfebcfdhmihcaaGreatDoorCards
import Derived.Test.YthfebcfdhmihcaaGreatDoorTie
import Derived.ProofKit
import Derived.OpenShut
import Derived.Deep.DeepHandedRow
import Derived.LaidLaws
import Derived.LaidHandle
import Derived.Lib.LaidTab
import Derived.Stop.LaidErr
import Derived.Deep.RegionHeld3
import Derived.Lib.MinMax
import Derived.Laws.Rows
import Derived.Laws.StructEq
import Derived.StillTailTactics
import Derived.Deep.RegionWith
import Derived.OwnWalk
import Derived.Deep.RegionHeldLaw
import Derived.Deep.OwnRows
import Derived.Test.YthfebcfdhmihcaaGreatDoorMh3
import Derived.Test.YthfebcfdhmihcaaGreatDoorMh6
import Derived.Test.YthfebcfdhmihcaaGreatDoorMh4
import Derived.Test.YthfebcfdhmihcaaGreatDoorMh1
namespace Go.Proofs.YthfebcfdhmihcaaGreatDoor
open Go.RowKit Go.Maps Go.Sort Go.Shelf
variable {L : Loc} {ρ : Nat → Option Role} {n : Nat} {S : DS} {w w' : World}

def namesL (S : DS) : List (List UInt8) := (S.dirs false).map (·.1)
/-- A slice of the paths. -/
def NameRow (w : World) (v : Value) (l : List (List UInt8)) : Prop := ∃ a cap, v = .slice a l.length cap ∧ ∀ j (h : j < l.length), ∃ g, a = some ⟨g, 0, none⟩ ∧ g < w.heap.size ∧ w.cell? ⟨g, j, none⟩ = some (.string (bz l[j]))
theorem sorted_is {l ss : List (List UInt8)} (hs : l.Pairwise (· ≤ ·)) (hp : ss.Perm l) : ss.mergeSort (fun x y => decide (x ≤ y)) = l := by
  have h1 := List.pairwise_mergeSort (le := fun x y : List UInt8 => decide (x ≤ y)) (fun a b c h1 h2 => decide_eq_true (List.le_trans (of_decide_eq_true h1) (of_decide_eq_true h2))) (fun a b => by
    rcases List.le_total a b with h | h
    · simp [h]
    · simp [h]) ss
  refine List.Perm.eq_of_pairwise (le := (· ≤ ·)) (fun a b _ _ h1 h2 => List.le_antisymm h1 h2) (h1.imp (fun h => of_decide_eq_true h)) hs ((List.mergeSort_perm _ _).trans hp)
theorem row_names {v : Value} {l : List (List UInt8)} {base m : Nat} (h : w.ownsRow base 9 1 v m (l.map encStr)) : NameRow w v l := by
  have hl := h.1
  rw [List.length_map] at hl
  have hm : m = l.length := by omega
  rcases h.2 with ⟨rfl, rfl⟩ | ⟨g, cap, cur, rfl, hb, hg, -⟩
  · exact ⟨none, 0, by rw [← hm], fun j hj => by omega⟩
  · refine ⟨some ⟨g, 0, none⟩, cap, by rw [hm], fun j hj => ⟨g, rfl, (Array.getElem?_eq_some_iff.1 hg).1, ?_⟩⟩
    have := h.cells (g := g) rfl j (encStr l[j]) (by rw [List.getElem?_map, List.getElem?_eq_getElem hj]; rfl)
    rw [Addr.add_lit, Nat.zero_add] at this
    exact this
/-- A slice in memory that is not older than N. -/
def NewV (N : Nat) (v : Value) : Prop := ∀ g o q n cap, v = .slice (some ⟨g, o, q⟩) n cap → N ≤ g
theorem nrow_new {v : Value} {xs : List Value} {base m : Nat} (h : w.ownsRow base 9 1 v m xs) {N : Nat} (hN : N ≤ base) : NewV N v := by
  intro g o q n cap e
  subst e
  exact Nat.le_trans hN (h.lt g rfl).1
theorem sorts_names (h : SortS S) : (namesL S).Pairwise (· ≤ ·) := List.pairwise_map.2 (h false)

set_option maxRecDepth 100000 in
set_option maxHeartbeats 1000000 in
theorem names_new (h : Inv L ρ n S w) (hs : SortS S) :
    Calls Tryz.prog 20 #[.pointer (some ⟨L.b, 0, none⟩)] w fun e w' => ∃ v, e = .returned v ∧ NameRow w' v (namesL S) ∧ Below w.heap.size w w' ∧ NewV w.heap.size v := by
  have c1 := blk_cell h.blk 1 rfl
  have HS := Lib.hid (sorts_names hs)
  have hb := h.bnd.2.2.1 false
  have hb2 := h.bnd.2.2.2
  have hfK : Fence.wide.fn 57 := trivial
  have hfS : Fence.wide.fn 56 := trivial
  rcases h.mp false with ⟨hm, hl⟩ | ⟨g, hm, hgr, hown⟩
  · rw [hm] at c1
    have HL := Lib.hid (show namesL S = [] by rw [namesL, hl]; rfl)
    clear h hm hl hs hb hb2
    refine (callsIn_wide (n := 6)).1 ?_
    refine callsIn_of_wp Tryz.func20 rfl trivial ?_ rfl
    simp only [Tryz.ntmps20, List.size_toArray, List.length_cons, List.length_nil, Nat.reduceAdd, Nat.reduceSub, Array.replicate_succ, Array.replicate_zero, List.push_toArray, List.append_toArray, List.nil_append, List.cons_append]
    gi_wp2_with (first
      | (gi_at_call 57; refine (Tryz.maps_Keys_57 _ _).mono ?_; rintro e w' ⟨rfl, rfl⟩)
      | (gi_at_call 56; refine (Tryz.slices_Sorted_keys_nil_56_57 w).mono ?_; rintro e w' ⟨v, ss, rfl, hS, hrow, hnil, hb⟩))
    go_ret
    refine ⟨v, rfl, ?_, ((Below.refl _ w).alloc (Nat.le_refl _) _).trans (hb.mono (by simp)), nrow_new hrow (by simp)⟩
    rw [HL.out]
    rw [hS, List.mergeSort_nil] at hrow
    exact row_names (l := []) hrow
  · rw [hm] at c1
    have hk : strKeys (fileD L.F (S.dirs false)) = namesL S := by
      unfold fileD namesL
      change List.map _ (List.map _ _) = _
      rw [List.map_map]
      rfl
    have hz : Maps.size (fileD L.F (S.dirs false)) = (S.dirs false).length := by simp [fileD, Maps.size]
    have HK := Lib.hid hk
    have hmax : Maps.size (fileD L.F (S.dirs false)) ≤ maxLen := by rw [hz]; unfold maxLen; omega
    have hbytes : Maps.size (fileD L.F (S.dirs false)) * 16 ≤ 140737488355328 := by rw [hz]; omega
    clear h hm hgr hs hb hb2 hk hz
    refine (callsIn_wide (n := 6)).1 ?_
    refine callsIn_of_wp Tryz.func20 rfl trivial ?_ rfl
    simp only [Tryz.ntmps20, List.size_toArray, List.length_cons, List.length_nil, Nat.reduceAdd, Nat.reduceSub, Array.replicate_succ, Array.replicate_zero, List.push_toArray, List.append_toArray, List.nil_append, List.cons_append]
    gi_wp2_with (first
      | (gi_at_call 57; refine (Tryz.maps_Keys_57 _ _).mono ?_; rintro e w' ⟨rfl, rfl⟩)
      | (gi_at_call 56; refine (Tryz.slices_Sorted_keys_56_57 g _ _ _ w hown hmax hbytes).mono ?_; rintro e w' ⟨v, ss, rfl, hS, hrow, hnil, hb⟩))
    go_ret
    refine ⟨v, rfl, ?_, ((Below.refl _ w).alloc (Nat.le_refl _) _).trans (hb.mono (by simp)), nrow_new hrow (by simp)⟩
    rw [HK.out] at hS
    rw [sorted_is HS.out hS] at hrow
    exact row_names hrow
end Go.Proofs.YthfebcfdhmihcaaGreatDoor

namespace Go.Proofs.YthfebcfdhmihcaaGreatDoor
open Go.RowKit
variable {L : Loc} {ρ ρ' : Nat → Option Role} {n : Nat} {S : DS} {w w' : World}

theorem inv_con2 (h : Inv L ρ n S w) (s : Bool) (i : Nat) (hi : i < S.nf) {v1 : Value} {l1 : List UInt8} (hg : Below w.heap.size w w') (hb : Bys w' v1 l1) (hl : l1.length ≤ 4000000) (ho : ∀ g, v1.ownBlock = some g → w.heap.size ≤ g) :
    ∃ ρ', Inv { L with V := upd2 L.V s i v1 } ρ' n { S with con := upd2 S.con s i l1 } (w'.setCell ⟨L.F i, offC s, none⟩ v1) ∧ Step L ρ w { L with V := upd2 L.V s i v1 } ρ' (w'.setCell ⟨L.F i, offC s, none⟩ v1) := by
  have hlt : ∀ g, v1.ownBlock = some g → g < w'.heap.size := fun g hg' => (hb.lt g hg').2
  obtain ⟨ρ', hx, hro, hown, hold⟩ : ∃ ρ' : Nat → Option Role, (∀ k r, ρ k = some r → ρ' k = some r) ∧ (∀ k, k < w.heap.size → ρ' k = ρ k) ∧ (∀ g, v1.ownBlock = some g → ρ' g = some (.con s i)) ∧ (∀ k, w'.heap.size ≤ k → ρ' k = none) := by
    cases hv : v1.ownBlock with
    | none => exact ⟨ρ, fun _ _ h => h, fun _ _ => rfl, (fun g hg' => by cases hg'), fun k hk => h.old k (Nat.le_trans hg.size hk)⟩
    | some g0 =>
      have h0 := ho g0 hv
      refine ⟨updN ρ g0 (some (.con s i)), fun k r hk => ?_, fun k hk => ?_, fun g hg' => ?_, fun k hk => ?_⟩
      · unfold updN
        rw [if_neg (fun e => by subst e; rw [h.old _ h0] at hk; cases hk)]; exact hk
      · unfold updN
        rw [if_neg (by omega)]
      · cases hg'; simp [updN]
      · have := hlt _ hv
        unfold updN
        rw [if_neg (fun e => by omega)]; exact h.old k (Nat.le_trans hg.size hk)
  have hkr : ∀ k r, ρ k = some r → r ≠ .con s i → w'.heap[k]? = w.heap[k]? := fun k r hr hne => hg.block k (h.lt (by rw [hr]; simp))
  have hks : ∀ k, k ≠ L.F i → (w'.setCell ⟨L.F i, offC s, none⟩ v1).heap[k]? = w'.heap[k]? := setCell_keep _ _ _ _
  have hkb : ∀ k r, ρ k = some r → r ≠ .con s i → r ≠ .file i → (w'.setCell ⟨L.F i, offC s, none⟩ v1).heap[k]? = w.heap[k]? := fun k r hr h1 h2 => (hks k (fun e => by subst e; rw [h.fro i hi] at hr; cases hr; exact h2 rfl)).trans (hkr k r hr h1)
  have hfi : Blk (w'.setCell ⟨L.F i, offC s, none⟩ v1) (L.F i) 104 #[upd2 L.V s i v1 false i, upd2 L.V s i v1 true i] := by
    have h0 : Blk w' (L.F i) 104 #[L.V false i, L.V true i] := (hkr _ _ (h.fro i hi) (by simp)).trans (h.fil i hi)
    have := blk_set h0 (offC s) v1
    rw [fil_set s _ _ v1 L.V i rfl rfl] at this
    exact this
  refine ⟨ρ', ?_, ?_⟩
  · exact {
      hb := hx _ _ h.hb
      blk := (hkb _ _ h.hb (by simp) (by simp)).trans h.blk
      mp := fun t => mapI_keep (h.mp t) (fun g hg' => hkb g _ hg' (by simp) (by simp)) hx
      flt := fltI_keep h.flt (fun g hg' => hkb g _ hg' (by simp) (by simp)) hx
      pnd := row_keep h.pnd (fun g hg' => hkb g _ (h.pro g hg') (by simp) (by simp))
      pro := fun g hg' => hx _ _ (h.pro g hg')
      fro := fun j hj => hx _ _ (h.fro j hj)
      fil := fun j hj => by
        by_cases e : j = i
        · subst e; exact hfi
        · have e1 : upd2 L.V s i v1 false j = L.V false j := by simp [upd2, e]
          have e2 : upd2 L.V s i v1 true j = L.V true j := by simp [upd2, e]
          simp only [e1, e2]
          exact (hkb _ _ (h.fro j hj) (by simp) (by simpa using e)).trans (h.fil j hj)
      con := fun t j hj => by
        by_cases e : t = s ∧ j = i
        · obtain ⟨rfl, rfl⟩ := e
          simp only [upd2, and_self, if_true]
          exact row_keep hb (fun g hg' => hks g (fun e => by
            subst e
            have h1 := hown _ hg'
            rw [hx _ _ (h.fro j hj)] at h1; cases h1))
        · simp only [upd2, if_neg e]
          exact row_keep (h.con t j hj) (fun g hg' => hkb g _ (h.cro t j g hj hg') (by simpa using e) (by simp))
      cro := fun t j g hj hg' => by
        by_cases e : t = s ∧ j = i
        · obtain ⟨rfl, rfl⟩ := e
          simp only [upd2, and_self, if_true] at hg'
          exact hown g hg'
        · simp only [upd2, if_neg e] at hg'
          exact hx _ _ (h.cro t j g hj hg')
      clen := fun t j hj => by
        by_cases e : t = s ∧ j = i
        · simp only [upd2, if_pos e]; exact hl
        · simp only [upd2, if_neg e]; exact h.clen t j hj
      dok := h.dok
      pok := h.pok
      old := fun k hk => hold k (by rw [size_setCell'] at hk; exact hk)
      room := h.room
      bnd := h.bnd }
  · exact ⟨hg.os, hg.tape, hg.output, by rw [size_setCell']; exact hg.size, fun k hk hr => (hks k (fun e => by subst e; rw [h.fro i hi] at hr; cases hr)).trans (hg.block k hk), hro, rfl⟩

def rmidS (S : DS) (l : List (List UInt8 × Nat)) : DS := { S with dirs := upd S.dirs false l, pend := [] }
/-- The pending changes gone, the visible map another one. -/
theorem inv_mid (h : Inv L ρ n S w) (l : List (List UInt8 × Nat)) (m' : Option Nat) (w0 : World) (hw0 : w.heap.size ≤ w0.heap.size) (hl : l.length ≤ n) (hd : ∀ p, p ∈ l → p.2 < S.nf)
    (hw : Blk w' L.b 93 #[.int .i64 S.room, .map m', .map (L.m true), .slice none 0 0, .int .i64 S.ops, .map L.fm, .int .i64 S.crash, .bool S.down])
    (hk : ∀ g, ρ g ≠ none → g ≠ L.b → w'.heap[g]? = w.heap[g]?) (hz : w.heap.size ≤ w'.heap.size) (hm : MapC L.F w0 w' m' l)
    (hs : w'.os = w.os ∧ w'.tape = w.tape ∧ w'.output = w.output) (ho : ∀ k, k < w.heap.size → ρ k = none → w'.heap[k]? = w.heap[k]?) :
    ∃ ρ', Inv { L with m := upd L.m false m', pv := .slice none 0 0 } ρ' n (rmidS S l) w' ∧ Step L ρ w { L with m := upd L.m false m', pv := .slice none 0 0 } ρ' w' := by
  obtain ⟨ρ', hx, hro, hmI, hold⟩ : ∃ ρ' : Nat → Option Role, (∀ k r, ρ k = some r → ρ' k = some r) ∧ (∀ k, k < w.heap.size → ρ' k = ρ k) ∧ MapI ρ' L.F w' m' (.map false) l ∧ (∀ k, w'.heap.size ≤ k → ρ' k = none) := by
    rcases hm with ⟨rfl, rfl⟩ | ⟨rfl, hown⟩
    · exact ⟨ρ, fun _ _ h => h, fun _ _ => rfl, .inl ⟨rfl, rfl⟩, fun k hk => h.old k (Nat.le_trans hz hk)⟩
    · have hlt := hown.lt
      refine ⟨updN ρ w0.heap.size (some (.map false)), fun k r hk => ?_, fun k hk => ?_, .inr ⟨w0.heap.size, rfl, by simp [updN], hown⟩, fun k hk => ?_⟩
      · unfold updN
        rw [if_neg (fun e => by subst e; rw [h.old _ hw0] at hk; cases hk)]; exact hk
      · unfold updN
        rw [if_neg (by omega)]
      · unfold updN
        rw [if_neg (by omega)]; exact h.old k (Nat.le_trans hz hk)
  have hkb : ∀ k r, ρ k = some r → r ≠ .disk → w'.heap[k]? = w.heap[k]? := fun k r hr h2 => hk k (by rw [hr]; simp) (fun e => by subst e; rw [h.hb] at hr; cases hr; exact h2 rfl)
  refine ⟨ρ', ?_, ⟨hs.1, hs.2.1, hs.2.2, hz, ho, hro, rfl⟩⟩
  exact {
    hb := hx _ _ h.hb
    blk := by
      have : upd L.m false m' true = L.m true := by simp [upd]
      show Blk w' L.b 93 #[.int .i64 S.room, .map (upd L.m false m' false), .map (upd L.m false m' true), .slice none 0 0, .int .i64 S.ops, .map L.fm, .int .i64 S.crash, .bool S.down]
      rw [this]
      exact hw
    mp := fun t => by
      cases t
      · exact hmI
      · exact mapI_keep (h.mp true) (fun g hg' => hkb g _ hg' (by simp)) hx
    flt := fltI_keep h.flt (fun g hg' => hkb g _ hg' (by simp)) hx
    pnd := World.ownsRow_nil _ _ _ _
    pro := fun _ hg => by cases hg
    fro := fun j hj => hx _ _ (h.fro j hj)
    fil := fun j hj => (hkb _ _ (h.fro j hj) (by simp)).trans (h.fil j hj)
    con := fun t j hj => row_keep (h.con t j hj) (fun g hg' => hkb g _ (h.cro t j g hj hg') (by simp))
    cro := fun t j g hj hg' => hx _ _ (h.cro t j g hj hg')
    clen := h.clen
    dok := fun t p hp => by
      cases t
      · exact hd p hp
      · exact h.dok true p hp
    pok := fun c hc => by cases hc
    old := hold
    room := h.room
    bnd := ⟨Nat.zero_le _, h.bnd.2.1, fun t => by
      cases t
      · exact hl
      · exact h.bnd.2.2.1 true, h.bnd.2.2.2⟩ }
theorem mid_fin (h : Inv L ρ n S w) {W9 w2 : World} {m' : Option Nat} (l : List (List UInt8 × Nat)) (hl : l.length ≤ n) (hd : ∀ p, p ∈ l → p.2 < S.nf)
    (hk9 : ∀ g, g ≠ L.b → W9.heap[g]? = w.heap[g]?) (hz9 : W9.heap.size = w.heap.size) (hs9 : W9.os = w.os ∧ W9.tape = w.tape ∧ W9.output = w.output) (hmc : MapC L.F W9.drew w2 m' l) (hb : Below W9.drew.heap.size W9.drew w2)
    (hbx : Blk w2 L.b 93 #[.int .i64 S.room, .map (L.m false), .map (L.m true), .slice none 0 0, .int .i64 S.ops, .map L.fm, .int .i64 S.crash, .bool S.down]) :
    ∃ ρ', Inv { L with m := upd L.m false m', pv := .slice none 0 0 } ρ' n (rmidS S l) (w2.setCell ⟨L.b, 1, none⟩ (.map m')) ∧ Step L ρ w { L with m := upd L.m false m', pv := .slice none 0 0 } ρ' (w2.setCell ⟨L.b, 1, none⟩ (.map m')) := by
  have hzd : W9.drew.heap.size = w.heap.size := hz9
  have hlb : L.b < w.heap.size := h.lt (by rw [h.hb]; simp)
  have hz1 : (w2.setCell ⟨L.b, 1, none⟩ (.map m')).heap.size = w2.heap.size := size_setCell' _ _ _
  have hk : ∀ g, g < w2.heap.size → g ≠ L.b → (w2.setCell ⟨L.b, 1, none⟩ (.map m')).heap[g]? = w2.heap[g]? := fun g _ hne => setCell_keep _ _ _ _ g hne
  have hk2 : ∀ g, g < w.heap.size → g ≠ L.b → w2.heap[g]? = w.heap[g]? := fun g hg hne => (hb.block g (by rw [hzd]; exact hg)).trans (hk9 g hne)
  have hsz2 : w.heap.size ≤ w2.heap.size := by have := hb.size; omega
  refine inv_mid h l m' W9.drew (by omega) hl hd (blk_set hbx 1 _) (fun g hg hne => (hk g (Nat.lt_of_lt_of_le (h.lt hg) hsz2) hne).trans (hk2 g (h.lt hg) hne)) (by omega) ?_ ?_ (fun k hk' hr => ?_)
  · rcases hmc with ⟨rfl, rfl⟩ | ⟨rfl, es, clock, hbb, rest⟩
    · exact .inl ⟨rfl, rfl⟩
    · have hlt0 : W9.drew.heap.size < w2.heap.size := (Array.getElem?_eq_some_iff.1 hbb).1
      exact .inr ⟨rfl, es, clock, (hk _ hlt0 (by omega)).trans hbb, rest⟩
  · exact ⟨hb.os.trans hs9.1, hb.tape.trans hs9.2.1, hb.output.trans hs9.2.2⟩
  · have hne : k ≠ L.b := fun e => by subst e; rw [h.hb] at hr; cases hr
    exact (hk k (Nat.lt_of_lt_of_le hk' hsz2) hne).trans (hk2 k hk' hne)
def endR (S : DS) : DS := { S with flt := fun _ => 0, crash := 0, down := false }
theorem inv_end (h : Inv L ρ n S w) : Inv { L with fm := none } ρ n (endR S) (((w.setCell ⟨L.b, 5, none⟩ (.map none)).setCell ⟨L.b, 6, none⟩ (.int .i64 0)).setCell ⟨L.b, 7, none⟩ (.bool false)) ∧ Step L ρ w { L with fm := none } ρ (((w.setCell ⟨L.b, 5, none⟩ (.map none)).setCell ⟨L.b, 6, none⟩ (.int .i64 0)).setCell ⟨L.b, 7, none⟩ (.bool false)) := by
  have hk : ∀ g, g ≠ L.b → (((w.setCell ⟨L.b, 5, none⟩ (.map none)).setCell ⟨L.b, 6, none⟩ (.int .i64 0)).setCell ⟨L.b, 7, none⟩ (.bool false)).heap[g]? = w.heap[g]? := fun g hne => (setCell_keep _ _ _ _ g hne).trans ((setCell_keep _ _ _ _ g hne).trans (setCell_keep _ _ _ _ g hne))
  have hz : (((w.setCell ⟨L.b, 5, none⟩ (.map none)).setCell ⟨L.b, 6, none⟩ (.int .i64 0)).setCell ⟨L.b, 7, none⟩ (.bool false)).heap.size = w.heap.size := by rw [size_setCell', size_setCell', size_setCell']
  have hkb : ∀ k r, ρ k = some r → r ≠ .disk → (((w.setCell ⟨L.b, 5, none⟩ (.map none)).setCell ⟨L.b, 6, none⟩ (.int .i64 0)).setCell ⟨L.b, 7, none⟩ (.bool false)).heap[k]? = w.heap[k]? := fun k r hr h2 => hk k (fun e => by subst e; rw [h.hb] at hr; cases hr; exact h2 rfl)
  refine ⟨?_, ⟨rfl, rfl, rfl, Nat.le_of_eq hz.symm, fun k _ hr => hk k (fun e => by subst e; rw [h.hb] at hr; cases hr), fun _ _ => rfl, rfl⟩⟩
  exact {
    hb := h.hb
    blk := blk_set (blk_set (blk_set h.blk 5 _) 6 _) 7 _
    mp := fun t => mapI_keep (h.mp t) (fun g hg' => hkb g _ hg' (by simp)) (fun _ _ h => h)
    flt := .inl ⟨rfl, fun _ => rfl⟩
    pnd := row_keep h.pnd (fun g hg' => hkb g _ (h.pro g hg') (by simp))
    pro := h.pro
    fro := h.fro
    fil := fun j hj => (hkb _ _ (h.fro j hj) (by simp)).trans (h.fil j hj)
    con := fun t j hj => row_keep (h.con t j hj) (fun g hg' => hkb g _ (h.cro t j g hj hg') (by simp))
    cro := h.cro
    clen := h.clen
    dok := h.dok
    pok := h.pok
    old := fun k hk' => h.old k (by omega)
    room := h.room
    bnd := h.bnd }
end Go.Proofs.YthfebcfdhmihcaaGreatDoor

namespace Go.Proofs.YthfebcfdhmihcaaGreatDoor
open Go.RowKit

theorem run_append_row {P : Program} (w : World) (base : Nat) (t ty e : TypeId) (i : TypeInfo) (z : Value) (size bytes : Nat) (ht : P.underlying t = some (.slice e)) (hi : P.info? e = some i) (hz : i.zero = some z)
    (hsize : i.size = size) (hby : i.bytes = bytes) (hzs : z.cells.size = size) (hsz : 0 < size)
    (v : Value) (n : Nat) (xs : List Value) (hown : w.ownsRow base e size v n xs) {b2 : Nat} (x : Value) (m : Nat) (news : List Value) (hx : w.ownsRow b2 e size x m news) (h1 : ∀ u ∈ news, u.oneCell' = true)
    (h63 : n + m ≤ maxLen) (hbytes : (n + m) * bytes ≤ 140737488355328) (hbase : base ≤ w.heap.size) :
    ∃ v' w', (Builtin.append_ #[t, t] ty #[v, x]).run P w = .ok v' w' ∧ w'.ownsRow base e size v' (n + m) (xs ++ news) ∧ w.grownBy w' v.ownBlock ∧ (v'.ownBlock = v.ownBlock ∨ v'.ownBlock = some w.heap.size) := by
  rcases hx.2 with ⟨rfl, rfl⟩ | ⟨g, cap, cur, rfl, -⟩
  · have hn : news = [] := List.eq_nil_of_length_eq_zero (by simpa using hx.1)
    subst hn
    rw [List.append_nil, Nat.add_zero]
    refine ⟨v, w, ?_, hown, ⟨rfl, rfl, rfl, Nat.le_refl _, fun _ _ _ => rfl⟩, .inl rfl⟩
    rcases hown.2 with ⟨rfl, rfl⟩ | ⟨g, cap, cur, rfl, hbg, hg, hnc, hcm, hcs, htake⟩
    · simp [Builtin.append_, run_underlying ht, sizeOf, typeInfo, hi, Builtin.lenOf, Builtin.firstCells]
    · have := run_append_room_src (P := P) w t t ty e i ht hi g 0 n cap (.slice none 0 0) 0 [] (Src.ofNil w ht 0) (by omega) (by simp) (by simp)
      rw [this]
      simp [World.setCells]
  · obtain ⟨v', w', hr, h2, h3, -, h5⟩ := run_append_own_at (P := P) w base t ty e i z size bytes ht hi hz hsize hby hzs hsz v n xs hown ⟨g, 0, none⟩ m cap news hx.1 (hx.cells (g := g) rfl) h1 h63 hbytes hbase
    exact ⟨v', w', hr, h2, h3, h5⟩
theorem wp_append_row {P : Program} (w : World) {o : Oper} {a : Act} {K : Act → World → Prop} {Q : Exit → Act → World → Prop} (s x : Operand) (t : TypeId)
    (ho : o.op = .call { callee := .builtin .append, args := #[s, x], argTypes := #[t, t] })
    (base : Nat) (e : TypeId) (i : TypeInfo) (z : Value) (size bytes : Nat) (ht : P.underlying t = some (.slice e)) (hi : P.info? e = some i) (hz : i.zero = some z)
    (hsize : i.size = size) (hby : i.bytes = bytes) (hzs : z.cells.size = size) (hsz : 0 < size)
    (v : Value) (n : Nat) (xs : List Value) (hs : a.eval s = v) (hown : w.ownsRow base e size v n xs)
    {b2 : Nat} (vx : Value) (m : Nat) (news : List Value) (hx : a.eval x = vx) (hxo : w.ownsRow b2 e size vx m news) (h1 : ∀ u ∈ news, u.oneCell' = true)
    (h63 : n + m ≤ maxLen) (hbytes : (n + m) * bytes ≤ 140737488355328) (hbase : base ≤ w.heap.size)
    (h : ∀ v' w', w'.ownsRow base e size v' (n + m) (xs ++ news) → w.grownBy w' v.ownBlock → (v'.ownBlock = v.ownBlock ∨ v'.ownBlock = some w.heap.size) → K (a.put o.dst v') w') : o.wp P a w K Q := by
  obtain ⟨v', w', hr, h2, h3, h4⟩ := run_append_row (P := P) w base t o.type e i z size bytes ht hi hz hsize hby hzs hsz v n xs hown vx m news hxo h1 h63 hbytes hbase
  unfold Oper.wp execOp
  simp only [ho, resolve, invoke, builtin, Sem.run_bind, Sem.run_pure, Result.andThen_ok, List.map_toArray, List.map_cons, List.map_nil, hs, hx, hr]
  exact h v' w' h2 h3 h4
theorem wpList_append_row {P : Program} (w : World) {ops : Array Oper} {rest : List Oper} {o : Oper} {a : Act} {Q : Exit → Act → World → Prop} (hgd : o.guard = none) (s x : Operand) (t : TypeId)
    (ho : o.op = .call { callee := .builtin .append, args := #[s, x], argTypes := #[t, t] })
    (base : Nat) (e : TypeId) (i : TypeInfo) (z : Value) (size bytes : Nat) (ht : P.underlying t = some (.slice e)) (hi : P.info? e = some i) (hz : i.zero = some z)
    (hsize : i.size = size) (hby : i.bytes = bytes) (hzs : z.cells.size = size) (hsz : 0 < size)
    (v : Value) (n : Nat) (xs : List Value) (hs : a.eval s = v) (hown : w.ownsRow base e size v n xs)
    {b2 : Nat} (vx : Value) (m : Nat) (news : List Value) (hx : a.eval x = vx) (hxo : w.ownsRow b2 e size vx m news) (h1 : ∀ u ∈ news, u.oneCell' = true)
    (h63 : n + m ≤ maxLen) (hbytes : (n + m) * bytes ≤ 140737488355328) (hbase : base ≤ w.heap.size)
    (h : ∀ v' w', w'.ownsRow base e size v' (n + m) (xs ++ news) → w.grownBy w' v.ownBlock → (v'.ownBlock = v.ownBlock ∨ v'.ownBlock = some w.heap.size) → wpList P ops Q rest (a.put o.dst v') w') : wpList P ops Q (o :: rest) a w :=
  wpList_plain hgd fun _ hK => wp_append_row w s x t ho base e i z size bytes ht hi hz hsize hby hzs hsz v n xs hs hown vx m news hx hxo h1 h63 hbytes hbase fun v' w' h2 h3 h4 => hK _ _ (h v' w' h2 h3 h4)
/-- A row of one element that has just been laid. -/
theorem row_one (w : World) (e : TypeId) (size : Nat) (cs : List Value) (hl : cs.length = size) : (w.alloc (.cells cs.toArray e)).ownsRow w.heap.size e size (.slice (some ⟨w.heap.size, 0, none⟩) 1 1) 1 cs :=
  ⟨by rw [hl, Nat.one_mul], .inr ⟨w.heap.size, 1, cs.toArray, rfl, Nat.le_refl _, heap_alloc_new _ _, Nat.le_refl _, by unfold maxLen; omega, by simp [hl], by rw [Nat.one_mul, ← hl]; simp⟩⟩
/-- An empty row that is not nil. -/
theorem row_none (w : World) (e : TypeId) (size : Nat) : (w.alloc (.cells #[] e)).ownsRow w.heap.size e size (.slice (some ⟨w.heap.size, 0, none⟩) 0 0) 0 [] :=
  ⟨by simp, .inr ⟨w.heap.size, 0, #[], rfl, Nat.le_refl _, heap_alloc_new _ _, Nat.le_refl _, Nat.zero_le _, by simp, by simp⟩⟩
theorem row_base {w : World} {base b : Nat} {e : TypeId} {size : Nat} {v : Value} {n : Nat} {xs : List Value} (h : w.ownsRow base e size v n xs) (hb : b ≤ base) : w.ownsRow b e size v n xs := by
  refine ⟨h.1, ?_⟩
  rcases h.2 with h | ⟨g, cap, cur, hv, hg, rest⟩
  · exact .inl h
  · exact .inr ⟨g, cap, cur, hv, Nat.le_trans hb hg, rest⟩
end Go.Proofs.YthfebcfdhmihcaaGreatDoor

namespace Go.Proofs.YthfebcfdhmihcaaGreatDoor
open Go.RowKit
variable {w w' : World}

theorem one_byte (l : List UInt8) : ∀ u ∈ Lib.byteCells l, u.oneCell' = true := fun u hu => by
  obtain ⟨b, -, rfl⟩ := List.mem_map.1 hu
  rfl
theorem grown_new1 {a a' : World} {o : Obj} (hg : (a.alloc o).grownBy a' (some a.heap.size)) : Below a.heap.size a a' :=
  ((Below.refl _ a).alloc (Nat.le_refl _) o).grown hg (by simp) (fun k e => by cases e; exact Nat.le_refl _)
theorem eqlB_nil (w : World) : (binOp .eql 100 (.slice none 0 0) (.slice none 0 0)).run Tryz.prog w = .ok (.bool true) w := by kernel_rfl
theorem eqlB_some (w : World) (g n cap : Nat) : (binOp .eql 100 (.slice (some ⟨g, 0, none⟩) n cap) (.slice none 0 0)).run Tryz.prog w = .ok (.bool false) w := by kernel_rfl
set_option maxRecDepth 100000 in
theorem sclone_any {v : Value} {l : List UInt8} (h : Bys w v l) (hl : l.length ≤ 4000000) :
    Calls Tryz.prog 54 #[v] w fun e w' => ∃ v', e = .returned v' ∧ Bys w' v' l ∧ Below w.heap.size w w' ∧ ∀ g, v'.ownBlock = some g → w.heap.size ≤ g := by
  rcases bys_cases h with ⟨rfl, rfl⟩ | ⟨g, cap, cur, rfl, -⟩
  · have H := Lib.hid h
    have e0 := eqlB_nil
    clear h
    go_enter Tryz.func54, Tryz.ntmps54
    go_wp2
    go_ret
    exact ⟨_, rfl, H.out, Below.refl _ _, fun g e => by cases e⟩
  · obtain ⟨i, hi, hz⟩ : ∃ i, Tryz.prog.info? 5 = some i ∧ (i.zero = some (.int .u8 0) ∧ i.size = 1 ∧ i.bytes = 1) := by
      have := u8_info
      cases hq : Tryz.prog.info? 5 with
      | none => rw [hq] at this; simp at this
      | some i => rw [hq] at this; simp at this; exact ⟨i, rfl, this⟩
    have H := Lib.hid h
    have e0 := eqlB_some
    clear h
    go_enter Tryz.func54, Tryz.ntmps54
    go_wp2_with (at_builtin; refine wpList_append_row _ rfl _ _ 100 rfl w.heap.size 5 i _ 1 1 Tryz.underlying100 hi hz.1 hz.2.1 hz.2.2 rfl (by decide) (.slice (some ⟨w.heap.size, 0, none⟩) 0 0) 0 [] rfl (row_none w 5 1) (.slice (some ⟨g, 0, none⟩) l.length cap) l.length (Lib.byteCells l) rfl (H.out.alloc _) (one_byte l) (by unfold maxLen; omega) (by omega) (by simp) ?_; intro v5 w5 hown5 hgrow5 hbk5)
    rw [Nat.zero_add, List.nil_append] at hown5
    go_ret
    exact ⟨_, rfl, row_base hown5 (Nat.zero_le _), grown_new1 hgrow5, fun g e => (hown5.lt g e).1⟩
end Go.Proofs.YthfebcfdhmihcaaGreatDoor

namespace Go.Proofs.YthfebcfdhmihcaaGreatDoor
open Go.RowKit
variable {L : Loc} {ρ ρ' : Nat → Option Role} {n : Nat} {S : DS} {w w' : World}

theorem survS_pend (c : Chg) (u : Nat) (S : DS) : (survS c u S).pend = S.pend := by
  unfold survS
  split
  · rfl
  · exact applyS_pend _ _ _
theorem survF_pend (u : Nat → Nat) (l : List Chg) (S : DS) : ∀ k, (survF u l S k).pend = S.pend
  | 0 => rfl
  | k + 1 => by
    unfold survF
    split
    · exact (survS_pend _ _ _).trans (survF_pend u l S k)
    · exact survF_pend u l S k
/-- All that is seen is what is durable, the machine up. -/
def seenS (T : DS) : DS := { T with dirs := upd T.dirs false (T.dirs true), pend := [], con := fun s i => if s = false ∧ (T.dirs true).any (fun p => p.2 == i) = true then T.con true i else T.con s i, flt := fun _ => 0, crash := 0, down := false }
theorem seenS_is (T : DS) (C : Bool → Nat → List UInt8) (hC : ∀ s i, C s i = if s = false ∧ (T.dirs true).any (fun p => p.2 == i) = true then T.con true i else T.con s i) : seenS T = endR { rmidS T (T.dirs true) with con := C } := by
  have e : C = fun s i => if s = false ∧ (T.dirs true).any (fun p => p.2 == i) = true then T.con true i else T.con s i := by funext s i; exact hC s i
  rw [e]
  rfl
theorem keys_find {l : List (List UInt8 × Nat)} (h : Keys l) {p : List UInt8 × Nat} (hp : p ∈ l) : findL l p.1 = some p.2 := by
  unfold findL
  induction l with
  | nil => cases hp
  | cons q t ih =>
    unfold Keys at h
    rw [List.map_cons, List.nodup_cons] at h
    rcases List.mem_cons.1 hp with rfl | hp'
    · simp
    · have hne : q.1 ≠ p.1 := fun e => h.1 (by rw [e]; exact List.mem_map_of_mem hp')
      rw [List.find?_cons_of_neg (by simpa using hne)]
      exact ih h.2 hp'
/-- A round of the second loop: the files that have been met are copied. -/
structure CpI (L1 : Loc) (ρ2 : Nat → Option Role) (W10 : World) (m' : Option Nat) (N : Nat) (T : DS) (left : Lit → Bool) (wr : World) : Prop where
  ex : ∃ (C : Bool → Nat → List UInt8) (L3 : Loc) (ρ3 : Nat → Option Role), Inv L3 ρ3 N { rmidS T (T.dirs true) with con := C } wr ∧ Step { L1 with m := upd L1.m false m', pv := .slice none 0 0 } ρ2 W10 L3 ρ3 wr ∧ L3.F = L1.F ∧ ρ3 W10.heap.size = none ∧
    (∀ s j, s = true → C s j = T.con s j) ∧ (∀ p, p ∈ T.dirs true → left (.string p.1) = false → C false p.2 = T.con true p.2) ∧ (∀ j, ((T.dirs true).any (fun p => p.2 == j) = false) → C false j = T.con false j)
/-- A round of the first loop. -/
structure RstI (u : Nat → Nat) (L : Loc) (ρ : Nat → Option Role) (n : Nat) (S : DS) (w : World) (i : Nat) (wr : World) : Prop where
  ex : ∃ L1 ρ1, Inv L1 ρ1 (n + i) (survF u S.pend S i) wr ∧ Step L ρ w L1 ρ1 wr ∧ L1.F = L.F ∧ L1.pv = L.pv

set_option maxHeartbeats 4000000 in
set_option maxRecDepth 100000 in
theorem rest_any (u : Nat → Nat) (a : Option Addr) (m cap0 : Nat) (x : Nat → Int) (hx : ∀ k, k < m → ∃ g o, a = some ⟨g, o, none⟩ ∧ g < w.heap.size ∧ ρ g = none ∧ w.cell? ⟨g, o + k, none⟩ = some (.int .i64 (x k)) ∧ IntKind.u64.wrap (x k) = (u k : Int)) (hx0 : ∀ k, m ≤ k → u k = 0) (hu : ∀ k, u k < 18446744073709551616)
    (h : Inv L ρ n S w) (hn : n + S.pend.length + 1 ≤ 100000) (hK : Keys ((survF u S.pend S S.pend.length).dirs true)) :
    Calls Tryz.prog 18 #[.pointer (some ⟨L.b, 0, none⟩), .slice a m cap0] w fun e w' => e = .returned (.tuple #[]) ∧ ∃ L' ρ', Inv L' ρ' (n + S.pend.length) (restartS u S) w' ∧ Step L ρ w L' ρ' w' ∧ L'.F = L.F := by
  have c3 := blk_cell h.blk 3 rfl
  obtain ⟨av, capv, hpv⟩ := row_any h.pnd
  obtain ⟨len, hlen⟩ : ∃ len, len = S.pend.length := ⟨_, rfl⟩
  rw [← hlen] at hpv hn ⊢
  rw [hpv] at c3
  have HX := Lib.hid hx; have HX0 := Lib.hid hx0; have HU := Lib.hid hu; have HPV := Lib.hid hpv; have HLEN := Lib.hid hlen; have HH := Lib.hid h; have HKY := Lib.hid hK
  have HI0 := Lib.hid (show RstI u L ρ n S w 0 w from ⟨L, ρ, h, Step.refl _ _ _, rfl, rfl⟩)
  have hlb : len ≤ 100000 := by omega
  clear h hx hx0 hu hpv hlen hK
  go_enter Tryz.func18, Tryz.ntmps18
  go_wp2
  go_loopw [16] (fun iv wr => ∃ i : Nat, i ≤ len ∧ iv = .int .i64 i ∧ Hid (RstI u L ρ n S w i wr)) (fun iv _ => len - (intOf iv).toNat)
  case atStart => exact ⟨0, Nat.zero_le _, rfl, HI0⟩
  case round =>
    obtain ⟨i, hi, rfl, hR⟩ := hrel
    obtain ⟨L1, ρ1, hI1, hS1, hF1, hpv1⟩ := hR.out.ex
    have hb1 : L1.b = L.b := hS1.b
    have hpd : (survF u S.pend S i).pend = S.pend := survF_pend u S.pend S i
    clear HI0 hR c3
    by_cases hlt : i < len
    · have hlt' : i < S.pend.length := by have := HLEN.out; omega
      have hstep := survF_step u S.pend S i hlt'
      have hcO : S.pend[i].Ok S.nf := HH.out.pok _ (List.getElem_mem hlt')
      have hmi : i < (survF u S.pend S i).pend.length := by rw [hpd]; exact hlt'
      have hma : (survF u S.pend S i).pend[i] = S.pend[i] := by simp only [hpd]
      obtain ⟨g, hgv⟩ : ∃ g, av = some ⟨g, 0, none⟩ := by
        rcases prow_of hI1.pnd with ⟨e, hp⟩ | ⟨g, cap', cur, e, hp⟩
        · rw [hpd] at hp; rw [hp] at hlt'; cases hlt'
        · rw [hpv1, HPV.out] at e
          injection e with e1 _ _
          exact ⟨g, e1⟩
      subst hgv
      have hlp : S.pend.length = len := HLEN.out.symm
      obtain ⟨cur, hP⟩ := prow_at hI1.pnd (show L1.pv = .slice (some ⟨g, 0, none⟩) (survF u S.pend S i).pend.length capv by rw [hpv1, HPV.out, hpd, hlp])
      rw [hF1] at hP
      obtain ⟨ck, nm, fp, o, d, hcl⟩ := chg_lit L.F S.pend[i]
      have r0 := prow_cell hP i 0 hmi (by omega) (v := .int .i64 ck) (by rw [hma, hcl]; rfl)
      have r1 := prow_cell hP i 1 hmi (by omega) (v := .string nm) (by rw [hma, hcl]; rfl)
      have r2 := prow_cell hP i 2 hmi (by omega) (v := .pointer fp) (by rw [hma, hcl]; rfl)
      have r3 := prow_cell hP i 3 hmi (by omega) (v := .int .i64 o) (by rw [hma, hcl]; rfl)
      have r4 := prow_cell hP i 4 hmi (by omega) (v := .string d) (by rw [hma, hcl]; rfl)
      rw [Nat.add_zero] at r0
      have hIA := hI1.alloc (.cells #[.int .i64 ck, .string nm, .pointer fp, .int .i64 o, .string d] 96)
      have hSA : Step L ρ w L1 ρ1 (wr.alloc (.cells #[.int .i64 ck, .string nm, .pointer fp, .int .i64 o, .string d] 96)) := hS1.trans (Step.below ((Below.refl _ _).alloc (Nat.le_refl _) _))
      have hA := survive_any S.pend[i] (u i) (HU.out i) hIA (by rw [survF_nf]; exact hcO) (by omega)
      rw [hF1, hcl, ← hstep, hb1] at hA
      have HA := Lib.hid hA; have HSA := Lib.hid hSA; have HF1 := Lib.hid hF1; have HPV1 := Lib.hid hpv1; have HS1 := Lib.hid hS1
      have hlti : (i : Int) < len := by omega
      have t1 : ¬ ((i : Int) < 0) := by omega
      clear hA hIA hSA hstep hcO hmi hma hP hcl hF1 hpv1 hb1 hI1 hS1 hpd hlt' hlp
      by_cases him : i < m
      · obtain ⟨gc, oc, rfl, hgc, hgr, hcx, hcw⟩ := HX.out i him
        have x9 : wr.cell? ⟨gc, oc + i, none⟩ = some (.int .i64 (x i)) := (World.cell?_of_block (a := ⟨gc, oc + i, none⟩) (HS1.out.blk gc hgc hgr)).trans hcx
        have x9b := cell_alloc x9 (.cells #[.int .i64 ck, .string nm, .pointer fp, .int .i64 o, .string d] 96)
        have himI : (i : Int) < m := by omega
        clear hcx hgc hgr
        go_wp2_with (go_at_call 52; (with_reducible refine HA.out.mono ?_); rintro e w2 ⟨rfl, L2, ρ2, hI2, hS2, hF2, hP2⟩; have HI2 := Lib.hid (show RstI u L ρ n S w (i + 1) w2 from ⟨L2, ρ2, hI2, HSA.out.trans hS2, hF2.trans HF1.out, hP2.trans HPV1.out⟩); clear hI2 hS2 hF2 hP2)
        go_roundw
        case rel => exact ⟨i + 1, by omega, by go_num, HI2⟩
        case measure => simp [intOf]; omega
      · have hu0 := HX0.out i (by omega)
        have himI : ¬ (i : Int) < m := by omega
        have hw0 : IntKind.u64.wrap 0 = 0 := by decide
        rw [hu0] at HA
        rw [show ((0 : Nat) : Int) = 0 from rfl] at HA
        go_wp2_with (go_at_call 52; (with_reducible refine HA.out.mono ?_); rintro e w2 ⟨rfl, L2, ρ2, hI2, hS2, hF2, hP2⟩; have HI2 := Lib.hid (show RstI u L ρ n S w (i + 1) w2 from ⟨L2, ρ2, hI2, HSA.out.trans hS2, hF2.trans HF1.out, hP2.trans HPV1.out⟩); clear hI2 hS2 hF2 hP2)
        go_roundw
        case rel => exact ⟨i + 1, by omega, by go_num, HI2⟩
        case measure => simp [intOf]; omega
    · obtain rfl : i = len := by omega
      rw [← hb1]
      have HRS := Lib.hid (show restartS u S = seenS (survF u S.pend S i) by rw [HLEN.out]; rfl)
      have HKT := Lib.hid (show Keys ((survF u S.pend S i).dirs true) by rw [HLEN.out]; exact HKY.out)
      have HS1 := Lib.hid hS1; have HF1 := Lib.hid hF1
      have d3x : L1.pv = .slice av i capv := by rw [hpv1, HPV.out]
      clear hpd hS1 hF1 hpv1 hb1
      generalize survF u S.pend S i = T at *
      have hblk := hI1.blk
      have d3 := blk_cell hblk 3 rfl
      have f3 := blk_frozen hblk 3
      have hb9 := blk_set hblk 3 (.slice none 0 0)
      have hk9 : ∀ g, g ≠ L1.b → (wr.setCell ⟨L1.b, 3, none⟩ (.slice none 0 0)).heap[g]? = wr.heap[g]? := setCell_keep _ _ _ _
      have hz9 : (wr.setCell ⟨L1.b, 3, none⟩ (.slice none 0 0)).heap.size = wr.heap.size := size_setCell' _ _ _
      have hs9 : (wr.setCell ⟨L1.b, 3, none⟩ (.slice none 0 0)).os = wr.os ∧ (wr.setCell ⟨L1.b, 3, none⟩ (.slice none 0 0)).tape = wr.tape ∧ (wr.setCell ⟨L1.b, 3, none⟩ (.slice none 0 0)).output = wr.output := ⟨rfl, rfl, rfl⟩
      have hm9 : MapI ρ1 L1.F (wr.setCell ⟨L1.b, 3, none⟩ (.slice none 0 0)) (L1.m true) (.map true) (T.dirs true) := mapI_keep (hI1.mp true) (fun g hg => hk9 g (fun e => by subst e; have := hI1.hb; rw [this] at hg; cases hg)) (fun _ _ h => h)
      have HM9 := Lib.hid hm9; have HB9 := Lib.hid hb9; have HK9 := Lib.hid hk9; have HZ9 := Lib.hid hz9; have HS9 := Lib.hid hs9; have HI := Lib.hid hI1
      have hc2 := blk_cell hb9 2 rfl
      clear hI1 hblk hb9 hk9 hz9 hs9 hm9
      have hge : ¬ ((i : Int) < i) := by omega
      go_upto_region 10 with (fail)
      revert HM9 HB9 HK9 HZ9 HS9 hc2
      generalize wr.setCell ⟨L1.b, 3, none⟩ (.slice none 0 0) = W9
      intro HM9 HB9 HK9 HZ9 HS9 hc2
      have HC2 := Lib.hid (show W9.cell? ⟨L1.b, 2, none⟩ = some (.map (L1.m true)) from hc2)
      clear hc2
      go_region_held3 (fun v => v.cell? ⟨L1.b, 2, none⟩ = some (.map (L1.m true)))
        (first | assumption | exact HC2.out | exact blk_cell (blk_set (by assumption) 1 _) 2 rfl)
        ((go_at_call 53; refine (mclone_any (w := W9.drew) HM9.out).mono ?_; rintro e w2 ⟨m', rfl, hmc, hb⟩
          have hbx : Blk w2 L1.b 93 #[.int .i64 T.room, .map (L1.m false), .map (L1.m true), .slice none 0 0, .int .i64 T.ops, .map L1.fm, .int .i64 T.crash, .bool T.down] := (hb.block _ (blk_lt HB9.out)).trans HB9.out
          have x1 := blk_cell hbx 1 rfl; have x2 := blk_cell hbx 2 rfl; have x3 := blk_frozen hbx 1))
      have HMID := Lib.hid (mid_fin HI.out (T.dirs true) (HI.out.bnd.2.2.1 true) (fun p hp => HI.out.dok true p hp) HK9.out HZ9.out HS9.out hmc hb hbx)
      clear hmc hb hbx x1 x2 x3
      revert HMID
      generalize w2.setCell ⟨L1.b, 1, none⟩ (.map m') = W10
      intro HMID
      obtain ⟨ρ2, hI2, hS2⟩ := HMID.out
      clear HMID
      have HI2 := Lib.hid hI2
      have HS2 := Lib.hid ((Step.below (w := wr) (Below.refl _ _)).trans hS2)
      have hm := hI2.mp false
      simp only [rmidS, upd_same] at hm
      have y1 : W10.cell? ⟨L1.b, 1, none⟩ = some (.map m') := blk_cell hI2.blk 1 (by simp [upd])
      clear hI2 hS2
      have HCO := Lib.hid (fun (C : Bool → Nat → List UInt8) hC => seenS_is T C hC)
      rcases hm with ⟨rfl, hl0⟩ | ⟨g, rfl, hgr, hown⟩
      · have hr1 := run_range_nilMap (P := Tryz.prog) W10 88 _ _ underF
        have hr2 := fun ty => run_next_nilMap (P := Tryz.prog) W10 ty 0 0 #[]
        have hI3 := HI2.out.below (w' := W10.alloc (.mapIter none 0 #[] 0)) ((Below.refl _ _).alloc (Nat.le_refl _) _)
        have hb11 := hI3.blk
        have z5 := blk_cell hb11 5 rfl; have z6 := blk_cell hb11 6 rfl; have z7 := blk_cell hb11 7 rfl
        have p5 := blk_frozen hb11 5; have p6 := blk_frozen hb11 6; have p7 := blk_frozen hb11 7
        have hE := inv_end hI3
        have HE := Lib.hid hE.1
        have HES := Lib.hid (((HS1.out.trans HS2.out).trans (Step.below ((Below.refl _ W10).alloc (Nat.le_refl _) (.mapIter none 0 #[] 0)))).trans hE.2)
        have HC0 := Lib.hid (HCO.out T.con (fun s j => by rw [hl0]; simp))
        clear hI3 hb11 hE hl0
        go_wp2
        go_loopw [] (fun wr' => wr' = W10.alloc (.mapIter none 0 #[] 0)) (fun _ => 0)
        case atStart => rfl
        case round =>
          obtain rfl := hrel
          go_wp2
          go_returns
          refine ⟨rfl, _, _, ?_, HES.out, HF1.out⟩
          rw [HRS.out, HC0.out]
          exact HE.out
      · have hgl : g < W10.heap.size := HI2.out.lt (by rw [hgr]; simp)
        have HGR := Lib.hid hgr; have HGL := Lib.hid hgl
        clear hgr hgl
        go_wp2_with (first
          | (at_range; refine wpList_range_own _ rfl _ 88 rfl 9 94 lawStr underF fileR g _ _ rfl hown ?_; intro w0 hrg0 hg0 hs0)
          | go_in)
        go_loopw [] (fun wr' => ∃ (left : Lit → Bool) (cnt : Nat), wr'.ranges Tryz.prog 9 fileR g W10.heap.size (T.dirs true).length (fileD L1.F (T.dirs true)) left cnt ∧ Hid (CpI L1 ρ2 W10 (some g) (n + i) T left wr') ∧ Hid (∀ kl, left kl = true → Maps.has (fileD L1.F (T.dirs true)) kl = true)) (fun wr' => wr'.rangeLeft g W10.heap.size)
        case atStart =>
          have hbs : Below W10.heap.size W10 w0 := ⟨hg0.os, hg0.tape, hg0.output, hg0.size, fun k hk => hg0.block k hk (by simp)⟩
          refine ⟨_, _, hrg0, Lib.hid ⟨T.con, _, ρ2, HI2.out.below hbs, Step.below hbs, rfl, HI2.out.old _ (Nat.le_refl _), fun _ _ _ => rfl, fun p hp hl => ?_, fun _ _ => rfl⟩, Lib.hid (fun kl h => h)⟩
          have h2 := mem_findL hp
          rw [← fileD_has (F := L1.F)] at h2
          rw [h2] at hl
          cases hl
        case round =>
          obtain ⟨left, cnt, hrg, HC, HL⟩ := hrel
          clear hown hrg0 hg0 hs0 y1
          go_wp2_with (first
            | (at_next; refine wpList_next_ranges _ rfl _ rfl 9 lawStr fileR Value.string Value.pointer (fun key kl hkey => keyStr_inv hkey) (fun v y hv => fileR_inv hv) g W10.heap.size _ _ _ _ rfl hrg ?_ ?_)
            | go_in)
          · intro hc0 hl0
            obtain ⟨C, L3, ρ3, hI3, hS3, hF3, hr3, hc1, hc2, hc3⟩ := HC.out.ex
            have hb3 : L3.b = L1.b := hS3.b
            have hb11 := hI3.blk
            have hE := inv_end hI3
            rw [hb3] at hb11 hE
            have z5 := blk_cell hb11 5 rfl; have z6 := blk_cell hb11 6 rfl; have z7 := blk_cell hb11 7 rfl
            have p5 := blk_frozen hb11 5; have p6 := blk_frozen hb11 6; have p7 := blk_frozen hb11 7
            have HE := Lib.hid hE.1
            have HES := Lib.hid (((HS1.out.trans HS2.out).trans hS3).trans hE.2)
            have HF3 := Lib.hid (hF3.trans HF1.out)
            have HC0 := Lib.hid (HCO.out C (fun s j => by
              cases s with
              | true => rw [if_neg (by simp)]; exact hc1 true j rfl
              | false =>
                cases ha : (T.dirs true).any (fun p => p.2 == j) with
                | false => rw [if_neg (by simp)]; exact hc3 j ha
                | true =>
                  rw [if_pos ⟨rfl, rfl⟩]
                  obtain ⟨p, hp, e⟩ := List.any_eq_true.1 ha
                  have e' : p.2 = j := by simpa using e
                  rw [← e']
                  exact hc2 p hp (hl0 _)))
            clear hI3 hS3 hF3 hb11 hE hc1 hc2 hc3 hrg hb3 hr3
            go_wp2
            go_returns
            refine ⟨rfl, _, _, ?_, HES.out, HF3.out⟩
            rw [HRS.out, HC0.out]
            exact HE.out
          · intro x c kl y1 y2 w1 cnt1 hkey hlx hy hat hrg1 hlt hg1 hs1 hen
            obtain rfl := keyStr_lit hkey
            have hhas := HL.out _ hlx
            rw [fileD_has] at hhas
            obtain ⟨j, hj⟩ := Option.isSome_iff_exists.1 hhas
            obtain rfl := fileR_at hj hy hat
            have hmem := findL_mem hj
            obtain ⟨C, L3, ρ3, hI3, hS3, hF3, hr3, hc1, hc2, hc3⟩ := HC.out.ex
            have hjn : j < T.nf := HI.out.dok true _ hmem
            have hIw : Inv L3 ρ3 (n + i) { rmidS T (T.dirs true) with con := C } w1 := hI3.heap (fun k hk => hg1.block k (hI3.lt hk) (fun e => hk (by injection e with e; rw [e]; exact hr3))) hg1.size
            have hSw : Step { L1 with m := upd L1.m false (some g), pv := .slice none 0 0 } ρ2 W10 L3 ρ3 w1 := ⟨hg1.os.trans hS3.os, hg1.tape.trans hS3.tape, hg1.output.trans hS3.output, Nat.le_trans hS3.size hg1.size,
              fun k hk hn => (hg1.block k (Nat.lt_of_lt_of_le hk hS3.size) (fun e => by injection e with e; omega)).trans (hS3.blk k hk hn), hS3.ro, hS3.b⟩
            have hfil : Blk w1 (L1.F j) 104 #[L3.V false j, L3.V true j] := by rw [← hF3]; exact hIw.fil j hjn
            have hfr : ρ3 (L1.F j) = some (.file j) := by rw [← hF3]; exact hI3.fro j hjn
            have hcon : Bys w1 (L3.V true j) (C true j) := hIw.con true j hjn
            have hclen : (C true j).length ≤ 4000000 := hIw.clen true j hjn
            have hgg : g ≠ L1.F j := fun e => by
              have e1 := hS3.ro g HGL.out
              rw [HGR.out, e, hfr] at e1
              cases e1
            have hgi : W10.heap.size ≠ L1.F j := fun e => by rw [e, hfr] at hr3; cases hr3
            have hsz : W10.heap.size < w1.heap.size := hrg1.lt
            have HIW := Lib.hid hIw; have HSW := Lib.hid hSw; have HF3 := Lib.hid hF3; have HR3 := Lib.hid hr3; have HC1 := Lib.hid hc1; have HC2 := Lib.hid hc2; have HC3 := Lib.hid hc3
            have HMEM := Lib.hid hmem; have HRG1 := Lib.hid hrg1; have HFIL := Lib.hid hfil; have HCON := Lib.hid hcon; have HLT := Lib.hid hlt; have HJN := Lib.hid hjn
            have hm0 := hrg.left_eq
            have z0 := blk_cell hfil 0 rfl; have z1 := blk_cell hfil 1 rfl; have z2 := blk_frozen hfil 0
            clear hI3 hS3 hF3 hr3 hc1 hc2 hc3 hIw hSw hrg hrg1 hfil hcon hhas hy hat hkey hmem hj hg1 hfr hlt hjn
            go_upto_region 14 with (fail)
            go_region_held3 (fun v => v.cell? ⟨L1.F j, 1, none⟩ = some (L3.V true j))
              (first | assumption | exact z1 | exact blk_cell (blk_set (by assumption) 0 _) 1 rfl)
              ((go_at_call 54; refine (sclone_any (w := w1.drew) HCON.out hclen).mono ?_; rintro e w2 ⟨v', rfl, hbv, hb, ho⟩
                obtain ⟨va, vc, hv, hvc⟩ := bys_slice hbv
                subst hv
                have hbx : Blk w2 (L1.F j) 104 #[L3.V false j, L3.V true j] := (hb.block _ (blk_lt HFIL.out)).trans HFIL.out
                have x0 := blk_cell hbx 0 rfl; have x1 := blk_cell hbx 1 rfl; have x2 := blk_frozen hbx 0))
            generalize hvv : Value.slice va (C true j).length vc = v' at *
            have hb1 : Below w1.heap.size w1 w2 := ((Below.refl _ w1).drew).trans hb
            have HFIN := Lib.hid (show ∃ ρ', Inv { L3 with V := upd2 L3.V false j v' } ρ' (n + i) { rmidS T (T.dirs true) with con := upd2 C false j (C true j) } (w2.setCell ⟨L1.F j, 0, none⟩ v') ∧ Step L3 ρ3 w1 { L3 with V := upd2 L3.V false j v' } ρ' (w2.setCell ⟨L1.F j, 0, none⟩ v') by
              have := inv_con2 HIW.out false j HJN.out hb1 hbv hclen ho
              rw [show L3.F j = L1.F j by rw [HF3.out]] at this
              exact this)
            have hg2 : w1.grownBy (w2.setCell ⟨L1.F j, 0, none⟩ v') (some (L1.F j)) := ⟨hb1.os, hb1.tape, hb1.output, by rw [size_setCell']; exact hb1.size, fun k hk hne => (setCell_keep w2 (L1.F j) 0 v' k (fun e => hne (by rw [e]))).trans (hb1.block k hk)⟩
            have HRG2 := Lib.hid (HRG1.out.kept hg2 (fun e => hgg (by injection e)) (fun e => hgi (by injection e)))
            have hm1 := HRG2.out.left_eq
            have HL1 : Hid (∀ kl, (left kl && !kl.sameKey (.string x.data.toList)) = true → Maps.has (fileD L1.F (T.dirs true)) kl = true) := Lib.hid (fun kl hkl => HL.out kl (by revert hkl; cases left kl <;> simp))
            have HCP : Hid (CpI L1 ρ2 W10 (some g) (n + i) T (fun z => left z && !z.sameKey (.string x.data.toList)) (w2.setCell ⟨L1.F j, 0, none⟩ v')) := Lib.hid (by
              obtain ⟨ρ', hI4, hS4⟩ := HFIN.out
              refine ⟨upd2 C false j (C true j), _, ρ', hI4, HSW.out.trans hS4, HF3.out, (hS4.ro _ hsz).trans HR3.out, fun s k hs => ?_, fun p hp hl => ?_, fun k hk => ?_⟩
              · subst hs
                unfold upd2
                rw [if_neg (by simp)]
                exact HC1.out true k rfl
              · by_cases hpj : p.2 = j
                · unfold upd2
                  rw [if_pos ⟨rfl, hpj⟩, hpj]
                  exact HC1.out true j rfl
                · unfold upd2
                  rw [if_neg (fun e => hpj e.2)]
                  refine HC2.out p hp ?_
                  have hne : p.1 ≠ x.data.toList := fun e => hpj (by
                    have h1 : findL (T.dirs true) p.1 = some p.2 := keys_find HKT.out hp
                    have h2 : findL (T.dirs true) x.data.toList = some j := keys_find HKT.out HMEM.out
                    rw [e, h2] at h1
                    exact (Option.some.inj h1).symm)
                  have hsk : Lit.sameKey (.string p.1) (.string x.data.toList) = false := by simpa [Lit.sameKey] using hne
                  rw [hsk] at hl
                  simpa using hl
              · unfold upd2
                rw [if_neg]
                · exact HC3.out k hk
                · rintro ⟨-, rfl⟩
                  rw [List.any_eq_false] at hk
                  exact hk _ HMEM.out (by simp))
            clear hbv hb ho hbx x0 x1 x2 hb1 hg2
            go_wp2
            go_roundw
            case rel => exact ⟨_, cnt1, HRG2.out, HCP, HL1⟩
            case measure => rw [hm0, hm1]; exact HLT.out
end Go.Proofs.YthfebcfdhmihcaaGreatDoor

namespace Go.Proofs.YthfebcfdhmihcaaGreatDoor
open Go.RowKit

/-- The package's variables: errors.errorType, the table of powers of ten, hot.errAbsent. -/
structure Gl (ea : Addr) (w : World) : Prop where
  et : Glob w
  tab : Tab w
  ab : w.cell? ⟨0, 0, none⟩ = some (.iface 283 (.pointer (some ea)))
theorem tab_block {w w' : World} (h : Tab w) (hb : w'.heap[3]? = w.heap[3]?) : Tab w' := by
  unfold Tab Lib.TabIs World.var? at *
  rw [tab_global] at *
  simp only [Option.bind_some] at *
  rw [hb]
  exact h
theorem gl_keep {ea : Addr} {w w' : World} (h : Gl ea w) (hb : ∀ k, k < 6 → w'.heap[k]? = w.heap[k]?) : Gl ea w' :=
  ⟨glob_block h.et (hb _ (by decide)), tab_block h.tab (hb _ (by decide)), by rw [World.cell?_of_block (a := ⟨0, 0, none⟩) (hb _ (by decide))]; exact h.ab⟩

abbrev PQ := List (List UInt8 × Nat) → List Chg → Prop
def QN : PQ := fun _ l => l = []
def QD : PQ := fun _ l => ∀ c, c ∈ l → ofDir c = true
def QF (p : List UInt8) : PQ := fun d l => ∃ i, findL d p = some i ∧ ∀ c, c ∈ l → ofDir c = true ∨ ofFile i c = true

/-- A calm disk at block b, with the files l, beside the blocks of P; n bounds its counts, m its pending changes, of which Q holds. -/
structure Dk (P : Nat → Prop) (ea : Addr) (b n m : Nat) (l : List F13) (Q : PQ) (v : World) : Prop where
  ex : ∃ S L ρ, Cal S ∧ seeS S = l ∧ S.pend.length ≤ m ∧ Q (S.dirs false) S.pend ∧ Inv L ρ n S v ∧ L.b = b ∧ ∀ k, P k → ρ k = none
  gl : Gl ea v
  lt : ∀ k, P k → k < v.heap.size
  gn : ∀ k, k < 6 → P k
/-- What a call leaves: the blocks of P. -/
structure Fr (P : Nat → Prop) (v v' : World) : Prop where
  os : v'.os = v.os
  tape : v'.tape = v.tape
  output : v'.output = v.output
  size : v.heap.size ≤ v'.heap.size
  blk : ∀ k, P k → v'.heap[k]? = v.heap[k]?

variable {P : Nat → Prop} {ea : Addr} {b n m : Nat} {l : List F13} {Q : PQ} {v v' : World}
theorem Fr.refl (P : Nat → Prop) (v : World) : Fr P v v := ⟨rfl, rfl, rfl, Nat.le_refl _, fun _ _ => rfl⟩
theorem Fr.trans {v'' : World} (h : Fr P v v') (k : Fr P v' v'') : Fr P v v'' := ⟨k.os.trans h.os, k.tape.trans h.tape, k.output.trans h.output, Nat.le_trans h.size k.size, fun i hi => (k.blk i hi).trans (h.blk i hi)⟩
theorem Fr.mono {P' : Nat → Prop} (h : Fr P v v') (hp : ∀ k, P' k → P k) : Fr P' v v' := ⟨h.os, h.tape, h.output, h.size, fun k hk => h.blk k (hp k hk)⟩
theorem fr_below (hb : Below v.heap.size v v') (hl : ∀ k, P k → k < v.heap.size) : Fr P v v' := ⟨hb.os, hb.tape, hb.output, hb.size, fun k hk => hb.block k (hl k hk)⟩
theorem Fr.drew (h : Fr P v v') : Fr P v v'.drew := ⟨h.os, h.tape, h.output, h.size, h.blk⟩
theorem below_fr {B : Nat} (h : Fr (fun k => k < B) v v') : Below B v v' := ⟨h.os, h.tape, h.output, h.size, h.blk⟩
theorem Fr.cell (h : Fr P v v') {a : Addr} (ha : P a.block) : v'.cell? a = v.cell? a := World.cell?_of_block (h.blk _ ha)
theorem fr_blk (h : Fr P v v') {g : Nat} {t : TypeId} {cs : Array Value} (hg : P g) (hb : Blk v g t cs) : Blk v' g t cs := (h.blk g hg).trans hb

theorem dk_below (h : Dk P ea b n m l Q v) (hb : Below v.heap.size v v') : Dk P ea b n m l Q v' := by
  obtain ⟨S, L, ρ, h1, h2, h3, h4, h5, h6, h7⟩ := h.ex
  exact ⟨⟨S, L, ρ, h1, h2, h3, h4, h5.below hb, h6, h7⟩, gl_keep h.gl (fun k hk => hb.block k (h.lt k (h.gn k hk))), fun k hk => Nat.lt_of_lt_of_le (h.lt k hk) hb.size, h.gn⟩
theorem dk_fr (h : Dk P ea b n m l Q v) (hb : Below v.heap.size v v') : Fr P v v' := fr_below hb h.lt
theorem dk_alloc (h : Dk P ea b n m l Q v) (o : Obj) : Dk P ea b n m l Q (v.alloc o) := dk_below h ((Below.refl _ _).alloc (Nat.le_refl _) _)
theorem dk_drew (h : Dk P ea b n m l Q v) : Dk P ea b n m l Q v.drew := dk_below h (Below.refl _ _).drew
/-- A new block, set beside the disk. -/
theorem dk_add (h : Dk P ea b n m l Q v) (o : Obj) : Dk (fun k => P k ∨ k = v.heap.size) ea b n m l Q (v.alloc o) := by
  have h' := dk_alloc h o
  obtain ⟨S, L, ρ, h1, h2, h3, h4, h5, h6, h7⟩ := h.ex
  refine ⟨⟨S, L, ρ, h1, h2, h3, h4, h5.alloc o, h6, fun k hk => ?_⟩, h'.gl, fun k hk => ?_, fun k hk => .inl (h.gn k hk)⟩
  · rcases hk with hk | rfl
    · exact h7 k hk
    · exact h5.old _ (Nat.le_refl _)
  · rcases hk with hk | rfl
    · exact h'.lt k hk
    · simp
/-- New blocks, all set beside the disk. -/
theorem dk_grab (h : Dk P ea b n m l Q v) (hb : Below v.heap.size v v') : Dk (fun k => P k ∨ (v.heap.size ≤ k ∧ k < v'.heap.size)) ea b n m l Q v' := by
  have h' := dk_below h hb
  obtain ⟨S, L, ρ, h1, h2, h3, h4, h5, h6, h7⟩ := h.ex
  refine ⟨⟨S, L, ρ, h1, h2, h3, h4, h5.below hb, h6, fun k hk => ?_⟩, h'.gl, fun k hk => ?_, fun k hk => .inl (h.gn k hk)⟩
  · rcases hk with hk | hk
    · exact h7 k hk
    · exact h5.old _ hk.1
  · rcases hk with hk | hk
    · exact h'.lt k hk
    · exact hk.2
theorem dk_less {P' : Nat → Prop} (h : Dk P ea b n m l Q v) (hp : ∀ k, P' k → P k) (hg : ∀ k, k < 6 → P' k) : Dk P' ea b n m l Q v := by
  obtain ⟨S, L, ρ, h1, h2, h3, h4, h5, h6, h7⟩ := h.ex
  exact ⟨⟨S, L, ρ, h1, h2, h3, h4, h5, h6, fun k hk => h7 k (hp k hk)⟩, h.gl, fun k hk => h.lt k (hp k hk), hg⟩
theorem dk_mono {n' m' : Nat} {Q' : PQ} (h : Dk P ea b n m l Q v) (hn : n ≤ n') (hn' : n' ≤ 100000) (hm : m ≤ m') (hQ : ∀ d p, Q d p → Q' d p) : Dk P ea b n' m' l Q' v := by
  obtain ⟨S, L, ρ, h1, h2, h3, h4, h5, h6, h7⟩ := h.ex
  exact ⟨⟨S, L, ρ, h1, h2, Nat.le_trans h3 hm, hQ _ _ h4, h5.mono hn hn', h6, h7⟩, h.gl, h.lt, h.gn⟩
theorem dk_up {n' : Nat} (h : Dk P ea b n m l Q v) (hn : n ≤ n') (hn' : n' ≤ 100000) : Dk P ea b n' m l Q v := dk_mono h hn hn' (Nat.le_refl _) fun _ _ h => h
/-- A block of P turned by its owner. -/
theorem dk_keep (h : Dk P ea b n m l Q v) {g : Nat} (hg : P g) (hn : 6 ≤ g) (hk : ∀ k, k ≠ g → v'.heap[k]? = v.heap[k]?) (hs : v'.heap.size = v.heap.size) : Dk P ea b n m l Q v' := by
  obtain ⟨S, L, ρ, h1, h2, h3, h4, h5, h6, h7⟩ := h.ex
  refine ⟨⟨S, L, ρ, h1, h2, h3, h4, h5.heap (fun k hr => hk k (fun e => by subst e; exact hr (h7 _ hg))) (Nat.le_of_eq hs.symm), h6, h7⟩, gl_keep h.gl (fun k hk' => hk k (by omega)), fun k hk' => by rw [hs]; exact h.lt k hk', h.gn⟩
theorem dk_srt (h : Dk P ea b n m l Q v) : SrtF l := by
  obtain ⟨S, L, ρ, h1, rfl, -⟩ := h.ex
  exact see_srt h1
theorem dk_out {L L' : Loc} {ρ ρ' : Nat → Option Role} {n' m' : Nat} {S' : DS} {l' : List F13} {Q' : PQ} (h : Dk P ea b n m l Q v) (hb : L.b = b) (hr : ∀ k, P k → ρ k = none) (hI : Inv L' ρ' n' S' v') (hS : Step L ρ v L' ρ' v') (hc : Cal S') (hl : seeS S' = l') (hm : S'.pend.length ≤ m') (hQ : Q' (S'.dirs false) S'.pend) : Dk P ea b n' m' l' Q' v' ∧ Fr P v v' :=
  ⟨⟨⟨S', L', ρ', hc, hl, hm, hQ, hI, hS.b.trans hb, fun k hk => (hS.ro k (h.lt k hk)).trans (hr k hk)⟩,
    gl_keep h.gl (fun k hk => hS.blk k (h.lt k (h.gn k hk)) (hr k (h.gn k hk))), fun k hk => Nat.lt_of_lt_of_le (h.lt k hk) hS.size, h.gn⟩,
   ⟨hS.os, hS.tape, hS.output, hS.size, fun k hk => hS.blk k (h.lt k hk) (hr k hk)⟩⟩

/-- A counted call's answer and the disk behind it. -/
def DkQ (P : Nat → Prop) (ea : Addr) (b n m : Nat) (l : List F13) (Q : PQ) (x : Int) (v : World) (e : Ending) (v' : World) : Prop := e = .returned (.int .i64 x) ∧ Dk P ea b n m l Q v' ∧ Fr P v v'
theorem dkq_of {L : Loc} {ρ : Nat → Option Role} {n0 n' m' N : Nat} {S : DS} {r : Int × DS} {x : Int} {l' : List F13} {Q' : PQ} (h : Dk P ea b n m l Q v) (_h5 : Inv L ρ n0 S v) (hb : L.b = b) (hr : ∀ k, P k → ρ k = none) (hx : r.1 = x) (hc : Cal r.2) (hl : seeS r.2 = l') (hm : r.2.pend.length ≤ m') (hQ : Q' (r.2.dirs false) r.2.pend) (hN : N ≤ n') (hn : n' ≤ 100000) {e : Ending} (h0 : OutQ L ρ v r N e v') : DkQ P ea b n' m' l' Q' x v e v' := by
  obtain ⟨L', ρ', q, he, hI, hS, hq⟩ := h0
  obtain ⟨h1, h2⟩ := dk_out h hb hr (hI.mono (Nat.le_trans hq hN) hn) hS hc hl hm hQ
  exact ⟨by rw [he, hx], h1, h2⟩

theorem ba_bz (p : List UInt8) : bz p = ba p := rfl
theorem dk_size (h : Dk P ea b n m l Q v) (p : List UInt8) (hp : p.length ≤ 1000000) :
    Calls Tryz.prog 78 #[.pointer (some ⟨b, 0, none⟩), .string (ba p)] v fun e v' => e = .returned (.tuple #[.int .i64 ((lookF l p).getD []).length, .bool (lookF l p).isSome]) ∧ v' = v := by
  obtain ⟨S, L, ρ, h1, rfl, -, -, h5, rfl, -⟩ := h.ex
  have := size_any h5 (ba p) (by rw [ba_size]; exact hp)
  rw [ba_list, see_cont, see_has] at this
  exact this
theorem dk_content (h : Dk P ea b n m l Q v) (p : List UInt8) (hp : p.length ≤ 1000000) :
    Calls Tryz.prog 19 #[.pointer (some ⟨b, 0, none⟩), .string (ba p)] v fun e v' => e = .returned (.tuple #[.string (ba ((lookF l p).getD [])), .bool (lookF l p).isSome]) ∧ v' = v := by
  obtain ⟨S, L, ρ, h1, rfl, -, -, h5, rfl, -⟩ := h.ex
  have := content_any h5 (ba p) (by rw [ba_size]; exact hp)
  rw [ba_list, see_cont, see_has] at this
  exact this
theorem dk_names (h : Dk P ea b n m l Q v) :
    Calls Tryz.prog 20 #[.pointer (some ⟨b, 0, none⟩)] v fun e v' => ∃ x, e = .returned x ∧ NameRow v' x (l.map (·.1)) ∧ Below v.heap.size v v' ∧ NewV v.heap.size x := by
  obtain ⟨S, L, ρ, h1, rfl, -, -, h5, rfl, -⟩ := h.ex
  have := names_new h5 h1.sort
  rw [show (seeS S).map (·.1) = namesL S by unfold seeS namesL; rw [List.map_map]; rfl]
  exact this
theorem dk_read (h : Dk P ea b n m l Q v) (p x : List UInt8) (hp : p.length ≤ 1000000) (hx : lookF l p = some x) (hn : n + 1 ≤ 100000) :
    Calls Tryz.prog 106 #[.pointer (some ⟨b, 0, none⟩), .string (ba p), .int .i64 0, .int .i64 x.length] v fun e v' => e = .returned (.tuple #[.string (ba x), .int .i64 0]) ∧ Dk P ea b (n + 1) m l Q v' ∧ Fr P v v' := by
  obtain ⟨S, L, ρ, h1, rfl, h3, h4, h5, rfl, h7⟩ := h.ex
  obtain ⟨i, hi, rfl⟩ := see_some hx
  have hlen := h5.clen false i (h1.nf _ (findL_mem hi))
  refine (read_any (ba p) (by rw [ba_size]; exact hp) i 0 (S.con false i).length h5 (by rw [ba_list]; exact hi) (by omega) (by omega) (by omega) (by omega) h1.down (by rw [cal_beg h1]; exact h1.down) (cal_flt h1 _) hn).mono fun e v' hq => ?_
  obtain ⟨he, L', ρ', n', hI, hS, hn'⟩ := hq
  refine ⟨by rw [he]; unfold readL; simp [ba_bz], ?_⟩
  rw [cal_beg h1] at hI
  exact dk_out h rfl h7 (hI.mono hn' hn) hS (cal_cnt h1) rfl h3 h4
theorem dk_create (h : Dk P ea b n m l QD v) (p : List UInt8) (hp : p.length ≤ 1000000) (hx : lookF l p = none) (hl : l.length < 60) (hb : pathB p = true) (hn : n + 3 ≤ 100000) :
    Calls Tryz.prog 23 #[.pointer (some ⟨b, 0, none⟩), .string (ba p)] v (DkQ P ea b (n + 3) (m + 1) (insF (p, []) l) QD 0 v) := by
  obtain ⟨S, L, ρ, h1, rfl, h3, h4, h5, rfl, h7⟩ := h.ex
  refine (create_any (ba p) (by rw [ba_size]; exact hp) h5 h1.down (cal_flt h1 _) hn).mono fun e v' hq => ?_
  rw [ba_list] at hq
  obtain ⟨c1, c2, c3, c4, -⟩ := cal_create h1 hx hl hb
  refine dkq_of h h5 rfl h7 c1 c2 c3 (by rw [c4]; simpa using h3) ?_ (Nat.le_refl _) hn hq
  rw [c4]
  intro c hc
  rcases List.mem_append.1 hc with hc | hc
  · exact h4 c hc
  · rw [List.mem_singleton.1 hc]; rfl
theorem dk_create_bad (h : Dk P ea b n m l Q v) (p : List UInt8) (hp : p.length ≤ 1000000) (hb : pathB p = false) (hn : n + 3 ≤ 100000) :
    Calls Tryz.prog 23 #[.pointer (some ⟨b, 0, none⟩), .string (ba p)] v (DkQ P ea b (n + 3) m l Q 13 v) := by
  obtain ⟨S, L, ρ, h1, rfl, h3, h4, h5, rfl, h7⟩ := h.ex
  refine (create_any (ba p) (by rw [ba_size]; exact hp) h5 h1.down (cal_flt h1 _) hn).mono fun e v' hq => ?_
  rw [ba_list, cal_create_bad h1 hb] at hq
  exact dkq_of h h5 rfl h7 rfl (cal_cnt h1) rfl h3 h4 (Nat.le_refl _) hn hq
theorem dk_create_twice (h : Dk P ea b n m l Q v) (p x : List UInt8) (hp : p.length ≤ 1000000) (hb : pathB p = true) (hx : lookF l p = some x) (hn : n + 3 ≤ 100000) :
    Calls Tryz.prog 23 #[.pointer (some ⟨b, 0, none⟩), .string (ba p)] v (DkQ P ea b (n + 3) m l Q 9 v) := by
  obtain ⟨S, L, ρ, h1, rfl, h3, h4, h5, rfl, h7⟩ := h.ex
  refine (create_any (ba p) (by rw [ba_size]; exact hp) h5 h1.down (cal_flt h1 _) hn).mono fun e v' hq => ?_
  rw [ba_list, cal_create_twice h1 hb hx] at hq
  exact dkq_of h h5 rfl h7 rfl (cal_cnt h1) rfl h3 h4 (Nat.le_refl _) hn hq
theorem dk_delete (h : Dk P ea b n m l QD v) (p x : List UInt8) (hp : p.length ≤ 1000000) (hx : lookF l p = some x) (hn : n + 3 ≤ 100000) :
    Calls Tryz.prog 126 #[.pointer (some ⟨b, 0, none⟩), .string (ba p)] v (DkQ P ea b (n + 3) (m + 1) (wtoF l p) QD 0 v) := by
  obtain ⟨S, L, ρ, h1, rfl, h3, h4, h5, rfl, h7⟩ := h.ex
  refine (delete_any (ba p) (by rw [ba_size]; exact hp) h5 h1.down (cal_flt h1 _) hn).mono fun e v' hq => ?_
  rw [ba_list] at hq
  obtain ⟨c1, c2, c3, c4⟩ := cal_delete h1 hx
  refine dkq_of h h5 rfl h7 c1 c2 c3 (by rw [c4]; simpa using h3) ?_ (Nat.le_refl _) hn hq
  rw [c4]
  intro c hc
  rcases List.mem_append.1 hc with hc | hc
  · exact h4 c hc
  · rw [List.mem_singleton.1 hc]; rfl
theorem qf_of {p : List UInt8} {d : List (List UInt8 × Nat)} {l : List Chg} {i : Nat} (hi : findL d p = some i) (h : QD d l) : QF p d l := ⟨i, hi, fun c hc => .inl (h c hc)⟩
theorem dk_toF (h : Dk P ea b n m l QD v) (p x : List UInt8) (hx : lookF l p = some x) : Dk P ea b n m l (QF p) v := by
  obtain ⟨S, L, ρ, h1, rfl, h3, h4, h5, rfl, h7⟩ := h.ex
  obtain ⟨i, hi, -⟩ := see_some hx
  exact ⟨⟨S, L, ρ, h1, rfl, h3, qf_of hi h4, h5, rfl, h7⟩, h.gl, h.lt, h.gn⟩
theorem dk_write (p x : List UInt8) (h : Dk P ea b n m l (QF p) v) (hp : p.length ≤ 1000000) (hx : lookF l p = some x) (o : Nat) (d : List UInt8) (ho : o ≤ x.length) (hne : d ≠ []) (ht : totF l + d.length ≤ 4000000) (hxd : o + d.length ≤ 4000000) (hn : n + 3 ≤ 100000) :
    Calls Tryz.prog 24 #[.pointer (some ⟨b, 0, none⟩), .string (ba p), .int .i64 o, .string (ba d)] v (DkQ P ea b (n + 3) (m + 1) (setF l p (overL x o d)) (QF p) 0 v) := by
  obtain ⟨S, L, ρ, h1, rfl, h3, ⟨i, hi, h4⟩, h5, rfl, h7⟩ := h.ex
  refine (write_any (ba p) (by rw [ba_size]; exact hp) o (by omega) (by omega) (ba d) (by rw [ba_size]; omega) h5 (h1.keys false) h1.down (cal_flt h1 _) hn).mono fun e v' hq => ?_
  rw [ba_list, ba_list] at hq
  obtain ⟨c1, c2, c3, j, hj, c4, c5⟩ := cal_write h1 hx o d ho hne ht hxd
  obtain rfl := Option.some.inj (hi.symm.trans hj)
  refine dkq_of h h5 rfl h7 c1 c2 c3 (by rw [c4]; simpa using h3) ?_ (Nat.le_refl _) hn hq
  rw [c4, c5]
  refine ⟨i, hi, fun c hc => ?_⟩
  rcases List.mem_append.1 hc with hc | hc
  · exact h4 c hc
  · rw [List.mem_singleton.1 hc]; exact .inr (by simp [ofFile])
theorem dk_write_nil (p x : List UInt8) (h : Dk P ea b n m l Q v) (hp : p.length ≤ 1000000) (hx : lookF l p = some x) (hn : n + 3 ≤ 100000) :
    Calls Tryz.prog 24 #[.pointer (some ⟨b, 0, none⟩), .string (ba p), .int .i64 0, .string (ba [])] v (DkQ P ea b (n + 3) m l Q 0 v) := by
  obtain ⟨S, L, ρ, h1, rfl, h3, h4, h5, rfl, h7⟩ := h.ex
  refine (write_any (ba p) (by rw [ba_size]; exact hp) 0 (by omega) (by omega) (ba []) (by rw [ba_size]; simp) h5 (h1.keys false) h1.down (cal_flt h1 _) hn).mono fun e v' hq => ?_
  rw [ba_list, ba_list, cal_write_nil h1 hx] at hq
  exact dkq_of h h5 rfl h7 rfl (cal_cnt h1) rfl h3 h4 (Nat.le_refl _) hn hq
theorem dk_trunc (p x : List UInt8) (h : Dk P ea b n m l (QF p) v) (hp : p.length ≤ 1000000) (hx : lookF l p = some x) (z : Nat) (hz : z ≤ x.length) (hz2 : z ≤ 4000000) (hn : n + 3 ≤ 100000) :
    Calls Tryz.prog 151 #[.pointer (some ⟨b, 0, none⟩), .string (ba p), .int .i64 z] v (DkQ P ea b (n + 3) (m + 1) (setF l p (x.take z)) (QF p) 0 v) := by
  obtain ⟨S, L, ρ, h1, rfl, h3, ⟨i, hi, h4⟩, h5, rfl, h7⟩ := h.ex
  refine (trunc_any (ba p) (by rw [ba_size]; exact hp) z h5 (h1.keys false) h1.down (cal_flt h1 _) hn).mono fun e v' hq => ?_
  rw [ba_list] at hq
  obtain ⟨c1, c2, c3, j, hj, c4, c5⟩ := cal_trunc h1 hx z hz hz2
  obtain rfl := Option.some.inj (hi.symm.trans hj)
  refine dkq_of h h5 rfl h7 c1 c2 c3 (by rw [c4]; simpa using h3) ?_ (Nat.le_refl _) hn hq
  rw [c4, c5]
  refine ⟨i, hi, fun c hc => ?_⟩
  rcases List.mem_append.1 hc with hc | hc
  · exact h4 c hc
  · rw [List.mem_singleton.1 hc]; exact .inr (by simp [ofFile])
theorem kept_len (q : Chg → Bool) (l : List Chg) : (keptL q l).length ≤ l.length := List.length_filter_le _ _
/-- Sync of the file that changed: changes of the directory are left. -/
theorem dk_syncF (p x : List UInt8) (h : Dk P ea b n m l (QF p) v) (hp : p.length ≤ 1000000) (hx : lookF l p = some x) (hn : n + 2 + m ≤ 100000) :
    Calls Tryz.prog 25 #[.pointer (some ⟨b, 0, none⟩), .string (ba p)] v (DkQ P ea b (n + 1 + m) m l QD 0 v) := by
  obtain ⟨S, L, ρ, h1, rfl, h3, ⟨i, hi, h4⟩, h5, rfl, h7⟩ := h.ex
  refine (sync_any (ba p) (by rw [ba_size]; exact hp) h5 h1.down (cal_flt h1 _) (by omega)).mono fun e v' hq => ?_
  rw [ba_list] at hq
  obtain ⟨c1, c2, c3, c4, c5⟩ := cal_sync h1 hi
  refine dkq_of h h5 rfl h7 c1 c2 c3 (by rw [c4]; exact Nat.le_trans (kept_len _ _) h3) ?_ (by omega) (by omega) hq
  rw [c4]
  exact kept_file h4
theorem dk_dirsync (h : Dk P ea b n m l QD v) (hn : n + 2 + m ≤ 100000) :
    Calls Tryz.prog 26 #[.pointer (some ⟨b, 0, none⟩)] v (DkQ P ea b (n + 1 + m) 0 l QN 0 v) := by
  obtain ⟨S, L, ρ, h1, rfl, h3, h4, h5, rfl, h7⟩ := h.ex
  refine (dirsync_any h5 h1.down (cal_flt h1 _) (by omega)).mono fun e v' hq => ?_
  obtain ⟨c1, c2, c3, c4⟩ := cal_dirsync h1
  have hk := kept_dir h4
  refine dkq_of h h5 rfl h7 c1 c2 c3 (by rw [c4, hk]; exact Nat.le_refl _) (by rw [c4, hk]; rfl) (by omega) (by omega) hq
theorem dk_nd (h : Dk P ea b n m l QN v) : Dk P ea b n m l QD v := by
  obtain ⟨S, L, ρ, h1, rfl, h3, h4, h5, rfl, h7⟩ := h.ex
  have hp : S.pend = [] := h4
  have hd : QD (S.dirs false) S.pend := by
    rw [hp]; intro c hc; cases hc
  exact ⟨⟨S, L, ρ, h1, rfl, h3, hd, h5, rfl, h7⟩, h.gl, h.lt, h.gn⟩
theorem dk_restart (h : Dk P ea b n m l QN v) (hn : n + 1 + m ≤ 100000) :
    Calls Tryz.prog 18 #[.pointer (some ⟨b, 0, none⟩), .slice none 0 0] v fun e v' => e = .returned (.tuple #[]) ∧ Dk P ea b (n + m) 0 l QN v' ∧ Fr P v v' := by
  obtain ⟨S, L, ρ, h1, rfl, h3, h4, h5, rfl, h7⟩ := h.ex
  have hp : S.pend = [] := h4
  refine (rest_any (fun _ => 0) none 0 0 (fun _ => 0) (fun k hk => absurd hk (Nat.not_lt_zero k)) (fun _ _ => rfl) (fun _ => by decide) h5 (by omega) (by rw [hp]; exact h1.keys true)).mono fun e v' hq => ?_
  obtain ⟨he, L', ρ', hI, hS, -⟩ := hq
  obtain ⟨c1, c2, c3⟩ := cal_restart h1 hp (fun _ => 0)
  exact ⟨he, dk_out h rfl h7 (hI.mono (by omega) (by omega)) hS c1 c2 (by rw [c3]; exact Nat.le_refl _) c3⟩
theorem dk_new {w : World} (hg : Gl ea w) (hn : 6 ≤ w.heap.size) :
    Calls Tryz.prog 22 #[.int .i64 (-1)] w fun e v' => e = .returned (.pointer (some ⟨w.heap.size, 0, none⟩)) ∧ Dk (fun k => k < w.heap.size) ea w.heap.size 0 0 [] QN v' ∧ Below w.heap.size w v' := by
  refine (new_any (-1) w).mono fun e v' hq => ?_
  obtain ⟨he, hI, hB⟩ := hq
  obtain ⟨c1, c2, c3⟩ := cal_new
  exact ⟨he, ⟨⟨_, _, _, c1, c2, by rw [c3]; exact Nat.le_refl _, c3, hI, rfl, fun k hk => by unfold newR; rw [if_neg (Nat.ne_of_lt hk)]⟩, gl_keep hg (fun k hk => hB.block k (Nat.lt_of_lt_of_le hk hn)), fun k hk => Nat.lt_of_lt_of_le hk hB.size, fun k hk => Nat.lt_of_lt_of_le hk hn⟩, hB⟩
end Go.Proofs.YthfebcfdhmihcaaGreatDoor

namespace Go.Proofs.YthfebcfdhmihcaaGreatDoor
open Go.ChangeShapes Go.WideShapes Go.ChangeAt Go.RowKit

theorem et0 : Tryz.prog.globalNamed "errors.errorType" = some 1 := by kernel_rfl
theorem rt0 : (Tryz.prog.cutTypes.find? (·.1 == "internal/reflectlite.rtype")).map (·.2) = some 167 := by kernel_rfl
theorem oneRow : ((List.range Tryz.prog.types.size).filter fun t => Tryz.prog.rowNamed t [101, 114, 114, 111, 114]) = [57] := by kernel_rfl
theorem gPowType : (Tryz.prog.globals[3]?).map (·.type) = some 261 := by kernel_rfl
theorem cellsPow : Tryz.prog.cellsOf 261 = 20 := by kernel_rfl
theorem cellsU64 : Tryz.prog.cellsOf 98 = 1 := by kernel_rfl
abbrev laidList : List (String × DataW Unit) := [("math/bits.deBruijn32tab", Rows.laid_math_bits_deBruijn32tab), ("math/bits.deBruijn64tab", Rows.laid_math_bits_deBruijn64tab), ("internal/strconv.uint64pow10", Rows.laid_internal_strconv_uint64pow10), ("errors.errorType", Rows.laid_errors_errorType), ("annexe/hot.errAbsent", Rows.laid_annexe_hot_errAbsent)]
abbrev laidData : List (String × DataW Unit) := [("math/bits.deBruijn32tab", Rows.laid_math_bits_deBruijn32tab), ("math/bits.deBruijn64tab", Rows.laid_math_bits_deBruijn64tab), ("internal/strconv.uint64pow10", Rows.laid_internal_strconv_uint64pow10), ("annexe/hot.errAbsent", Rows.laid_annexe_hot_errAbsent)]

/-- What the row's list gives: the type of errors. -/
theorem glob_of_laid {W : World} (h : handlesMet Tryz.prog [("errors.errorType", Rows.laid_errors_errorType)] W) : Glob W := by
  obtain ⟨name, u, ty, e1, e2, e3, e4, e5⟩ := h _ (List.mem_singleton.2 rfl)
  have en : name = [101, 114, 114, 111, 114] := (Option.some.inj e1).symm
  subst en
  obtain rfl := Option.some.inj (rt0.symm.trans e2)
  have hm : ty ∈ (List.range Tryz.prog.types.size).filter fun t => Tryz.prog.rowNamed t [101, 114, 114, 111, 114] := List.mem_filter.2 ⟨List.mem_range.2 e3, e4⟩
  rw [oneRow] at hm
  obtain rfl := List.mem_singleton.1 hm
  have hh : typeHandle Tryz.prog 57 = .pointer (some ⟨6, 57, none⟩) := by kernel_rfl
  rw [hh] at e5
  unfold Glob
  simpa using World.var?_cell et0 e5 0
/-- The table of powers of ten. -/
theorem tab_of_laid {W : World} (h : laidMet Tryz.prog laidData W) : Tab W := by
  obtain ⟨ps, h1, _⟩ := h
  obtain ⟨_, _, _, _, _, _, _, _, _, _, h2, _⟩ := h1
  obtain ⟨_, _, _, _, _, _, _, _, _, _, h3, _⟩ := h2
  obtain ⟨g', t', cs, fuel, p, q, hg', ht', hvar, hd, _, _⟩ := h3
  obtain rfl := Option.some.inj (tab_global.symm.trans hg')
  obtain rfl := Option.some.inj (gPowType.symm.trans ht')
  unfold Tab Lib.TabIs
  rw [hvar, ← Lib.cells_of_tab (zs := Lib.pow10Tab) Tryz.underlying261 Tryz.underlying98 cellsU64 cellsPow hd]
theorem ab0 : Tryz.prog.globalNamed "annexe/hot.errAbsent" = some 0 := by kernel_rfl
theorem ab1 : (Tryz.prog.globals[0]?).map (·.type) = some 57 := by kernel_rfl
theorem starPErr : "*" ++ "errors.errorString" = "*errors.errorString" := by decide
theorem rowPErr (u : TypeId) (h : Tryz.prog.typeName? 3 u = some "*errors.errorString") : u = 283 :=
  typeName_ptr_named (nm := "errors.errorString") (by rw [starPErr]; kernel_rfl) (by kernel_rfl) (by decide) u (by rw [starPErr]; exact h)
theorem var_lt {W : World} {n : String} {g : Nat} {cs : Array Value} (hg : Tryz.prog.globalNamed n = some g) (h : W.var? Tryz.prog n = some cs) : g < W.heap.size := by
  unfold World.var? at h
  simp only [hg, Option.bind_some] at h
  rcases Nat.lt_or_ge g W.heap.size with h' | h'
  · exact h'
  · simp [Array.getElem?_eq_none h'] at h
theorem d64_0 : Tryz.prog.globalNamed "math/bits.deBruijn64tab" = some 5 := by kernel_rfl
/-- All package-level variables stand in the heap. -/
theorem gn_of_laid {W : World} (h : laidMetH Tryz.prog laidList W) : 6 ≤ W.heap.size := by
  have h' : laidMet Tryz.prog laidData W ∧ handlesMet Tryz.prog [("errors.errorType", Rows.laid_errors_errorType)] W := h
  obtain ⟨ps, ⟨g0, t0, cs0, f0, p0, q0, hg0, -, hv0, -⟩, -⟩ := h'.1.tail
  exact Nat.succ_le_of_lt (var_lt d64_0 hv0)
/-- What the row's list gives. -/
theorem gl_of_laid {W : World} (h : laidMetH Tryz.prog laidList W) : ∃ ea, Gl ea W := by
  have h' : laidMet Tryz.prog laidData W ∧ handlesMet Tryz.prog [("errors.errorType", Rows.laid_errors_errorType)] W := h
  obtain ⟨a0, s0, hv0, hc0, hs0, hz0⟩ := laid_sentinel (ti := 57) (tp := 283) (te := 302) (ts := 9) (((h'.1.tail).tail).tail) ab0 ab1 Tryz.underlying57 rowPErr Tryz.underlying283 Tryz.underlying302 rfl rfl Tryz.underlying9 (by kernel_rfl) (by kernel_rfl)
  exact ⟨a0, glob_of_laid h'.2, tab_of_laid h'.1, by simpa using World.var?_cell ab0 hv0 0⟩

def setCells (cs : Array Value) : Obj → Obj
  | .cells _ t frozen => .cells cs t frozen
  | o => o
def tab32 : List Int := [0, 1, 28, 2, 29, 14, 24, 3, 30, 22, 20, 15, 25, 17, 4, 8, 31, 27, 13, 23, 21, 19, 16, 7, 26, 12, 18, 6, 11, 5, 10, 9]
def tab64 : List Int := [0, 1, 56, 2, 57, 49, 28, 3, 61, 58, 42, 50, 38, 29, 17, 4, 62, 47, 59, 36, 45, 43, 51, 22, 53, 39, 33, 30, 24, 18, 12, 5, 63, 55, 48, 27, 60, 41, 37, 16, 46, 35, 44, 21, 52, 32, 23, 11, 54, 26, 40, 15, 34, 20, 31, 10, 25, 14, 19, 9, 13, 8, 7, 6]
/-- A world for the witness: the settled one, the five variables holding what their initialisers lay. -/
noncomputable def laidWorld (os : Os) : World :=
  { World.holding Tryz.prog os ⟨#[], #[], []⟩ with heap := ((((((World.holding Tryz.prog os ⟨#[], #[], []⟩).heap.modify 3 (setCells ((Lib.pow10Tab.map fun z => Value.int .u64 z).toArray))).modify 4 (setCells ((tab32.map fun z => Value.int .u8 z).toArray))).modify 5 (setCells ((tab64.map fun z => Value.int .u8 z).toArray))).modify 1 (setCells #[.iface 167 (.agg #[.pointer (some ⟨6, 57, none⟩)])])).modify 0 (setCells #[.iface 283 (.pointer (some ⟨(World.holding Tryz.prog os ⟨#[], #[], []⟩).heap.size, 0, none⟩))])).push (.cells #[.string ⟨#[116, 104, 101, 32, 102, 105, 108, 101, 32, 105, 115, 32, 110, 111, 116, 32, 118, 105, 115, 105, 98, 108, 101]⟩] 302) }
theorem laid_met (os : Os) (args : Array Value) : laidMetH Tryz.prog laidList ((laidWorld os).forCall (fun _ _ => 0) ⟨#[], args, []⟩).memory :=
  laidMetH_of_parts (laidMet_of_run' 8 (by kernel_rfl) (by kernel_rfl)) (by kernel_rfl)
end Go.Proofs.YthfebcfdhmihcaaGreatDoor

namespace Go.Proofs.YthfebcfdhmihcaaGreatDoor
open Go.RowKit

theorem rfour_any (n : Int) (h1 : -9223372036854775808 ≤ n) (h2 : n ≤ 9223372036854775807) (w : World) :
    Calls Tryz.prog 145 #[.int .i64 n] w fun e w' => e = .returned (.string ⟨(fixR n).1.toArray⟩) ∧ Below w.heap.size w w' := by
  go_enter Tryz.func145, Tryz.ntmps145
  go_wp2_with (go_at_call 179; refine (rfixed_any n h1 h2 _).mono ?_; rintro e w' ⟨rfl, hb⟩)
  go_ret
  exact ⟨rfl, hb⟩
theorem jnumber_any (s : ByteArray) (hs : s.size ≤ 9223372036854775807) (w : World) :
    Calls Tryz.prog 191 #[.string s] w fun e w' => e = .returned (.int .i64 (nmL s.data.toList)) ∧ w = w' := by
  go_enter Tryz.func191, Tryz.ntmps191
  go_wp2_with (go_at_call 207; refine (vnumber_any s hs _).mono ?_; rintro e w' ⟨rfl, rfl⟩)
  go_ret
  exact ⟨rfl, rfl⟩

def clampZ (n m : Int) : Int := max 0 (min n m)
theorem within_any (n m : Int) (w : World) :
    Calls Tryz.prog 217 #[.int .i64 n, .int .i64 m] w fun e w' => e = .returned (.int .i64 (clampZ n m)) ∧ w = w' := by
  go_enter Tryz.func217, Tryz.ntmps217
  go_wp2
  all_goals go_ret
  all_goals exact ⟨ret_int rfl, rfl⟩

structure H8I (b : Nat) (x y z : Value) (w wr : World) : Prop where
  c0 : wr.cell? ⟨b, 0, none⟩ = some x
  c1 : wr.cell? ⟨b, 1, none⟩ = some y
  c2 : wr.cell? ⟨b, 2, none⟩ = some z
  lt : b < wr.heap.size
  below : Below w.heap.size w wr
theorem h8_drew {b : Nat} {x y z : Value} {w wr : World} (h : H8I b x y z w wr) : H8I b x y z w wr.drew := ⟨h.c0, h.c1, h.c2, h.lt, h.below.drew⟩
theorem h8_next {b : Nat} {x y z : Value} {w wr w2 : World} (h : H8I b x y z w wr) (hb : Below wr.heap.size wr w2) : H8I b x y z w w2 :=
  ⟨(hb.cell (p := ⟨b, 0, none⟩) h.lt).trans h.c0, (hb.cell (p := ⟨b, 1, none⟩) h.lt).trans h.c1, (hb.cell (p := ⟨b, 2, none⟩) h.lt).trans h.c2, Nat.lt_of_lt_of_le h.lt hb.size, h.below.trans (hb.mono h.below.size)⟩
theorem h8_new (w : World) (x y z : Value) (t : TypeId) : H8I w.heap.size x y z w (w.alloc (.cells #[x, y, z] t)) := by
  have h := World.rowIs_alloc w #[x, y, z] t (fun j => [x, y, z].getD j x) (fun i hi => by
    match i, hi with
    | 0, _ => rfl
    | 1, _ => rfl
    | 2, _ => rfl
    | i + 3, hi => simp at hi; omega)
  exact ⟨h.cell (i := 0) (by simp), h.cell (i := 1) (by simp), h.cell (i := 2) (by simp), by simp, (Below.refl _ _).alloc (Nat.le_refl _) _⟩
theorem h8_of {b : Nat} {x y z : Value} {w wr : World} (h : H8I b x y z w wr) : wr.cell? ⟨b, 0, none⟩ = some x ∧ wr.cell? ⟨b, 1, none⟩ = some y ∧ wr.cell? ⟨b, 2, none⟩ = some z ∧ H8I b x y z w wr := ⟨h.c0, h.c1, h.c2, h⟩

def eq3 (a b c a' b' c' : Int) : Bool := decide (a = a' ∧ b = b' ∧ c = c')
theorem eq3_true {a b c a' b' c' : Int} : eq3 a b c a' b' c' = true ↔ a = a' ∧ b = b' ∧ c = c' := decide_eq_true_iff
theorem guardH (op : BinOp) (x y : Operand) (xs ys : Array Value) (w : World) : (eqGuard op 238 x y (.agg xs) (.agg ys)).run Tryz.prog w = .ok () w :=
  run_eqGuard_agg w op 238 x y xs ys (by kernel_rfl)
theorem run_eqH (a b c a' b' c' : Int) (w : World) :
    (Op.equalIn 10000 238 (.agg #[.int .i64 a, .int .i64 b, .int .i64 c]) (.agg #[.int .i64 a', .int .i64 b', .int .i64 c'])).run Tryz.prog w = .ok (eq3 a b c a' b' c') w := by
  have h := run_equalIn_struct (P := Tryz.prog) w 9999 238 #[.int .i64 a, .int .i64 b, .int .i64 c] #[.int .i64 a', .int .i64 b', .int .i64 c'] (by kernel_rfl) (by kernel_rfl)
  rw [show (10000 : Nat) = 9999 + 1 from rfl, h]
  unfold eq3
  simp [Program.fieldsOf, Tryz.underlying238, Op.eqFields, part, go_sem, Tryz.sizeOf3, Tryz.isAgg3, Tryz.underlying3]
  by_cases h1 : a = a'
  · by_cases h2 : b = b'
    · by_cases h3 : c = c'
      · simp [h1, h2, h3]
      · simp [h1, h2, h3]
    · simp [h1, h2]
  · simp [h1]
theorem run_eqlH (a b c a' b' c' : Int) (w : World) :
    (binOp .eql 238 (.agg #[.int .i64 a, .int .i64 b, .int .i64 c]) (.agg #[.int .i64 a', .int .i64 b', .int .i64 c'])).run Tryz.prog w = .ok (.bool (eq3 a b c a' b' c')) w := by
  rw [run_eql_struct, run_eqH]; rfl

structure N8I (b r : Nat) (x y z : Value) (w wr : World) : Prop where
  box : Blk wr b 238 #[x, y, z]
  res : ∃ x' y' z', Blk wr r 238 #[x', y', z']
  ne : b ≠ r
  own : w.heap.size ≤ b ∧ w.heap.size ≤ r
  below : Below w.heap.size w wr
theorem n8_new (w : World) (x y z : Value) {x' y' z' : Value} : N8I w.heap.size (w.heap.size + 1) x y z w ((w.alloc (.cells #[x, y, z] 238)).alloc (.cells #[x', y', z'] 238)) :=
  ⟨blk_alloc (blk_new _ _ _) _, ⟨_, _, _, blk_at (by simp)⟩, by omega, by omega, blw2 _ _ _⟩
theorem n8_drew {b r : Nat} {x y z : Value} {w wr : World} (h : N8I b r x y z w wr) : N8I b r x y z w wr.drew := ⟨h.box, h.res, h.ne, h.own, h.below.drew⟩
theorem n8_sets {b r : Nat} {x y z : Value} {w wr : World} (h : N8I b r x y z w wr) (p q s : Value) : N8I b r x y z w (((wr.setCell ⟨r, 0, none⟩ p).setCell ⟨r, 1, none⟩ q).setCell ⟨r, 2, none⟩ s) := by
  obtain ⟨x', y', z', hr⟩ := h.res
  exact ⟨blk_other (blk_other (blk_other h.box h.ne 0 p) h.ne 1 q) h.ne 2 s, ⟨p, q, s, blk_set (blk_set (blk_set hr 0 p) 1 q) 2 s⟩, h.ne, h.own, blw_set (blw_set (blw_set h.below h.own.2 0 p) h.own.2 1 q) h.own.2 2 s⟩
theorem n8_of {b r : Nat} {x y z : Value} {w wr : World} (h : N8I b r x y z w wr) : wr.cell? ⟨b, 0, none⟩ = some x ∧ wr.cell? ⟨b, 1, none⟩ = some y ∧ wr.cell? ⟨b, 2, none⟩ = some z ∧ N8I b r x y z w wr :=
  ⟨blk_cell h.box 0 rfl, blk_cell h.box 1 rfl, blk_cell h.box 2 rfl, h⟩
set_option maxHeartbeats 2000000 in
set_option maxRecDepth 100000 in
theorem nearest_any (a b c : Int) (w : World) :
    Calls Tryz.prog 211 #[.agg #[.int .i64 a, .int .i64 b, .int .i64 c]] w fun e w' => e = .returned (.agg #[.int .i64 (clampZ a 2000), .int .i64 (clampZ b 2000), .int .i64 (clampZ c 4294967295)]) ∧ Below w.heap.size w w' := by
  have h1 := fun w => within_any a 2000 w
  have h2 := fun w => within_any b 2000 w
  have h3 := fun w => within_any c 4294967295 w
  obtain ⟨x, hx⟩ : ∃ x, x = clampZ a 2000 := ⟨_, rfl⟩
  obtain ⟨y, hy⟩ : ∃ y, y = clampZ b 2000 := ⟨_, rfl⟩
  obtain ⟨z, hz⟩ : ∃ z, z = clampZ c 4294967295 := ⟨_, rfl⟩
  rw [← hx] at h1
  rw [← hy] at h2
  rw [← hz] at h3
  rw [← hx, ← hy, ← hz]
  clear hx hy hz
  go_enter Tryz.func211, Tryz.ntmps211
  go_upto_region 1 with (fail)
  obtain ⟨W0, hW0⟩ : ∃ W0, W0 = ((w.alloc (.cells #[.int .i64 a, .int .i64 b, .int .i64 c] 238)).alloc (.cells #[.int .i64 0, .int .i64 0, .int .i64 0] 238)) := ⟨_, rfl⟩
  have HN := Lib.hid (show N8I w.heap.size (w.heap.size + 1) (.int .i64 a) (.int .i64 b) (.int .i64 c) w W0 by rw [hW0]; exact n8_new w _ _ _)
  rw [← hW0]
  clear hW0
  obtain ⟨z0, z1, z2, -⟩ := n8_of HN.out
  have q1 := fun w => (h1 w).mono (fun e w' h => (⟨h.1, h.2.symm⟩ : _ ∧ w' = w))
  have q2 := fun w => (h2 w).mono (fun e w' h => (⟨h.1, h.2.symm⟩ : _ ∧ w' = w))
  have q3 := fun w => (h3 w).mono (fun e w' h => (⟨h.1, h.2.symm⟩ : _ ∧ w' = w))
  refine wp_region_still_tail 10 (by kernel_rfl) (by kernel_rfl) ?_
  simp only [List.take_succ_cons, List.take_zero, List.drop_succ_cons, List.drop_zero]
  still_step
  still_step
  still_call (q1 _)
  still_step
  still_step
  still_call (q2 _)
  still_step
  still_step
  still_call (q3 _)
  still_step
  refine wpStill_nil ?_
  change wpList _ _ _ _ _ W0.drew
  clear z0 z1 z2 h1 h2 h3 q1 q2 q3
  obtain ⟨x', y', z', hz⟩ := HN.out.res
  have z0 := blk_cell hz 0 rfl; have z1 := blk_cell hz 1 rfl; have z2 := blk_cell hz 2 rfl; have z3 := blk_frozen hz 0; have z4 := blk_frozen hz 1; have z5 := blk_frozen hz 2
  have HZ := Lib.hid hz; clear hz
  go_wp2
  refine bodyPost_ret (results_cell_row rfl _ _ (w.heap.size + 1) _ _ _ _ rfl (blk_set (blk_set (blk_set (show Blk W0.drew _ _ _ from HZ.out) 0 _) 1 _) 2 _) Tryz.underlying238 rfl (by kernel_rfl)) rfl ?_
  exact ⟨rfl, (n8_sets (n8_drew HN.out) _ _ _).below⟩
end Go.Proofs.YthfebcfdhmihcaaGreatDoor

namespace Go.Proofs.YthfebcfdhmihcaaGreatDoor
open Go.RowKit

/-- A slice of pages lies in memory: each element's two cells. -/
def Recs (w : World) (a : Option Addr) (L : List R11) : Prop :=
  ∀ j (hj : j < L.length), ∃ b off, a = some ⟨b, off, none⟩ ∧ b < w.heap.size ∧ w.cell? ⟨b, off + j * 2, none⟩ = some (.int .i64 L[j].n) ∧ w.cell? ⟨b, off + j * 2 + 1, none⟩ = some (.string (ba L[j].d))
theorem recs_next {w w' : World} {a : Option Addr} {L : List R11} (h : Recs w a L) (hb : Below w.heap.size w w') : Recs w' a L := by
  intro j hj
  obtain ⟨b, off, ha, hlt, h1, h2⟩ := h j hj
  exact ⟨b, off, ha, Nat.lt_of_lt_of_le hlt hb.size, (hb.cell hlt).trans h1, (hb.cell hlt).trans h2⟩
theorem recs_alloc {w : World} {a : Option Addr} {L : List R11} (h : Recs w a L) (o : Obj) : Recs (w.alloc o) a L := recs_next h (blw1 _ _)
theorem recs_drew {w : World} {a : Option Addr} {L : List R11} (h : Recs w a L) : Recs w.drew a L := h

def recC (r : R11) : List Value := [.int .i64 r.n, .string (ba r.d)]
def recsC (L : List R11) : List Value := L.flatMap recC
theorem recsC_snoc (L : List R11) (r : R11) : recsC (L ++ [r]) = recsC L ++ recC r := by simp [recsC]
theorem recsC_len (L : List R11) : (recsC L).length = L.length * 2 := by
  induction L with
  | nil => rfl
  | cons v t ih => rw [recsC, List.flatMap_cons, List.length_append, ← recsC, ih]; simp [recC]; omega
theorem recsC_at {L : List R11} {j : Nat} (hj : j < L.length) : (recsC L)[j * 2]? = some (.int .i64 L[j].n) ∧ (recsC L)[j * 2 + 1]? = some (.string (ba L[j].d)) := by
  induction L generalizing j with
  | nil => simp at hj
  | cons v t ih =>
    have e : recsC (v :: t) = .int .i64 v.n :: .string (ba v.d) :: recsC t := rfl
    rw [e]
    cases j with
    | zero => simp
    | succ j =>
      have := ih (j := j) (by simpa using hj)
      rw [show (j + 1) * 2 = j * 2 + 2 by omega]
      simpa using this
theorem raddr_add (g j : Nat) : (⟨g, 0, none⟩ : Addr).add j = ⟨g, j, none⟩ := by cases j <;> simp [Addr.add]
theorem recs_of_own {W : World} {base : Nat} {e : TypeId} {v : Value} {n : Nat} {L : List R11} (h : W.ownsRow base e 2 v n (recsC L)) : ∃ a cap, v = .slice a n cap ∧ L.length = n ∧ Recs W a L ∧ ∀ b off, a = some ⟨b, off, none⟩ → base ≤ b ∧ b < W.heap.size := by
  have hl := h.1
  rw [recsC_len] at hl
  have hln : L.length = n := by omega
  rcases h.2 with ⟨rfl, rfl⟩ | ⟨g, cap, cur, rfl, hb, hg, -⟩
  · exact ⟨none, 0, rfl, hln, (fun j hj => by omega), (fun b off e => by cases e)⟩
  · refine ⟨some ⟨g, 0, none⟩, cap, rfl, hln, (fun j hj => ?_), (fun b off e => by cases e; exact ⟨hb, (Array.getElem?_eq_some_iff.1 hg).1⟩)⟩
    obtain ⟨c0, c1⟩ := recsC_at hj
    have d0 := h.cells (g := g) rfl _ _ c0
    have d1 := h.cells (g := g) rfl _ _ c1
    rw [raddr_add] at d0 d1
    exact ⟨g, 0, rfl, (Array.getElem?_eq_some_iff.1 hg).1, by rw [Nat.zero_add]; exact d0, by rw [Nat.zero_add]; exact d1⟩
theorem rown_below {w w' : World} {base : Nat} {e : TypeId} {size : Nat} {v : Value} {n : Nat} {xs : List Value} (h : w.ownsRow base e size v n xs) (hb : Below w.heap.size w w') : w'.ownsRow base e size v n xs :=
  h.kept (row := none) ⟨hb.os, hb.tape, hb.output, hb.size, fun k hk _ => hb.block k hk⟩ (Classical.em _)
theorem rbelow_own {w W W' : World} {e : TypeId} {size : Nat} {v : Value} {n : Nat} {xs : List Value} (h : Below w.heap.size w W) (ho : W.ownsRow w.heap.size e size v n xs) (hg : W.grownBy W' v.ownBlock) : Below w.heap.size w W' :=
  h.grown hg h.size (fun k e => (ho.lt k e).1)
theorem rone (r : R11) : ∀ u ∈ recC r, u.oneCell' = true := by
  intro u hu
  simp [recC] at hu
  rcases hu with rfl | rfl <;> rfl
theorem rnews (W : World) (r : R11) (t : TypeId) : ∀ j u, (recC r)[j]? = some u → (W.alloc (.cells #[.int .i64 r.n, .string (ba r.d)] t)).cell? ((⟨W.heap.size, 0, none⟩ : Addr).add j) = some u := by
  intro j u hj
  have h := blk_new W t #[.int .i64 r.n, .string (ba r.d)]
  rw [raddr_add]
  match j, hj with
  | 0, hj => simp [recC] at hj; subst hj; exact blk_cell h 0 rfl
  | 1, hj => simp [recC] at hj; subst hj; exact blk_cell h 1 rfl
theorem infoJR : (Tryz.prog.info? 165).map (fun i => (i.zero, i.size, i.bytes)) = some (some (.agg #[.int .i64 0, .string ⟨#[]⟩]), 2, 24) := by kernel_rfl
theorem infoQR : (Tryz.prog.info? 142).map (fun i => (i.zero, i.size, i.bytes)) = some (some (.agg #[.int .i64 0, .string ⟨#[]⟩]), 2, 24) := by kernel_rfl

set_option maxRecDepth 100000 in
set_option maxHeartbeats 1000000 in
theorem r11page_any (k p : Int) (a : Option Addr) (cap : Nat) (l : List R11) (s : ByteArray) (n : Int) (w : World) (hl : l.length ≤ 4611686018427387904) (ha : Recs w a l) :
    Calls Tryz.prog 85 #[.agg #[.int .i64 k, .int .i64 p, .slice a l.length cap, .string s], .int .i64 n] w fun e w' => e = .returned (.tuple #[.string (ba (pageR l n).1), .bool (pageR l n).2]) ∧ Below w.heap.size w w' := by
  obtain ⟨len, hlen⟩ : ∃ len, len = l.length := ⟨_, rfl⟩
  rw [← hlen] at hl ⊢
  obtain ⟨r, hr⟩ : ∃ r, r = pageR l n := ⟨_, rfl⟩
  rw [← hr]
  have HA := Lib.hid ha; clear ha
  have HR := Lib.hid hr; clear hr
  have HL := Lib.hid hlen; clear hlen
  have HK := Lib.hid (blk_new w 75 #[.int .i64 k, .int .i64 p, .slice a len cap, .string s])
  have HB0 := Lib.hid (blw1 w (.cells #[.int .i64 k, .int .i64 p, .slice a len cap, .string s] 75))
  have z2 := blk_cell HK.out 2 rfl
  obtain ⟨W0, hW0⟩ : ∃ W0, W0 = w.alloc (.cells #[.int .i64 k, .int .i64 p, .slice a len cap, .string s] 75) := ⟨_, rfl⟩
  go_enter Tryz.func85, Tryz.ntmps85
  go_wp2
  rw [← hW0] at z2 HK HB0 ⊢
  clear hW0
  go_loop [6] (fun i => ∃ q : Nat, q ≤ len ∧ i = .int .i64 q ∧ Hid (r = pageR (l.drop q) n)) (fun i => len - (intOf i).toNat)
  case atStart => exact ⟨0, by omega, rfl, HR⟩
  case round =>
    obtain ⟨q, hq, rfl, hz⟩ := hrel
    clear HR HK
    by_cases hlt : q < len
    · have hlt' : q < l.length := by have := HL.out; omega
      obtain ⟨b, off, rfl, hbw, c0, c1⟩ := HA.out q hlt'
      replace c0 := (HB0.out.cell hbw).trans c0
      replace c1 := (HB0.out.cell hbw).trans c1
      have hz' := hz.out
      rw [List.drop_eq_getElem_cons hlt', pageR] at hz'
      obtain ⟨m, hm⟩ : ∃ m, m = l[q].n := ⟨_, rfl⟩
      obtain ⟨d, hd⟩ : ∃ d, d = l[q].d := ⟨_, rfl⟩
      rw [← hm, ← hd] at hz'
      rw [← hm] at c0
      rw [← hd] at c1
      clear hz hlt' hm hd
      by_cases hmn : m = n
      · rw [if_pos hmn] at hz'
        subst hz'
        subst hmn
        go_wp2
        go_ret2
        exact ⟨rfl, HB0.out⟩
      · rw [if_neg hmn] at hz'
        have HZ := Lib.hid hz'; clear hz'
        have t1 : (m == n) = false := by simpa using hmn
        go_wp2
        go_round
        case rel => exact ⟨q + 1, by omega, by go_num, HZ⟩
        case measure => simp [intOf]; omega
    · have hz' := hz.out
      rw [List.drop_eq_nil_of_le (by have := HL.out; omega), pageR] at hz'
      subst hz'
      clear hz
      go_wp2
      go_ret2
      exact ⟨rfl, HB0.out⟩
end Go.Proofs.YthfebcfdhmihcaaGreatDoor
