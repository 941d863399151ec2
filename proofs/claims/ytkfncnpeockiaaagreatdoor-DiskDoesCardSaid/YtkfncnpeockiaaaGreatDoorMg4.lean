/-
  What the rows of layer 7's statements share: what errors.errorType holds, as the program's text lays it; a world in which it lies so.
  The library's own contracts (strings.Builder, strconv, math/bits, strings and their like), laid at this seat's numbers: for each library function that the seat calls, what it returns and what it leaves of the memory; conditions: those that each theorem states (sizes; the tables of strconv).
  Layer 7: find, begin, used by every call: the file to which a path visibly refers; a counted call's number, its fault, its crash. Condition: none but the sizes that the invariant holds.
  Layer 7: begin at a disk that is up: a counted call's number, its fault, its crash. Condition: none but the sizes that the invariant holds.
  Layer 7: apply: a change in one of the two states: a path created or removed, a file's contents overwritten or resized; all other parts of the disk, and all other blocks, stay. Condition: the change is one of this disk's, the sizes are those that the invariant holds.
-/
import Derived.Test.YtkfncnpeockiaaaGreatDoorCards
import Derived.Test.YtkfncnpeockiaaaGreatDoorTie
import Derived.ProofKit
import Derived.OpenShut
import Derived.Deep.DeepHandedRow
import Derived.LaidLaws
import Derived.LaidHandle
import Derived.Shelf.Small.Strs
import Derived.Shelf.Strings.Search1
import Derived.Test.YtkfncnpeockiaaaGreatDoorProg
import Derived.Deep.Light
import Derived.StringKeys
import Derived.Deep.RegionHeld3
import Derived.Deep.RegionWith
import Derived.StillTailTactics
import Derived.Test.YtkfncnpeockiaaaGreatDoorMg1
import Derived.Test.YtkfncnpeockiaaaGreatDoorMg3
namespace Go.Proofs.YtkfncnpeockiaaaGreatDoor
open Go.ChangeShapes Go.WideShapes Go.ChangeAt Go.RowKit

theorem et0 : Tryz.prog.globalNamed "errors.errorType" = some 0 := by kernel_rfl
theorem rt0 : (Tryz.prog.cutTypes.find? (·.1 == "internal/reflectlite.rtype")).map (·.2) = some 150 := by kernel_rfl
theorem oneRow : ((List.range Tryz.prog.types.size).filter fun t => Tryz.prog.rowNamed t [101, 114, 114, 111, 114]) = [107] := by kernel_rfl
abbrev laidList : List (String × DataW Unit) := [("errors.errorType", Rows.laid_errors_errorType)]

/-- What the row's list gives: the variable's one cell. -/
theorem glob_of_laid {W : World} (h : laidMetH Tryz.prog laidList W) : Glob W := by
  have h' : laidMet Tryz.prog [] W ∧ handlesMet Tryz.prog laidList W := h
  obtain ⟨name, u, ty, e1, e2, e3, e4, e5⟩ := h'.2 _ (List.mem_singleton.2 rfl)
  have en : name = [101, 114, 114, 111, 114] := (Option.some.inj e1).symm
  subst en
  obtain rfl := Option.some.inj (rt0.symm.trans e2)
  have hm : ty ∈ (List.range Tryz.prog.types.size).filter fun t => Tryz.prog.rowNamed t [101, 114, 114, 111, 114] := List.mem_filter.2 ⟨List.mem_range.2 e3, e4⟩
  rw [oneRow] at hm
  obtain rfl := List.mem_singleton.1 hm
  have hh : typeHandle Tryz.prog 107 = .pointer (some ⟨2, 107, none⟩) := by kernel_rfl
  rw [hh] at e5
  unfold Glob
  simpa using World.var?_cell et0 e5 0

def setCells7 (cs : Array Value) : Obj → Obj
  | .cells _ t frozen => .cells cs t frozen
  | o => o
/-- A world for the witness: the settled one, the variable holding what its initialiser lays. -/
noncomputable def laidWorld (os : Os) : World :=
  { World.holding Tryz.prog os ⟨#[], #[], []⟩ with heap := (World.holding Tryz.prog os ⟨#[], #[], []⟩).heap.modify 0 (setCells7 #[.iface 150 (.agg #[.pointer (some ⟨2, 107, none⟩)])]) }
theorem laid_met (os : Os) (args : Array Value) : laidMetH Tryz.prog laidList ((laidWorld os).forCall (fun _ _ => 0) ⟨#[], args, []⟩).memory :=
  laidMetH_of_parts (laidMet_nil _ _) (by kernel_rfl)
end Go.Proofs.YtkfncnpeockiaaaGreatDoor

namespace Go.Proofs
open Go.Shelf
def Tryz.lays137_ren : Go.Shelf.Ren := ⟨fun | 137 => 89 | 217 => 105 | 266 => 115 | n => n, fun | 9 => 9 | 5 => 5 | 3 => 3 | n => n, fun | n => n⟩
theorem Tryz.lays137 : Go.Proofs.Lays.n137 Tryz.prog Tryz.lays137_ren := {
  mixed := by kernel_rfl
  f137 := Tryz.func89.trans (congrArg some (by kernel_rfl))
  f217 := Tryz.func105.trans (congrArg some (by kernel_rfl))
  f266 := Tryz.func115.trans (congrArg some (by kernel_rfl))
  t3 := Tryz.underlying3
  a3 := Tryz.isAgg3
  z3 := Tryz.sizeOf3
  v3 := Tryz.zeroValue3
  t5 := Tryz.underlying5
  a5 := Tryz.isAgg5
  z5 := Tryz.sizeOf5
  v5 := Tryz.zeroValue5
  t9 := Tryz.underlying9
  a9 := Tryz.isAgg9
  z9 := Tryz.sizeOf9
  v9 := Tryz.zeroValue9 }
open Go.RowKit in
theorem Tryz.strings_IndexByte (s : ByteArray) (c : Int) (w : World) :
    Calls Tryz.prog 89 #[.string s, .int .u8 c] w fun e w' => e = .returned (.int .i64 (Lib.indexByte s.data.toList c.toNat.toUInt8)) ∧ w' = w := Any.strings_IndexByte Tryz.lays137 s c w
def Tryz.lays217_ren : Go.Shelf.Ren := ⟨fun | 217 => 105 | 266 => 115 | n => n, fun | 9 => 9 | 5 => 5 | 3 => 3 | n => n, fun | n => n⟩
theorem Tryz.lays217 : Go.Proofs.Lays.n217 Tryz.prog Tryz.lays217_ren := {
  mixed := by kernel_rfl
  f217 := Tryz.func105.trans (congrArg some (by kernel_rfl))
  f266 := Tryz.func115.trans (congrArg some (by kernel_rfl))
  t3 := Tryz.underlying3
  a3 := Tryz.isAgg3
  z3 := Tryz.sizeOf3
  v3 := Tryz.zeroValue3
  t5 := Tryz.underlying5
  a5 := Tryz.isAgg5
  z5 := Tryz.sizeOf5
  v5 := Tryz.zeroValue5
  t9 := Tryz.underlying9
  a9 := Tryz.isAgg9
  z9 := Tryz.sizeOf9
  v9 := Tryz.zeroValue9 }
open Go.RowKit Go.Lib in
theorem Tryz.stringslite_IndexByte (s : ByteArray) (c : Int) (w : World) :
    Calls Tryz.prog 105 #[.string s, .int .u8 c] w fun e w' => e = .returned (.int .i64 (Lib.indexByte s.data.toList c.toNat.toUInt8)) ∧ w' = w := Any.stringslite_IndexByte Tryz.lays217 s c w
end Go.Proofs

namespace Go.Proofs.YtkfncnpeockiaaaGreatDoor
open Go.RowKit

def ptrF (F : Nat → Nat) (o : Option Nat) : Value := .pointer (o.map fun i => ⟨F i, 0, none⟩)
theorem lawStr : Maps.Keyed Tryz.prog 9 := Maps.string_keyed (by kernel_rfl)
theorem underF : Tryz.prog.underlying 54 = some (.map 9 71) := by kernel_rfl
theorem zeroF (w : World) : (zeroValue 71).run Tryz.prog w = .ok (.pointer none) w := by kernel_rfl
theorem keyStr {p : ByteArray} (hp : p.size ≤ 1000000) : keyOf Tryz.prog 9 (.string p) = some (.string p.data.toList) := WideMaps.keyOf_string_mk (by kernel_rfl) (by unfold maxLen; omega)

variable {L : Loc} {ρ ρ' : Nat → Option Role} {n : Nat} {S : DS} {w w' : World}

theorem mapI_look {F : Nat → Nat} {m : Option Nat} {r : Role} {l : List (List UInt8 × Nat)} (h : MapI ρ F w m r l) {p : ByteArray} (hp : p.size ≤ 1000000) :
    (Instr.lookup 54 (.map m) (.string p) false).run Tryz.prog w = .ok (ptrF F (findL l p.data.toList)) w := by
  rcases h with ⟨rfl, rfl⟩ | ⟨g, rfl, _, hown⟩
  · have := Maps.look_nil (w := w) false lawStr underF (zeroF w) (keyStr hp)
    rw [this]; rfl
  · obtain ⟨v, ps, hrun, hR⟩ := hown.lookup lawStr underF (zeroF w) (zd := .nil) (zp := []) rfl (keyStr hp)
    have hv : v = ptrF F (findL l p.data.toList) := by
      rw [fileD_at] at hR
      cases hf : findL l p.data.toList with
      | none =>
        rw [hf] at hR
        unfold fileR at hR
        split at hR <;> simp at hR
        rfl
      | some i =>
        rw [hf] at hR
        unfold fileR at hR
        split at hR <;> simp at hR
        obtain ⟨e, _⟩ := hR
        have e' := Int.ofNat.inj e
        rw [e']
        rfl
    rw [hrun, hv]
theorem find_nil (p : ByteArray) (w : World) : Calls Tryz.prog 46 #[.pointer none, .string p] w fun e w' => e = .returned (.pointer none) ∧ w' = w := by
  go_enter Tryz.func46, Tryz.ntmps46
  go_wp2
  go_ret
  exact ⟨rfl, rfl⟩
theorem find_any (h : Inv L ρ n S w) (p : ByteArray) (hp : p.size ≤ 1000000) :
    Calls Tryz.prog 46 #[.pointer (some ⟨L.b, 0, none⟩), .string p] w fun e w' => e = .returned (ptrF L.F (findL (S.dirs false) p.data.toList)) ∧ w' = w := by
  have hl := mapI_look (h.mp false) hp
  have c1 := blk_cell h.blk 1 rfl
  obtain ⟨o, ho⟩ : ∃ o, o = ptrF L.F (findL (S.dirs false) p.data.toList) := ⟨_, rfl⟩
  rw [← ho] at hl ⊢
  clear h ho
  obtain ⟨b, m, fm, pv, F, V⟩ := L
  simp only at hl c1 ⊢
  generalize m false = m0 at hl c1
  go_enter Tryz.func46, Tryz.ntmps46
  go_wp2
  go_ret
  exact ⟨rfl, rfl⟩

/-! ### begin -/
theorem lawInt : Maps.Keyed Tryz.prog 3 := Maps.int_keyed (q := .i64) (by kernel_rfl)
theorem underE : Tryz.prog.underlying 57 = some (.map 3 37) := by kernel_rfl
theorem underErr : Tryz.prog.underlying 37 = some (.int .i64) := by kernel_rfl
theorem zeroE (w : World) : (zeroValue 37).run Tryz.prog w = .ok (.int .i64 0) w := by kernel_rfl
theorem keyInt {k : Int} (h0 : -9223372036854775808 ≤ k) (h1 : k ≤ 9223372036854775807) : keyOf Tryz.prog 3 (.int .i64 k) = some (.int .i64 k) := Maps.keyOf_int_mk (by kernel_rfl) (WalkArith.wf_i64 ⟨h0, h1⟩)
theorem fltI_look {m : Option Nat} {f : Int → Int} (h : FltI ρ w m f) {k : Int} (h0 : -9223372036854775808 ≤ k) (h1 : k ≤ 9223372036854775807) :
    (Instr.lookup 57 (.map m) (.int .i64 k) true).run Tryz.prog w = .ok (.tuple #[.int .i64 (f k), .bool (!(f k == 0))]) w := by
  rcases h with ⟨rfl, hf⟩ | ⟨g, n, D, rfl, _, hown, hf⟩
  · have := Maps.look_nil (w := w) true lawInt underE (zeroE w) (keyInt h0 h1)
    rw [this, hf k]; rfl
  · obtain ⟨v, ps, hrun, hR⟩ := hown.look_ok lawInt underE (zeroE w) (zd := .lit (.int .i64 0)) (zp := []) (plainElem_int underErr (by decide)) (keyInt h0 h1)
    obtain ⟨c, rfl, hc, _⟩ := plainElem_int_inv underErr hR
    rw [(hf k).1] at hc
    simp only [Prod.mk.injEq, DataW.lit.injEq, Lit.int.injEq, true_and] at hc
    rw [hrun, (hf k).2, hc.1]

/-- What a counted call does ahead of its own effect: the state behind it. -/
def begS (S : DS) : DS := { S with ops := S.ops + 1, down := decide ((S.ops + 1 : Nat) = S.crash) }
def cntS (S : DS) : DS := { S with ops := S.ops + 1 }

theorem inv_disk (h : Inv L ρ n S w) {S' : DS} {n' : Nat} (hn : n ≤ n') (hn' : n' ≤ 100000) (hw : Blk w' L.b 59 #[.int .i64 S'.room, .map (L.m false), .map (L.m true), L.pv, .int .i64 S'.ops, .map L.fm, .int .i64 S'.crash, .bool S'.down])
    (hk : ∀ g, g ≠ L.b → w'.heap[g]? = w.heap[g]?) (hz : w.heap.size ≤ w'.heap.size) (e1 : S'.room = S.room) (e2 : S'.dirs = S.dirs) (e3 : S'.con = S.con) (e4 : S'.nf = S.nf) (e5 : S'.pend = S.pend) (e6 : S'.flt = S.flt) (e7 : S'.ops ≤ n') : Inv L ρ n' S' w' where
  hb := h.hb
  blk := hw
  mp s := by rw [e2]; exact mapI_keep (h.mp s) (fun g hg => hk g (fun e => by subst e; rw [h.hb] at hg; cases hg)) (fun _ _ h => h)
  flt := by rw [e6]; exact fltI_keep h.flt (fun g hg => hk g (fun e => by subst e; rw [h.hb] at hg; cases hg)) (fun _ _ h => h)
  pnd := by rw [e5]; exact row_keep h.pnd (fun g hg => hk g (fun e => by subst e; have := h.pro _ hg; rw [h.hb] at this; cases this))
  pro := h.pro
  fro := by rw [e4]; exact h.fro
  fil := by rw [e4]; exact fun i hi => (hk _ (fun e => by have := h.fro i hi; rw [e, h.hb] at this; cases this)).trans (h.fil i hi)
  con := by rw [e4, e3]; exact fun s i hi => row_keep (h.con s i hi) (fun g hg => hk g (fun e => by subst e; have := h.cro s i _ hi hg; rw [h.hb] at this; cases this))
  cro := by rw [e4]; exact h.cro
  clen := by rw [e4, e3]; exact h.clen
  dok := by rw [e4, e2]; exact h.dok
  pok := by rw [e4, e5]; exact h.pok
  old k hk' := h.old k (Nat.le_trans hz hk')
  room := by rw [e1]; exact h.room
  bnd := ⟨by rw [e5]; exact Nat.le_trans h.bnd.1 hn, e7, fun s => by rw [e2]; exact Nat.le_trans (h.bnd.2.2.1 s) hn, hn'⟩
theorem Step.disk (h : ∀ g, g ≠ L.b → w'.heap[g]? = w.heap[g]?) (hb : ρ L.b = some .disk) (hz : w'.heap.size = w.heap.size) (e1 : w'.os = w.os) (e2 : w'.tape = w.tape) (e3 : w'.output = w.output) : Step L ρ w L ρ w' :=
  ⟨e1, e2, e3, Nat.le_of_eq hz.symm, fun k _ hk => h k (fun e => by subst e; rw [hb] at hk; cases hk), fun _ _ => rfl, rfl⟩

theorem begin_nil (w : World) : Calls Tryz.prog 71 #[.pointer none] w fun e w' => e = .returned (.iface 37 (.int .i64 10)) ∧ w' = w := by
  go_enter Tryz.func71, Tryz.ntmps71
  go_wp2
  go_ret
  exact ⟨rfl, rfl⟩
theorem begin_down (h : Inv L ρ n S w) (hd : S.down = true) : Calls Tryz.prog 71 #[.pointer (some ⟨L.b, 0, none⟩)] w fun e w' => e = .returned (.iface 37 (.int .i64 33)) ∧ w' = w := by
  have c7 := blk_cell h.blk 7 rfl
  rw [hd] at c7
  clear h
  go_enter Tryz.func71, Tryz.ntmps71
  go_wp2
  go_ret
  exact ⟨rfl, rfl⟩
end Go.Proofs.YtkfncnpeockiaaaGreatDoor

namespace Go.Proofs.YtkfncnpeockiaaaGreatDoor
open Go.RowKit
variable {L : Loc} {ρ ρ' : Nat → Option Role} {n : Nat} {S : DS} {w w' : World}

theorem setCell_keep (w : World) (b i : Nat) (v : Value) : ∀ g, g ≠ b → (w.setCell ⟨b, i, none⟩ v).heap[g]? = w.heap[g]? := fun g hg => heap_setCell_other w ⟨b, i, none⟩ g v hg
theorem size_setCell' (w : World) (a : Addr) (v : Value) : (w.setCell a v).heap.size = w.heap.size := by simp [World.setCell]

set_option maxHeartbeats 1000000 in
theorem begin_ok (h : Inv L ρ n S w) (hd : S.down = false) (hf : S.flt (S.ops + 1) = 0) (hn : n + 1 ≤ 100000) :
    Calls Tryz.prog 71 #[.pointer (some ⟨L.b, 0, none⟩)] w fun e w' => e = .returned .nilIface ∧ Inv L ρ (n + 1) (begS S) w' ∧ Step L ρ w L ρ w' ∧ ∀ k, k < w.heap.size → k ≠ L.b → w'.heap[k]? = w.heap[k]? := by
  have H := Lib.hid h
  have hbd := h.bnd.2.1
  have hB := h.blk
  rw [hd] at hB
  have c4 := blk_cell hB 4 rfl
  have f4 := blk_frozen hB 4
  have c7 := blk_cell hB 7 rfl
  have hB1 := blk_set hB 4 (.int .i64 (S.ops + 1))
  have d4 := blk_cell hB1 4 rfl
  have d5 := blk_cell hB1 5 rfl
  have d6 := blk_cell hB1 6 rfl
  have d7 := blk_frozen hB1 7
  have d7' := blk_cell hB1 7 rfl
  have hfl : FltI ρ (w.setCell ⟨L.b, 4, none⟩ (.int .i64 (S.ops + 1))).drew L.fm S.flt := fltI_keep h.flt (fun g hg => setCell_keep _ _ _ _ g (fun e => by subst e; rw [h.hb] at hg; cases hg)) (fun _ _ h => h)
  have hlk := fltI_look hfl (k := (S.ops : Int) + 1) (by omega) (by omega)
  rw [hf] at hlk
  obtain ⟨B, hBo⟩ : ∃ B : Bool, B = ((S.ops : Int) + 1 == S.crash) := ⟨_, rfl⟩
  have HB := Lib.hid hB; have HBo := Lib.hid hBo
  clear h hB hfl hB1 hf hd
  have e1 : wrap64 ((S.ops : Int) + 1) = (S.ops : Int) + 1 := by unfold wrap64; omega
  go_enter Tryz.func71, Tryz.ntmps71
  go_wp2
  go_region
  go_wp2
  go_region
  go_wp2
  go_ret
  have hk : ∀ g, g ≠ L.b → (((w.setCell ⟨L.b, 4, none⟩ (.int .i64 (S.ops + 1))).setCell ⟨L.b, 7, none⟩ (.bool ((S.ops : Int) + 1 == S.crash))).drew.drew).heap[g]? = w.heap[g]? := fun g hg => (setCell_keep _ _ _ _ g hg).trans (setCell_keep _ _ _ _ g hg)
  have hz : (((w.setCell ⟨L.b, 4, none⟩ (.int .i64 (S.ops + 1))).setCell ⟨L.b, 7, none⟩ (.bool ((S.ops : Int) + 1 == S.crash))).drew.drew).heap.size = w.heap.size := by rw [show ∀ x : World, x.drew.heap = x.heap from fun _ => rfl, show ∀ x : World, x.drew.heap = x.heap from fun _ => rfl, size_setCell', size_setCell']
  refine ⟨rfl, inv_disk H.out (Nat.le_succ _) hn ?_ hk (Nat.le_of_eq hz.symm) rfl rfl rfl rfl rfl rfl (by simp only [begS]; omega), Step.disk hk H.out.hb hz rfl rfl rfl, fun k _ hne => hk k hne⟩
  have hfin := blk_set (blk_set HB.out 4 (.int .i64 (S.ops + 1))) 7 (.bool ((S.ops : Int) + 1 == S.crash))
  have ec : (((S.ops + 1 : Nat) : Int)) = (S.ops : Int) + 1 := by omega
  have ed : decide (((S.ops + 1 : Nat) : Int) = S.crash) = ((S.ops : Int) + 1 == S.crash) := by rw [ec]; rfl
  simp only [begS, ed]
  rw [ec]
  exact hfin

set_option maxHeartbeats 1000000 in
theorem begin_fault (h : Inv L ρ n S w) (hd : S.down = false) (x : Int) (hf : S.flt (S.ops + 1) = x) (hx : x ≠ 0) (hn : n + 1 ≤ 100000) :
    Calls Tryz.prog 71 #[.pointer (some ⟨L.b, 0, none⟩)] w fun e w' => ∃ g, e = .returned (.iface 116 (.pointer (some ⟨g, 0, none⟩))) ∧ Blk w' g 118 #[.int .i64 (S.ops + 1), .int .i64 x] ∧ ρ g = none ∧ Inv L ρ (n + 1) (cntS S) w' ∧ Step L ρ w L ρ w' := by
  have H := Lib.hid h
  have hbd := h.bnd.2.1
  have hB := h.blk
  rw [hd] at hB
  have c4 := blk_cell hB 4 rfl
  have f4 := blk_frozen hB 4
  have c7 := blk_cell hB 7 rfl
  have hB1 := blk_set hB 4 (.int .i64 (S.ops + 1))
  have d4 := blk_cell hB1 4 rfl
  have d5 := blk_cell hB1 5 rfl
  have hfl : FltI ρ (w.setCell ⟨L.b, 4, none⟩ (.int .i64 (S.ops + 1))).drew L.fm S.flt := fltI_keep h.flt (fun g hg => setCell_keep _ _ _ _ g (fun e => by subst e; rw [h.hb] at hg; cases hg)) (fun _ _ h => h)
  have hlk := fltI_look hfl (k := (S.ops : Int) + 1) (by omega) (by omega)
  have hxb : (x == 0) = false := by simpa using hx
  rw [hf, hxb] at hlk
  have HB := Lib.hid hB; have HD := Lib.hid hd
  clear h hB hfl hB1 hf hd hx hxb
  have e1 : wrap64 ((S.ops : Int) + 1) = (S.ops : Int) + 1 := by unfold wrap64; omega
  go_enter Tryz.func71, Tryz.ntmps71
  go_wp2
  go_region
  go_wp2
  go_ret
  have ec : (((S.ops + 1 : Nat) : Int)) = (S.ops : Int) + 1 := by omega
  have hk : ∀ g, g ≠ L.b → ((w.setCell ⟨L.b, 4, none⟩ (.int .i64 (S.ops + 1))).drew).heap[g]? = w.heap[g]? := fun g hg => setCell_keep _ _ _ _ g hg
  have hz : ((w.setCell ⟨L.b, 4, none⟩ (.int .i64 (S.ops + 1))).drew).heap.size = w.heap.size := size_setCell' _ _ _
  have hI : Inv L ρ (n + 1) (cntS S) (w.setCell ⟨L.b, 4, none⟩ (.int .i64 (S.ops + 1))).drew := inv_disk H.out (Nat.le_succ _) hn (by
    have hfin := blk_set HB.out 4 (.int .i64 (S.ops + 1))
    simp only [cntS, ec, HD.out]
    exact hfin) hk (Nat.le_of_eq hz.symm) rfl rfl rfl rfl rfl rfl (by simp only [cntS]; omega)
  have hS : Step L ρ w L ρ (w.setCell ⟨L.b, 4, none⟩ (.int .i64 (S.ops + 1))).drew := Step.disk hk H.out.hb hz rfl rfl rfl
  refine ⟨w.heap.size, ?_, ?_, H.out.old _ (Nat.le_refl _), hI.alloc _, hS.trans (Step.below ((Below.refl _ _).alloc (Nat.le_refl _) _))⟩
  · first | rfl | simp [size_setCell']
  · exact blk_at (by first | rfl | simp)
end Go.Proofs.YtkfncnpeockiaaaGreatDoor

namespace Go.Proofs.YtkfncnpeockiaaaGreatDoor
open Go.RowKit
variable {L : Loc} {ρ ρ' : Nat → Option Role} {n : Nat} {S : DS} {w w' : World}

def stI (s : Bool) : Int := if s then 1 else 0
def applyS (s : Bool) (c : Chg) (S : DS) : DS := match c with
  | .create nm i => { S with dirs := upd S.dirs s (putL (S.dirs s) nm i) }
  | .remove nm => { S with dirs := upd S.dirs s (delL (S.dirs s) nm) }
  | .write i o d => { S with con := upd2 S.con s i (overL (S.con s i) o d) }
  | .trunc i z => { S with con := upd2 S.con s i (resizeL (S.con s i) z) }

/-- The map of one state turned in place. -/
theorem inv_map {S' : DS} {n' : Nat} (h : Inv L ρ n S w) (s : Bool) (l : List (List UInt8 × Nat)) (hS : S' = { S with dirs := upd S.dirs s l }) (hn : n ≤ n') (hn' : n' ≤ 100000) (hl : l.length ≤ n') (hm : MapI ρ L.F w' (L.m s) (.map s) l)
    (hk : ∀ g, ρ g ≠ some (.map s) → w'.heap[g]? = w.heap[g]?) (hz : w.heap.size ≤ w'.heap.size) (hd : ∀ p, p ∈ l → p.2 < S.nf) : Inv L ρ n' S' w' := by
  subst hS
  exact {
    hb := h.hb
    blk := (hk _ (by rw [h.hb]; simp)).trans h.blk
    mp := fun t => by
      by_cases e : t = s
      · subst e; simp only [upd, if_true]; exact hm
      · simp only [upd, if_neg e]
        exact mapI_keep (h.mp t) (fun g hg => hk g (by rw [hg]; simpa using e)) (fun _ _ h => h)
    flt := fltI_keep h.flt (fun g hg => hk g (by rw [hg]; simp)) (fun _ _ h => h)
    pnd := row_keep h.pnd (fun g hg => hk g (by rw [h.pro g hg]; simp))
    pro := h.pro
    fro := h.fro
    fil := fun i hi => (hk _ (by rw [h.fro i hi]; simp)).trans (h.fil i hi)
    con := fun t i hi => row_keep (h.con t i hi) (fun g hg => hk g (by rw [h.cro t i g hi hg]; simp))
    cro := h.cro
    clen := h.clen
    dok := fun t p hp => by
      by_cases e : t = s
      · subst e; simp only [upd, if_true] at hp; exact hd p hp
      · simp only [upd, if_neg e] at hp; exact h.dok t p hp
    pok := h.pok
    old := fun k hk' => h.old k (Nat.le_trans hz hk')
    room := h.room
    bnd := ⟨Nat.le_trans h.bnd.1 hn, Nat.le_trans h.bnd.2.1 hn, fun t => by
      by_cases e : t = s
      · subst e; simp only [upd, if_true]; exact hl
      · simp only [upd, if_neg e]; exact Nat.le_trans (h.bnd.2.2.1 t) hn, hn'⟩ }

theorem grown_keep {g : Nat} (h : w.grownBy w' (some g)) (_hI : Inv L ρ n S w) {r : Role} (hg : ρ g = some r) : ∀ k, k < w.heap.size → ρ k ≠ some r → w'.heap[k]? = w.heap[k]? := fun k hk hr => h.block k hk (fun e => by cases e; exact hr hg)

/-- The delete of the program at the map of one state. -/
theorem mapI_drop {F : Nat → Nat} {m : Option Nat} {r : Role} {l : List (List UInt8 × Nat)} (h : MapI ρ F w m r l) {p : ByteArray} (hp : p.size ≤ 1000000) :
    ∃ w', (Builtin.delete_ #[54, 9] 0 #[.map m, .string p]).run Tryz.prog w = .ok (.tuple #[]) w' ∧ MapI ρ F w' m r (delL l p.data.toList) ∧ w'.heap.size = w.heap.size ∧ w'.os = w.os ∧ w'.tape = w.tape ∧ w'.output = w.output ∧ ∀ k, ρ k ≠ some r → w'.heap[k]? = w.heap[k]? := by
  rcases h with ⟨rfl, rfl⟩ | ⟨g, rfl, hg, hown⟩
  · exact ⟨w, Maps.drop_nil lawStr underF (keyStr hp) _, .inl ⟨rfl, rfl⟩, rfl, rfl, rfl, rfl, fun _ _ => rfl⟩
  · obtain ⟨w', hrun, hown', hturn⟩ := hown.drop lawStr underF (keyStr hp) 0
    rw [fileD_del] at hown'
    have hsz := hown'.size_le
    rw [fileD_size] at hsz
    have hgr := hturn.grown
    have hzz : w'.heap.size = w.heap.size := by obtain ⟨es, clock, es', clock', _, rfl⟩ := hturn; exact Array.size_setIfInBounds
    refine ⟨w', hrun, .inr ⟨g, rfl, hg, ?_⟩, hzz, hgr.os, hgr.tape, hgr.output, fun k hr => ?_⟩
    · obtain ⟨es, clock, hb, F', hs, hD⟩ := hown'
      refine ⟨es, clock, hb, F', ?_, hD⟩
      have e1 := congrArg Maps.size hD
      rw [fileD_size] at e1
      simp [Maps.size, length_sorted] at e1
      omega
    · rcases Nat.lt_or_ge k w.heap.size with hk | hk
      · exact hgr.block k hk (fun e => by cases e; exact hr hg)
      · rw [Array.getElem?_eq_none hk, Array.getElem?_eq_none (by rw [hzz]; exact hk)]
/-- The store of the program at the map of one state that is not nil. -/
theorem mapI_store {F : Nat → Nat} {g : Nat} {r : Role} {l : List (List UInt8 × Nat)} (h : MapI ρ F w (some g) r l) {p : ByteArray} (hp : p.size ≤ 1000000) (hl : l.length ≤ 1000000) (i : Nat) :
    ∃ w', (Instr.mapUpdate 54 (.map (some g)) (.string p) (.pointer (some ⟨F i, 0, none⟩))).run Tryz.prog w = .ok () w' ∧ MapI ρ F w' (some g) r (putL l p.data.toList i) ∧ w'.heap.size = w.heap.size ∧ w'.os = w.os ∧ w'.tape = w.tape ∧ w'.output = w.output ∧ ∀ k, ρ k ≠ some r → w'.heap[k]? = w.heap[k]? := by
  rcases h with ⟨e, _⟩ | ⟨g', e, hg, hown⟩
  · cases e
  · cases e
    obtain ⟨w', hrun, hown', hturn⟩ := hown.store lawStr underF (by unfold maxLen; omega) (keyStr hp) (val := .pointer (some ⟨F i, 0, none⟩)) (d := .lit (.int .i64 (F i))) (ps := []) rfl
    rw [fileD_put] at hown'
    have hgr := hturn.grown
    have hzz : w'.heap.size = w.heap.size := by obtain ⟨es, clock, es', clock', _, rfl⟩ := hturn; exact Array.size_setIfInBounds
    refine ⟨w', hrun, .inr ⟨g, rfl, hg, ?_⟩, hzz, hgr.os, hgr.tape, hgr.output, fun k hr => ?_⟩
    · obtain ⟨es, clock, hb, F', hs, hD⟩ := hown'
      refine ⟨es, clock, hb, F', ?_, hD⟩
      have e1 := congrArg Maps.size hD
      rw [fileD_size] at e1
      simp [Maps.size, length_sorted] at e1
      omega
    · rcases Nat.lt_or_ge k w.heap.size with hk | hk
      · exact hgr.block k hk (fun e => by cases e; exact hr hg)
      · rw [Array.getElem?_eq_none hk, Array.getElem?_eq_none (by rw [hzz]; exact hk)]

theorem eqlM_none (w : World) : (binOp .eql 54 (.map none) (.map none)).run Tryz.prog w = .ok (.bool true) w := by kernel_rfl
theorem eqlM_some (g : Nat) (w : World) : (binOp .eql 54 (.map (some g)) (.map none)).run Tryz.prog w = .ok (.bool false) w := by kernel_rfl
/-- What apply leaves. -/
abbrev AppQ (L : Loc) (ρ : Nat → Option Role) (n : Nat) (S : DS) (w : World) (e : Ending) (w' : World) : Prop :=
  e = .returned (.tuple #[]) ∧ ∃ L' ρ', Inv L' ρ' n S w' ∧ Step L ρ w L' ρ' w' ∧ L'.F = L.F ∧ L'.pv = L.pv

set_option maxHeartbeats 1000000 in
theorem apply_remove (s : Bool) (nm : ByteArray) (h : Inv L ρ n S w) (hnm : nm.size ≤ 1000000) :
    Calls Tryz.prog 70 #[.pointer (some ⟨L.b, 0, none⟩), .agg #[.int .i64 1, .string nm, .pointer none, .int .i64 0, .string ⟨#[]⟩], .int .i64 (stI s)] w (AppQ L ρ n (applyS s (.remove nm.data.toList) S) w) := by
  have hA := h.alloc (.cells #[.int .i64 1, .string nm, .pointer none, .int .i64 0, .string ⟨#[]⟩] 74)
  have hAB : Step L ρ w L ρ (w.alloc (.cells #[.int .i64 1, .string nm, .pointer none, .int .i64 0, .string ⟨#[]⟩] 74)) := Step.below ((Below.refl _ _).alloc (Nat.le_refl _) _)
  obtain ⟨W, hW⟩ : ∃ W, W = w.alloc (.cells #[.int .i64 1, .string nm, .pointer none, .int .i64 0, .string ⟨#[]⟩] 74) := ⟨_, rfl⟩
  rw [← hW] at hA hAB
  obtain ⟨w', hrun, hM, hz, e1, e2, e3, hk⟩ := mapI_drop (hA.drew.mp s) hnm
  have hI : Inv L ρ n (applyS s (.remove nm.data.toList) S) w' := inv_map hA.drew s _ rfl (Nat.le_refl _) hA.bnd.2.2.2 (Nat.le_trans (delL_len _ _) (hA.bnd.2.2.1 s)) hM hk (Nat.le_of_eq hz.symm) (fun p hp => hA.dok s p (List.mem_filter.1 hp).1)
  have hS : Step L ρ W L ρ w' := ⟨e1, e2, e3, Nat.le_of_eq hz.symm, fun k _ hr => hk k (by rw [hr]; simp), fun _ _ => rfl, rfl⟩
  have HI := Lib.hid hI; have HS := Lib.hid (hAB.trans hS)
  have HK := Lib.hid hA.blk
  have bx : Blk W w.heap.size 74 #[.int .i64 1, .string nm, .pointer none, .int .i64 0, .string ⟨#[]⟩] := by rw [hW]; exact blk_new _ _ _
  have x0 := blk_cell bx 0 rfl
  have x1 := blk_cell bx 1 rfl
  clear h hA hAB hM hk hI hS bx e1 e2 e3 hz
  rw [hW] at hrun HK x0 x1
  clear hW
  cases s
  · simp only [stI, Bool.false_eq_true, if_false]
    have c1 := blk_cell HK.out 1 rfl
    go_enter Tryz.func70, Tryz.ntmps70
    go_wp2
    go_region
    go_wp2
    go_returns
    exact ⟨rfl, L, ρ, HI.out, HS.out, rfl, rfl⟩
  · simp only [stI, if_true]
    have c1 := blk_cell HK.out 2 rfl
    go_enter Tryz.func70, Tryz.ntmps70
    go_wp2
    go_region
    go_wp2
    go_returns
    exact ⟨rfl, L, ρ, HI.out, HS.out, rfl, rfl⟩

set_option maxHeartbeats 1000000 in
set_option maxRecDepth 20000 in
theorem apply_create_some (s : Bool) (nm : ByteArray) (i : Nat) (h : Inv L ρ n S w) (hnm : nm.size ≤ 1000000) (hi : i < S.nf) (hn : n + 1 ≤ 100000) (g : Nat) (hg : L.m s = some g) :
    Calls Tryz.prog 70 #[.pointer (some ⟨L.b, 0, none⟩), .agg #[.int .i64 0, .string nm, .pointer (some ⟨L.F i, 0, none⟩), .int .i64 0, .string ⟨#[]⟩], .int .i64 (stI s)] w (AppQ L ρ (n + 1) (applyS s (.create nm.data.toList i) S) w) := by
  have hA := h.alloc (.cells #[.int .i64 0, .string nm, .pointer (some ⟨L.F i, 0, none⟩), .int .i64 0, .string ⟨#[]⟩] 74)
  have hAB : Step L ρ w L ρ (w.alloc (.cells #[.int .i64 0, .string nm, .pointer (some ⟨L.F i, 0, none⟩), .int .i64 0, .string ⟨#[]⟩] 74)) := Step.below ((Below.refl _ _).alloc (Nat.le_refl _) _)
  obtain ⟨W, hW⟩ : ∃ W, W = w.alloc (.cells #[.int .i64 0, .string nm, .pointer (some ⟨L.F i, 0, none⟩), .int .i64 0, .string ⟨#[]⟩] 74) := ⟨_, rfl⟩
  rw [← hW] at hA hAB
  have hmp := hA.drew.mp s
  rw [hg] at hmp
  obtain ⟨w', hrun, hM, hz, e1, e2, e3, hk⟩ := mapI_store hmp hnm (by have := hA.bnd.2.2.1 s; omega) i
  have hI : Inv L ρ (n + 1) (applyS s (.create nm.data.toList i) S) w' := inv_map hA.drew s _ rfl (Nat.le_succ _) hn (Nat.le_trans (putL_len _ _ _) (Nat.succ_le_succ (hA.bnd.2.2.1 s))) (by rw [hg]; exact hM) hk (Nat.le_of_eq hz.symm) (fun p hp => by
    rcases putL_mem hp with rfl | hp
    · exact hi
    · exact hA.dok s p hp)
  have hS : Step L ρ W L ρ w' := ⟨e1, e2, e3, Nat.le_of_eq hz.symm, fun k _ hr => hk k (by rw [hr]; simp), fun _ _ => rfl, rfl⟩
  have HI := Lib.hid hI; have HS := Lib.hid (hAB.trans hS)
  have HK := Lib.hid hA.blk
  have bx : Blk W w.heap.size 74 #[.int .i64 0, .string nm, .pointer (some ⟨L.F i, 0, none⟩), .int .i64 0, .string ⟨#[]⟩] := by rw [hW]; exact blk_new _ _ _
  have x0 := blk_cell bx 0 rfl
  have x1 := blk_cell bx 1 rfl
  have x2 := blk_cell bx 2 rfl
  clear h hA hAB hM hk hI hS bx e1 e2 e3 hz hmp hi
  rw [hW] at hrun HK x0 x1 x2
  clear hW
  cases s
  · simp only [stI, Bool.false_eq_true, if_false]
    rw [hg] at HK
    have c1 := blk_cell HK.out 1 rfl
    clear hg hn hnm
    have eqn := eqlM_none
    have eqs := eqlM_some
    go_enter Tryz.func70, Tryz.ntmps70
    go_wp2
    go_region
    go_wp2
    go_returns
    exact ⟨rfl, L, ρ, HI.out, HS.out, rfl, rfl⟩
  · simp only [stI, if_true]
    rw [hg] at HK
    have c1 := blk_cell HK.out 2 rfl
    clear hg hn hnm
    have eqn := eqlM_none
    have eqs := eqlM_some
    go_enter Tryz.func70, Tryz.ntmps70
    go_wp2
    go_region
    go_wp2
    go_returns
    exact ⟨rfl, L, ρ, HI.out, HS.out, rfl, rfl⟩

def offM (s : Bool) : Nat := if s then 2 else 1
theorem inv_newmap (h : Inv L ρ n S w) (s : Bool) (g : Nat) (hg : ρ g = none) (hgb : w.heap[g]? = some (.map #[] 0)) (hm : L.m s = none) :
    Inv { L with m := upd L.m s (some g) } (updN ρ g (some (.map s))) n S (w.setCell ⟨L.b, offM s, none⟩ (.map (some g))) := by
  have hx : ∀ k r, ρ k = some r → updN ρ g (some (.map s)) k = some r := fun k r hk => by
    unfold updN
    rw [if_neg (fun e => by subst e; rw [hg] at hk; cases hk)]; exact hk
  have hne : g ≠ L.b := fun e => by subst e; rw [h.hb] at hg; cases hg
  have hk : ∀ k, k ≠ L.b → (w.setCell ⟨L.b, offM s, none⟩ (.map (some g))).heap[k]? = w.heap[k]? := setCell_keep _ _ _ _
  have hkr : ∀ k r, ρ k = some r → r ≠ .disk → (w.setCell ⟨L.b, offM s, none⟩ (.map (some g))).heap[k]? = w.heap[k]? := fun k r hr hd => hk k (fun e => by subst e; rw [h.hb] at hr; cases hr; exact hd rfl)
  have hd0 : S.dirs s = [] := by
    rcases h.mp s with ⟨_, e⟩ | ⟨g', e, _⟩
    · exact e
    · rw [hm] at e; cases e
  have hgs : g < w.heap.size := (Array.getElem?_eq_some_iff.1 hgb).1
  exact {
    hb := hx _ _ h.hb
    blk := by
      have := blk_set h.blk (offM s) (.map (some g))
      cases s
      · exact this
      · exact this
    mp := fun t => by
      by_cases e : t = s
      · subst e
        simp only [upd, if_true]
        refine .inr ⟨g, rfl, by simp [updN], ?_⟩
        rw [hd0]
        exact ⟨#[], 0, (hk g hne).trans hgb, ⟨by simp, MapKept.stamped_empty 0, by simp⟩, Nat.le_refl _, rfl⟩
      · simp only [upd, if_neg e]
        exact mapI_keep (h.mp t) (fun k hk' => hkr k _ hk' (by simp)) hx
    flt := fltI_keep h.flt (fun k hk' => hkr k _ hk' (by simp)) hx
    pnd := row_keep h.pnd (fun k hk' => hkr k _ (h.pro k hk') (by simp))
    pro := fun k hk' => hx _ _ (h.pro k hk')
    fro := fun i hi => hx _ _ (h.fro i hi)
    fil := fun i hi => (hkr _ _ (h.fro i hi) (by simp)).trans (h.fil i hi)
    con := fun t i hi => row_keep (h.con t i hi) (fun k hk' => hkr k _ (h.cro t i k hi hk') (by simp))
    cro := fun t i k hi hk' => hx _ _ (h.cro t i k hi hk')
    clen := h.clen
    dok := h.dok
    pok := h.pok
    old := fun k hk' => by
      rw [size_setCell'] at hk'
      unfold updN
      rw [if_neg (fun e => by omega)]; exact h.old k hk'
    room := h.room
    bnd := h.bnd }
theorem step_newmap (h : Inv L ρ n S w) (s : Bool) (g : Nat) (w0 : World) (hg : w0.heap.size ≤ g) (hb : Below w0.heap.size w0 w) (_h0 : Inv L ρ n S w0) (v : Value) :
    Step L ρ w0 { L with m := upd L.m s (some g) } (updN ρ g (some (.map s))) (w.setCell ⟨L.b, offM s, none⟩ v) :=
  ⟨hb.os, hb.tape, hb.output, by rw [size_setCell']; exact hb.size, fun k hk hr => (setCell_keep _ _ _ _ k (fun e => by subst e; rw [h.hb] at hr; cases hr)).trans (hb.block k hk),
   fun k hk => by unfold updN; rw [if_neg (fun e => by omega)], rfl⟩

set_option maxHeartbeats 1000000 in
set_option maxRecDepth 20000 in
theorem apply_create_none (s : Bool) (nm : ByteArray) (i : Nat) (h : Inv L ρ n S w) (hnm : nm.size ≤ 1000000) (hi : i < S.nf) (hn : n + 1 ≤ 100000) (hg : L.m s = none) :
    Calls Tryz.prog 70 #[.pointer (some ⟨L.b, 0, none⟩), .agg #[.int .i64 0, .string nm, .pointer (some ⟨L.F i, 0, none⟩), .int .i64 0, .string ⟨#[]⟩], .int .i64 (stI s)] w (AppQ L ρ (n + 1) (applyS s (.create nm.data.toList i) S) w) := by
  have hA := h.alloc (.cells #[.int .i64 0, .string nm, .pointer (some ⟨L.F i, 0, none⟩), .int .i64 0, .string ⟨#[]⟩] 74)
  have hb2 : Below w.heap.size w ((w.alloc (.cells #[.int .i64 0, .string nm, .pointer (some ⟨L.F i, 0, none⟩), .int .i64 0, .string ⟨#[]⟩] 74)).alloc (.map #[] 0)) := ((Below.refl _ _).alloc (Nat.le_refl _) _).alloc (by simp) _
  have HK := Lib.hid hA.blk
  have hA2 := hA.alloc (.map #[] 0)
  have HK2 := Lib.hid hA2.blk
  have bx : Blk ((w.alloc (.cells #[.int .i64 0, .string nm, .pointer (some ⟨L.F i, 0, none⟩), .int .i64 0, .string ⟨#[]⟩] 74)).alloc (.map #[] 0)) w.heap.size 74 #[.int .i64 0, .string nm, .pointer (some ⟨L.F i, 0, none⟩), .int .i64 0, .string ⟨#[]⟩] := by
    unfold Blk
    rw [heap_alloc_old _ _ (by simp)]
    exact heap_alloc_new _ _
  have hgb : ((w.alloc (.cells #[.int .i64 0, .string nm, .pointer (some ⟨L.F i, 0, none⟩), .int .i64 0, .string ⟨#[]⟩] 74)).alloc (.map #[] 0)).heap[w.heap.size + 1]? = some (.map #[] 0) := by
    have := heap_alloc_new (w.alloc (.cells #[.int .i64 0, .string nm, .pointer (some ⟨L.F i, 0, none⟩), .int .i64 0, .string ⟨#[]⟩] 74)) (.map #[] 0)
    simpa using this
  have hρ : ρ (w.heap.size + 1) = none := h.old _ (by omega)
  have hNM := inv_newmap hA2 s (w.heap.size + 1) hρ hgb hg
  have hST := step_newmap hA2 s (w.heap.size + 1) w (by omega) hb2 h (.map (some (w.heap.size + 1)))
  have hbne : w.heap.size ≠ L.b := fun e => by have := h.lt (g := L.b) (by rw [h.hb]; simp); omega
  have bx3 : Blk (((w.alloc (.cells #[.int .i64 0, .string nm, .pointer (some ⟨L.F i, 0, none⟩), .int .i64 0, .string ⟨#[]⟩] 74)).alloc (.map #[] 0)).setCell ⟨L.b, offM s, none⟩ (.map (some (w.heap.size + 1)))) w.heap.size 74 #[.int .i64 0, .string nm, .pointer (some ⟨L.F i, 0, none⟩), .int .i64 0, .string ⟨#[]⟩] := (setCell_keep _ _ _ _ _ hbne).trans bx
  have hmp := hNM.drew.mp s
  simp only [upd, if_true] at hmp
  obtain ⟨w', hrun, hM, hz, e1, e2, e3, hk⟩ := mapI_store hmp hnm (by have := hA.bnd.2.2.1 s; omega) i
  have hI : Inv { L with m := upd L.m s (some (w.heap.size + 1)) } (updN ρ (w.heap.size + 1) (some (.map s))) (n + 1) (applyS s (.create nm.data.toList i) S) w' := inv_map hNM.drew s _ rfl (Nat.le_succ _) hn (Nat.le_trans (putL_len _ _ _) (Nat.succ_le_succ (hA.bnd.2.2.1 s))) (by simp only [upd, if_true]; exact hM) hk (Nat.le_of_eq hz.symm) (fun p hp => by
    rcases putL_mem hp with rfl | hp
    · exact hi
    · exact hA.dok s p hp)
  have hS : Step L ρ w { L with m := upd L.m s (some (w.heap.size + 1)) } (updN ρ (w.heap.size + 1) (some (.map s))) w' := hST.trans ⟨e1, e2, e3, Nat.le_of_eq hz.symm, fun k _ hr => hk k (by rw [hr]; simp), fun _ _ => rfl, rfl⟩
  have HI := Lib.hid hI; have HS := Lib.hid hS; have HKN := Lib.hid hNM.blk
  have x0 := blk_cell bx3 0 rfl
  have x1 := blk_cell bx3 1 rfl
  have x2 := blk_cell bx3 2 rfl
  have hmm := @run_makeMap Tryz.prog
  clear h hA hA2 hNM hST hmp hM hk hI hS bx bx3 hgb hρ hbne e1 e2 e3 hz hi hb2
  have eqn := eqlM_none
  cases s
  · simp only [stI, Bool.false_eq_true, if_false]
    simp only [offM, Bool.false_eq_true, if_false] at hrun HKN x0 x1 x2
    rw [hg] at HK HK2
    have c1 := blk_cell HK.out 1 rfl
    have c1' := blk_cell HK2.out 1 rfl
    have f1 := blk_frozen HK2.out 1
    have d1 := blk_cell HKN.out 1 rfl
    simp only [upd, if_true] at d1
    clear hg hn hnm
    go_enter Tryz.func70, Tryz.ntmps70
    go_wp2
    go_region
    go_wp2
    go_returns
    exact ⟨rfl, _, _, HI.out, HS.out, rfl, rfl⟩
  · simp only [stI, if_true]
    simp only [offM, if_true] at hrun HKN x0 x1 x2
    rw [hg] at HK HK2
    have c1 := blk_cell HK.out 2 rfl
    have c1' := blk_cell HK2.out 2 rfl
    have f1 := blk_frozen HK2.out 2
    have d1 := blk_cell HKN.out 2 rfl
    simp only [upd, if_true] at d1
    clear hg hn hnm
    go_enter Tryz.func70, Tryz.ntmps70
    go_wp2
    go_region
    go_wp2
    go_returns
    exact ⟨rfl, _, _, HI.out, HS.out, rfl, rfl⟩
end Go.Proofs.YtkfncnpeockiaaaGreatDoor
