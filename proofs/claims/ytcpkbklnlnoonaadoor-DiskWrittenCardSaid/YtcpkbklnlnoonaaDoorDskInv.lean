/-
  Layer 7: what a disk is in memory: its block, the two maps from paths to files, the faults, the pending changes, the files with their two contents; each block has one part to play. Condition: none (definitions, and how they are carried).
-/
import Derived.Test.YtcpkbklnlnoonaaDoorDskBytes
import Derived.Maps.OwnSet
import Derived.Maps.Ext
namespace Go.Proofs.YtcpkbklnlnoonaaDoor
open Go.RowKit

def bz (l : List UInt8) : ByteArray := ⟨l.toArray⟩
theorem bz_size (l : List UInt8) : (bz l).size = l.length := by simp [bz, ByteArray.size]
theorem bz_list (l : List UInt8) : (bz l).data.toList = l := rfl
theorem bz_back (s : ByteArray) : bz s.data.toList = s := rfl

/-- Block g holds these cells. -/
def Blk (w : World) (g : Nat) (t : TypeId) (cs : Array Value) : Prop := w.heap[g]? = some (.cells cs t (0, 0))
theorem blk_new (w : World) (t : TypeId) (cs : Array Value) : Blk (w.alloc (.cells cs t)) w.heap.size t cs := heap_alloc_new _ _
theorem blk_at {w : World} {t : TypeId} {cs : Array Value} {g : Nat} (h : g = w.heap.size) : Blk (w.alloc (.cells cs t)) g t cs := by subst h; exact blk_new _ _ _
theorem blk_set {w : World} {g : Nat} {t : TypeId} {cs : Array Value} (h : Blk w g t cs) (i : Nat) (v : Value) : Blk (w.setCell ⟨g, i, none⟩ v) g t (cs.setIfInBounds i v) := by
  unfold Blk at *
  simp [World.setCell, Array.getElem?_modify, h]
theorem blk_lt {w : World} {g : Nat} {t : TypeId} {cs : Array Value} (h : Blk w g t cs) : g < w.heap.size := (Array.getElem?_eq_some_iff.1 h).1
theorem blk_cell {w : World} {g : Nat} {t : TypeId} {cs : Array Value} (h : Blk w g t cs) (i : Nat) {v : Value} (hv : cs[i]? = some v) : w.cell? ⟨g, i, none⟩ = some v := by
  unfold Blk at h
  simp [World.cell?, h, hv]
theorem blk_frozen {w : World} {g : Nat} {t : TypeId} {cs : Array Value} (h : Blk w g t cs) (i : Nat) : w.frozen? ⟨g, i, none⟩ = false := by
  unfold Blk at h
  simp [World.frozen?, h]

inductive Role where
  | disk | map (s : Bool) | flt | pend | file (i : Nat) | con (s : Bool) (i : Nat)

inductive Chg where
  | create (name : List UInt8) (i : Nat)
  | remove (name : List UInt8)
  | write (i off : Nat) (data : List UInt8)
  | trunc (i size : Nat)

/-- A change in memory. F: the block of each file. -/
def Chg.cells (F : Nat → Nat) : Chg → List Value
  | .create n i => [.int .i64 0, .string (bz n), .pointer (some ⟨F i, 0, none⟩), .int .i64 0, .string (bz [])]
  | .remove n => [.int .i64 1, .string (bz n), .pointer none, .int .i64 0, .string (bz [])]
  | .write i o d => [.int .i64 2, .string (bz []), .pointer (some ⟨F i, 0, none⟩), .int .i64 o, .string (bz d)]
  | .trunc i z => [.int .i64 3, .string (bz []), .pointer (some ⟨F i, 0, none⟩), .int .i64 z, .string (bz [])]
def Chg.Ok (nf : Nat) : Chg → Prop
  | .create n i => i < nf ∧ n.length ≤ 1000000
  | .remove n => n.length ≤ 1000000
  | .write i o d => i < nf ∧ o + d.length ≤ 4000000
  | .trunc i z => i < nf ∧ z ≤ 4000000

structure DS where
  room : Nat
  dirs : Bool → List (List UInt8 × Nat)
  con : Bool → Nat → List UInt8
  nf : Nat
  pend : List Chg
  ops : Nat
  flt : Int → Int
  crash : Int
  down : Bool

structure Loc where
  b : Nat
  m : Bool → Option Nat
  fm : Option Nat
  pv : Value
  F : Nat → Nat
  V : Bool → Nat → Value

def upd {α : Type} (f : Bool → α) (s : Bool) (x : α) : Bool → α := fun t => if t = s then x else f t
def upd2 {α : Type} (f : Bool → Nat → α) (s : Bool) (i : Nat) (x : α) : Bool → Nat → α := fun t j => if t = s ∧ j = i then x else f t j
def updN {α : Type} (f : Nat → α) (i : Nat) (x : α) : Nat → α := fun j => if j = i then x else f j

def findL (l : List (List UInt8 × Nat)) (p : List UInt8) : Option Nat := (l.find? fun q => q.1 == p).map (·.2)
def insL (x : List UInt8 × Nat) : List (List UInt8 × Nat) → List (List UInt8 × Nat)
  | [] => [x]
  | y :: r => if bytesBefore x.1 y.1 then x :: y :: r else y :: insL x r
def delL (l : List (List UInt8 × Nat)) (p : List UInt8) : List (List UInt8 × Nat) := l.filter fun q => !(q.1 == p)
def putL (l : List (List UInt8 × Nat)) (p : List UInt8) (i : Nat) : List (List UInt8 × Nat) := insL (p, i) (delL l p)

/-- How a map's element, a pointer to a file, reads: as the number of its block. -/
def fileR : Value → Option (DataW Unit × List MemPlace)
  | .pointer none => some (.nil, [])
  | .pointer (some ⟨g, 0, none⟩) => some (.lit (.int .i64 g), [])
  | _ => none
def entL (F : Nat → Nat) (p : List UInt8 × Nat) : Lit × DataW Unit := (.string p.1, .lit (.int .i64 (F p.2)))
def fileD (F : Nat → Nat) (l : List (List UInt8 × Nat)) : DataW Unit := .map (l.map (entL F))

theorem fileD_ins (F : Nat → Nat) (x : List UInt8 × Nat) : ∀ l, DataW.insert (entL F x) (l.map (entL F)) = (insL x l).map (entL F)
  | [] => rfl
  | y :: r => by
    simp only [List.map_cons, DataW.insert, insL]
    have : (entL F x).1.before (entL F y).1 = bytesBefore x.1 y.1 := rfl
    rw [this]
    split
    · rfl
    · rw [fileD_ins F x r]; rfl
theorem fileD_del (F : Nat → Nat) (l : List (List UInt8 × Nat)) (p : List UInt8) : (fileD F l).del (.string p) = fileD F (delL l p) := by
  simp only [fileD, DataW.del, delL, List.filter_map]
  rfl
theorem fileD_put (F : Nat → Nat) (l : List (List UInt8 × Nat)) (p : List UInt8) (i : Nat) : (fileD F l).put (.string p) (.lit (.int .i64 (F i))) = fileD F (putL l p i) := by
  have := fileD_ins F (p, i) (delL l p)
  simp only [fileD, DataW.put, putL, delL] at *
  rw [← this, List.filter_map]
  rfl
theorem fileD_at (F : Nat → Nat) (l : List (List UInt8 × Nat)) (p : List UInt8) : (fileD F l).atKey (.string p) .nil = match findL l p with | none => .nil | some i => .lit (.int .i64 (F i)) := by
  simp only [fileD, DataW.atKey, List.find?_map, findL]
  have : ((fun p_1 : Lit × DataW Unit => p_1.1.sameKey (.string p)) ∘ entL F) = fun q => q.1 == p := rfl
  rw [this]
  cases l.find? (fun q => q.1 == p) <;> rfl
theorem fileD_size (F : Nat → Nat) (l : List (List UInt8 × Nat)) : Maps.size (fileD F l) = l.length := by simp [fileD, Maps.size]
theorem insL_len (x : List UInt8 × Nat) : ∀ l, (insL x l).length = l.length + 1
  | [] => rfl
  | y :: r => by
    unfold insL
    split
    · rfl
    · simp [insL_len x r]
theorem putL_len (l : List (List UInt8 × Nat)) (p : List UInt8) (i : Nat) : (putL l p i).length ≤ l.length + 1 := by
  rw [putL, insL_len]
  have := List.length_filter_le (fun q : List UInt8 × Nat => !(q.1 == p)) l
  unfold delL; omega
theorem delL_len (l : List (List UInt8 × Nat)) (p : List UInt8) : (delL l p).length ≤ l.length := List.length_filter_le _ _
theorem insL_mem {x q : List UInt8 × Nat} : ∀ {l}, q ∈ insL x l → q = x ∨ q ∈ l
  | [], h => by simpa [insL] using h
  | y :: r, h => by
    unfold insL at h
    split at h
    · simpa using h
    · rcases List.mem_cons.1 h with h | h
      · exact .inr (by simp [h])
      · rcases insL_mem h with h | h
        · exact .inl h
        · exact .inr (by simp [h])
theorem putL_mem {l : List (List UInt8 × Nat)} {p : List UInt8} {i : Nat} {q : List UInt8 × Nat} (h : q ∈ putL l p i) : q = (p, i) ∨ q ∈ l := by
  rcases insL_mem h with h | h
  · exact .inl h
  · exact .inr (List.mem_filter.1 h).1

/-- The map at a field: nil, or a block of this role that holds the list. -/
def MapI (ρ : Nat → Option Role) (F : Nat → Nat) (w : World) (m : Option Nat) (r : Role) (l : List (List UInt8 × Nat)) : Prop :=
  (m = none ∧ l = []) ∨ ∃ g, m = some g ∧ ρ g = some r ∧ w.ownsMap Tryd.prog 9 fileR g l.length (fileD F l)
/-- The faults. -/
def FltI (ρ : Nat → Option Role) (w : World) (m : Option Nat) (f : Int → Int) : Prop :=
  (m = none ∧ ∀ k, f k = 0) ∨ ∃ g n D, m = some g ∧ ρ g = some .flt ∧ w.ownsMap (H := Unit) Tryd.prog 3 (plainElem Tryd.prog 25) g n D ∧
    ∀ k, D.atKey (.int .i64 k) (.lit (.int .i64 0)) = .lit (.int .i64 (f k)) ∧ Maps.has D (.int .i64 k) = !(f k == 0)

structure Inv (L : Loc) (ρ : Nat → Option Role) (n : Nat) (S : DS) (w : World) : Prop where
  hb : ρ L.b = some .disk
  blk : Blk w L.b 42 #[.int .i64 S.room, .map (L.m false), .map (L.m true), L.pv, .int .i64 S.ops, .map L.fm, .int .i64 S.crash, .bool S.down]
  mp : ∀ s, MapI ρ L.F w (L.m s) (.map s) (S.dirs s)
  flt : FltI ρ w L.fm S.flt
  pnd : w.ownsRow 0 52 5 L.pv S.pend.length (S.pend.flatMap (Chg.cells L.F))
  pro : ∀ g, L.pv.ownBlock = some g → ρ g = some .pend
  fro : ∀ i, i < S.nf → ρ (L.F i) = some (.file i)
  fil : ∀ i, i < S.nf → Blk w (L.F i) 50 #[L.V false i, L.V true i]
  con : ∀ s i, i < S.nf → Bys w (L.V s i) (S.con s i)
  cro : ∀ s i g, i < S.nf → (L.V s i).ownBlock = some g → ρ g = some (.con s i)
  clen : ∀ s i, i < S.nf → (S.con s i).length ≤ 4000000
  dok : ∀ s p, p ∈ S.dirs s → p.2 < S.nf
  pok : ∀ c, c ∈ S.pend → c.Ok S.nf
  old : ∀ k, w.heap.size ≤ k → ρ k = none
  room : S.room ≤ 4000000
  bnd : S.pend.length ≤ n ∧ S.ops ≤ n ∧ (∀ s, (S.dirs s).length ≤ n) ∧ n ≤ 100000

/-- What a call may turn: blocks that play a part, and new ones. -/
structure Step (L : Loc) (ρ : Nat → Option Role) (w : World) (L' : Loc) (ρ' : Nat → Option Role) (w' : World) : Prop where
  os : w'.os = w.os
  tape : w'.tape = w.tape
  output : w'.output = w.output
  size : w.heap.size ≤ w'.heap.size
  blk : ∀ k, k < w.heap.size → ρ k = none → w'.heap[k]? = w.heap[k]?
  ro : ∀ k, k < w.heap.size → ρ' k = ρ k
  b : L'.b = L.b

theorem Step.refl (L : Loc) (ρ : Nat → Option Role) (w : World) : Step L ρ w L ρ w := ⟨rfl, rfl, rfl, Nat.le_refl _, fun _ _ _ => rfl, fun _ _ => rfl, rfl⟩
theorem Step.trans {L L' L'' : Loc} {ρ ρ' ρ'' : Nat → Option Role} {w w' w'' : World} (h : Step L ρ w L' ρ' w') (k : Step L' ρ' w' L'' ρ'' w'') : Step L ρ w L'' ρ'' w'' :=
  ⟨k.os.trans h.os, k.tape.trans h.tape, k.output.trans h.output, Nat.le_trans h.size k.size,
   fun i hi hn => (k.blk i (Nat.lt_of_lt_of_le hi h.size) (by rw [h.ro i hi]; exact hn)).trans (h.blk i hi hn),
   fun i hi => (k.ro i (Nat.lt_of_lt_of_le hi h.size)).trans (h.ro i hi), k.b.trans h.b⟩
/-- New blocks, and nothing else. -/
theorem Step.below {L : Loc} {ρ : Nat → Option Role} {w w' : World} (h : Below w.heap.size w w') : Step L ρ w L ρ w' :=
  ⟨h.os, h.tape, h.output, h.size, fun k hk _ => h.block k hk, fun _ _ => rfl, rfl⟩

variable {L : Loc} {ρ ρ' : Nat → Option Role} {n : Nat} {S : DS} {w w' : World}

/-! ### how the parts are carried -/
theorem mapI_keep {F : Nat → Nat} {m : Option Nat} {r : Role} {l : List (List UInt8 × Nat)} (h : MapI ρ F w m r l) (hk : ∀ g, ρ g = some r → w'.heap[g]? = w.heap[g]?) (hx : ∀ g r, ρ g = some r → ρ' g = some r) : MapI ρ' F w' m r l := by
  rcases h with h | ⟨g, rfl, hg, es, clock, hb, rest⟩
  · exact .inl h
  · exact .inr ⟨g, rfl, hx g _ hg, es, clock, (hk g hg).trans hb, rest⟩
theorem fltI_keep {m : Option Nat} {f : Int → Int} (h : FltI ρ w m f) (hk : ∀ g, ρ g = some .flt → w'.heap[g]? = w.heap[g]?) (hx : ∀ g r, ρ g = some r → ρ' g = some r) : FltI ρ' w' m f := by
  rcases h with h | ⟨g, n, D, rfl, hg, ⟨es, clock, hb, rest⟩, hf⟩
  · exact .inl h
  · exact .inr ⟨g, n, D, rfl, hx g _ hg, ⟨es, clock, (hk g hg).trans hb, rest⟩, hf⟩
theorem row_keep {e : TypeId} {size : Nat} {v : Value} {k : Nat} {xs : List Value} (h : w.ownsRow 0 e size v k xs) (hk : ∀ g, v.ownBlock = some g → w'.heap[g]? = w.heap[g]?) : w'.ownsRow 0 e size v k xs := by
  refine ⟨h.1, ?_⟩
  rcases h.2 with hn | ⟨g, cap, cur, rfl, hb, hgg, rest⟩
  · exact .inl hn
  · exact .inr ⟨g, cap, cur, rfl, hb, (hk g rfl).trans hgg, rest⟩
theorem mapI_F {F F' : Nat → Nat} {m : Option Nat} {r : Role} {l : List (List UInt8 × Nat)} (h : MapI ρ F w m r l) (hF : ∀ p, p ∈ l → F' p.2 = F p.2) : MapI ρ F' w m r l := by
  have e : fileD F' l = fileD F l := by
    unfold fileD
    congr 1
    exact List.map_congr_left fun p hp => by unfold entL; rw [hF p hp]
  unfold MapI at *
  rw [e]
  exact h

/-- New blocks that play no part, or a drawn order: all stays. -/
theorem Inv.heap (h : Inv L ρ n S w) (hk : ∀ g, ρ g ≠ none → w'.heap[g]? = w.heap[g]?) (hs : w.heap.size ≤ w'.heap.size) : Inv L ρ n S w' where
  hb := h.hb
  blk := (hk _ (by rw [h.hb]; simp)).trans h.blk
  mp s := mapI_keep (h.mp s) (fun g hg => hk g (by rw [hg]; simp)) (fun _ _ h => h)
  flt := fltI_keep h.flt (fun g hg => hk g (by rw [hg]; simp)) (fun _ _ h => h)
  pnd := row_keep h.pnd (fun g hg => hk g (by rw [h.pro g hg]; simp))
  pro := h.pro
  fro := h.fro
  fil i hi := (hk _ (by rw [h.fro i hi]; simp)).trans (h.fil i hi)
  con s i hi := row_keep (h.con s i hi) (fun g hg => hk g (by rw [h.cro s i g hi hg]; simp))
  cro := h.cro
  clen := h.clen
  dok := h.dok
  pok := h.pok
  old k hk' := h.old k (Nat.le_trans hs hk')
  room := h.room
  bnd := h.bnd
theorem Inv.lt (h : Inv L ρ n S w) {g : Nat} (hg : ρ g ≠ none) : g < w.heap.size := by
  rcases Nat.lt_or_ge g w.heap.size with h' | h'
  · exact h'
  · exact absurd (h.old g h') hg
theorem Inv.below (h : Inv L ρ n S w) (hb : Below w.heap.size w w') : Inv L ρ n S w' := h.heap (fun g hg => hb.block g (h.lt hg)) hb.size
theorem Inv.alloc (h : Inv L ρ n S w) (o : Obj) : Inv L ρ n S (w.alloc o) := h.below ((Below.refl _ _).alloc (Nat.le_refl _) _)
theorem Inv.drew (h : Inv L ρ n S w) : Inv L ρ n S w.drew := h.heap (fun _ _ => rfl) (Nat.le_refl _)
theorem Inv.mono {n' : Nat} (h : Inv L ρ n S w) (hn : n ≤ n') (hn' : n' ≤ 100000) : Inv L ρ n' S w := { h with bnd := ⟨Nat.le_trans h.bnd.1 hn, Nat.le_trans h.bnd.2.1 hn, fun s => Nat.le_trans (h.bnd.2.2.1 s) hn, hn'⟩ }
end Go.Proofs.YtcpkbklnlnoonaaDoor
