/-
  Layer 12: what a cache is in memory: its block, the map from numbers to elements, the two lists, the elements with their links; each block has one part to play. Condition: none (definitions, and how they are carried).
-/
import Derived.Test.YtkpgekfejfbpjaaProg
import Derived.WalkKit
import Derived.Lib.Hide
import Derived.Below
import Derived.Deep.QuietTactic
import Derived.BigQuiet
import Derived.Handy
import Derived.KernelRfl
import Derived.Laws.Rows
import Derived.Maps.OwnSet
import Derived.Maps.Ext
import Derived.Deep.OwnRows
import Derived.Deep.Draws
namespace Go.Proofs.Ytkpgekfejfbpjaa
open Go.RowKit

/-- Block g holds these cells. -/
def Blk (w : World) (g : Nat) (t : TypeId) (cs : Array Value) : Prop := w.heap[g]? = some (.cells cs t (0, 0))
theorem blk_new (w : World) (t : TypeId) (cs : Array Value) : Blk (w.alloc (.cells cs t)) w.heap.size t cs := heap_alloc_new _ _
theorem blk_at {w : World} {t : TypeId} {cs : Array Value} {g : Nat} (h : g = w.heap.size) : Blk (w.alloc (.cells cs t)) g t cs := by subst h; exact blk_new _ _ _
theorem blk_set {w : World} {g : Nat} {t : TypeId} {cs : Array Value} (h : Blk w g t cs) (i : Nat) (v : Value) : Blk (w.setCell ⟨g, i, none⟩ v) g t (cs.setIfInBounds i v) := by
  unfold Blk at *
  simp [World.setCell, Array.getElem?_modify, h]
theorem keep_set (w : World) (g i : Nat) (v : Value) : ∀ k, k ≠ g → (w.setCell ⟨g, i, none⟩ v).heap[k]? = w.heap[k]? := fun k hk => Below.heap_setCell w ⟨g, i, none⟩ v k hk
theorem size_set (w : World) (a : Addr) (v : Value) : (w.setCell a v).heap.size = w.heap.size := by simp [World.setCell]
theorem blk_off {w : World} {g k i : Nat} {v : Value} {t : TypeId} {cs : Array Value} (h : Blk w k t cs) (hk : k ≠ g) : Blk (w.setCell ⟨g, i, none⟩ v) k t cs := (keep_set w g i v k hk).trans h
theorem blk_lt {w : World} {g : Nat} {t : TypeId} {cs : Array Value} (h : Blk w g t cs) : g < w.heap.size := (Array.getElem?_eq_some_iff.1 h).1
theorem blk_cell {w : World} {g : Nat} {t : TypeId} {cs : Array Value} (h : Blk w g t cs) (i : Nat) {v : Value} (hv : cs[i]? = some v) : w.cell? ⟨g, i, none⟩ = some v := by
  unfold Blk at h
  simp [World.cell?, h, hv]
theorem blk_frozen {w : World} {g : Nat} {t : TypeId} {cs : Array Value} (h : Blk w g t cs) (i : Nat) : w.frozen? ⟨g, i, none⟩ = false := by
  unfold Blk at h
  simp [World.frozen?, h]

/-! ### the map -/
def findK (l : List (Int × Nat)) (k : Int) : Option Nat := (l.find? fun q => q.1 == k).map (·.2)
def insK (x : Int × Nat) : List (Int × Nat) → List (Int × Nat)
  | [] => [x]
  | y :: r => if x.1 < y.1 then x :: y :: r else y :: insK x r
def delK (l : List (Int × Nat)) (k : Int) : List (Int × Nat) := l.filter fun q => !(q.1 == k)
def putK (l : List (Int × Nat)) (k : Int) (e : Nat) : List (Int × Nat) := insK (k, e) (delK l k)

/-- How a map's element, a pointer, reads: as the number of its block. -/
def elR : Value → Option (DataW Unit × List MemPlace)
  | .pointer none => some (.nil, [])
  | .pointer (some ⟨g, 0, none⟩) => some (.lit (.int .i64 g), [])
  | _ => none
def entK (p : Int × Nat) : Lit × DataW Unit := (.int .i64 p.1, .lit (.int .i64 p.2))
def keyD (l : List (Int × Nat)) : DataW Unit := .map (l.map entK)
theorem keyD_ins (x : Int × Nat) : ∀ l, DataW.insert (entK x) (l.map entK) = (insK x l).map entK
  | [] => rfl
  | y :: r => by
    simp only [List.map_cons, DataW.insert, insK]
    have : (entK x).1.before (entK y).1 = decide (x.1 < y.1) := rfl
    rw [this]
    by_cases h : x.1 < y.1
    · simp [h]
    · simp only [h, decide_false, if_false, Bool.false_eq_true]
      rw [keyD_ins x r]; rfl
theorem same_int (a b : Int) : (Lit.int .i64 a).sameKey (.int .i64 b) = (a == b) := by
  simp [Lit.sameKey]
  rfl
theorem keyD_del (l : List (Int × Nat)) (k : Int) : (keyD l).del (.int .i64 k) = keyD (delK l k) := by
  simp only [keyD, DataW.del, delK, List.filter_map]
  congr 2
  apply List.filter_congr
  intro x _
  show (!(Lit.int .i64 x.1).sameKey (.int .i64 k)) = _
  rw [same_int]
theorem keyD_put (l : List (Int × Nat)) (k : Int) (e : Nat) : (keyD l).put (.int .i64 k) (.lit (.int .i64 e)) = keyD (putK l k e) := by
  have h1 := keyD_ins (k, e) (delK l k)
  have h2 := keyD_del l k
  simp only [keyD, DataW.put, DataW.del, putK, DataW.map.injEq] at *
  rw [← h1, ← h2]
  rfl
theorem keyD_at (l : List (Int × Nat)) (k : Int) : (keyD l).atKey (.int .i64 k) .nil = match findK l k with | none => .nil | some i => .lit (.int .i64 i) := by
  simp only [keyD, DataW.atKey, List.find?_map, findK]
  have : ((fun p_1 : Lit × DataW Unit => p_1.1.sameKey (.int .i64 k)) ∘ entK) = fun q => q.1 == k := by
    funext q
    exact same_int q.1 k
  rw [this]
  cases l.find? (fun q => q.1 == k) <;> rfl
theorem keyD_size (l : List (Int × Nat)) : Maps.size (keyD l) = l.length := by simp [keyD, Maps.size]
theorem keyD_has (l : List (Int × Nat)) (k : Int) : Maps.has (keyD l) (.int .i64 k) = (findK l k).isSome := by
  simp only [keyD, Maps.has, findK, Option.isSome_map]
  induction l with
  | nil => rfl
  | cons q l ih =>
    have : (entK q).1.sameKey (.int .i64 k) = (q.1 == k) := same_int _ _
    simp only [List.map_cons, List.any_cons, this, List.find?_cons]
    cases hq : q.1 == k <;> simp_all
theorem insK_perm (x : Int × Nat) : ∀ l, (insK x l).Perm (x :: l)
  | [] => .refl _
  | y :: r => by
    unfold insK
    split
    · exact .refl _
    · exact ((insK_perm x r).cons y).trans (.swap x y r)
theorem delK_find (l : List (Int × Nat)) (k k' : Int) : findK (delK l k) k' = if k' = k then none else findK l k' := by
  unfold findK delK
  induction l with
  | nil => simp
  | cons q r ih =>
    by_cases h : q.1 = k
    · have h1 : (!(q.1 == k)) = false := by simp [h]
      rw [List.filter_cons_of_neg (by simp [h]), ih, List.find?_cons]
      by_cases h2 : k' = k
      · simp [h2]
      · have h3 : (q.1 == k') = false := by rw [h]; simpa using fun e => h2 e.symm
        simp [h2, h3]
    · rw [List.filter_cons_of_pos (by simp [h]), List.find?_cons, List.find?_cons]
      by_cases h4 : q.1 = k'
      · have h2 : k' ≠ k := fun e => h (h4.trans e)
        simp [h4, h2]
      · have h5 : (q.1 == k') = false := by simpa using h4
        simp only [h5]
        exact ih
theorem delK_none (l : List (Int × Nat)) (k : Int) : ∀ q ∈ delK l k, q.1 ≠ k := fun q hq => by
  have := (List.mem_filter.1 hq).2
  simpa using this
theorem insK_find (x : Int × Nat) (k : Int) : ∀ l : List (Int × Nat), (∀ q ∈ l, q.1 ≠ x.1) → findK (insK x l) k = if k = x.1 then some x.2 else findK l k
  | [], _ => by
    by_cases h : k = x.1
    · simp [insK, findK, h]
    · have : (x.1 == k) = false := by simpa using fun e => h e.symm
      simp [insK, findK, h, this]
  | y :: r, hn => by
    have ih := insK_find x k r (fun q hq => hn q (List.mem_cons_of_mem _ hq))
    unfold insK
    split
    · by_cases h : k = x.1
      · simp [findK, h]
      · have : (x.1 == k) = false := by simpa using fun e => h e.symm
        simp [findK, h, this, List.find?_cons]
    · unfold findK at ih ⊢
      rw [List.find?_cons, List.find?_cons]
      by_cases h4 : y.1 = k
      · have h2 : k ≠ x.1 := fun e => hn y (List.mem_cons_self ..) (h4.trans e)
        simp [h4, h2]
      · have h5 : (y.1 == k) = false := by simpa using h4
        simp only [h5]
        exact ih
theorem putK_find (l : List (Int × Nat)) (k : Int) (e : Nat) (k' : Int) : findK (putK l k e) k' = if k' = k then some e else findK l k' := by
  unfold putK
  rw [insK_find _ _ _ (delK_none l k), delK_find]
  by_cases h : k' = k <;> simp [h]
/-- No number twice. -/
def KNd (l : List (Int × Nat)) : Prop := (l.map (·.1)).Nodup
theorem delK_nd {l : List (Int × Nat)} (h : KNd l) (k : Int) : KNd (delK l k) := List.Nodup.sublist ((List.filter_sublist (l := l)).map _) h
theorem putK_nd {l : List (Int × Nat)} (h : KNd l) (k : Int) (e : Nat) : KNd (putK l k e) := by
  unfold KNd putK
  rw [((insK_perm (k, e) (delK l k)).map _).nodup_iff, List.map_cons, List.nodup_cons]
  refine ⟨fun hm => ?_, delK_nd h k⟩
  obtain ⟨q, hq, e'⟩ := List.mem_map.1 hm
  exact delK_none l k q hq e'
theorem delK_same {l : List (Int × Nat)} {k : Int} (h : findK l k = none) : delK l k = l := by
  unfold delK
  rw [List.filter_eq_self]
  intro q hq
  unfold findK at h
  rw [Option.map_eq_none_iff, List.find?_eq_none] at h
  have := h q hq
  simpa using this
theorem putK_len {l : List (Int × Nat)} {k : Int} (h : findK l k = none) (e : Nat) : (putK l k e).length = l.length + 1 := by
  unfold putK
  rw [(insK_perm _ _).length_eq, delK_same h, List.length_cons]
theorem delK_len {l : List (Int × Nat)} (hn : KNd l) {k : Int} {e : Nat} (h : findK l k = some e) : (delK l k).length + 1 = l.length := by
  induction l with
  | nil => simp [findK] at h
  | cons q r ih =>
    have hn' : q.1 ∉ r.map (·.1) ∧ KNd r := List.nodup_cons.1 hn
    by_cases hq : q.1 = k
    · have : findK r k = none := by
        unfold findK
        rw [Option.map_eq_none_iff, List.find?_eq_none]
        intro x hx e'
        exact hn'.1 (by rw [hq, ← eq_of_beq e']; exact List.mem_map_of_mem hx)
      have h2 := delK_same this
      unfold delK at h2 ⊢
      rw [List.filter_cons_of_neg (by simp [hq]), h2, List.length_cons]
    · have h5 : (q.1 == k) = false := by simpa using hq
      have : findK r k = some e := by
        unfold findK at h ⊢
        rw [List.find?_cons, h5] at h
        exact h
      have := ih hn'.2 this
      unfold delK at this ⊢
      rw [List.filter_cons_of_pos (by simp [hq]), List.length_cons, List.length_cons, this]
theorem findK_mem {l : List (Int × Nat)} {k : Int} {e : Nat} (h : findK l k = some e) : (k, e) ∈ l := by
  unfold findK at h
  cases hf : l.find? (fun q => q.1 == k) with
  | none => rw [hf] at h; cases h
  | some q =>
    rw [hf] at h
    have h1 := List.find?_some hf
    have h2 := List.mem_of_find?_eq_some hf
    simp only [Option.map_some, Option.some.injEq] at h
    have h3 : q.1 = k := by simpa using h1
    rw [← h, ← h3]
    exact h2

/-! ### the cache -/
inductive CRole where
  | cache | map | list (s : Bool) | el

structure Pg where
  n : Int
  s : ByteArray
  d : Bool

/-- A cache's state: li true: the dirty elements (each as its block), li false: the clean ones, the least recently used one first; fr: an element that is in no list. -/
structure CS where
  room : Int
  keys : List (Int × Nat)
  li : Bool → List Nat
  pg : Nat → Pg
  fr : Option Nat

structure CL where
  c : Nat
  m : Nat
  lb : Bool → Nat

def ptr (o : Option Nat) : Value := .pointer (o.map fun g => ⟨g, 0, none⟩)
def elC (p : Pg) (a b : Option Nat) : Array Value := #[.int .i64 p.n, .string p.s, .bool p.d, ptr a, ptr b]
def liC (l : List Nat) : Array Value := #[ptr l.head?, ptr l.getLast?, .int .i64 l.length]
def updB (f : Bool → List Nat) (s : Bool) (x : List Nat) : Bool → List Nat := fun t => if t = s then x else f t
theorem updB_same (f : Bool → List Nat) (s : Bool) (x : List Nat) : updB f s x s = x := by simp [updB]
theorem updB_not (f : Bool → List Nat) (s : Bool) (x : List Nat) : updB f s x (!s) = f (!s) := by simp [updB]

structure CInv (L : CL) (ρ : Nat → Option CRole) (S : CS) (w : World) : Prop where
  hc : ρ L.c = some .cache
  hm : ρ L.m = some .map
  hl : ∀ s, ρ (L.lb s) = some (.list s)
  blk : Blk w L.c 50 #[.int .i64 S.room, .map (some L.m), ptr (some (L.lb false)), ptr (some (L.lb true))]
  map : w.ownsMap Try.prog 3 elR L.m S.keys.length (keyD S.keys)
  lst : ∀ s, Blk w (L.lb s) 48 (liC (S.li s))
  ele : ∀ s a e b, S.li s = a ++ e :: b → ρ e = some .el ∧ Blk w e 56 (elC (S.pg e) a.getLast? b.head?)
  fre : ∀ e, S.fr = some e → ρ e = some .el ∧ Blk w e 56 (elC (S.pg e) none none)
  nd : ∀ s, (S.li s).Nodup
  ap : ∀ e, e ∈ S.li false → e ∉ S.li true
  nf : ∀ e s, S.fr = some e → e ∉ S.li s
  old : ∀ k, w.heap.size ≤ k → ρ k = none

/-- What a call may turn: blocks that play a part, and new ones. -/
structure CStep (ρ : Nat → Option CRole) (w : World) (ρ' : Nat → Option CRole) (w' : World) : Prop where
  os : w'.os = w.os
  tape : w'.tape = w.tape
  output : w'.output = w.output
  size : w.heap.size ≤ w'.heap.size
  blk : ∀ k, k < w.heap.size → ρ k = none → w'.heap[k]? = w.heap[k]?
  ro : ∀ k, k < w.heap.size → ρ' k = ρ k

theorem CStep.refl (ρ : Nat → Option CRole) (w : World) : CStep ρ w ρ w := ⟨rfl, rfl, rfl, Nat.le_refl _, fun _ _ _ => rfl, fun _ _ => rfl⟩
theorem CStep.trans {ρ ρ' ρ'' : Nat → Option CRole} {w w' w'' : World} (h : CStep ρ w ρ' w') (k : CStep ρ' w' ρ'' w'') : CStep ρ w ρ'' w'' :=
  ⟨k.os.trans h.os, k.tape.trans h.tape, k.output.trans h.output, Nat.le_trans h.size k.size,
   fun i hi hn => (k.blk i (Nat.lt_of_lt_of_le hi h.size) (by rw [h.ro i hi]; exact hn)).trans (h.blk i hi hn),
   fun i hi => (k.ro i (Nat.lt_of_lt_of_le hi h.size)).trans (h.ro i hi)⟩
/-- New blocks, and nothing else. -/
theorem CStep.below {ρ : Nat → Option CRole} {w w' : World} (h : Below w.heap.size w w') : CStep ρ w ρ w' :=
  ⟨h.os, h.tape, h.output, h.size, fun k hk _ => h.block k hk, fun _ _ => rfl⟩
theorem CStep.drew {ρ : Nat → Option CRole} {w : World} : CStep ρ w ρ w.drew := ⟨rfl, rfl, rfl, Nat.le_refl _, fun _ _ _ => rfl, fun _ _ => rfl⟩
theorem CStep.set {ρ : Nat → Option CRole} {w : World} {g i : Nat} {v : Value} (h : ρ g ≠ none) : CStep ρ w ρ (w.setCell ⟨g, i, none⟩ v) :=
  ⟨rfl, rfl, rfl, Nat.le_of_eq (size_set _ _ _).symm, fun k _ hk => keep_set w g i v k (fun e => h (e ▸ hk)), fun _ _ => rfl⟩

variable {L : CL} {ρ ρ' : Nat → Option CRole} {S : CS} {w w' : World}

theorem own_keep {g n : Nat} {D : DataW Unit} (h : w.ownsMap Try.prog 3 elR g n D) (hk : w'.heap[g]? = w.heap[g]?) : w'.ownsMap Try.prog 3 elR g n D := by
  obtain ⟨es, clock, hb, rest⟩ := h
  exact ⟨es, clock, hk.trans hb, rest⟩
theorem CInv.heap (h : CInv L ρ S w) (hk : ∀ g, ρ g ≠ none → w'.heap[g]? = w.heap[g]?) (hs : w.heap.size ≤ w'.heap.size) : CInv L ρ S w' where
  hc := h.hc
  hm := h.hm
  hl := h.hl
  blk := (hk _ (by rw [h.hc]; simp)).trans h.blk
  map := own_keep h.map (hk _ (by rw [h.hm]; simp))
  lst s := (hk _ (by rw [h.hl]; simp)).trans (h.lst s)
  ele s a e b he := ⟨(h.ele s a e b he).1, (hk _ (by rw [(h.ele s a e b he).1]; simp)).trans (h.ele s a e b he).2⟩
  fre e he := ⟨(h.fre e he).1, (hk _ (by rw [(h.fre e he).1]; simp)).trans (h.fre e he).2⟩
  nd := h.nd
  ap := h.ap
  nf := h.nf
  old k hk' := h.old k (Nat.le_trans hs hk')
theorem CInv.lt (h : CInv L ρ S w) {g : Nat} (hg : ρ g ≠ none) : g < w.heap.size := by
  rcases Nat.lt_or_ge g w.heap.size with h' | h'
  · exact h'
  · exact absurd (h.old g h') hg
theorem CInv.below (h : CInv L ρ S w) (hb : Below w.heap.size w w') : CInv L ρ S w' := h.heap (fun g hg => hb.block g (h.lt hg)) hb.size
theorem CInv.alloc (h : CInv L ρ S w) (o : Obj) : CInv L ρ S (w.alloc o) := h.below ((Below.refl _ _).alloc (Nat.le_refl _) _)
theorem CInv.drew (h : CInv L ρ S w) : CInv L ρ S w.drew := h.heap (fun _ _ => rfl) (Nat.le_refl _)
theorem CInv.drewN (h : CInv L ρ S w) (q : Nat) : CInv L ρ S (w.drewN q) := h.heap (fun _ _ => rfl) (Nat.le_refl _)
theorem CStep.drewN (q : Nat) : CStep ρ w ρ (w.drewN q) := ⟨rfl, rfl, rfl, Nat.le_refl _, fun _ _ _ => rfl, fun _ _ => rfl⟩
theorem CInv.elr (h : CInv L ρ S w) {s : Bool} {e : Nat} (he : e ∈ S.li s) : ρ e = some .el := by
  obtain ⟨a, b, hab⟩ := List.append_of_mem he
  exact (h.ele s a e b hab).1
theorem CInv.cl_ne (h : CInv L ρ S w) {s : Bool} {e : Nat} (he : ρ e = some .el) : e ≠ L.lb s ∧ e ≠ L.c ∧ e ≠ L.m := by
  refine ⟨fun h' => ?_, fun h' => ?_, fun h' => ?_⟩
  · subst h'; rw [h.hl] at he; cases he
  · subst h'; rw [h.hc] at he; cases he
  · subst h'; rw [h.hm] at he; cases he
theorem CInv.ll_ne (h : CInv L ρ S w) (s : Bool) : L.lb s ≠ L.c ∧ L.lb s ≠ L.m ∧ L.c ≠ L.m ∧ L.lb (!s) ≠ L.lb s := by
  refine ⟨fun h' => ?_, fun h' => ?_, fun h' => ?_, fun h' => ?_⟩
  · have := h.hl s; rw [h', h.hc] at this; cases this
  · have := h.hl s; rw [h', h.hm] at this; cases this
  · have := h.hc; rw [h', h.hm] at this; cases this
  · have := h.hl s; rw [← h', h.hl] at this; cases s <;> cases this
theorem CInv.ap2 (h : CInv L ρ S w) {s : Bool} {e : Nat} (he : e ∈ S.li s) : e ∉ S.li (!s) := by
  cases s
  · exact h.ap e he
  · exact fun h' => h.ap e h' he
end Go.Proofs.Ytkpgekfejfbpjaa
