/-
  What the rows of statements without listed variables share: the last step of a row whose call leaves new blocks behind the heap.
  What the rows of layer 8's statements share: a header, a string and an int as an argument, opened to what the walks ask; an argument read again behind a call that leaves what was there.
  Layer 7, laws on memory that no function of the project is named in: 'append(b, make([]byte, n)...)' on a slice of our own (with room, and grown), 'copy' of a string into it, 'clear' of a part; a frame that says which blocks may turn. Conditions: lengths far below what a machine bears.
  Layer 7: resize and overwrite: the contents of a file, cut or made longer by zero bytes, and with data at an offset: each leaves all blocks but the slice's own as they were. Conditions: lengths up to a thousand millions.
  Layer 7: what a disk is in memory: its block, the two maps from paths to files, the faults, the pending changes, the files with their two contents; each block has one part to play. Condition: none (definitions, and how they are carried).
-/
import Derived.Test.YtkfncnpeockiaaaGreatDoorRows
import Derived.WalkKit
import Derived.ProofKit
import Derived.OpenShut
import Derived.Below
import Derived.ChangeSame
import Derived.Deep.Slices
import Derived.Carry
import Derived.SizedLaws
import Derived.ChangeMaps5
import Derived.Test.YtkfncnpeockiaaaGreatDoorProg
import Derived.Lib.Hide
import Derived.Laws.Rows
import Derived.Laws.CopyOwn
import Derived.Lib.AppendZerosOnto
import Derived.Lib.AppendStr
import Derived.Lib.UnsafeStr
import Derived.Maps.AppendAt
import Derived.Deep.OwnRows
import Derived.Deep.QuietTactic
import Derived.BigQuiet
import Derived.Handy
import Derived.OwnWalk
import Derived.KernelRfl
import Derived.Lib.MinMax
import Derived.Maps.OwnSet
import Derived.Maps.Ext
namespace Go.Proofs.YtkfncnpeockiaaaGreatDoor
open Go.ChangeShapes Go.WideShapes Go.ChangeAt Go.RowKit

section
variable {H : Type} {enc : TypeId × Value → H} {P : Program}
theorem post_below {f : Func} {s : ChangeSpec} {apart fresh handsOn again : Bool} {W W' : World} {args : Array Value} {v : Value} {ds gs : List (DataW H)} {before pa pv : List MemPlace}
    (hW : DataW.Whole enc P f.params.toList s.vars apart W args.toList ds gs before)
    (hres : ∀ (b : Nat) (sp : Nat → Bool) (hd : Bool), DataW.TrodAll enc P W' b sp hd f.resultTypes.toList (v.resultList f.resultTypes.size) (s.fn H (ds ++ gs)).results [])
    (hargs : ∀ sp : Nat → Bool, (∀ p ∈ before, sp p.block = true) → DataW.TrodAll enc P W' 0 sp true f.params.toList args.toList (s.fn H (ds ++ gs)).args pa)
    (hvars : ∀ sp : Nat → Bool, (∀ p ∈ before, sp p.block = true) → DataW.TrodVars enc P W' sp s.vars (s.fn H (ds ++ gs)).vars pv)
    (hps : before = pa ++ pv) (hb : Below W.heap.size W W')
    (hok : ∀ (j : Nat) (t : TypeId) (r : Value), f.resultTypes[j]? = some t → (v.resultList f.resultTypes.size)[j]? = some r → Value.okWide P W' .any 0 t r) :
    s.post enc P f apart fresh handsOn again W args v W' := by
  have hlt : ∀ p ∈ before, p.block < W.heap.size := fun p hp => hW.lt p hp
  have hold : ∀ p ∈ before, (fun b => decide (b < W.heap.size)) p.block = true := fun p hp => by simpa using hlt p hp
  refine ⟨ds, gs, before, [], pa, pv, hW, hres _ _ _, hargs _ hold, hvars _ hold, World.keptBut_mono (fun p hp => ⟨hp, ?_⟩) (hb.frame (· ∈ before)), fun _ => ?_⟩
  · rw [hps, List.mem_append] at hp
    exact Or.inr hp
  · obtain ⟨_, _, _, _, _, hz, hn⟩ := hW
    refine ⟨hok, _, _, ([] ++ pa) ++ pv, ⟨[] ++ pa, pv, trodAll_append (hargs _ (fun _ _ => rfl)) (hres _ _ _), hvars _ (fun _ _ => rfl), rfl, ?_, ?_⟩, ?_⟩
    · intro b off hp
      have hin : MemPlace.cell b off ∈ before := by rw [hps]; simpa using hp
      rw [hb.frozen (hlt _ hin)]
      exact hz b off hin
    · intro ha
      have := hn ha
      rw [hps] at this
      simpa using this
    · intro p hp _
      rw [hps]
      simpa using hp
end

theorem own : ownKnob Tryz.prog.godebug = none := by kernel_rfl
end Go.Proofs.YtkfncnpeockiaaaGreatDoor

namespace Go.Proofs.YtkfncnpeockiaaaGreatDoor
open Go.ChangeShapes Go.WideShapes Go.ChangeAt Go.RowKit Go.Deep

theorem laidOut : laidOutB Tryz.prog = true := by kernel_rfl
theorem cellsInt : Tryz.prog.cellsOf 3 = 1 := by kernel_rfl
section
variable {H : Type} {enc : TypeId × Value → H} {W W' : World}
/-- An argument, read again. -/
theorem stay {t : TypeId} {v : Value} {d : DataW H} {p : List MemPlace} {sp : Nat → Bool} (hr : Tryz.prog.readableRec t = true) (hlt0 : t < Tryz.prog.types.size) (h : DataW.Trod enc Tryz.prog W 0 (fun _ => true) true t v d p) (hg : Below W.heap.size W W') (hlt : ∀ x ∈ p, x.block < W.heap.size) (hsp : ∀ x ∈ p, sp x.block = true) :
    DataW.Trod enc Tryz.prog W' 0 sp true t v d p := WideElems.Trod_stays laidOut hr hlt0 h (fun x hx => hg.same (hlt x hx)) hsp

/-- Each string and each slice of a datum takes at most 2^47 - 4096 bytes. -/
def Sz (t : TypeId) (d : DataW H) : Prop := ∀ n ∈ d.weights Tryz.prog t, n ≤ 140737488351232
theorem sz_each {ts : List TypeId} {ds : List (DataW H)} (h : (DataW.weightsEach Tryz.prog ts ds).all (· ≤ reachBytes) = true) (j : Nat) {t : TypeId} {d : DataW H} (ht : ts[j]? = some t) (hd : ds[j]? = some d) : Sz t d := by
  intro n hn
  have := List.all_eq_true.1 h n (DataW.weights_mem_each ht hd n hn)
  have e : reachBytes = 140737488351232 := by decide
  simpa [e] using this
theorem sz_str {t : TypeId} {l : List UInt8} (h : Sz t (.lit (.string l) : DataW H)) : l.length ≤ 140737488351232 := h _ (by simp [DataW.weights])
set_option maxRecDepth 100000 in
theorem open_str {b0 : Nat} {r : Reach} {base : Nat} {sp : Nat → Bool} {held : Bool} {v : Value} {d : DataW H} {p : List MemPlace} (hv : Value.okWide Tryz.prog W r b0 9 v) (h : DataW.Trod enc Tryz.prog W base sp held 9 v d p) (hz : Sz 9 d) :
    ∃ s : ByteArray, v = .string s ∧ s.size ≤ 140737488351232 := by
  obtain ⟨s, rfl, rfl, -⟩ := Go.ChangeMaps.open_string Tryz.underlying9 hv h
  exact ⟨s, rfl, by have := sz_str hz; simpa using this⟩
end
end Go.Proofs.YtkfncnpeockiaaaGreatDoor

namespace Go.Proofs.YtkfncnpeockiaaaGreatDoor
open Go.RowKit

theorem zeroCells_one (m : Nat) (v : Value) : Builtin.zeroCells #[v] m = (List.replicate m v).toArray := by
  apply Array.ext
  · simp [Builtin.zeroCells]
  · intro i h1 h2
    simp [Builtin.zeroCells, Nat.mod_one]

theorem run_append_zeros_own {P : Program} (w : World) (base : Nat) (t tn ty e : TypeId) (i : TypeInfo) (ht : P.underlying t = some (.slice e)) (htn : P.underlying tn = some (.int .i64)) (hi : P.info? e = some i) (hz : i.zero = some (.int .u8 0)) (hsz : i.size = 1) (hby : i.bytes = 1)
    (v : Value) (n : Nat) (xs : List Value) (hown : w.ownsRow base e 1 v n xs) (m : Nat) (hm : n + m ≤ 1000000000) (hbase : base ≤ w.heap.size) :
    ∃ v' w', (Builtin.append_ #[t, tn] ty #[v, .int .i64 m]).run P w = .ok v' w' ∧ w'.ownsRow base e 1 v' (n + m) (xs ++ List.replicate m (.int .u8 0)) ∧ w.grownBy w' v.ownBlock ∧ (v'.ownBlock = v.ownBlock ∨ v'.ownBlock = some w.heap.size) := by
  have h63 : n + m ≤ maxLen := by unfold maxLen; omega
  have hl0 := hown.1
  have hlen : (xs ++ List.replicate m (Value.int .u8 0)).length = (n + m) * 1 := by simp [hl0]
  have hw : IntKind.i64.wrap (m : Int) = m := by rw [IntKind.wrap_i64]; omega
  have hw0 : IntKind.i64.wrap 0 = 0 := by decide
  have hneg : ¬ ((m : Int) < 0) := by omega
  have hbig : ¬ (281474976710656 < (m : Int)) := by omega
  have hnxt : ∀ old, old < n + m → Builtin.nextslicecap (n + m) old * i.bytes ≤ 281474976710656 := fun old ho => growslice_fits ho (by rw [hby]; omega)
  have grown : ∀ (old : Nat) (row : Option Nat), old < n + m →
      (w.drew.alloc (.cells (xs.toArray ++ Builtin.zeroCells #[.int .u8 0] m ++ Builtin.zeroCells #[.int .u8 0] (grownCap w (n + m) old e - (n + m))) e)).ownsRow base e 1
        (.slice (some ⟨w.heap.size, 0, none⟩) (n + m) (grownCap w (n + m) old e)) (n + m) (xs ++ List.replicate m (.int .u8 0)) ∧
      w.grownBy (w.drew.alloc (.cells (xs.toArray ++ Builtin.zeroCells #[.int .u8 0] m ++ Builtin.zeroCells #[.int .u8 0] (grownCap w (n + m) old e - (n + m))) e)) row := by
    intro old row ho
    have hge := grownCap_ge w (n + m) old e
    have hcm : grownCap w (n + m) old e ≤ maxLen := grownCap_le_maxLen w (n + m) old e h63
    refine ⟨⟨hlen, .inr ⟨w.heap.size, _, _, rfl, hbase, heap_alloc_new w.drew _, hge, hcm, ?_, ?_⟩⟩, ⟨rfl, rfl, rfl, by simp, fun k hk _ => heap_alloc_old w.drew _ hk⟩⟩
    · simp only [zeroCells_one, Array.size_append, List.size_toArray, List.length_replicate, hl0]; omega
    · simp only [zeroCells_one, Array.toList_append, List.append_assoc]
      rw [← List.append_assoc, ← hlen]
      exact List.take_left
  rcases hown.2 with ⟨rfl, rfl⟩ | ⟨g, cap, cur, rfl, hbg, hg, hnc, hcm, hcs, htake⟩
  · have hx : xs = [] := List.eq_nil_of_length_eq_zero (by simpa using hl0)
    subst hx
    by_cases hm0 : m = 0
    · subst hm0
      refine ⟨.slice none 0 0, w, ?_, by simpa using World.ownsRow_nil w base e 1, ⟨rfl, rfl, rfl, Nat.le_refl _, fun _ _ _ => rfl⟩, Or.inl rfl⟩
      simp [Builtin.append_, run_underlying ht, run_underlying htn, sizeOf, typeInfo, hi, asInt, asIntOf, hw0]
    · have hr := Lib.run_append_nil_zeros (P := P) w t tn ty e i (.int .u8 0) .i64 .i64 ht htn hi hz m (by omega) (by omega) (by omega) (by rw [hby]; omega)
      have hgr := grown 0 (Value.ownBlock (.slice none 0 0)) (by omega)
      simp only [Nat.zero_add, List.nil_append, Array.empty_append] at hgr ⊢
      exact ⟨_, _, hr, hgr.1, hgr.2, Or.inr rfl⟩
  · by_cases hroom : n + m ≤ cap
    · have hcs' : cur.size = cap := by omega
      have hst := run_storeCells_at P g n e (List.replicate m (Value.int .u8 0)) 0 cur w hg (by simp; omega) (by intro x hx; rw [List.eq_of_mem_replicate hx]; rfl)
      simp only [Nat.add_zero, List.length_replicate] at hst
      refine ⟨.slice (some ⟨g, 0, none⟩) (n + m) cap, w.setRow g (cur.toList.take n ++ List.replicate m (Value.int .u8 0) ++ cur.toList.drop (n + m)).toArray, ?_, ⟨hlen, .inr ⟨g, cap, _, rfl, hbg, setRow_heap w g cur _ e _ hg, hroom, hcm, ?_, ?_⟩⟩, ⟨rfl, rfl, rfl, by simp, fun k _ hk => setRow_other w g k _ (fun e => hk (by simp [Value.ownBlock, e]))⟩, Or.inl rfl⟩
      · by_cases hm0 : m = 0
        · subst hm0
          have e1 := setRow_self w g cur e (0, 0) hg
          simp [Builtin.append_, run_underlying ht, run_underlying htn, sizeOf, typeInfo, hi, asInt, asIntOf, hnc, storeCells, e1, hw0]
        · have hns : ¬ (m * i.size = 0) := Nat.mul_ne_zero hm0 (by omega)
          simp [Builtin.append_, run_underlying ht, run_underlying htn, sizeOf, typeInfo, zeroValue, hi, hz, hsz, hby, asInt, asIntOf, hw, hneg, hbig, hroom, Addr.add_lit, hm0, zeroCells_one, Value.cells, hst]
      · simp; omega
      · rw [Nat.mul_one] at htake
        rw [htake, ← hlen]
        exact List.take_left
    · have holds : ∀ j u, xs[j]? = some u → w.cell? ((⟨g, 0, none⟩ : Addr).add j) = some u := hown.cells (g := g) rfl
      have hf := run_firstCells_some (P := P) w.drew i.size n ⟨g, 0, none⟩ n cap xs (by rw [hsz]; exact hl0) (fun j u hj => holds j u hj)
      have hr := Lib.run_append_grow_zeros (P := P) w t tn ty e i (.int .u8 0) .i64 .i64 ht htn hi hz (some ⟨g, 0, none⟩) n cap xs hf m (by omega) (by omega) (by omega) (by omega) (by rw [hby]; omega) (hnxt cap (by omega))
      have hgr := grown cap (Value.ownBlock (.slice (some ⟨g, 0, none⟩) n cap)) (by omega)
      exact ⟨_, _, hr, hgr.1, hgr.2, Or.inr rfl⟩

/-- copy(b[off:], s) where there is room for all of s. -/
theorem run_copy_string {P : Program} (w : World) (dT sT ty elem : TypeId) (g o dLen dCap : Nat) (s : ByteArray) (cur : Array Value) (t : TypeId)
    (hu : P.underlying dT = some (.slice elem)) (hs : (P.info? elem).map (·.size) = some 1) (hg : w.heap[g]? = some (.cells cur t (0, 0))) (hn : s.size ≤ dLen) (hfit : o + s.size ≤ cur.size) :
    (Builtin.copy_ #[dT, sT] ty #[.slice (some ⟨g, o, none⟩) dLen dCap, .string s]).run P w =
      .ok (goInt s.size) (w.setRow g (cur.toList.take o ++ (Lib.strCells s ++ cur.toList.drop (o + s.size))).toArray) := by
  have hst := run_storeCells_at P g o t (Lib.strCells s) 0 cur w hg (by rw [Lib.strCells_length]; simpa using hfit) (by intro v hv; simp only [Lib.strCells, List.mem_map] at hv; obtain ⟨b, _, rfl⟩ := hv; rfl)
  simp only [Nat.add_zero, Lib.strCells_length, List.append_assoc] at hst
  have hm : min s.size dLen = s.size := Nat.min_eq_left hn
  have hm' : Nat.min s.size dLen = s.size := hm
  have hx : (s.data.map fun b => Value.int .u8 b.toNat) = (Lib.strCells s).toArray := by apply Array.ext'; simp [Lib.strCells]
  cases hq : P.info? elem with
  | none => simp [hq] at hs
  | some i =>
    have hf : (Builtin.firstCells i.size s.size (.string s)).run P w = .ok (Lib.strCells s).toArray w := by
      simp [Builtin.firstCells, hx]
    have hf' : (Builtin.firstCells i.size (Nat.min s.size dLen) (.string s)).run P w = .ok (Lib.strCells s).toArray w := by rw [hm']; exact hf
    have hst' : (storeCells ⟨g, o, none⟩ (Lib.strCells s)).run P w = .ok () (w.setRow g (cur.toList.take o ++ (Lib.strCells s ++ cur.toList.drop (o + s.size))).toArray) := hst
    have hgo : goInt (Nat.min s.size dLen) = goInt s.size := by rw [hm']
    clear hx hst hf hm hm'
    simp [Builtin.copy_, run_underlying hu, Builtin.lenOf, sizeOf, typeInfo, hq, hf', hst', hgo]
theorem wpList_copy_string {P : Program} {w : World} {ops : Array Oper} {rest : List Oper} {o : Oper} {a : Act} {Q : Exit → Act → World → Prop} (hgd : o.guard = none) (d s : Operand) (dT sT : TypeId)
    (ho : o.op = .call { callee := .builtin .copy, args := #[d, s], argTypes := #[dT, sT] }) (elem : TypeId) (hu : P.underlying dT = some (.slice elem)) (hsz : (P.info? elem).map (·.size) = some 1)
    (g off dLen dCap : Nat) (x : ByteArray) (hd : a.eval d = .slice (some ⟨g, off, none⟩) dLen dCap) (hs : a.eval s = .string x)
    (cur : Array Value) (t : TypeId) (hg : w.heap[g]? = some (.cells cur t (0, 0))) (hn : x.size ≤ dLen) (hfit : off + x.size ≤ cur.size)
    (h : wpList P ops Q rest (a.put o.dst (goInt x.size)) (w.setRow g (cur.toList.take off ++ (Lib.strCells x ++ cur.toList.drop (off + x.size))).toArray)) : wpList P ops Q (o :: rest) a w := by
  refine wpList_plain hgd fun K hK => ?_
  have hrun := run_copy_string (P := P) w dT sT o.type elem g off dLen dCap x cur t hu hsz hg hn hfit
  unfold Oper.wp
  simp [execOp, ho, resolve, invoke, builtin, hd, hs, hrun, Result.andThen]
  exact hK _ _ h
end Go.Proofs.YtkfncnpeockiaaaGreatDoor

namespace Go.Proofs.YtkfncnpeockiaaaGreatDoor
open Go.RowKit

/-- The slice v holds these bytes, in a block of its own. -/
def Bys (w : World) (v : Value) (l : List UInt8) : Prop := w.ownsRow 0 5 1 v l.length (Lib.byteCells l)
def resizeL (l : List UInt8) (n : Nat) : List UInt8 := if n ≤ l.length then l.take n else l ++ List.replicate (n - l.length) 0
def overL (l : List UInt8) (at_ : Nat) (d : List UInt8) : List UInt8 := if d = [] then l else (resizeL l (max l.length (at_ + d.length))).take at_ ++ (d ++ (resizeL l (max l.length (at_ + d.length))).drop (at_ + d.length))
theorem resizeL_len (l : List UInt8) (n : Nat) : (resizeL l n).length = n := by unfold resizeL; split <;> simp <;> omega
theorem overL_len (l : List UInt8) (a : Nat) (d : List UInt8) : (overL l a d).length = if d = [] then l.length else max l.length (a + d.length) := by
  unfold overL
  split
  · rfl
  · simp only [List.length_append, List.length_take, List.length_drop, resizeL_len]; omega
theorem byteCells_app7 (a b : List UInt8) : Lib.byteCells (a ++ b) = Lib.byteCells a ++ Lib.byteCells b := by simp [Lib.byteCells]
theorem byteCells_rep (n : Nat) : Lib.byteCells (List.replicate n 0) = List.replicate n (.int .u8 0) := by simp [Lib.byteCells]
theorem byteCells_take (l : List UInt8) (n : Nat) : Lib.byteCells (l.take n) = (Lib.byteCells l).take n := by simp [Lib.byteCells, List.map_take]
theorem byteCells_drop (l : List UInt8) (n : Nat) : Lib.byteCells (l.drop n) = (Lib.byteCells l).drop n := by simp [Lib.byteCells, List.map_drop]

theorem bys_cases {w : World} {v : Value} {l : List UInt8} (h : Bys w v l) : (v = .slice none 0 0 ∧ l = []) ∨ ∃ g cap cur, v = .slice (some ⟨g, 0, none⟩) l.length cap ∧ w.heap[g]? = some (.cells cur 5 (0, 0)) ∧ l.length ≤ cap ∧ cap ≤ maxLen ∧ cur.size = cap ∧ cur.toList.take l.length = Lib.byteCells l := by
  rcases h.2 with ⟨rfl, h0⟩ | ⟨g, cap, cur, rfl, _, hg, h1, h2, h3, h4⟩
  · exact .inl ⟨rfl, List.eq_nil_of_length_eq_zero h0⟩
  · exact .inr ⟨g, cap, cur, rfl, hg, h1, h2, by omega, by simpa using h4⟩
theorem bys_mk {w : World} {l : List UInt8} {g cap : Nat} {cur : Array Value} (hg : w.heap[g]? = some (.cells cur 5 (0, 0))) (h1 : l.length ≤ cap) (h2 : cap ≤ maxLen) (h3 : cur.size = cap) (h4 : cur.toList.take l.length = Lib.byteCells l) : Bys w (.slice (some ⟨g, 0, none⟩) l.length cap) l :=
  ⟨by simp [Lib.byteCells], .inr ⟨g, cap, cur, rfl, Nat.zero_le _, hg, h1, h2, by omega, by simpa using h4⟩⟩

theorem bys_at {w : World} {v : Value} {l : List UInt8} {n : Nat} (h : Bys w v l) (hn : l.length = n) (hp : 0 < n) : ∃ g cap cur, v = .slice (some ⟨g, 0, none⟩) n cap ∧ n ≤ cap ∧ Hid (w.heap[g]? = some (.cells cur 5 (0, 0))) ∧ Hid (cap ≤ maxLen) ∧ cur.size = cap ∧ Hid (cur.toList.take l.length = Lib.byteCells l) := by
  rcases bys_cases h with ⟨rfl, rfl⟩ | ⟨g, cap, cur, rfl, hg, h1, h2, h3, h4⟩
  · simp at hn; omega
  · subst hn; exact ⟨g, cap, cur, rfl, h1, Lib.hid hg, Lib.hid h2, h3, Lib.hid h4⟩
theorem bys_slice {w : World} {v : Value} {l : List UInt8} (h : Bys w v l) : ∃ a cap, v = .slice a l.length cap ∧ l.length ≤ cap := by
  rcases bys_cases h with ⟨rfl, rfl⟩ | ⟨g, cap, cur, rfl, _, h1, _⟩
  · exact ⟨none, 0, rfl, Nat.le_refl _⟩
  · exact ⟨_, cap, rfl, h1⟩

theorem u8_info : (Tryz.prog.info? 5).map (fun i => (i.zero, i.size, i.bytes)) = some (some (.int .u8 0), 1, 1) := by kernel_rfl
theorem u8_size : (Tryz.prog.info? 5).map (·.size) = some 1 := by kernel_rfl
theorem grown_refl (w : World) (r : Option Nat) : w.grownBy w r := ⟨rfl, rfl, rfl, Nat.le_refl _, fun _ _ _ => rfl⟩

theorem grown_then {a b c : World} {row row' : Option Nat} (h : a.grownBy b row) (k : b.grownBy c row') (hr : ∀ j, row' = some j → a.heap.size ≤ j ∨ row = some j) : a.grownBy c row :=
  ⟨k.os.trans h.os, k.tape.trans h.tape, k.output.trans h.output, Nat.le_trans h.size k.size, fun i hi hne => (k.block i (Nat.lt_of_lt_of_le hi h.size) (fun e => (hr i e.symm).elim (fun h' => absurd hi (Nat.not_lt.2 h')) (fun h' => hne h'.symm))).trans (h.block i hi hne)⟩
theorem resize_any (v : Value) (l : List UInt8) (n : Nat) (w : World) (h : Bys w v l) (hl : l.length ≤ 1000000000) (hn : n ≤ 1000000000) :
    Calls Tryz.prog 84 #[v, .int .i64 n] w fun e w' => ∃ v', e = .returned v' ∧ Bys w' v' (resizeL l n) ∧ w.grownBy w' v.ownBlock ∧ (v'.ownBlock = v.ownBlock ∨ v'.ownBlock = some w.heap.size) := by
  by_cases hle : n ≤ l.length
  · have HR := Lib.hid (show resizeL l n = l.take n by rw [resizeL, if_pos hle])
    rcases bys_cases h with ⟨rfl, rfl⟩ | ⟨g, cap, cur, rfl, hg, h1, h2, h3, h4⟩
    · obtain rfl : n = 0 := by simpa using hle
      have H := Lib.hid h; clear h
      go_enter Tryz.func84, Tryz.ntmps84
      go_wp2
      go_ret
      exact ⟨_, rfl, by rw [HR.out]; exact H.out, grown_refl _ _, .inl rfl⟩
    · have HG := Lib.hid hg; have H4 := Lib.hid h4; have H2 := Lib.hid h2; have H3 := Lib.hid h3; clear hg h4 h h2 h3
      have hnc : n ≤ cap := by omega
      go_enter Tryz.func84, Tryz.ntmps84
      go_wp2
      go_ret
      refine ⟨_, rfl, ?_, grown_refl _ _, .inl rfl⟩
      rw [HR.out]
      have := bys_mk (w := w) (l := l.take n) HG.out (by simp; omega) H2.out H3.out (by rw [byteCells_take, ← H4.out, List.take_take]; congr 1; simp)
      simpa [Nat.min_eq_left hle] using this
  · obtain ⟨i, hi, hz⟩ : ∃ i, Tryz.prog.info? 5 = some i ∧ (i.zero = some (.int .u8 0) ∧ i.size = 1 ∧ i.bytes = 1) := by
      have := u8_info
      cases hq : Tryz.prog.info? 5 with
      | none => rw [hq] at this; simp at this
      | some i => rw [hq] at this; simp at this; exact ⟨i, rfl, this⟩
    have HR := Lib.hid (show resizeL l n = l ++ List.replicate (n - l.length) 0 by rw [resizeL, if_neg hle])
    obtain ⟨v', w', hr, h2, h3, h4⟩ := run_append_zeros_own (P := Tryz.prog) w 0 79 3 79 5 i (by kernel_rfl) (by kernel_rfl) hi hz.1 hz.2.1 hz.2.2 v l.length _ h (n - l.length) (by omega) (Nat.zero_le _)
    obtain ⟨a, cap, rfl, hc⟩ := bys_slice h
    obtain ⟨m, hm⟩ : ∃ m, m = n - l.length := ⟨_, rfl⟩
    rw [← hm] at hr h2
    obtain ⟨k, hk⟩ : ∃ k, k = l.length := ⟨_, rfl⟩
    rw [← hk] at h2 hr hc hle hl h3 h4
    have hnk : n = k + m := by omega
    have HM := Lib.hid hm; have HK := Lib.hid hk
    clear hm hk
    have H2 := Lib.hid h2; have H3 := Lib.hid h3; have H4 := Lib.hid h4; have HRun := Lib.hid hr
    clear h2 h3 h4 h hr hi hz
    rw [← HK.out]
    have e1 : (n : Int) - (k : Int) = (m : Int) := by omega
    have hnle : ¬ ((n : Int) ≤ (k : Int)) := by omega
    have HN := Lib.hid hnk
    clear hle hnk
    go_enter Tryz.func84, Tryz.ntmps84
    go_wp2_with (at_builtin; refine Lib.wpList_append_run _ rfl _ _ _ _ rfl _ _ rfl rfl v' w' HRun.out ?_)
    go_ret
    refine ⟨v', rfl, ?_, H3.out, H4.out⟩
    rw [HR.out, ← HM.out]
    have := H2.out
    unfold Bys
    rw [byteCells_app7, byteCells_rep, List.length_append, List.length_replicate, ← HK.out]
    exact this

theorem setRow_grown (w : World) (g : Nat) (cs : Array Value) : w.grownBy (w.setRow g cs) (some g) := ⟨rfl, rfl, rfl, by simp, fun k _ hk => setRow_other w g k _ (fun e => hk (by rw [e]))⟩
theorem bys_over {w : World} {l : List UInt8} {g cap a : Nat} {cur : Array Value} (hg : w.heap[g]? = some (.cells cur 5 (0, 0))) (h1 : l.length ≤ cap) (h2 : cap ≤ maxLen) (h3 : cur.size = cap) (h4 : cur.toList.take l.length = Lib.byteCells l) (d : ByteArray) (hd : a + d.size ≤ l.length) :
    Bys (w.setRow g (cur.toList.take a ++ (Lib.strCells d ++ cur.toList.drop (a + d.size))).toArray) (.slice (some ⟨g, 0, none⟩) l.length cap) (l.take a ++ (d.data.toList ++ l.drop (a + d.size))) := by
  have hdl : d.data.toList.length = d.size := Array.length_toList
  have hll : (l.take a ++ (d.data.toList ++ l.drop (a + d.size))).length = l.length := by simp only [List.length_append, List.length_take, List.length_drop, hdl]; omega
  have := bys_mk (l := l.take a ++ (d.data.toList ++ l.drop (a + d.size))) (cap := cap) (setRow_heap w g cur (cur.toList.take a ++ (Lib.strCells d ++ cur.toList.drop (a + d.size))).toArray 5 _ hg) (by rw [hll]; exact h1) h2 (by simp [Lib.strCells_length]; omega) (by
    rw [hll, byteCells_app7, byteCells_app7, byteCells_take, byteCells_drop, ← h4]
    have hs : Lib.byteCells d.data.toList = Lib.strCells d := rfl
    rw [hs]
    simp only [List.take_append, List.length_take, Lib.strCells_length, Array.length_toList, List.take_take, List.drop_take]
    rw [List.take_of_length_le (l := Lib.strCells d) (by rw [Lib.strCells_length]; omega)]
    congr 1
    · congr 1; omega
    · congr 1
      congr 1
      omega)
  rw [hll] at this
  exact this

set_option maxHeartbeats 1000000 in
set_option maxRecDepth 20000 in
theorem overwrite_any (v : Value) (l : List UInt8) (a : Nat) (d : ByteArray) (w : World) (h : Bys w v l) (hl : l.length ≤ 100000000) (ha : a + d.size ≤ 100000000) :
    Calls Tryz.prog 83 #[v, .int .i64 a, .string d] w fun e w' => ∃ v', e = .returned v' ∧ Bys w' v' (overL l a d.data.toList) ∧ w.grownBy w' v.ownBlock ∧ (v'.ownBlock = v.ownBlock ∨ v'.ownBlock = some w.heap.size) := by
  have hdl : d.data.toList.length = d.size := Array.length_toList
  by_cases h0 : d = ⟨#[]⟩
  · subst h0
    have HR := Lib.hid (show overL l a (ByteArray.mk #[]).data.toList = l by rw [overL, if_pos rfl])
    have H := Lib.hid h; clear h hdl
    go_enter Tryz.func83, Tryz.ntmps83
    go_wp2
    go_ret
    exact ⟨_, rfl, by rw [HR.out]; exact H.out, grown_refl _ _, .inl rfl⟩
  · have hd0 : d.data.toList ≠ [] := fun e => h0 (by obtain ⟨⟨x⟩⟩ := d; simp at e; rw [e])
    have hpos : 0 < d.size := by rw [← hdl]; exact List.length_pos_iff.2 hd0
    obtain ⟨M, hM⟩ : ∃ M, M = max l.length (a + d.size) := ⟨_, rfl⟩
    have hMb : a + d.size ≤ M ∧ l.length ≤ M ∧ M ≤ 100000000 := by omega
    have HO := Lib.hid (show overL l a d.data.toList = (resizeL l M).take a ++ (d.data.toList ++ (resizeL l M).drop (a + d.size)) by rw [overL, if_neg hd0, hdl, ← hM])
    have hc := resize_any v l M w h (by omega) (by omega)
    have HC := Lib.hid hc
    obtain ⟨al, cap0, rfl, hc0⟩ := bys_slice h
    obtain ⟨k, hk⟩ : ∃ k, k = l.length := ⟨_, rfl⟩
    rw [← hk] at hc0 hMb hl hM
    have HK := Lib.hid hk; have HM := Lib.hid hM
    rw [← hk]
    rw [← hk] at HC
    have hmax : max (k : Int) ((a : Int) + (d.size : Int)) = (M : Int) := by rw [hM]; omega
    clear hc h hk hM hd0 hdl
    obtain ⟨m1, m2, m3⟩ := hMb
    have e1 : wrap64 ((a : Int) + (d.size : Int)) = (a : Int) + (d.size : Int) := by unfold wrap64; omega
    have hne : d.toList.isEmpty = false := by
      cases hq : d.toList with
      | nil => exfalso; apply h0; have : d.data.toList = [] := by rw [← ByteArray.toList_eq]; exact hq
               obtain ⟨⟨x⟩⟩ := d; simp at this; rw [this]
      | cons _ _ => rfl
    clear h0
    go_enter Tryz.func83, Tryz.ntmps83
    go_wp2_with (go_at_call 84; with_reducible refine HC.out.mono ?_; rintro e w1 ⟨v1, rfl, hb1, hg1, ho1⟩
                 obtain ⟨g, cap, cur, rfl, c1, hg, c2, c3, c4⟩ := bys_at hb1 (resizeL_len l M) (by omega)
                 have hcp := run_copy_string (P := Tryz.prog) w1 79 9 3 5 g a (M - a) (cap - a) d cur 5 (by kernel_rfl) u8_size hg.out (by omega) (by omega)
                 have HG1 := Lib.hid hg1; have HO1 := Lib.hid ho1; clear hg1 ho1 hb1)
    go_ret
    refine ⟨_, rfl, ?_, ?_, HO1.out⟩
    · rw [HO.out]
      have hz := bys_over (a := a) hg.out (by rw [resizeL_len]; exact c1) c2.out c3 c4.out d (by rw [resizeL_len]; exact m1)
      rw [resizeL_len] at hz
      exact hz
    · refine grown_then HG1.out (setRow_grown _ _ _) (fun j hj => ?_)
      obtain rfl : g = j := by simpa using hj
      rcases HO1.out with h | h
      · exact .inr h.symm
      · exact .inl (by have : g = w.heap.size := by simpa [Value.ownBlock] using h
                       omega)
end Go.Proofs.YtkfncnpeockiaaaGreatDoor

namespace Go.Proofs.YtkfncnpeockiaaaGreatDoor
open Go.RowKit

def bz (l : List UInt8) : ByteArray := ⟨l.toArray⟩
theorem bz_size (l : List UInt8) : (bz l).size = l.length := by simp [bz, ByteArray.size]
theorem bz_list (l : List UInt8) : (bz l).data.toList = l := rfl
theorem bz_back (s : ByteArray) : bz s.data.toList = s := rfl

/-- Block g holds these cells. -/
def Blk (w : World) (g : Nat) (t : TypeId) (cs : Array Value) : Prop := w.heap[g]? = some (.cells cs t (0, 0))
theorem blk_new (w : World) (t : TypeId) (cs : Array Value) : Blk (w.alloc (.cells cs t)) w.heap.size t cs := heap_alloc_new _ _
theorem blk_at {w : World} {t : TypeId} {cs : Array Value} {g : Nat} (h : g = w.heap.size) : Blk (w.alloc (.cells cs t)) g t cs := by subst h; exact blk_new _ _ _
theorem blk_set {w : World} {g : Nat} {t : TypeId} {cs : Array Value} (h : Blk w g t cs) (i : Nat) (v : Value) : Blk (w.setCell ⟨g, i, none⟩ v) g t (cs.setIfInBounds i v) := by
  unfold Blk at *
  simp [World.setCell, Array.getElem?_modify, h]
theorem blk_lt {w : World} {g : Nat} {t : TypeId} {cs : Array Value} (h : Blk w g t cs) : g < w.heap.size := (Array.getElem?_eq_some_iff.1 h).1
theorem blk_cell {w : World} {g : Nat} {t : TypeId} {cs : Array Value} (h : Blk w g t cs) (i : Nat) {v : Value} (hv : cs[i]? = some v) : w.cell? ⟨g, i, none⟩ = some v := by
  unfold Blk at h
  simp [World.cell?, h, hv]
theorem blk_frozen {w : World} {g : Nat} {t : TypeId} {cs : Array Value} (h : Blk w g t cs) (i : Nat) : w.frozen? ⟨g, i, none⟩ = false := by
  unfold Blk at h
  simp [World.frozen?, h]

inductive Role where
  | disk | map (s : Bool) | flt | pend | file (i : Nat) | con (s : Bool) (i : Nat)

inductive Chg where
  | create (name : List UInt8) (i : Nat)
  | remove (name : List UInt8)
  | write (i off : Nat) (data : List UInt8)
  | trunc (i size : Nat)

/-- A change in memory. F: the block of each file. -/
def Chg.cells (F : Nat → Nat) : Chg → List Value
  | .create n i => [.int .i64 0, .string (bz n), .pointer (some ⟨F i, 0, none⟩), .int .i64 0, .string (bz [])]
  | .remove n => [.int .i64 1, .string (bz n), .pointer none, .int .i64 0, .string (bz [])]
  | .write i o d => [.int .i64 2, .string (bz []), .pointer (some ⟨F i, 0, none⟩), .int .i64 o, .string (bz d)]
  | .trunc i z => [.int .i64 3, .string (bz []), .pointer (some ⟨F i, 0, none⟩), .int .i64 z, .string (bz [])]
def Chg.Ok (nf : Nat) : Chg → Prop
  | .create n i => i < nf ∧ n.length ≤ 1000000
  | .remove n => n.length ≤ 1000000
  | .write i o d => i < nf ∧ o + d.length ≤ 4000000
  | .trunc i z => i < nf ∧ z ≤ 4000000

structure DS where
  room : Nat
  dirs : Bool → List (List UInt8 × Nat)
  con : Bool → Nat → List UInt8
  nf : Nat
  pend : List Chg
  ops : Nat
  flt : Int → Int
  crash : Int
  down : Bool

structure Loc where
  b : Nat
  m : Bool → Option Nat
  fm : Option Nat
  pv : Value
  F : Nat → Nat
  V : Bool → Nat → Value

def upd {α : Type} (f : Bool → α) (s : Bool) (x : α) : Bool → α := fun t => if t = s then x else f t
def upd2 {α : Type} (f : Bool → Nat → α) (s : Bool) (i : Nat) (x : α) : Bool → Nat → α := fun t j => if t = s ∧ j = i then x else f t j
def updN {α : Type} (f : Nat → α) (i : Nat) (x : α) : Nat → α := fun j => if j = i then x else f j

def findL (l : List (List UInt8 × Nat)) (p : List UInt8) : Option Nat := (l.find? fun q => q.1 == p).map (·.2)
def insL (x : List UInt8 × Nat) : List (List UInt8 × Nat) → List (List UInt8 × Nat)
  | [] => [x]
  | y :: r => if bytesBefore x.1 y.1 then x :: y :: r else y :: insL x r
def delL (l : List (List UInt8 × Nat)) (p : List UInt8) : List (List UInt8 × Nat) := l.filter fun q => !(q.1 == p)
def putL (l : List (List UInt8 × Nat)) (p : List UInt8) (i : Nat) : List (List UInt8 × Nat) := insL (p, i) (delL l p)

/-- How a map's element, a pointer to a file, reads: as the number of its block. -/
def fileR : Value → Option (DataW Unit × List MemPlace)
  | .pointer none => some (.nil, [])
  | .pointer (some ⟨g, 0, none⟩) => some (.lit (.int .i64 g), [])
  | _ => none
def entL (F : Nat → Nat) (p : List UInt8 × Nat) : Lit × DataW Unit := (.string p.1, .lit (.int .i64 (F p.2)))
def fileD (F : Nat → Nat) (l : List (List UInt8 × Nat)) : DataW Unit := .map (l.map (entL F))

theorem fileD_ins (F : Nat → Nat) (x : List UInt8 × Nat) : ∀ l, DataW.insert (entL F x) (l.map (entL F)) = (insL x l).map (entL F)
  | [] => rfl
  | y :: r => by
    simp only [List.map_cons, DataW.insert, insL]
    have : (entL F x).1.before (entL F y).1 = bytesBefore x.1 y.1 := rfl
    rw [this]
    split
    · rfl
    · rw [fileD_ins F x r]; rfl
theorem fileD_del (F : Nat → Nat) (l : List (List UInt8 × Nat)) (p : List UInt8) : (fileD F l).del (.string p) = fileD F (delL l p) := by
  simp only [fileD, DataW.del, delL, List.filter_map]
  rfl
theorem fileD_put (F : Nat → Nat) (l : List (List UInt8 × Nat)) (p : List UInt8) (i : Nat) : (fileD F l).put (.string p) (.lit (.int .i64 (F i))) = fileD F (putL l p i) := by
  have := fileD_ins F (p, i) (delL l p)
  simp only [fileD, DataW.put, putL, delL] at *
  rw [← this, List.filter_map]
  rfl
theorem fileD_at (F : Nat → Nat) (l : List (List UInt8 × Nat)) (p : List UInt8) : (fileD F l).atKey (.string p) .nil = match findL l p with | none => .nil | some i => .lit (.int .i64 (F i)) := by
  simp only [fileD, DataW.atKey, List.find?_map, findL]
  have : ((fun p_1 : Lit × DataW Unit => p_1.1.sameKey (.string p)) ∘ entL F) = fun q => q.1 == p := rfl
  rw [this]
  cases l.find? (fun q => q.1 == p) <;> rfl
theorem fileD_size (F : Nat → Nat) (l : List (List UInt8 × Nat)) : Maps.size (fileD F l) = l.length := by simp [fileD, Maps.size]
theorem insL_len (x : List UInt8 × Nat) : ∀ l, (insL x l).length = l.length + 1
  | [] => rfl
  | y :: r => by
    unfold insL
    split
    · rfl
    · simp [insL_len x r]
theorem putL_len (l : List (List UInt8 × Nat)) (p : List UInt8) (i : Nat) : (putL l p i).length ≤ l.length + 1 := by
  rw [putL, insL_len]
  have := List.length_filter_le (fun q : List UInt8 × Nat => !(q.1 == p)) l
  unfold delL; omega
theorem delL_len (l : List (List UInt8 × Nat)) (p : List UInt8) : (delL l p).length ≤ l.length := List.length_filter_le _ _
theorem insL_mem {x q : List UInt8 × Nat} : ∀ {l}, q ∈ insL x l → q = x ∨ q ∈ l
  | [], h => by simpa [insL] using h
  | y :: r, h => by
    unfold insL at h
    split at h
    · simpa using h
    · rcases List.mem_cons.1 h with h | h
      · exact .inr (by simp [h])
      · rcases insL_mem h with h | h
        · exact .inl h
        · exact .inr (by simp [h])
theorem putL_mem {l : List (List UInt8 × Nat)} {p : List UInt8} {i : Nat} {q : List UInt8 × Nat} (h : q ∈ putL l p i) : q = (p, i) ∨ q ∈ l := by
  rcases insL_mem h with h | h
  · exact .inl h
  · exact .inr (List.mem_filter.1 h).1

/-- The map at a field: nil, or a block of this role that holds the list. -/
def MapI (ρ : Nat → Option Role) (F : Nat → Nat) (w : World) (m : Option Nat) (r : Role) (l : List (List UInt8 × Nat)) : Prop :=
  (m = none ∧ l = []) ∨ ∃ g, m = some g ∧ ρ g = some r ∧ w.ownsMap Tryz.prog 9 fileR g l.length (fileD F l)
/-- The faults. -/
def FltI (ρ : Nat → Option Role) (w : World) (m : Option Nat) (f : Int → Int) : Prop :=
  (m = none ∧ ∀ k, f k = 0) ∨ ∃ g n D, m = some g ∧ ρ g = some .flt ∧ w.ownsMap (H := Unit) Tryz.prog 3 (plainElem Tryz.prog 37) g n D ∧
    ∀ k, D.atKey (.int .i64 k) (.lit (.int .i64 0)) = .lit (.int .i64 (f k)) ∧ Maps.has D (.int .i64 k) = !(f k == 0)

structure Inv (L : Loc) (ρ : Nat → Option Role) (n : Nat) (S : DS) (w : World) : Prop where
  hb : ρ L.b = some .disk
  blk : Blk w L.b 59 #[.int .i64 S.room, .map (L.m false), .map (L.m true), L.pv, .int .i64 S.ops, .map L.fm, .int .i64 S.crash, .bool S.down]
  mp : ∀ s, MapI ρ L.F w (L.m s) (.map s) (S.dirs s)
  flt : FltI ρ w L.fm S.flt
  pnd : w.ownsRow 0 74 5 L.pv S.pend.length (S.pend.flatMap (Chg.cells L.F))
  pro : ∀ g, L.pv.ownBlock = some g → ρ g = some .pend
  fro : ∀ i, i < S.nf → ρ (L.F i) = some (.file i)
  fil : ∀ i, i < S.nf → Blk w (L.F i) 82 #[L.V false i, L.V true i]
  con : ∀ s i, i < S.nf → Bys w (L.V s i) (S.con s i)
  cro : ∀ s i g, i < S.nf → (L.V s i).ownBlock = some g → ρ g = some (.con s i)
  clen : ∀ s i, i < S.nf → (S.con s i).length ≤ 4000000
  dok : ∀ s p, p ∈ S.dirs s → p.2 < S.nf
  pok : ∀ c, c ∈ S.pend → c.Ok S.nf
  old : ∀ k, w.heap.size ≤ k → ρ k = none
  room : S.room ≤ 4000000
  bnd : S.pend.length ≤ n ∧ S.ops ≤ n ∧ (∀ s, (S.dirs s).length ≤ n) ∧ n ≤ 100000

/-- What a call may turn: blocks that play a part, and new ones. -/
structure Step (L : Loc) (ρ : Nat → Option Role) (w : World) (L' : Loc) (ρ' : Nat → Option Role) (w' : World) : Prop where
  os : w'.os = w.os
  tape : w'.tape = w.tape
  output : w'.output = w.output
  size : w.heap.size ≤ w'.heap.size
  blk : ∀ k, k < w.heap.size → ρ k = none → w'.heap[k]? = w.heap[k]?
  ro : ∀ k, k < w.heap.size → ρ' k = ρ k
  b : L'.b = L.b

theorem Step.refl (L : Loc) (ρ : Nat → Option Role) (w : World) : Step L ρ w L ρ w := ⟨rfl, rfl, rfl, Nat.le_refl _, fun _ _ _ => rfl, fun _ _ => rfl, rfl⟩
theorem Step.trans {L L' L'' : Loc} {ρ ρ' ρ'' : Nat → Option Role} {w w' w'' : World} (h : Step L ρ w L' ρ' w') (k : Step L' ρ' w' L'' ρ'' w'') : Step L ρ w L'' ρ'' w'' :=
  ⟨k.os.trans h.os, k.tape.trans h.tape, k.output.trans h.output, Nat.le_trans h.size k.size,
   fun i hi hn => (k.blk i (Nat.lt_of_lt_of_le hi h.size) (by rw [h.ro i hi]; exact hn)).trans (h.blk i hi hn),
   fun i hi => (k.ro i (Nat.lt_of_lt_of_le hi h.size)).trans (h.ro i hi), k.b.trans h.b⟩
/-- New blocks, and nothing else. -/
theorem Step.below {L : Loc} {ρ : Nat → Option Role} {w w' : World} (h : Below w.heap.size w w') : Step L ρ w L ρ w' :=
  ⟨h.os, h.tape, h.output, h.size, fun k hk _ => h.block k hk, fun _ _ => rfl, rfl⟩

variable {L : Loc} {ρ ρ' : Nat → Option Role} {n : Nat} {S : DS} {w w' : World}

/-! ### how the parts are carried -/
theorem mapI_keep {F : Nat → Nat} {m : Option Nat} {r : Role} {l : List (List UInt8 × Nat)} (h : MapI ρ F w m r l) (hk : ∀ g, ρ g = some r → w'.heap[g]? = w.heap[g]?) (hx : ∀ g r, ρ g = some r → ρ' g = some r) : MapI ρ' F w' m r l := by
  rcases h with h | ⟨g, rfl, hg, es, clock, hb, rest⟩
  · exact .inl h
  · exact .inr ⟨g, rfl, hx g _ hg, es, clock, (hk g hg).trans hb, rest⟩
theorem fltI_keep {m : Option Nat} {f : Int → Int} (h : FltI ρ w m f) (hk : ∀ g, ρ g = some .flt → w'.heap[g]? = w.heap[g]?) (hx : ∀ g r, ρ g = some r → ρ' g = some r) : FltI ρ' w' m f := by
  rcases h with h | ⟨g, n, D, rfl, hg, ⟨es, clock, hb, rest⟩, hf⟩
  · exact .inl h
  · exact .inr ⟨g, n, D, rfl, hx g _ hg, ⟨es, clock, (hk g hg).trans hb, rest⟩, hf⟩
theorem row_keep {e : TypeId} {size : Nat} {v : Value} {k : Nat} {xs : List Value} (h : w.ownsRow 0 e size v k xs) (hk : ∀ g, v.ownBlock = some g → w'.heap[g]? = w.heap[g]?) : w'.ownsRow 0 e size v k xs := by
  refine ⟨h.1, ?_⟩
  rcases h.2 with hn | ⟨g, cap, cur, rfl, hb, hgg, rest⟩
  · exact .inl hn
  · exact .inr ⟨g, cap, cur, rfl, hb, (hk g rfl).trans hgg, rest⟩
theorem mapI_F {F F' : Nat → Nat} {m : Option Nat} {r : Role} {l : List (List UInt8 × Nat)} (h : MapI ρ F w m r l) (hF : ∀ p, p ∈ l → F' p.2 = F p.2) : MapI ρ F' w m r l := by
  have e : fileD F' l = fileD F l := by
    unfold fileD
    congr 1
    exact List.map_congr_left fun p hp => by unfold entL; rw [hF p hp]
  unfold MapI at *
  rw [e]
  exact h

/-- New blocks that play no part, or a drawn order: all stays. -/
theorem Inv.heap (h : Inv L ρ n S w) (hk : ∀ g, ρ g ≠ none → w'.heap[g]? = w.heap[g]?) (hs : w.heap.size ≤ w'.heap.size) : Inv L ρ n S w' where
  hb := h.hb
  blk := (hk _ (by rw [h.hb]; simp)).trans h.blk
  mp s := mapI_keep (h.mp s) (fun g hg => hk g (by rw [hg]; simp)) (fun _ _ h => h)
  flt := fltI_keep h.flt (fun g hg => hk g (by rw [hg]; simp)) (fun _ _ h => h)
  pnd := row_keep h.pnd (fun g hg => hk g (by rw [h.pro g hg]; simp))
  pro := h.pro
  fro := h.fro
  fil i hi := (hk _ (by rw [h.fro i hi]; simp)).trans (h.fil i hi)
  con s i hi := row_keep (h.con s i hi) (fun g hg => hk g (by rw [h.cro s i g hi hg]; simp))
  cro := h.cro
  clen := h.clen
  dok := h.dok
  pok := h.pok
  old k hk' := h.old k (Nat.le_trans hs hk')
  room := h.room
  bnd := h.bnd
theorem Inv.lt (h : Inv L ρ n S w) {g : Nat} (hg : ρ g ≠ none) : g < w.heap.size := by
  rcases Nat.lt_or_ge g w.heap.size with h' | h'
  · exact h'
  · exact absurd (h.old g h') hg
theorem Inv.below (h : Inv L ρ n S w) (hb : Below w.heap.size w w') : Inv L ρ n S w' := h.heap (fun g hg => hb.block g (h.lt hg)) hb.size
theorem Inv.alloc (h : Inv L ρ n S w) (o : Obj) : Inv L ρ n S (w.alloc o) := h.below ((Below.refl _ _).alloc (Nat.le_refl _) _)
theorem Inv.drew (h : Inv L ρ n S w) : Inv L ρ n S w.drew := h.heap (fun _ _ => rfl) (Nat.le_refl _)
theorem Inv.mono {n' : Nat} (h : Inv L ρ n S w) (hn : n ≤ n') (hn' : n' ≤ 100000) : Inv L ρ n' S w := { h with bnd := ⟨Nat.le_trans h.bnd.1 hn, Nat.le_trans h.bnd.2.1 hn, fun s => Nat.le_trans (h.bnd.2.2.1 s) hn, hn'⟩ }
end Go.Proofs.YtkfncnpeockiaaaGreatDoor
