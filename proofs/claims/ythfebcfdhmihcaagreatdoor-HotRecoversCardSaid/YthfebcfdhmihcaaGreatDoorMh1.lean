/-
  Layer 7: apply for every change, and perform: a change becomes visible, and is pending behind those that already are. Condition: the change is one of this disk's, the sizes are those that the invariant holds.
  What the rows of statements without listed variables share: the last step of a row whose call leaves new blocks behind the heap.
  What the rows of layer 8's statements share: a header, a string and an int as an argument, opened to what the walks ask; an argument read again behind a call that leaves what was there.
  The library's own contracts (strings.Builder, strconv, math/bits, strings and their like), laid at this seat's numbers: for each library function that the seat calls, what it returns and what it leaves of the memory; conditions: those that each theorem states (sizes; the tables of strconv).
  Layer 7, laws on memory that no function of the project is named in: 'append(b, make([]byte, n)...)' on a slice of our own (with room, and grown), 'copy' of a string into it, 'clear' of a part; a frame that says which blocks may turn. Conditions: lengths far below what a machine bears.
  Layer 7: resize and overwrite: the contents of a file, cut or made longer by zero bytes, and with data at an offset: each leaves all blocks but the slice's own as they were. Conditions: lengths up to a thousand millions.
  A block of memory told by its cells, and how it is carried. Condition: none (definitions).
  Layer 7: what a disk is in memory: its block, the two maps from paths to files, the faults, the pending changes, the files with their two contents; each block has one part to play. Condition: none (definitions, and how they are carried).
  Layer 7: find, begin, used by every call: the file to which a path visibly refers; a counted call's number, its fault, its crash. Condition: none but the sizes that the invariant holds.
  Layer 7: begin at a disk that is up: a counted call's number, its fault, its crash. Condition: none but the sizes that the invariant holds.
  Layer 7: apply: a change in one of the two states: a path created or removed, a file's contents overwritten or resized; all other parts of the disk, and all other blocks, stay. Condition: the change is one of this disk's, the sizes are those that the invariant holds.
  Layer 7: apply at the contents of a file: overwritten, or resized; all other parts of the disk, and all other blocks, stay. Condition: the change is one of this disk's, the sizes are those that the invariant holds.
-/
import Derived.Test.YthfebcfdhmihcaaGreatDoorRows
import Derived.WalkKit
import Derived.ProofKit
import Derived.OpenShut
import Derived.Below
import Derived.ChangeSame
import Derived.Deep.Slices
import Derived.Carry
import Derived.SizedLaws
import Derived.ChangeMaps5
import Derived.Shelf.Strings.Builder1
import Derived.Shelf.Small.Bits
import Derived.Shelf.Small.Strs
import Derived.Shelf.Small.Wraps
import Derived.Shelf.Strings.BuilderF
import Derived.Shelf.Strings.BuilderK
import Derived.Shelf.Strconv.Itoa0
import Derived.Shelf.Strconv.Itoa1
import Derived.Shelf.LaysM
import Derived.Shelf.Strconv.Itoa2
import Derived.Shelf.Strconv.Itoa3
import Derived.Shelf.Strconv.Clone
import Derived.Shelf.Strings.Search1
import Derived.Shelf.Strings.LastIndex
import Derived.Shelf.Strings.LastIndexAll
import Derived.Shelf.Strings.Prefix
import Derived.Shelf.Strings.BuilderCap
import Derived.Shelf.Slices.Turned
import Derived.Ground.SlgmProg
import Derived.Shelf.SortM.Plain
import Derived.Shelf.SortM.SortNone
import Derived.Test.YthfebcfdhmihcaaGreatDoorProg
import Derived.Lib.Hide
import Derived.Laws.Rows
import Derived.Laws.CopyOwn
import Derived.Lib.AppendZerosOnto
import Derived.Lib.AppendStr
import Derived.Lib.UnsafeStr
import Derived.Maps.AppendAt
import Derived.Deep.OwnRows
import Derived.Deep.QuietTactic
import Derived.BigQuiet
import Derived.Handy
import Derived.OwnWalk
import Derived.KernelRfl
import Derived.Lib.MinMax
import Derived.Maps.OwnSet
import Derived.Maps.Ext
import Derived.Deep.Light
import Derived.StringKeys
import Derived.Deep.RegionHeld3
import Derived.Deep.RegionWith
import Derived.StillTailTactics
import Derived.Maps.RangeWalk
import Derived.Deep.RegionLaw
namespace Go.Proofs.YthfebcfdhmihcaaGreatDoor
open Go.ChangeShapes Go.WideShapes Go.ChangeAt Go.RowKit

section
variable {H : Type} {enc : TypeId × Value → H} {P : Program}
theorem post_below {f : Func} {s : ChangeSpec} {apart fresh handsOn again : Bool} {W W' : World} {args : Array Value} {v : Value} {ds gs : List (DataW H)} {before pa pv : List MemPlace}
    (hW : DataW.Whole enc P f.params.toList s.vars apart W args.toList ds gs before)
    (hres : ∀ (b : Nat) (sp : Nat → Bool) (hd : Bool), DataW.TrodAll enc P W' b sp hd f.resultTypes.toList (v.resultList f.resultTypes.size) (s.fn H (ds ++ gs)).results [])
    (hargs : ∀ sp : Nat → Bool, (∀ p ∈ before, sp p.block = true) → DataW.TrodAll enc P W' 0 sp true f.params.toList args.toList (s.fn H (ds ++ gs)).args pa)
    (hvars : ∀ sp : Nat → Bool, (∀ p ∈ before, sp p.block = true) → DataW.TrodVars enc P W' sp s.vars (s.fn H (ds ++ gs)).vars pv)
    (hps : before = pa ++ pv) (hb : Below W.heap.size W W')
    (hok : ∀ (j : Nat) (t : TypeId) (r : Value), f.resultTypes[j]? = some t → (v.resultList f.resultTypes.size)[j]? = some r → Value.okWide P W' .any 0 t r) :
    s.post enc P f apart fresh handsOn again W args v W' := by
  have hlt : ∀ p ∈ before, p.block < W.heap.size := fun p hp => hW.lt p hp
  have hold : ∀ p ∈ before, (fun b => decide (b < W.heap.size)) p.block = true := fun p hp => by simpa using hlt p hp
  refine ⟨ds, gs, before, [], pa, pv, hW, hres _ _ _, hargs _ hold, hvars _ hold, World.keptBut_mono (fun p hp => ⟨hp, ?_⟩) (hb.frame (· ∈ before)), fun _ => ?_⟩
  · rw [hps, List.mem_append] at hp
    exact Or.inr hp
  · obtain ⟨_, _, _, _, _, hz, hn⟩ := hW
    refine ⟨hok, _, _, ([] ++ pa) ++ pv, ⟨[] ++ pa, pv, trodAll_append (hargs _ (fun _ _ => rfl)) (hres _ _ _), hvars _ (fun _ _ => rfl), rfl, ?_, ?_⟩, ?_⟩
    · intro b off hp
      have hin : MemPlace.cell b off ∈ before := by rw [hps]; simpa using hp
      rw [hb.frozen (hlt _ hin)]
      exact hz b off hin
    · intro ha
      have := hn ha
      rw [hps] at this
      simpa using this
    · intro p hp _
      rw [hps]
      simpa using hp
end

theorem own : ownKnob Tryz.prog.godebug = none := by kernel_rfl
end Go.Proofs.YthfebcfdhmihcaaGreatDoor

namespace Go.Proofs.YthfebcfdhmihcaaGreatDoor
open Go.ChangeShapes Go.WideShapes Go.ChangeAt Go.RowKit Go.Deep

theorem laidOut : laidOutB Tryz.prog = true := by kernel_rfl
section
variable {H : Type} {enc : TypeId × Value → H} {W W' : World}
/-- An argument, read again. -/
theorem stay {t : TypeId} {v : Value} {d : DataW H} {p : List MemPlace} {sp : Nat → Bool} (hr : Tryz.prog.readableRec t = true) (hlt0 : t < Tryz.prog.types.size) (h : DataW.Trod enc Tryz.prog W 0 (fun _ => true) true t v d p) (hg : Below W.heap.size W W') (hlt : ∀ x ∈ p, x.block < W.heap.size) (hsp : ∀ x ∈ p, sp x.block = true) :
    DataW.Trod enc Tryz.prog W' 0 sp true t v d p := WideElems.Trod_stays laidOut hr hlt0 h (fun x hx => hg.same (hlt x hx)) hsp

/-- Each string and each slice of a datum takes at most 2^47 - 4096 bytes. -/
def Sz (t : TypeId) (d : DataW H) : Prop := ∀ n ∈ d.weights Tryz.prog t, n ≤ 140737488351232
theorem sz_each {ts : List TypeId} {ds : List (DataW H)} (h : (DataW.weightsEach Tryz.prog ts ds).all (· ≤ reachBytes) = true) (j : Nat) {t : TypeId} {d : DataW H} (ht : ts[j]? = some t) (hd : ds[j]? = some d) : Sz t d := by
  intro n hn
  have := List.all_eq_true.1 h n (DataW.weights_mem_each ht hd n hn)
  have e : reachBytes = 140737488351232 := by decide
  simpa [e] using this
theorem sz_str {t : TypeId} {l : List UInt8} (h : Sz t (.lit (.string l) : DataW H)) : l.length ≤ 140737488351232 := h _ (by simp [DataW.weights])
set_option maxRecDepth 100000 in
theorem open_str {b0 : Nat} {r : Reach} {base : Nat} {sp : Nat → Bool} {held : Bool} {v : Value} {d : DataW H} {p : List MemPlace} (hv : Value.okWide Tryz.prog W r b0 9 v) (h : DataW.Trod enc Tryz.prog W base sp held 9 v d p) (hz : Sz 9 d) :
    ∃ s : ByteArray, v = .string s ∧ s.size ≤ 140737488351232 := by
  obtain ⟨s, rfl, rfl, -⟩ := Go.ChangeMaps.open_string Tryz.underlying9 hv h
  exact ⟨s, rfl, by have := sz_str hz; simpa using this⟩
end
end Go.Proofs.YthfebcfdhmihcaaGreatDoor

namespace Go.Proofs
open Go.Shelf
def Tryz.lays169_ren : Go.Shelf.Ren := ⟨fun | 169 => 205 | n => n, fun | 70 => 265 | 9 => 9 | 0 => 0 | 72 => 267 | 37 => 100 | 127 => 189 | 3 => 3 | 5 => 5 | n => n, fun | n => n⟩
theorem Tryz.lays169 : Go.Proofs.Lays.n169 Tryz.prog Tryz.lays169_ren := {
  mixed := by kernel_rfl
  f169 := Tryz.func205.trans (congrArg some (by kernel_rfl))
  t0 := Tryz.underlying0
  a0 := Tryz.isAgg0
  z0 := Tryz.sizeOf0
  v0 := Tryz.zeroValue0
  t3 := Tryz.underlying3
  a3 := Tryz.isAgg3
  z3 := Tryz.sizeOf3
  v3 := Tryz.zeroValue3
  t9 := Tryz.underlying9
  a9 := Tryz.isAgg9
  z9 := Tryz.sizeOf9
  v9 := Tryz.zeroValue9
  t37 := Tryz.underlying100
  a37 := Tryz.isAgg100
  z37 := Tryz.sizeOf100
  v37 := Tryz.zeroValue100
  t70 := Tryz.underlying265
  a70 := Tryz.isAgg265
  z70 := Tryz.sizeOf265
  v70 := Tryz.zeroValue265
  t72 := Tryz.underlying267
  a72 := Tryz.isAgg267
  z72 := Tryz.sizeOf267
  v72 := Tryz.zeroValue267
  t127 := Tryz.underlying189
  a127 := Tryz.isAgg189
  z127 := Tryz.sizeOf189
  v127 := Tryz.zeroValue189 }
theorem Tryz.Builder_Extra_169 : Builder.Extra Tryz.prog Tryz.lays169_ren := {
  sizeBuilder := by kernel_rfl
  liesBuilder := by kernel_rfl
  t5 := Tryz.underlying5
  a5 := Tryz.isAgg5
  z5 := Tryz.sizeOf5
  v5 := Tryz.zeroValue5
  infoByte := by kernel_rfl
  cellsByte := by kernel_rfl
  sizeByte := by kernel_rfl
  neB5 := by decide }
def Tryz.lays137_ren : Go.Shelf.Ren := ⟨fun | 137 => 135 | 217 => 167 | 266 => 190 | n => n, fun | 9 => 9 | 5 => 5 | 3 => 3 | n => n, fun | n => n⟩
theorem Tryz.lays137 : Go.Proofs.Lays.n137 Tryz.prog Tryz.lays137_ren := {
  mixed := by kernel_rfl
  f137 := Tryz.func135.trans (congrArg some (by kernel_rfl))
  f217 := Tryz.func167.trans (congrArg some (by kernel_rfl))
  f266 := Tryz.func190.trans (congrArg some (by kernel_rfl))
  t3 := Tryz.underlying3
  a3 := Tryz.isAgg3
  z3 := Tryz.sizeOf3
  v3 := Tryz.zeroValue3
  t5 := Tryz.underlying5
  a5 := Tryz.isAgg5
  z5 := Tryz.sizeOf5
  v5 := Tryz.zeroValue5
  t9 := Tryz.underlying9
  a9 := Tryz.isAgg9
  z9 := Tryz.sizeOf9
  v9 := Tryz.zeroValue9 }
open Go.RowKit in
theorem Tryz.strings_IndexByte (s : ByteArray) (c : Int) (w : World) :
    Calls Tryz.prog 135 #[.string s, .int .u8 c] w fun e w' => e = .returned (.int .i64 (Lib.indexByte s.data.toList c.toNat.toUInt8)) ∧ w' = w := Any.strings_IndexByte Tryz.lays137 s c w
def Tryz.lays104_ren : Go.Shelf.Ren := ⟨fun | 104 => 76 | 211 => 113 | 207 => 143 | n => n, fun | 9 => 9 | 4 => 4 | 24 => 34 | 3 => 3 | n => n, fun | n => n⟩
theorem Tryz.lays104 : Go.Proofs.Lays.n104 Tryz.prog Tryz.lays104_ren := {
  mixed := by kernel_rfl
  f104 := Tryz.func76.trans (congrArg some (by kernel_rfl))
  f207 := Tryz.func143.trans (congrArg some (by kernel_rfl))
  f211 := Tryz.func113.trans (congrArg some (by kernel_rfl))
  t3 := Tryz.underlying3
  a3 := Tryz.isAgg3
  z3 := Tryz.sizeOf3
  v3 := Tryz.zeroValue3
  t4 := Tryz.underlying4
  a4 := Tryz.isAgg4
  z4 := Tryz.sizeOf4
  v4 := Tryz.zeroValue4
  t9 := Tryz.underlying9
  a9 := Tryz.isAgg9
  z9 := Tryz.sizeOf9
  v9 := Tryz.zeroValue9
  t24 := Tryz.underlying34
  a24 := Tryz.isAgg34
  z24 := Tryz.sizeOf34
  v24 := Tryz.zeroValue34 }
open Go.RowKit in
theorem Tryz.strings_CutSuffix (s p : ByteArray) (w : World) (hs : s.size ≤ 9223372036854775807) :
    Calls Tryz.prog 76 #[.string s, .string p] w fun e w' => e = .returned (.tuple #[.string ⟨(Lib.trimSuffix s.data.toList p.data.toList).toArray⟩, .bool (Lib.hasSuffix s.data.toList p.data.toList)]) ∧ w' = w := Any.strings_CutSuffix Tryz.lays104 s p w hs
open Go.RowKit in
theorem Tryz.Builder_String_any_k (B b : Nat) (l : List UInt8) (w : World) (h : Lib.IsBuilderF 267 5 B b (Lib.byteCells l) w) (hBw : B ≤ w.heap.size) :
    Calls Tryz.prog 205 #[.pointer (some ⟨b, 0, none⟩)] w fun e w' => e = .returned (.string ⟨l.toArray⟩) ∧ (Lib.IsBuilderF 267 5 B b (Lib.byteCells l) w' ∧ Below B w w' ∧ Lib.OthersKept 5 (some b) w w') := Any.Builder_String_any_k Tryz.lays169 Tryz.Builder_Extra_169 B b l w h hBw
def Tryz.laysM171_ren : Go.Shelf.Ren := ⟨fun | 171 => 77 | 243 => 114 | 246 => 144 | 283 => 175 | 284 => 176 | 285 => 177 | 286 => 178 | 129 => 166 | 317 => 198 | 318 => 199 | 319 => 200 | 320 => 201 | 337 => 213 | 338 => 214 | n => n, fun | 3 => 3 | 9 => 9 | 2 => 2 | 4 => 4 | 171 => 243 | 0 => 0 | 53 => 98 | 37 => 100 | 5 => 5 | 173 => 245 | 212 => 261 | 51 => 186 | 20 => 20 | 213 => 262 | 46 => 204 | 232 => 280 | 233 => 281 | n => n, fun | 17 => 3 | 18 => 4 | 19 => 5 | n => n⟩
theorem Tryz.laysM171 : Go.Proofs.LaysM.n171 Tryz.prog Tryz.laysM171_ren := {
  mixed := by kernel_rfl
  f129 := Tryz.func166.trans (congrArg some (by kernel_rfl))
  f171 := Tryz.func77.trans (congrArg some (by kernel_rfl))
  f243 := Tryz.func114.trans (congrArg some (by kernel_rfl))
  f246 := Tryz.func144.trans (congrArg some (by kernel_rfl))
  f283 := Tryz.func175.trans (congrArg some (by kernel_rfl))
  f284 := Tryz.func176.trans (congrArg some (by kernel_rfl))
  f285 := Tryz.func177.trans (congrArg some (by kernel_rfl))
  f286 := Tryz.func178.trans (congrArg some (by kernel_rfl))
  f317 := Tryz.func198.trans (congrArg some (by kernel_rfl))
  f318 := Tryz.func199.trans (congrArg some (by kernel_rfl))
  f319 := Tryz.func200.trans (congrArg some (by kernel_rfl))
  f320 := Tryz.func201.trans (congrArg some (by kernel_rfl))
  f337 := Tryz.func213.trans (congrArg some (by kernel_rfl))
  f338 := Tryz.func214.trans (congrArg some (by kernel_rfl))
  t0 := Tryz.underlying0
  a0 := Tryz.isAgg0
  z0 := Tryz.sizeOf0
  v0 := Tryz.zeroValue0
  t2 := Tryz.underlying2
  a2 := Tryz.isAgg2
  z2 := Tryz.sizeOf2
  v2 := Tryz.zeroValue2
  t3 := Tryz.underlying3
  a3 := Tryz.isAgg3
  z3 := Tryz.sizeOf3
  v3 := Tryz.zeroValue3
  t4 := Tryz.underlying4
  a4 := Tryz.isAgg4
  z4 := Tryz.sizeOf4
  v4 := Tryz.zeroValue4
  t5 := Tryz.underlying5
  a5 := Tryz.isAgg5
  z5 := Tryz.sizeOf5
  v5 := Tryz.zeroValue5
  t9 := Tryz.underlying9
  a9 := Tryz.isAgg9
  z9 := Tryz.sizeOf9
  v9 := Tryz.zeroValue9
  t20 := Tryz.underlying20
  a20 := Tryz.isAgg20
  z20 := Tryz.sizeOf20
  v20 := Tryz.zeroValue20
  t37 := Tryz.underlying100
  a37 := Tryz.isAgg100
  z37 := Tryz.sizeOf100
  v37 := Tryz.zeroValue100
  t46 := Tryz.underlying204
  a46 := Tryz.isAgg204
  z46 := Tryz.sizeOf204
  v46 := Tryz.zeroValue204
  t51 := Tryz.underlying186
  a51 := Tryz.isAgg186
  z51 := Tryz.sizeOf186
  v51 := Tryz.zeroValue186
  t53 := Tryz.underlying98
  a53 := Tryz.isAgg98
  z53 := Tryz.sizeOf98
  v53 := Tryz.zeroValue98
  t171 := Tryz.underlying243
  a171 := Tryz.isAgg243
  z171 := Tryz.sizeOf243
  v171 := Tryz.zeroValue243
  t173 := Tryz.underlying245
  a173 := Tryz.isAgg245
  z173 := Tryz.sizeOf245
  v173 := Tryz.zeroValue245
  t212 := Tryz.underlying261
  a212 := Tryz.isAgg261
  z212 := Tryz.sizeOf261
  v212 := Tryz.zeroValue261
  t213 := Tryz.underlying262
  a213 := Tryz.isAgg262
  z213 := Tryz.sizeOf262
  t232 := Tryz.underlying280
  a232 := Tryz.isAgg280
  z232 := Tryz.sizeOf280
  v232 := Tryz.zeroValue280
  t233 := Tryz.underlying281
  a233 := Tryz.isAgg281
  z233 := Tryz.sizeOf281
  v233 := Tryz.zeroValue281
  g17 := by kernel_rfl
  g18 := by kernel_rfl
  g19 := by kernel_rfl
  i0 := by kernel_rfl
  i2 := by kernel_rfl
  i3 := by kernel_rfl
  i4 := by kernel_rfl
  i5 := by kernel_rfl
  i9 := by kernel_rfl
  i20 := by kernel_rfl
  i37 := by kernel_rfl
  i46 := by kernel_rfl
  i51 := by kernel_rfl
  i53 := by kernel_rfl
  i171 := by kernel_rfl
  i173 := by kernel_rfl
  i212 := by kernel_rfl
  i232 := by kernel_rfl
  i233 := by kernel_rfl
  m17 := by kernel_rfl
  m18 := by kernel_rfl
  m19 := by kernel_rfl }
open Go.RowKit Go.Sort Go.Lib in
theorem Tryz.strconv_Itoa (n : Int) (h0 : -9223372036854775808 ≤ n) (h1 : n ≤ 9223372036854775807) (w : World) (htab : Lib.TabIs Tryz.prog w "internal/strconv.uint64pow10" .u64 Lib.pow10Tab) :
    Calls Tryz.prog 77 #[.int .i64 n] w fun e w' => e = .returned (.string ⟨(Lib.itoa n).toArray⟩) ∧ ∃ k os, w' = grow (w.drewN k) os := Any.strconv_Itoa Tryz.laysM171 n h0 h1 w htab
def Tryz.laysM316_ren : Go.Shelf.Ren := ⟨fun | 316 => 83 | n => n, fun | 9 => 9 | 3 => 3 | 4 => 4 | 37 => 100 | 0 => 0 | 127 => 189 | 5 => 5 | n => n, fun | n => n⟩
theorem Tryz.laysM316 : Go.Proofs.LaysM.n316 Tryz.prog Tryz.laysM316_ren := {
  mixed := by kernel_rfl
  f316 := Tryz.func83.trans (congrArg some (by kernel_rfl))
  t0 := Tryz.underlying0
  a0 := Tryz.isAgg0
  z0 := Tryz.sizeOf0
  v0 := Tryz.zeroValue0
  t3 := Tryz.underlying3
  a3 := Tryz.isAgg3
  z3 := Tryz.sizeOf3
  v3 := Tryz.zeroValue3
  t4 := Tryz.underlying4
  a4 := Tryz.isAgg4
  z4 := Tryz.sizeOf4
  v4 := Tryz.zeroValue4
  t9 := Tryz.underlying9
  a9 := Tryz.isAgg9
  z9 := Tryz.sizeOf9
  v9 := Tryz.zeroValue9
  t37 := Tryz.underlying100
  a37 := Tryz.isAgg100
  z37 := Tryz.sizeOf100
  v37 := Tryz.zeroValue100
  t127 := Tryz.underlying189
  a127 := Tryz.isAgg189
  z127 := Tryz.sizeOf189
  v127 := Tryz.zeroValue189
  t5 := Tryz.underlying5
  a5 := Tryz.isAgg5
  z5 := Tryz.sizeOf5
  v5 := Tryz.zeroValue5
  i0 := by kernel_rfl
  i3 := by kernel_rfl
  i4 := by kernel_rfl
  i5 := by kernel_rfl
  i9 := by kernel_rfl
  i37 := by kernel_rfl
  i127 := by kernel_rfl }
open Go.RowKit in
theorem Tryz.stringslite_Clone (s : ByteArray) (w : World) (hlim : s.size ≤ 281474976710656) :
    Calls Tryz.prog 83 #[.string s] w fun e w' => e = .returned (.string s) ∧ Below w.heap.size w w' := Any.stringslite_Clone Tryz.laysM316 s w hlim
def Tryz.lays148_ren : Go.Shelf.Ren := ⟨fun | 148 => 36 | 222 => 79 | 223 => 80 | 269 => 115 | n => n, fun | 9 => 9 | 3 => 3 | 4 => 4 | 5 => 5 | 146 => 187 | 51 => 186 | 46 => 204 | n => n, fun | n => n⟩
theorem Tryz.lays148 : Go.Proofs.Lays.n148 Tryz.prog Tryz.lays148_ren := {
  mixed := by kernel_rfl
  f148 := Tryz.func36.trans (congrArg some (by kernel_rfl))
  f222 := Tryz.func79.trans (congrArg some (by kernel_rfl))
  f223 := Tryz.func80.trans (congrArg some (by kernel_rfl))
  f269 := Tryz.func115.trans (congrArg some (by kernel_rfl))
  t3 := Tryz.underlying3
  a3 := Tryz.isAgg3
  z3 := Tryz.sizeOf3
  v3 := Tryz.zeroValue3
  t4 := Tryz.underlying4
  a4 := Tryz.isAgg4
  z4 := Tryz.sizeOf4
  v4 := Tryz.zeroValue4
  t5 := Tryz.underlying5
  a5 := Tryz.isAgg5
  z5 := Tryz.sizeOf5
  v5 := Tryz.zeroValue5
  t9 := Tryz.underlying9
  a9 := Tryz.isAgg9
  z9 := Tryz.sizeOf9
  v9 := Tryz.zeroValue9
  t46 := Tryz.underlying204
  a46 := Tryz.isAgg204
  z46 := Tryz.sizeOf204
  v46 := Tryz.zeroValue204
  t51 := Tryz.underlying186
  a51 := Tryz.isAgg186
  z51 := Tryz.sizeOf186
  v51 := Tryz.zeroValue186
  t146 := Tryz.underlying187
  a146 := Tryz.isAgg187
  z146 := Tryz.sizeOf187
  v146 := Tryz.zeroValue187 }
open Go.RowKit Go.Lib in
theorem Tryz.strings_LastIndex (s sub : ByteArray) (hs : s.size < 4611686018427387904) (w : World) :
    Calls Tryz.prog 36 #[.string s, .string sub] w fun e w' => e = .returned (.int .i64 (Lib.lastIndex s.data.toList sub.data.toList)) ∧ w' = w := Any.strings_LastIndex Tryz.lays148 s sub hs w
def Tryz.lays110_ren : Go.Shelf.Ren := ⟨fun | 110 => 155 | 109 => 183 | n => n, fun | 31 => 43 | 9 => 9 | 4 => 4 | 3 => 3 | 0 => 0 | n => n, fun | n => n⟩
theorem Tryz.lays110 : Go.Proofs.Lays.n110 Tryz.prog Tryz.lays110_ren := {
  mixed := by kernel_rfl
  f109 := Tryz.func183.trans (congrArg some (by kernel_rfl))
  f110 := Tryz.func155.trans (congrArg some (by kernel_rfl))
  t0 := Tryz.underlying0
  a0 := Tryz.isAgg0
  z0 := Tryz.sizeOf0
  v0 := Tryz.zeroValue0
  t3 := Tryz.underlying3
  a3 := Tryz.isAgg3
  z3 := Tryz.sizeOf3
  v3 := Tryz.zeroValue3
  t4 := Tryz.underlying4
  a4 := Tryz.isAgg4
  z4 := Tryz.sizeOf4
  v4 := Tryz.zeroValue4
  t9 := Tryz.underlying9
  a9 := Tryz.isAgg9
  z9 := Tryz.sizeOf9
  v9 := Tryz.zeroValue9
  t31 := Tryz.underlying43
  a31 := Tryz.isAgg43
  z31 := Tryz.sizeOf43
  v31 := Tryz.zeroValue43 }
open Go.Lib in
theorem Tryz.slices_Contains_string (b off n c : Nat) (zs : List ByteArray) (x : ByteArray) (w : World) (hz : n ≤ zs.length) (hbig : n ≤ 9223372036854775807) (hc : ∀ j, j < zs.length → w.cell? ⟨b, off + j, none⟩ = some (.string (zs.getD j ByteArray.empty))) :
    Calls Tryz.prog 155 #[.slice (some ⟨b, off, none⟩) n c, .string x] w fun e w' => e = .returned (.bool (Lib.containsS (zs.take n) x)) ∧ w' = w := Any.slices_Contains_string Tryz.lays110 b off n c zs x w hz hbig hc
open Go.Lib in
theorem Tryz.slices_Contains_string_empty (a : Option Addr) (c : Nat) (x : ByteArray) (w : World) :
    Calls Tryz.prog 155 #[.slice a 0 c, .string x] w fun e w' => e = .returned (.bool false) ∧ w' = w := Any.slices_Contains_string_empty Tryz.lays110 a c x w
def Tryz.laysSlM6_f99_ren : Go.Shelf.Ren := ⟨fun | 6 => 99 | 8 => 134 | 9 => 133 | 19 => 165 | 20 => 166 | 21 => 156 | 22 => 157 | 23 => 158 | 24 => 159 | 25 => 160 | 26 => 161 | 27 => 162 | 28 => 163 | 29 => 164 | 36 => 184 | 31 => 185 | 32 => 186 | 37 => 187 | 38 => 188 | 39 => 189 | 41 => 206 | n => n, fun | 27 => 43 | 29 => 9 | 3 => 3 | 32 => 204 | 26 => 43 | 0 => 0 | 44 => 186 | 46 => 98 | 4 => 4 | 36 => 231 | 35 => 230 | 41 => 128 | 5 => 5 | 9 => 9 | 53 => 249 | 57 => 253 | 63 => 270 | 64 => 271 | n => n, fun | n => n⟩
theorem Tryz.laysSlM6_f99 : Go.Proofs.SlLaysM.n6 Tryz.prog Tryz.laysSlM6_f99_ren := {
  mixed := by kernel_rfl
  f6 := ⟨Tryz.f99.name, by decide, Tryz.func99.trans (congrArg some (by kernel_rfl))⟩
  f8 := Tryz.func134.trans (congrArg some (by kernel_rfl))
  f9 := ⟨Tryz.f133.name, by decide, Tryz.func133.trans (congrArg some (by kernel_rfl))⟩
  f19 := Tryz.func165.trans (congrArg some (by kernel_rfl))
  f20 := Tryz.func166.trans (congrArg some (by kernel_rfl))
  f21 := ⟨Tryz.f156.name, by decide, Tryz.func156.trans (congrArg some (by kernel_rfl))⟩
  f22 := ⟨Tryz.f157.name, by decide, Tryz.func157.trans (congrArg some (by kernel_rfl))⟩
  f23 := ⟨Tryz.f158.name, by decide, Tryz.func158.trans (congrArg some (by kernel_rfl))⟩
  f24 := ⟨Tryz.f159.name, by decide, Tryz.func159.trans (congrArg some (by kernel_rfl))⟩
  f25 := ⟨Tryz.f160.name, by decide, Tryz.func160.trans (congrArg some (by kernel_rfl))⟩
  f26 := ⟨Tryz.f161.name, by decide, Tryz.func161.trans (congrArg some (by kernel_rfl))⟩
  f27 := ⟨Tryz.f162.name, by decide, Tryz.func162.trans (congrArg some (by kernel_rfl))⟩
  f28 := ⟨Tryz.f163.name, by decide, Tryz.func163.trans (congrArg some (by kernel_rfl))⟩
  f29 := ⟨Tryz.f164.name, by decide, Tryz.func164.trans (congrArg some (by kernel_rfl))⟩
  f31 := Tryz.func185.trans (congrArg some (by kernel_rfl))
  f32 := Tryz.func186.trans (congrArg some (by kernel_rfl))
  f36 := ⟨Tryz.f184.name, by decide, Tryz.func184.trans (congrArg some (by kernel_rfl))⟩
  f37 := ⟨Tryz.f187.name, by decide, Tryz.func187.trans (congrArg some (by kernel_rfl))⟩
  f38 := ⟨Tryz.f188.name, by decide, Tryz.func188.trans (congrArg some (by kernel_rfl))⟩
  f39 := ⟨Tryz.f189.name, by decide, Tryz.func189.trans (congrArg some (by kernel_rfl))⟩
  f41 := ⟨Tryz.f206.name, by decide, Tryz.func206.trans (congrArg some (by kernel_rfl))⟩
  t0 := Tryz.underlying0
  a0 := Tryz.isAgg0
  z0 := Tryz.sizeOf0
  v0 := Tryz.zeroValue0
  t3 := Tryz.underlying3
  a3 := Tryz.isAgg3
  z3 := Tryz.sizeOf3
  v3 := Tryz.zeroValue3
  t4 := Tryz.underlying4
  a4 := Tryz.isAgg4
  z4 := Tryz.sizeOf4
  v4 := Tryz.zeroValue4
  t5 := Tryz.underlying5
  a5 := Tryz.isAgg5
  z5 := Tryz.sizeOf5
  v5 := Tryz.zeroValue5
  t9 := Tryz.underlying9
  a9 := Tryz.isAgg9
  z9 := Tryz.sizeOf9
  v9 := Tryz.zeroValue9
  t26 := Tryz.underlying43
  a26 := Tryz.isAgg43
  z26 := Tryz.sizeOf43
  v26 := Tryz.zeroValue43
  t27 := Tryz.underlying43
  a27 := Tryz.isAgg43
  z27 := Tryz.sizeOf43
  v27 := Tryz.zeroValue43
  t29 := Tryz.underlying9
  a29 := Tryz.isAgg9
  z29 := Tryz.sizeOf9
  v29 := Tryz.zeroValue9
  t32 := Tryz.underlying204
  a32 := Tryz.isAgg204
  z32 := Tryz.sizeOf204
  v32 := Tryz.zeroValue204
  t35 := Tryz.underlying230
  a35 := Tryz.isAgg230
  z35 := Tryz.sizeOf230
  v35 := Tryz.zeroValue230
  t36 := Tryz.underlying231
  a36 := Tryz.isAgg231
  z36 := Tryz.sizeOf231
  v36 := Tryz.zeroValue231
  t41 := Tryz.underlying128
  a41 := Tryz.isAgg128
  z41 := Tryz.sizeOf128
  v41 := Tryz.zeroValue128
  t44 := Tryz.underlying186
  a44 := Tryz.isAgg186
  z44 := Tryz.sizeOf186
  v44 := Tryz.zeroValue186
  t46 := Tryz.underlying98
  a46 := Tryz.isAgg98
  z46 := Tryz.sizeOf98
  v46 := Tryz.zeroValue98
  t53 := Tryz.underlying249
  a53 := Tryz.isAgg249
  z53 := Tryz.sizeOf249
  v53 := Tryz.zeroValue249
  t57 := Tryz.underlying253
  a57 := Tryz.isAgg253
  z57 := Tryz.sizeOf253
  v57 := Tryz.zeroValue253
  t63 := Tryz.underlying270
  a63 := Tryz.isAgg270
  z63 := Tryz.sizeOf270
  v63 := Tryz.zeroValue270
  t64 := Tryz.underlying271
  a64 := Tryz.isAgg271
  z64 := Tryz.sizeOf271
  v64 := Tryz.zeroValue271 }
open Go.Sort Go.RowKit in
theorem Tryz.slices_Sort_string (blk off cap : Nat) (ss : List (List UInt8)) (w : World) (hH : Holds encStr w blk off ss.toArray) (hblk : blk < w.heap.size) (hsz : ss.length < 4611686018427387904) :
    Calls Tryz.prog 99 #[.slice (some ⟨blk, off, none⟩) ss.length cap] w fun e w' =>
      e = .returned (.tuple #[]) ∧ ∃ n os, w' = grow (putRow encStr (Sort.ahead w n) blk off (ss.mergeSort fun x y => decide (x ≤ y)).toArray) os := AnyM.slices_Sort_string Tryz.laysSlM6_f99 blk off cap ss w hH hblk hsz
open Go.RowKit Go.Sort in
theorem Tryz.slices_Sort_string_none (p : Option Addr) (cap : Nat) (w : World) :
    Calls Tryz.prog 99 #[.slice p 0 cap] w fun e w' => e = .returned (.tuple #[]) ∧ w' = w := AnyM.slices_Sort_string_none Tryz.laysSlM6_f99 p cap w
def Tryz.lays166_ren : Go.Shelf.Ren := ⟨fun | 166 => 204 | 240 => 215 | 276 => 218 | n => n, fun | 0 => 0 | 3 => 3 | 4 => 4 | 5 => 5 | 9 => 9 | 20 => 20 | 37 => 100 | 70 => 265 | 72 => 267 | 75 => 57 | 80 => 216 | 164 => 176 | n => n, fun | n => n⟩
theorem Tryz.lays166 : Go.Proofs.Lays.n166 Tryz.prog Tryz.lays166_ren := {
  mixed := by kernel_rfl
  f166 := Tryz.func204.trans (congrArg some (by kernel_rfl))
  f240 := Tryz.func215.trans (congrArg some (by kernel_rfl))
  f276 := Tryz.func218.trans (congrArg some (by kernel_rfl))
  t0 := Tryz.underlying0
  a0 := Tryz.isAgg0
  z0 := Tryz.sizeOf0
  v0 := Tryz.zeroValue0
  t3 := Tryz.underlying3
  a3 := Tryz.isAgg3
  z3 := Tryz.sizeOf3
  v3 := Tryz.zeroValue3
  t4 := Tryz.underlying4
  a4 := Tryz.isAgg4
  z4 := Tryz.sizeOf4
  v4 := Tryz.zeroValue4
  t9 := Tryz.underlying9
  a9 := Tryz.isAgg9
  z9 := Tryz.sizeOf9
  v9 := Tryz.zeroValue9
  t20 := Tryz.underlying20
  a20 := Tryz.isAgg20
  z20 := Tryz.sizeOf20
  v20 := Tryz.zeroValue20
  t37 := Tryz.underlying100
  a37 := Tryz.isAgg100
  z37 := Tryz.sizeOf100
  v37 := Tryz.zeroValue100
  t70 := Tryz.underlying265
  a70 := Tryz.isAgg265
  z70 := Tryz.sizeOf265
  v70 := Tryz.zeroValue265
  t72 := Tryz.underlying267
  a72 := Tryz.isAgg267
  z72 := Tryz.sizeOf267
  v72 := Tryz.zeroValue267
  t75 := Tryz.underlying57
  a75 := Tryz.isAgg57
  z75 := Tryz.sizeOf57
  v75 := Tryz.zeroValue57
  t164 := Tryz.underlying176
  a164 := Tryz.isAgg176
  z164 := Tryz.sizeOf176
  v164 := Tryz.zeroValue176 }
theorem Tryz.Builder_Extra_166 : Builder.Extra Tryz.prog Tryz.lays166_ren := {
  sizeBuilder := by kernel_rfl
  liesBuilder := by kernel_rfl
  t5 := Tryz.underlying5
  a5 := Tryz.isAgg5
  z5 := Tryz.sizeOf5
  v5 := Tryz.zeroValue5
  infoByte := by kernel_rfl
  cellsByte := by kernel_rfl
  sizeByte := by kernel_rfl
  neB5 := by decide }
open Go.RowKit in
theorem Tryz.Builder_WriteString_k (B b : Nat) (bs : List Value) (s : ByteArray) (w : World) (h : Lib.IsBuilderF 267 5 B b bs w) (hlen : bs.length + s.size ≤ 140737488355328) (hBw : B ≤ w.heap.size) :
    Calls Tryz.prog 204 #[.pointer (some ⟨b, 0, none⟩), .string s] w fun e w' => e = .returned (.tuple #[.int .i64 s.size, .nilIface]) ∧ (Lib.BuilderAtF 267 5 B b (.pointer (some ⟨b, 0, none⟩)) (bs ++ Lib.strCells s) w' ∧ Below B w w' ∧ Lib.OthersKept 5 (some b) w w') := Any.Builder_WriteString_k Tryz.lays166 Tryz.Builder_Extra_166 B b bs s w h hlen hBw
end Go.Proofs

namespace Go.Proofs.YthfebcfdhmihcaaGreatDoor
open Go.RowKit

theorem zeroCells_one (m : Nat) (v : Value) : Builtin.zeroCells #[v] m = (List.replicate m v).toArray := by
  apply Array.ext
  · simp [Builtin.zeroCells]
  · intro i h1 h2
    simp [Builtin.zeroCells, Nat.mod_one]

theorem run_append_zeros_own {P : Program} (w : World) (base : Nat) (t tn ty e : TypeId) (i : TypeInfo) (ht : P.underlying t = some (.slice e)) (htn : P.underlying tn = some (.int .i64)) (hi : P.info? e = some i) (hz : i.zero = some (.int .u8 0)) (hsz : i.size = 1) (hby : i.bytes = 1)
    (v : Value) (n : Nat) (xs : List Value) (hown : w.ownsRow base e 1 v n xs) (m : Nat) (hm : n + m ≤ 1000000000) (hbase : base ≤ w.heap.size) :
    ∃ v' w', (Builtin.append_ #[t, tn] ty #[v, .int .i64 m]).run P w = .ok v' w' ∧ w'.ownsRow base e 1 v' (n + m) (xs ++ List.replicate m (.int .u8 0)) ∧ w.grownBy w' v.ownBlock ∧ (v'.ownBlock = v.ownBlock ∨ v'.ownBlock = some w.heap.size) := by
  have h63 : n + m ≤ maxLen := by unfold maxLen; omega
  have hl0 := hown.1
  have hlen : (xs ++ List.replicate m (Value.int .u8 0)).length = (n + m) * 1 := by simp [hl0]
  have hw : IntKind.i64.wrap (m : Int) = m := by rw [IntKind.wrap_i64]; omega
  have hw0 : IntKind.i64.wrap 0 = 0 := by decide
  have hneg : ¬ ((m : Int) < 0) := by omega
  have hbig : ¬ (281474976710656 < (m : Int)) := by omega
  have hnxt : ∀ old, old < n + m → Builtin.nextslicecap (n + m) old * i.bytes ≤ 281474976710656 := fun old ho => growslice_fits ho (by rw [hby]; omega)
  have grown : ∀ (old : Nat) (row : Option Nat), old < n + m →
      (w.drew.alloc (.cells (xs.toArray ++ Builtin.zeroCells #[.int .u8 0] m ++ Builtin.zeroCells #[.int .u8 0] (grownCap w (n + m) old e - (n + m))) e)).ownsRow base e 1
        (.slice (some ⟨w.heap.size, 0, none⟩) (n + m) (grownCap w (n + m) old e)) (n + m) (xs ++ List.replicate m (.int .u8 0)) ∧
      w.grownBy (w.drew.alloc (.cells (xs.toArray ++ Builtin.zeroCells #[.int .u8 0] m ++ Builtin.zeroCells #[.int .u8 0] (grownCap w (n + m) old e - (n + m))) e)) row := by
    intro old row ho
    have hge := grownCap_ge w (n + m) old e
    have hcm : grownCap w (n + m) old e ≤ maxLen := grownCap_le_maxLen w (n + m) old e h63
    refine ⟨⟨hlen, .inr ⟨w.heap.size, _, _, rfl, hbase, heap_alloc_new w.drew _, hge, hcm, ?_, ?_⟩⟩, ⟨rfl, rfl, rfl, by simp, fun k hk _ => heap_alloc_old w.drew _ hk⟩⟩
    · simp only [zeroCells_one, Array.size_append, List.size_toArray, List.length_replicate, hl0]; omega
    · simp only [zeroCells_one, Array.toList_append, List.append_assoc]
      rw [← List.append_assoc, ← hlen]
      exact List.take_left
  rcases hown.2 with ⟨rfl, rfl⟩ | ⟨g, cap, cur, rfl, hbg, hg, hnc, hcm, hcs, htake⟩
  · have hx : xs = [] := List.eq_nil_of_length_eq_zero (by simpa using hl0)
    subst hx
    by_cases hm0 : m = 0
    · subst hm0
      refine ⟨.slice none 0 0, w, ?_, by simpa using World.ownsRow_nil w base e 1, ⟨rfl, rfl, rfl, Nat.le_refl _, fun _ _ _ => rfl⟩, Or.inl rfl⟩
      simp [Builtin.append_, run_underlying ht, run_underlying htn, sizeOf, typeInfo, hi, asInt, asIntOf, hw0]
    · have hr := Lib.run_append_nil_zeros (P := P) w t tn ty e i (.int .u8 0) .i64 .i64 ht htn hi hz m (by omega) (by omega) (by omega) (by rw [hby]; omega)
      have hgr := grown 0 (Value.ownBlock (.slice none 0 0)) (by omega)
      simp only [Nat.zero_add, List.nil_append, Array.empty_append] at hgr ⊢
      exact ⟨_, _, hr, hgr.1, hgr.2, Or.inr rfl⟩
  · by_cases hroom : n + m ≤ cap
    · have hcs' : cur.size = cap := by omega
      have hst := run_storeCells_at P g n e (List.replicate m (Value.int .u8 0)) 0 cur w hg (by simp; omega) (by intro x hx; rw [List.eq_of_mem_replicate hx]; rfl)
      simp only [Nat.add_zero, List.length_replicate] at hst
      refine ⟨.slice (some ⟨g, 0, none⟩) (n + m) cap, w.setRow g (cur.toList.take n ++ List.replicate m (Value.int .u8 0) ++ cur.toList.drop (n + m)).toArray, ?_, ⟨hlen, .inr ⟨g, cap, _, rfl, hbg, setRow_heap w g cur _ e _ hg, hroom, hcm, ?_, ?_⟩⟩, ⟨rfl, rfl, rfl, by simp, fun k _ hk => setRow_other w g k _ (fun e => hk (by simp [Value.ownBlock, e]))⟩, Or.inl rfl⟩
      · by_cases hm0 : m = 0
        · subst hm0
          have e1 := setRow_self w g cur e (0, 0) hg
          simp [Builtin.append_, run_underlying ht, run_underlying htn, sizeOf, typeInfo, hi, asInt, asIntOf, hnc, storeCells, e1, hw0]
        · have hns : ¬ (m * i.size = 0) := Nat.mul_ne_zero hm0 (by omega)
          simp [Builtin.append_, run_underlying ht, run_underlying htn, sizeOf, typeInfo, zeroValue, hi, hz, hsz, hby, asInt, asIntOf, hw, hneg, hbig, hroom, Addr.add_lit, hm0, zeroCells_one, Value.cells, hst]
      · simp; omega
      · rw [Nat.mul_one] at htake
        rw [htake, ← hlen]
        exact List.take_left
    · have holds : ∀ j u, xs[j]? = some u → w.cell? ((⟨g, 0, none⟩ : Addr).add j) = some u := hown.cells (g := g) rfl
      have hf := run_firstCells_some (P := P) w.drew i.size n ⟨g, 0, none⟩ n cap xs (by rw [hsz]; exact hl0) (fun j u hj => holds j u hj)
      have hr := Lib.run_append_grow_zeros (P := P) w t tn ty e i (.int .u8 0) .i64 .i64 ht htn hi hz (some ⟨g, 0, none⟩) n cap xs hf m (by omega) (by omega) (by omega) (by omega) (by rw [hby]; omega) (hnxt cap (by omega))
      have hgr := grown cap (Value.ownBlock (.slice (some ⟨g, 0, none⟩) n cap)) (by omega)
      exact ⟨_, _, hr, hgr.1, hgr.2, Or.inr rfl⟩

/-- copy(b[off:], s) where there is room for all of s. -/
theorem run_copy_string {P : Program} (w : World) (dT sT ty elem : TypeId) (g o dLen dCap : Nat) (s : ByteArray) (cur : Array Value) (t : TypeId)
    (hu : P.underlying dT = some (.slice elem)) (hs : (P.info? elem).map (·.size) = some 1) (hg : w.heap[g]? = some (.cells cur t (0, 0))) (hn : s.size ≤ dLen) (hfit : o + s.size ≤ cur.size) :
    (Builtin.copy_ #[dT, sT] ty #[.slice (some ⟨g, o, none⟩) dLen dCap, .string s]).run P w =
      .ok (goInt s.size) (w.setRow g (cur.toList.take o ++ (Lib.strCells s ++ cur.toList.drop (o + s.size))).toArray) := by
  have hst := run_storeCells_at P g o t (Lib.strCells s) 0 cur w hg (by rw [Lib.strCells_length]; simpa using hfit) (by intro v hv; simp only [Lib.strCells, List.mem_map] at hv; obtain ⟨b, _, rfl⟩ := hv; rfl)
  simp only [Nat.add_zero, Lib.strCells_length, List.append_assoc] at hst
  have hm : min s.size dLen = s.size := Nat.min_eq_left hn
  have hm' : Nat.min s.size dLen = s.size := hm
  have hx : (s.data.map fun b => Value.int .u8 b.toNat) = (Lib.strCells s).toArray := by apply Array.ext'; simp [Lib.strCells]
  cases hq : P.info? elem with
  | none => simp [hq] at hs
  | some i =>
    have hf : (Builtin.firstCells i.size s.size (.string s)).run P w = .ok (Lib.strCells s).toArray w := by
      simp [Builtin.firstCells, hx]
    have hf' : (Builtin.firstCells i.size (Nat.min s.size dLen) (.string s)).run P w = .ok (Lib.strCells s).toArray w := by rw [hm']; exact hf
    have hst' : (storeCells ⟨g, o, none⟩ (Lib.strCells s)).run P w = .ok () (w.setRow g (cur.toList.take o ++ (Lib.strCells s ++ cur.toList.drop (o + s.size))).toArray) := hst
    have hgo : goInt (Nat.min s.size dLen) = goInt s.size := by rw [hm']
    clear hx hst hf hm hm'
    simp [Builtin.copy_, run_underlying hu, Builtin.lenOf, sizeOf, typeInfo, hq, hf', hst', hgo]
end Go.Proofs.YthfebcfdhmihcaaGreatDoor

namespace Go.Proofs.YthfebcfdhmihcaaGreatDoor
open Go.RowKit

/-- The slice v holds these bytes, in a block of its own. -/
def Bys (w : World) (v : Value) (l : List UInt8) : Prop := w.ownsRow 0 5 1 v l.length (Lib.byteCells l)
def resizeL (l : List UInt8) (n : Nat) : List UInt8 := if n ≤ l.length then l.take n else l ++ List.replicate (n - l.length) 0
def overL (l : List UInt8) (at_ : Nat) (d : List UInt8) : List UInt8 := if d = [] then l else (resizeL l (max l.length (at_ + d.length))).take at_ ++ (d ++ (resizeL l (max l.length (at_ + d.length))).drop (at_ + d.length))
theorem resizeL_len (l : List UInt8) (n : Nat) : (resizeL l n).length = n := by unfold resizeL; split <;> simp <;> omega
theorem overL_len (l : List UInt8) (a : Nat) (d : List UInt8) : (overL l a d).length = if d = [] then l.length else max l.length (a + d.length) := by
  unfold overL
  split
  · rfl
  · simp only [List.length_append, List.length_take, List.length_drop, resizeL_len]; omega
theorem byteCells_app7 (a b : List UInt8) : Lib.byteCells (a ++ b) = Lib.byteCells a ++ Lib.byteCells b := by simp [Lib.byteCells]
theorem byteCells_rep (n : Nat) : Lib.byteCells (List.replicate n 0) = List.replicate n (.int .u8 0) := by simp [Lib.byteCells]
theorem byteCells_take (l : List UInt8) (n : Nat) : Lib.byteCells (l.take n) = (Lib.byteCells l).take n := by simp [Lib.byteCells, List.map_take]
theorem byteCells_drop (l : List UInt8) (n : Nat) : Lib.byteCells (l.drop n) = (Lib.byteCells l).drop n := by simp [Lib.byteCells, List.map_drop]

theorem bys_cases {w : World} {v : Value} {l : List UInt8} (h : Bys w v l) : (v = .slice none 0 0 ∧ l = []) ∨ ∃ g cap cur, v = .slice (some ⟨g, 0, none⟩) l.length cap ∧ w.heap[g]? = some (.cells cur 5 (0, 0)) ∧ l.length ≤ cap ∧ cap ≤ maxLen ∧ cur.size = cap ∧ cur.toList.take l.length = Lib.byteCells l := by
  rcases h.2 with ⟨rfl, h0⟩ | ⟨g, cap, cur, rfl, _, hg, h1, h2, h3, h4⟩
  · exact .inl ⟨rfl, List.eq_nil_of_length_eq_zero h0⟩
  · exact .inr ⟨g, cap, cur, rfl, hg, h1, h2, by omega, by simpa using h4⟩
theorem bys_mk {w : World} {l : List UInt8} {g cap : Nat} {cur : Array Value} (hg : w.heap[g]? = some (.cells cur 5 (0, 0))) (h1 : l.length ≤ cap) (h2 : cap ≤ maxLen) (h3 : cur.size = cap) (h4 : cur.toList.take l.length = Lib.byteCells l) : Bys w (.slice (some ⟨g, 0, none⟩) l.length cap) l :=
  ⟨by simp [Lib.byteCells], .inr ⟨g, cap, cur, rfl, Nat.zero_le _, hg, h1, h2, by omega, by simpa using h4⟩⟩

theorem bys_at {w : World} {v : Value} {l : List UInt8} {n : Nat} (h : Bys w v l) (hn : l.length = n) (hp : 0 < n) : ∃ g cap cur, v = .slice (some ⟨g, 0, none⟩) n cap ∧ n ≤ cap ∧ Hid (w.heap[g]? = some (.cells cur 5 (0, 0))) ∧ Hid (cap ≤ maxLen) ∧ cur.size = cap ∧ Hid (cur.toList.take l.length = Lib.byteCells l) := by
  rcases bys_cases h with ⟨rfl, rfl⟩ | ⟨g, cap, cur, rfl, hg, h1, h2, h3, h4⟩
  · simp at hn; omega
  · subst hn; exact ⟨g, cap, cur, rfl, h1, Lib.hid hg, Lib.hid h2, h3, Lib.hid h4⟩
theorem bys_slice {w : World} {v : Value} {l : List UInt8} (h : Bys w v l) : ∃ a cap, v = .slice a l.length cap ∧ l.length ≤ cap := by
  rcases bys_cases h with ⟨rfl, rfl⟩ | ⟨g, cap, cur, rfl, _, h1, _⟩
  · exact ⟨none, 0, rfl, Nat.le_refl _⟩
  · exact ⟨_, cap, rfl, h1⟩

theorem u8_info : (Tryz.prog.info? 5).map (fun i => (i.zero, i.size, i.bytes)) = some (some (.int .u8 0), 1, 1) := by kernel_rfl
theorem u8_size : (Tryz.prog.info? 5).map (·.size) = some 1 := by kernel_rfl
theorem grown_refl (w : World) (r : Option Nat) : w.grownBy w r := ⟨rfl, rfl, rfl, Nat.le_refl _, fun _ _ _ => rfl⟩

theorem grown_then {a b c : World} {row row' : Option Nat} (h : a.grownBy b row) (k : b.grownBy c row') (hr : ∀ j, row' = some j → a.heap.size ≤ j ∨ row = some j) : a.grownBy c row :=
  ⟨k.os.trans h.os, k.tape.trans h.tape, k.output.trans h.output, Nat.le_trans h.size k.size, fun i hi hne => (k.block i (Nat.lt_of_lt_of_le hi h.size) (fun e => (hr i e.symm).elim (fun h' => absurd hi (Nat.not_lt.2 h')) (fun h' => hne h'.symm))).trans (h.block i hi hne)⟩
theorem resize_any (v : Value) (l : List UInt8) (n : Nat) (w : World) (h : Bys w v l) (hl : l.length ≤ 1000000000) (hn : n ≤ 1000000000) :
    Calls Tryz.prog 131 #[v, .int .i64 n] w fun e w' => ∃ v', e = .returned v' ∧ Bys w' v' (resizeL l n) ∧ w.grownBy w' v.ownBlock ∧ (v'.ownBlock = v.ownBlock ∨ v'.ownBlock = some w.heap.size) := by
  by_cases hle : n ≤ l.length
  · have HR := Lib.hid (show resizeL l n = l.take n by rw [resizeL, if_pos hle])
    rcases bys_cases h with ⟨rfl, rfl⟩ | ⟨g, cap, cur, rfl, hg, h1, h2, h3, h4⟩
    · obtain rfl : n = 0 := by simpa using hle
      have H := Lib.hid h; clear h
      go_enter Tryz.func131, Tryz.ntmps131
      go_wp2
      go_ret
      exact ⟨_, rfl, by rw [HR.out]; exact H.out, grown_refl _ _, .inl rfl⟩
    · have HG := Lib.hid hg; have H4 := Lib.hid h4; have H2 := Lib.hid h2; have H3 := Lib.hid h3; clear hg h4 h h2 h3
      have hnc : n ≤ cap := by omega
      go_enter Tryz.func131, Tryz.ntmps131
      go_wp2
      go_ret
      refine ⟨_, rfl, ?_, grown_refl _ _, .inl rfl⟩
      rw [HR.out]
      have := bys_mk (w := w) (l := l.take n) HG.out (by simp; omega) H2.out H3.out (by rw [byteCells_take, ← H4.out, List.take_take]; congr 1; simp)
      simpa [Nat.min_eq_left hle] using this
  · obtain ⟨i, hi, hz⟩ : ∃ i, Tryz.prog.info? 5 = some i ∧ (i.zero = some (.int .u8 0) ∧ i.size = 1 ∧ i.bytes = 1) := by
      have := u8_info
      cases hq : Tryz.prog.info? 5 with
      | none => rw [hq] at this; simp at this
      | some i => rw [hq] at this; simp at this; exact ⟨i, rfl, this⟩
    have HR := Lib.hid (show resizeL l n = l ++ List.replicate (n - l.length) 0 by rw [resizeL, if_neg hle])
    obtain ⟨v', w', hr, h2, h3, h4⟩ := run_append_zeros_own (P := Tryz.prog) w 0 100 3 100 5 i (by kernel_rfl) (by kernel_rfl) hi hz.1 hz.2.1 hz.2.2 v l.length _ h (n - l.length) (by omega) (Nat.zero_le _)
    obtain ⟨a, cap, rfl, hc⟩ := bys_slice h
    obtain ⟨m, hm⟩ : ∃ m, m = n - l.length := ⟨_, rfl⟩
    rw [← hm] at hr h2
    obtain ⟨k, hk⟩ : ∃ k, k = l.length := ⟨_, rfl⟩
    rw [← hk] at h2 hr hc hle hl h3 h4
    have hnk : n = k + m := by omega
    have HM := Lib.hid hm; have HK := Lib.hid hk
    clear hm hk
    have H2 := Lib.hid h2; have H3 := Lib.hid h3; have H4 := Lib.hid h4; have HRun := Lib.hid hr
    clear h2 h3 h4 h hr hi hz
    rw [← HK.out]
    have e1 : (n : Int) - (k : Int) = (m : Int) := by omega
    have hnle : ¬ ((n : Int) ≤ (k : Int)) := by omega
    have HN := Lib.hid hnk
    clear hle hnk
    go_enter Tryz.func131, Tryz.ntmps131
    go_wp2_with (at_builtin; refine Lib.wpList_append_run _ rfl _ _ _ _ rfl _ _ rfl rfl v' w' HRun.out ?_)
    go_ret
    refine ⟨v', rfl, ?_, H3.out, H4.out⟩
    rw [HR.out, ← HM.out]
    have := H2.out
    unfold Bys
    rw [byteCells_app7, byteCells_rep, List.length_append, List.length_replicate, ← HK.out]
    exact this

theorem setRow_grown (w : World) (g : Nat) (cs : Array Value) : w.grownBy (w.setRow g cs) (some g) := ⟨rfl, rfl, rfl, by simp, fun k _ hk => setRow_other w g k _ (fun e => hk (by rw [e]))⟩
theorem bys_over {w : World} {l : List UInt8} {g cap a : Nat} {cur : Array Value} (hg : w.heap[g]? = some (.cells cur 5 (0, 0))) (h1 : l.length ≤ cap) (h2 : cap ≤ maxLen) (h3 : cur.size = cap) (h4 : cur.toList.take l.length = Lib.byteCells l) (d : ByteArray) (hd : a + d.size ≤ l.length) :
    Bys (w.setRow g (cur.toList.take a ++ (Lib.strCells d ++ cur.toList.drop (a + d.size))).toArray) (.slice (some ⟨g, 0, none⟩) l.length cap) (l.take a ++ (d.data.toList ++ l.drop (a + d.size))) := by
  have hdl : d.data.toList.length = d.size := Array.length_toList
  have hll : (l.take a ++ (d.data.toList ++ l.drop (a + d.size))).length = l.length := by simp only [List.length_append, List.length_take, List.length_drop, hdl]; omega
  have := bys_mk (l := l.take a ++ (d.data.toList ++ l.drop (a + d.size))) (cap := cap) (setRow_heap w g cur (cur.toList.take a ++ (Lib.strCells d ++ cur.toList.drop (a + d.size))).toArray 5 _ hg) (by rw [hll]; exact h1) h2 (by simp [Lib.strCells_length]; omega) (by
    rw [hll, byteCells_app7, byteCells_app7, byteCells_take, byteCells_drop, ← h4]
    have hs : Lib.byteCells d.data.toList = Lib.strCells d := rfl
    rw [hs]
    simp only [List.take_append, List.length_take, Lib.strCells_length, Array.length_toList, List.take_take, List.drop_take]
    rw [List.take_of_length_le (l := Lib.strCells d) (by rw [Lib.strCells_length]; omega)]
    congr 1
    · congr 1; omega
    · congr 1
      congr 1
      omega)
  rw [hll] at this
  exact this

set_option maxHeartbeats 1000000 in
set_option maxRecDepth 20000 in
theorem overwrite_any (v : Value) (l : List UInt8) (a : Nat) (d : ByteArray) (w : World) (h : Bys w v l) (hl : l.length ≤ 100000000) (ha : a + d.size ≤ 100000000) :
    Calls Tryz.prog 130 #[v, .int .i64 a, .string d] w fun e w' => ∃ v', e = .returned v' ∧ Bys w' v' (overL l a d.data.toList) ∧ w.grownBy w' v.ownBlock ∧ (v'.ownBlock = v.ownBlock ∨ v'.ownBlock = some w.heap.size) := by
  have hdl : d.data.toList.length = d.size := Array.length_toList
  by_cases h0 : d = ⟨#[]⟩
  · subst h0
    have HR := Lib.hid (show overL l a (ByteArray.mk #[]).data.toList = l by rw [overL, if_pos rfl])
    have H := Lib.hid h; clear h hdl
    go_enter Tryz.func130, Tryz.ntmps130
    go_wp2
    go_ret
    exact ⟨_, rfl, by rw [HR.out]; exact H.out, grown_refl _ _, .inl rfl⟩
  · have hd0 : d.data.toList ≠ [] := fun e => h0 (by obtain ⟨⟨x⟩⟩ := d; simp at e; rw [e])
    have hpos : 0 < d.size := by rw [← hdl]; exact List.length_pos_iff.2 hd0
    obtain ⟨M, hM⟩ : ∃ M, M = max l.length (a + d.size) := ⟨_, rfl⟩
    have hMb : a + d.size ≤ M ∧ l.length ≤ M ∧ M ≤ 100000000 := by omega
    have HO := Lib.hid (show overL l a d.data.toList = (resizeL l M).take a ++ (d.data.toList ++ (resizeL l M).drop (a + d.size)) by rw [overL, if_neg hd0, hdl, ← hM])
    have hc := resize_any v l M w h (by omega) (by omega)
    have HC := Lib.hid hc
    obtain ⟨al, cap0, rfl, hc0⟩ := bys_slice h
    obtain ⟨k, hk⟩ : ∃ k, k = l.length := ⟨_, rfl⟩
    rw [← hk] at hc0 hMb hl hM
    have HK := Lib.hid hk; have HM := Lib.hid hM
    rw [← hk]
    rw [← hk] at HC
    have hmax : max (k : Int) ((a : Int) + (d.size : Int)) = (M : Int) := by rw [hM]; omega
    clear hc h hk hM hd0 hdl
    obtain ⟨m1, m2, m3⟩ := hMb
    have e1 : wrap64 ((a : Int) + (d.size : Int)) = (a : Int) + (d.size : Int) := by unfold wrap64; omega
    have hne : d.toList.isEmpty = false := by
      cases hq : d.toList with
      | nil => exfalso; apply h0; have : d.data.toList = [] := by rw [← ByteArray.toList_eq]; exact hq
               obtain ⟨⟨x⟩⟩ := d; simp at this; rw [this]
      | cons _ _ => rfl
    clear h0
    go_enter Tryz.func130, Tryz.ntmps130
    go_wp2_with (go_at_call 131; with_reducible refine HC.out.mono ?_; rintro e w1 ⟨v1, rfl, hb1, hg1, ho1⟩
                 obtain ⟨g, cap, cur, rfl, c1, hg, c2, c3, c4⟩ := bys_at hb1 (resizeL_len l M) (by omega)
                 have hcp := run_copy_string (P := Tryz.prog) w1 100 9 3 5 g a (M - a) (cap - a) d cur 5 (by kernel_rfl) u8_size hg.out (by omega) (by omega)
                 have HG1 := Lib.hid hg1; have HO1 := Lib.hid ho1; clear hg1 ho1 hb1)
    go_ret
    refine ⟨_, rfl, ?_, ?_, HO1.out⟩
    · rw [HO.out]
      have hz := bys_over (a := a) hg.out (by rw [resizeL_len]; exact c1) c2.out c3 c4.out d (by rw [resizeL_len]; exact m1)
      rw [resizeL_len] at hz
      exact hz
    · refine grown_then HG1.out (setRow_grown _ _ _) (fun j hj => ?_)
      obtain rfl : g = j := by simpa using hj
      rcases HO1.out with h | h
      · exact .inr h.symm
      · exact .inl (by have : g = w.heap.size := by simpa [Value.ownBlock] using h
                       omega)
end Go.Proofs.YthfebcfdhmihcaaGreatDoor

namespace Go.Proofs.YthfebcfdhmihcaaGreatDoor
open Go.RowKit

theorem blw1 (w : World) (o : Obj) : Below w.heap.size w (w.alloc o) := (Below.refl _ _).alloc (Nat.le_refl _) _
theorem blw2 (w : World) (o o' : Obj) : Below w.heap.size w ((w.alloc o).alloc o') := (blw1 w o).alloc (by simp) _
/-- Block g holds these cells. -/
def Blk (w : World) (g : Nat) (t : TypeId) (cs : Array Value) : Prop := w.heap[g]? = some (.cells cs t (0, 0))
theorem blk_new (w : World) (t : TypeId) (cs : Array Value) : Blk (w.alloc (.cells cs t)) w.heap.size t cs := heap_alloc_new _ _
theorem blk_at {w : World} {t : TypeId} {cs : Array Value} {g : Nat} (h : g = w.heap.size) : Blk (w.alloc (.cells cs t)) g t cs := by subst h; exact blk_new _ _ _
theorem blk_set {w : World} {g : Nat} {t : TypeId} {cs : Array Value} (h : Blk w g t cs) (i : Nat) (v : Value) : Blk (w.setCell ⟨g, i, none⟩ v) g t (cs.setIfInBounds i v) := by
  unfold Blk at *
  simp [World.setCell, Array.getElem?_modify, h]
theorem blk_other {w : World} {g : Nat} {t : TypeId} {cs : Array Value} (h : Blk w g t cs) {g' : Nat} (hne : g ≠ g') (i : Nat) (v : Value) : Blk (w.setCell ⟨g', i, none⟩ v) g t cs := (Below.heap_setCell w ⟨g', i, none⟩ v g hne).trans h
theorem blk_lt {w : World} {g : Nat} {t : TypeId} {cs : Array Value} (h : Blk w g t cs) : g < w.heap.size := (Array.getElem?_eq_some_iff.1 h).1
theorem blk_below {w w' : World} {g : Nat} {t : TypeId} {cs : Array Value} (h : Blk w g t cs) (hb : Below w.heap.size w w') : Blk w' g t cs := (hb.block g (blk_lt h)).trans h
theorem blk_alloc {w : World} {g : Nat} {t : TypeId} {cs : Array Value} (h : Blk w g t cs) (o : Obj) : Blk (w.alloc o) g t cs := blk_below h (blw1 _ _)
theorem blk_cell {w : World} {g : Nat} {t : TypeId} {cs : Array Value} (h : Blk w g t cs) (i : Nat) {v : Value} (hv : cs[i]? = some v) : w.cell? ⟨g, i, none⟩ = some v := by
  unfold Blk at h
  simp [World.cell?, h, hv]
theorem blk_frozen {w : World} {g : Nat} {t : TypeId} {cs : Array Value} (h : Blk w g t cs) (i : Nat) : w.frozen? ⟨g, i, none⟩ = false := by
  unfold Blk at h
  simp [World.frozen?, h]
end Go.Proofs.YthfebcfdhmihcaaGreatDoor

namespace Go.Proofs.YthfebcfdhmihcaaGreatDoor
open Go.RowKit

def bz (l : List UInt8) : ByteArray := ⟨l.toArray⟩
theorem bz_size (l : List UInt8) : (bz l).size = l.length := by simp [bz, ByteArray.size]
theorem bz_back (s : ByteArray) : bz s.data.toList = s := rfl

inductive Role where
  | disk | map (s : Bool) | flt | pend | file (i : Nat) | con (s : Bool) (i : Nat)

inductive Chg where
  | create (name : List UInt8) (i : Nat)
  | remove (name : List UInt8)
  | write (i off : Nat) (data : List UInt8)
  | trunc (i size : Nat)

/-- A change in memory. F: the block of each file. -/
def Chg.cells (F : Nat → Nat) : Chg → List Value
  | .create n i => [.int .i64 0, .string (bz n), .pointer (some ⟨F i, 0, none⟩), .int .i64 0, .string (bz [])]
  | .remove n => [.int .i64 1, .string (bz n), .pointer none, .int .i64 0, .string (bz [])]
  | .write i o d => [.int .i64 2, .string (bz []), .pointer (some ⟨F i, 0, none⟩), .int .i64 o, .string (bz d)]
  | .trunc i z => [.int .i64 3, .string (bz []), .pointer (some ⟨F i, 0, none⟩), .int .i64 z, .string (bz [])]
def Chg.Ok (nf : Nat) : Chg → Prop
  | .create n i => i < nf ∧ n.length ≤ 1000000
  | .remove n => n.length ≤ 1000000
  | .write i o d => i < nf ∧ o + d.length ≤ 4000000
  | .trunc i z => i < nf ∧ z ≤ 4000000

structure DS where
  room : Nat
  dirs : Bool → List (List UInt8 × Nat)
  con : Bool → Nat → List UInt8
  nf : Nat
  pend : List Chg
  ops : Nat
  flt : Int → Int
  crash : Int
  down : Bool

structure Loc where
  b : Nat
  m : Bool → Option Nat
  fm : Option Nat
  pv : Value
  F : Nat → Nat
  V : Bool → Nat → Value

def upd {α : Type} (f : Bool → α) (s : Bool) (x : α) : Bool → α := fun t => if t = s then x else f t
def upd2 {α : Type} (f : Bool → Nat → α) (s : Bool) (i : Nat) (x : α) : Bool → Nat → α := fun t j => if t = s ∧ j = i then x else f t j
def updN {α : Type} (f : Nat → α) (i : Nat) (x : α) : Nat → α := fun j => if j = i then x else f j

def findL (l : List (List UInt8 × Nat)) (p : List UInt8) : Option Nat := (l.find? fun q => q.1 == p).map (·.2)
def insL (x : List UInt8 × Nat) : List (List UInt8 × Nat) → List (List UInt8 × Nat)
  | [] => [x]
  | y :: r => if bytesBefore x.1 y.1 then x :: y :: r else y :: insL x r
def delL (l : List (List UInt8 × Nat)) (p : List UInt8) : List (List UInt8 × Nat) := l.filter fun q => !(q.1 == p)
def putL (l : List (List UInt8 × Nat)) (p : List UInt8) (i : Nat) : List (List UInt8 × Nat) := insL (p, i) (delL l p)

/-- How a map's element, a pointer to a file, reads: as the number of its block. -/
def fileR : Value → Option (DataW Unit × List MemPlace)
  | .pointer none => some (.nil, [])
  | .pointer (some ⟨g, 0, none⟩) => some (.lit (.int .i64 g), [])
  | _ => none
def entL (F : Nat → Nat) (p : List UInt8 × Nat) : Lit × DataW Unit := (.string p.1, .lit (.int .i64 (F p.2)))
def fileD (F : Nat → Nat) (l : List (List UInt8 × Nat)) : DataW Unit := .map (l.map (entL F))

theorem fileD_ins (F : Nat → Nat) (x : List UInt8 × Nat) : ∀ l, DataW.insert (entL F x) (l.map (entL F)) = (insL x l).map (entL F)
  | [] => rfl
  | y :: r => by
    simp only [List.map_cons, DataW.insert, insL]
    have : (entL F x).1.before (entL F y).1 = bytesBefore x.1 y.1 := rfl
    rw [this]
    split
    · rfl
    · rw [fileD_ins F x r]; rfl
theorem fileD_del (F : Nat → Nat) (l : List (List UInt8 × Nat)) (p : List UInt8) : (fileD F l).del (.string p) = fileD F (delL l p) := by
  simp only [fileD, DataW.del, delL, List.filter_map]
  rfl
theorem fileD_put (F : Nat → Nat) (l : List (List UInt8 × Nat)) (p : List UInt8) (i : Nat) : (fileD F l).put (.string p) (.lit (.int .i64 (F i))) = fileD F (putL l p i) := by
  have := fileD_ins F (p, i) (delL l p)
  simp only [fileD, DataW.put, putL, delL] at *
  rw [← this, List.filter_map]
  rfl
theorem fileD_at (F : Nat → Nat) (l : List (List UInt8 × Nat)) (p : List UInt8) : (fileD F l).atKey (.string p) .nil = match findL l p with | none => .nil | some i => .lit (.int .i64 (F i)) := by
  simp only [fileD, DataW.atKey, List.find?_map, findL]
  have : ((fun p_1 : Lit × DataW Unit => p_1.1.sameKey (.string p)) ∘ entL F) = fun q => q.1 == p := rfl
  rw [this]
  cases l.find? (fun q => q.1 == p) <;> rfl
theorem fileD_size (F : Nat → Nat) (l : List (List UInt8 × Nat)) : Maps.size (fileD F l) = l.length := by simp [fileD, Maps.size]
theorem insL_len (x : List UInt8 × Nat) : ∀ l, (insL x l).length = l.length + 1
  | [] => rfl
  | y :: r => by
    unfold insL
    split
    · rfl
    · simp [insL_len x r]
theorem putL_len (l : List (List UInt8 × Nat)) (p : List UInt8) (i : Nat) : (putL l p i).length ≤ l.length + 1 := by
  rw [putL, insL_len]
  have := List.length_filter_le (fun q : List UInt8 × Nat => !(q.1 == p)) l
  unfold delL; omega
theorem delL_len (l : List (List UInt8 × Nat)) (p : List UInt8) : (delL l p).length ≤ l.length := List.length_filter_le _ _
theorem insL_mem {x q : List UInt8 × Nat} : ∀ {l}, q ∈ insL x l → q = x ∨ q ∈ l
  | [], h => by simpa [insL] using h
  | y :: r, h => by
    unfold insL at h
    split at h
    · simpa using h
    · rcases List.mem_cons.1 h with h | h
      · exact .inr (by simp [h])
      · rcases insL_mem h with h | h
        · exact .inl h
        · exact .inr (by simp [h])
theorem putL_mem {l : List (List UInt8 × Nat)} {p : List UInt8} {i : Nat} {q : List UInt8 × Nat} (h : q ∈ putL l p i) : q = (p, i) ∨ q ∈ l := by
  rcases insL_mem h with h | h
  · exact .inl h
  · exact .inr (List.mem_filter.1 h).1

/-- The map at a field: nil, or a block of this role that holds the list. -/
def MapI (ρ : Nat → Option Role) (F : Nat → Nat) (w : World) (m : Option Nat) (r : Role) (l : List (List UInt8 × Nat)) : Prop :=
  (m = none ∧ l = []) ∨ ∃ g, m = some g ∧ ρ g = some r ∧ w.ownsMap Tryz.prog 9 fileR g l.length (fileD F l)
/-- The faults. -/
def FltI (ρ : Nat → Option Role) (w : World) (m : Option Nat) (f : Int → Int) : Prop :=
  (m = none ∧ ∀ k, f k = 0) ∨ ∃ g n D, m = some g ∧ ρ g = some .flt ∧ w.ownsMap (H := Unit) Tryz.prog 3 (plainElem Tryz.prog 29) g n D ∧
    ∀ k, D.atKey (.int .i64 k) (.lit (.int .i64 0)) = .lit (.int .i64 (f k)) ∧ Maps.has D (.int .i64 k) = !(f k == 0)

structure Inv (L : Loc) (ρ : Nat → Option Role) (n : Nat) (S : DS) (w : World) : Prop where
  hb : ρ L.b = some .disk
  blk : Blk w L.b 93 #[.int .i64 S.room, .map (L.m false), .map (L.m true), L.pv, .int .i64 S.ops, .map L.fm, .int .i64 S.crash, .bool S.down]
  mp : ∀ s, MapI ρ L.F w (L.m s) (.map s) (S.dirs s)
  flt : FltI ρ w L.fm S.flt
  pnd : w.ownsRow 0 96 5 L.pv S.pend.length (S.pend.flatMap (Chg.cells L.F))
  pro : ∀ g, L.pv.ownBlock = some g → ρ g = some .pend
  fro : ∀ i, i < S.nf → ρ (L.F i) = some (.file i)
  fil : ∀ i, i < S.nf → Blk w (L.F i) 104 #[L.V false i, L.V true i]
  con : ∀ s i, i < S.nf → Bys w (L.V s i) (S.con s i)
  cro : ∀ s i g, i < S.nf → (L.V s i).ownBlock = some g → ρ g = some (.con s i)
  clen : ∀ s i, i < S.nf → (S.con s i).length ≤ 4000000
  dok : ∀ s p, p ∈ S.dirs s → p.2 < S.nf
  pok : ∀ c, c ∈ S.pend → c.Ok S.nf
  old : ∀ k, w.heap.size ≤ k → ρ k = none
  room : S.room ≤ 4000000
  bnd : S.pend.length ≤ n ∧ S.ops ≤ n ∧ (∀ s, (S.dirs s).length ≤ n) ∧ n ≤ 100000

/-- What a call may turn: blocks that play a part, and new ones. -/
structure Step (L : Loc) (ρ : Nat → Option Role) (w : World) (L' : Loc) (ρ' : Nat → Option Role) (w' : World) : Prop where
  os : w'.os = w.os
  tape : w'.tape = w.tape
  output : w'.output = w.output
  size : w.heap.size ≤ w'.heap.size
  blk : ∀ k, k < w.heap.size → ρ k = none → w'.heap[k]? = w.heap[k]?
  ro : ∀ k, k < w.heap.size → ρ' k = ρ k
  b : L'.b = L.b

theorem Step.refl (L : Loc) (ρ : Nat → Option Role) (w : World) : Step L ρ w L ρ w := ⟨rfl, rfl, rfl, Nat.le_refl _, fun _ _ _ => rfl, fun _ _ => rfl, rfl⟩
theorem Step.trans {L L' L'' : Loc} {ρ ρ' ρ'' : Nat → Option Role} {w w' w'' : World} (h : Step L ρ w L' ρ' w') (k : Step L' ρ' w' L'' ρ'' w'') : Step L ρ w L'' ρ'' w'' :=
  ⟨k.os.trans h.os, k.tape.trans h.tape, k.output.trans h.output, Nat.le_trans h.size k.size,
   fun i hi hn => (k.blk i (Nat.lt_of_lt_of_le hi h.size) (by rw [h.ro i hi]; exact hn)).trans (h.blk i hi hn),
   fun i hi => (k.ro i (Nat.lt_of_lt_of_le hi h.size)).trans (h.ro i hi), k.b.trans h.b⟩
/-- New blocks, and nothing else. -/
theorem Step.below {L : Loc} {ρ : Nat → Option Role} {w w' : World} (h : Below w.heap.size w w') : Step L ρ w L ρ w' :=
  ⟨h.os, h.tape, h.output, h.size, fun k hk _ => h.block k hk, fun _ _ => rfl, rfl⟩

variable {L : Loc} {ρ ρ' : Nat → Option Role} {n : Nat} {S : DS} {w w' : World}

theorem mapI_keep {F : Nat → Nat} {m : Option Nat} {r : Role} {l : List (List UInt8 × Nat)} (h : MapI ρ F w m r l) (hk : ∀ g, ρ g = some r → w'.heap[g]? = w.heap[g]?) (hx : ∀ g r, ρ g = some r → ρ' g = some r) : MapI ρ' F w' m r l := by
  rcases h with h | ⟨g, rfl, hg, es, clock, hb, rest⟩
  · exact .inl h
  · exact .inr ⟨g, rfl, hx g _ hg, es, clock, (hk g hg).trans hb, rest⟩
theorem fltI_keep {m : Option Nat} {f : Int → Int} (h : FltI ρ w m f) (hk : ∀ g, ρ g = some .flt → w'.heap[g]? = w.heap[g]?) (hx : ∀ g r, ρ g = some r → ρ' g = some r) : FltI ρ' w' m f := by
  rcases h with h | ⟨g, n, D, rfl, hg, ⟨es, clock, hb, rest⟩, hf⟩
  · exact .inl h
  · exact .inr ⟨g, n, D, rfl, hx g _ hg, ⟨es, clock, (hk g hg).trans hb, rest⟩, hf⟩
theorem row_keep {e : TypeId} {size : Nat} {v : Value} {k : Nat} {xs : List Value} (h : w.ownsRow 0 e size v k xs) (hk : ∀ g, v.ownBlock = some g → w'.heap[g]? = w.heap[g]?) : w'.ownsRow 0 e size v k xs := by
  refine ⟨h.1, ?_⟩
  rcases h.2 with hn | ⟨g, cap, cur, rfl, hb, hgg, rest⟩
  · exact .inl hn
  · exact .inr ⟨g, cap, cur, rfl, hb, (hk g rfl).trans hgg, rest⟩
theorem mapI_F {F F' : Nat → Nat} {m : Option Nat} {r : Role} {l : List (List UInt8 × Nat)} (h : MapI ρ F w m r l) (hF : ∀ p, p ∈ l → F' p.2 = F p.2) : MapI ρ F' w m r l := by
  have e : fileD F' l = fileD F l := by
    unfold fileD
    congr 1
    exact List.map_congr_left fun p hp => by unfold entL; rw [hF p hp]
  unfold MapI at *
  rw [e]
  exact h

/-- New blocks that play no part, or a drawn order: all stays. -/
theorem Inv.heap (h : Inv L ρ n S w) (hk : ∀ g, ρ g ≠ none → w'.heap[g]? = w.heap[g]?) (hs : w.heap.size ≤ w'.heap.size) : Inv L ρ n S w' where
  hb := h.hb
  blk := (hk _ (by rw [h.hb]; simp)).trans h.blk
  mp s := mapI_keep (h.mp s) (fun g hg => hk g (by rw [hg]; simp)) (fun _ _ h => h)
  flt := fltI_keep h.flt (fun g hg => hk g (by rw [hg]; simp)) (fun _ _ h => h)
  pnd := row_keep h.pnd (fun g hg => hk g (by rw [h.pro g hg]; simp))
  pro := h.pro
  fro := h.fro
  fil i hi := (hk _ (by rw [h.fro i hi]; simp)).trans (h.fil i hi)
  con s i hi := row_keep (h.con s i hi) (fun g hg => hk g (by rw [h.cro s i g hi hg]; simp))
  cro := h.cro
  clen := h.clen
  dok := h.dok
  pok := h.pok
  old k hk' := h.old k (Nat.le_trans hs hk')
  room := h.room
  bnd := h.bnd
theorem Inv.lt (h : Inv L ρ n S w) {g : Nat} (hg : ρ g ≠ none) : g < w.heap.size := by
  rcases Nat.lt_or_ge g w.heap.size with h' | h'
  · exact h'
  · exact absurd (h.old g h') hg
theorem Inv.below (h : Inv L ρ n S w) (hb : Below w.heap.size w w') : Inv L ρ n S w' := h.heap (fun g hg => hb.block g (h.lt hg)) hb.size
theorem Inv.alloc (h : Inv L ρ n S w) (o : Obj) : Inv L ρ n S (w.alloc o) := h.below ((Below.refl _ _).alloc (Nat.le_refl _) _)
theorem Inv.drew (h : Inv L ρ n S w) : Inv L ρ n S w.drew := h.heap (fun _ _ => rfl) (Nat.le_refl _)
theorem Inv.mono {n' : Nat} (h : Inv L ρ n S w) (hn : n ≤ n') (hn' : n' ≤ 100000) : Inv L ρ n' S w := { h with bnd := ⟨Nat.le_trans h.bnd.1 hn, Nat.le_trans h.bnd.2.1 hn, fun s => Nat.le_trans (h.bnd.2.2.1 s) hn, hn'⟩ }
end Go.Proofs.YthfebcfdhmihcaaGreatDoor

namespace Go.Proofs.YthfebcfdhmihcaaGreatDoor
open Go.RowKit

def ptrF (F : Nat → Nat) (o : Option Nat) : Value := .pointer (o.map fun i => ⟨F i, 0, none⟩)
theorem lawStr : Maps.Keyed Tryz.prog 9 := Maps.string_keyed (by kernel_rfl)
theorem underF : Tryz.prog.underlying 88 = some (.map 9 94) := by kernel_rfl
theorem zeroF (w : World) : (zeroValue 94).run Tryz.prog w = .ok (.pointer none) w := by kernel_rfl
theorem keyStr {p : ByteArray} (hp : p.size ≤ 1000000) : keyOf Tryz.prog 9 (.string p) = some (.string p.data.toList) := WideMaps.keyOf_string_mk (by kernel_rfl) (by unfold maxLen; omega)

variable {L : Loc} {ρ ρ' : Nat → Option Role} {n : Nat} {S : DS} {w w' : World}

theorem mapI_look {F : Nat → Nat} {m : Option Nat} {r : Role} {l : List (List UInt8 × Nat)} (h : MapI ρ F w m r l) {p : ByteArray} (hp : p.size ≤ 1000000) :
    (Instr.lookup 88 (.map m) (.string p) false).run Tryz.prog w = .ok (ptrF F (findL l p.data.toList)) w := by
  rcases h with ⟨rfl, rfl⟩ | ⟨g, rfl, _, hown⟩
  · have := Maps.look_nil (w := w) false lawStr underF (zeroF w) (keyStr hp)
    rw [this]; rfl
  · obtain ⟨v, ps, hrun, hR⟩ := hown.lookup lawStr underF (zeroF w) (zd := .nil) (zp := []) rfl (keyStr hp)
    have hv : v = ptrF F (findL l p.data.toList) := by
      rw [fileD_at] at hR
      cases hf : findL l p.data.toList with
      | none =>
        rw [hf] at hR
        unfold fileR at hR
        split at hR <;> simp at hR
        rfl
      | some i =>
        rw [hf] at hR
        unfold fileR at hR
        split at hR <;> simp at hR
        obtain ⟨e, _⟩ := hR
        have e' := Int.ofNat.inj e
        rw [e']
        rfl
    rw [hrun, hv]
theorem find_any (h : Inv L ρ n S w) (p : ByteArray) (hp : p.size ≤ 1000000) :
    Calls Tryz.prog 55 #[.pointer (some ⟨L.b, 0, none⟩), .string p] w fun e w' => e = .returned (ptrF L.F (findL (S.dirs false) p.data.toList)) ∧ w' = w := by
  have hl := mapI_look (h.mp false) hp
  have c1 := blk_cell h.blk 1 rfl
  obtain ⟨o, ho⟩ : ∃ o, o = ptrF L.F (findL (S.dirs false) p.data.toList) := ⟨_, rfl⟩
  rw [← ho] at hl ⊢
  clear h ho
  obtain ⟨b, m, fm, pv, F, V⟩ := L
  simp only at hl c1 ⊢
  generalize m false = m0 at hl c1
  go_enter Tryz.func55, Tryz.ntmps55
  go_wp2
  go_ret
  exact ⟨rfl, rfl⟩

theorem lawInt : Maps.Keyed Tryz.prog 3 := Maps.int_keyed (q := .i64) (by kernel_rfl)
theorem underE : Tryz.prog.underlying 91 = some (.map 3 29) := by kernel_rfl
theorem underErr : Tryz.prog.underlying 29 = some (.int .i64) := by kernel_rfl
theorem zeroE (w : World) : (zeroValue 29).run Tryz.prog w = .ok (.int .i64 0) w := by kernel_rfl
theorem keyInt {k : Int} (h0 : -9223372036854775808 ≤ k) (h1 : k ≤ 9223372036854775807) : keyOf Tryz.prog 3 (.int .i64 k) = some (.int .i64 k) := Maps.keyOf_int_mk (by kernel_rfl) (WalkArith.wf_i64 ⟨h0, h1⟩)
theorem fltI_look {m : Option Nat} {f : Int → Int} (h : FltI ρ w m f) {k : Int} (h0 : -9223372036854775808 ≤ k) (h1 : k ≤ 9223372036854775807) :
    (Instr.lookup 91 (.map m) (.int .i64 k) true).run Tryz.prog w = .ok (.tuple #[.int .i64 (f k), .bool (!(f k == 0))]) w := by
  rcases h with ⟨rfl, hf⟩ | ⟨g, n, D, rfl, _, hown, hf⟩
  · have := Maps.look_nil (w := w) true lawInt underE (zeroE w) (keyInt h0 h1)
    rw [this, hf k]; rfl
  · obtain ⟨v, ps, hrun, hR⟩ := hown.look_ok lawInt underE (zeroE w) (zd := .lit (.int .i64 0)) (zp := []) (plainElem_int underErr (by decide)) (keyInt h0 h1)
    obtain ⟨c, rfl, hc, _⟩ := plainElem_int_inv underErr hR
    rw [(hf k).1] at hc
    simp only [Prod.mk.injEq, DataW.lit.injEq, Lit.int.injEq, true_and] at hc
    rw [hrun, (hf k).2, hc.1]

/-- What a counted call does ahead of its own effect: the state behind it. -/
def begS (S : DS) : DS := { S with ops := S.ops + 1, down := decide ((S.ops + 1 : Nat) = S.crash) }
def cntS (S : DS) : DS := { S with ops := S.ops + 1 }

theorem inv_disk (h : Inv L ρ n S w) {S' : DS} {n' : Nat} (hn : n ≤ n') (hn' : n' ≤ 100000) (hw : Blk w' L.b 93 #[.int .i64 S'.room, .map (L.m false), .map (L.m true), L.pv, .int .i64 S'.ops, .map L.fm, .int .i64 S'.crash, .bool S'.down])
    (hk : ∀ g, g ≠ L.b → w'.heap[g]? = w.heap[g]?) (hz : w.heap.size ≤ w'.heap.size) (e1 : S'.room = S.room) (e2 : S'.dirs = S.dirs) (e3 : S'.con = S.con) (e4 : S'.nf = S.nf) (e5 : S'.pend = S.pend) (e6 : S'.flt = S.flt) (e7 : S'.ops ≤ n') : Inv L ρ n' S' w' where
  hb := h.hb
  blk := hw
  mp s := by rw [e2]; exact mapI_keep (h.mp s) (fun g hg => hk g (fun e => by subst e; rw [h.hb] at hg; cases hg)) (fun _ _ h => h)
  flt := by rw [e6]; exact fltI_keep h.flt (fun g hg => hk g (fun e => by subst e; rw [h.hb] at hg; cases hg)) (fun _ _ h => h)
  pnd := by rw [e5]; exact row_keep h.pnd (fun g hg => hk g (fun e => by subst e; have := h.pro _ hg; rw [h.hb] at this; cases this))
  pro := h.pro
  fro := by rw [e4]; exact h.fro
  fil := by rw [e4]; exact fun i hi => (hk _ (fun e => by have := h.fro i hi; rw [e, h.hb] at this; cases this)).trans (h.fil i hi)
  con := by rw [e4, e3]; exact fun s i hi => row_keep (h.con s i hi) (fun g hg => hk g (fun e => by subst e; have := h.cro s i _ hi hg; rw [h.hb] at this; cases this))
  cro := by rw [e4]; exact h.cro
  clen := by rw [e4, e3]; exact h.clen
  dok := by rw [e4, e2]; exact h.dok
  pok := by rw [e4, e5]; exact h.pok
  old k hk' := h.old k (Nat.le_trans hz hk')
  room := by rw [e1]; exact h.room
  bnd := ⟨by rw [e5]; exact Nat.le_trans h.bnd.1 hn, e7, fun s => by rw [e2]; exact Nat.le_trans (h.bnd.2.2.1 s) hn, hn'⟩
theorem Step.disk (h : ∀ g, g ≠ L.b → w'.heap[g]? = w.heap[g]?) (hb : ρ L.b = some .disk) (hz : w'.heap.size = w.heap.size) (e1 : w'.os = w.os) (e2 : w'.tape = w.tape) (e3 : w'.output = w.output) : Step L ρ w L ρ w' :=
  ⟨e1, e2, e3, Nat.le_of_eq hz.symm, fun k _ hk => h k (fun e => by subst e; rw [hb] at hk; cases hk), fun _ _ => rfl, rfl⟩

end Go.Proofs.YthfebcfdhmihcaaGreatDoor

namespace Go.Proofs.YthfebcfdhmihcaaGreatDoor
open Go.RowKit
variable {L : Loc} {ρ ρ' : Nat → Option Role} {n : Nat} {S : DS} {w w' : World}

theorem setCell_keep (w : World) (b i : Nat) (v : Value) : ∀ g, g ≠ b → (w.setCell ⟨b, i, none⟩ v).heap[g]? = w.heap[g]? := fun g hg => heap_setCell_other w ⟨b, i, none⟩ g v hg
theorem size_setCell' (w : World) (a : Addr) (v : Value) : (w.setCell a v).heap.size = w.heap.size := by simp [World.setCell]

set_option maxHeartbeats 1000000 in
theorem begin_ok (h : Inv L ρ n S w) (hd : S.down = false) (hf : S.flt (S.ops + 1) = 0) (hn : n + 1 ≤ 100000) :
    Calls Tryz.prog 101 #[.pointer (some ⟨L.b, 0, none⟩)] w fun e w' => e = .returned .nilIface ∧ Inv L ρ (n + 1) (begS S) w' ∧ Step L ρ w L ρ w' ∧ ∀ k, k < w.heap.size → k ≠ L.b → w'.heap[k]? = w.heap[k]? := by
  have H := Lib.hid h
  have hbd := h.bnd.2.1
  have hB := h.blk
  rw [hd] at hB
  have c4 := blk_cell hB 4 rfl
  have f4 := blk_frozen hB 4
  have c7 := blk_cell hB 7 rfl
  have hB1 := blk_set hB 4 (.int .i64 (S.ops + 1))
  have d4 := blk_cell hB1 4 rfl
  have d5 := blk_cell hB1 5 rfl
  have d6 := blk_cell hB1 6 rfl
  have d7 := blk_frozen hB1 7
  have d7' := blk_cell hB1 7 rfl
  have hfl : FltI ρ (w.setCell ⟨L.b, 4, none⟩ (.int .i64 (S.ops + 1))).drew L.fm S.flt := fltI_keep h.flt (fun g hg => setCell_keep _ _ _ _ g (fun e => by subst e; rw [h.hb] at hg; cases hg)) (fun _ _ h => h)
  have hlk := fltI_look hfl (k := (S.ops : Int) + 1) (by omega) (by omega)
  rw [hf] at hlk
  obtain ⟨B, hBo⟩ : ∃ B : Bool, B = ((S.ops : Int) + 1 == S.crash) := ⟨_, rfl⟩
  have HB := Lib.hid hB; have HBo := Lib.hid hBo
  clear h hB hfl hB1 hf hd
  have e1 : wrap64 ((S.ops : Int) + 1) = (S.ops : Int) + 1 := by unfold wrap64; omega
  go_enter Tryz.func101, Tryz.ntmps101
  go_wp2
  go_region
  go_wp2
  go_region
  go_wp2
  go_ret
  have hk : ∀ g, g ≠ L.b → (((w.setCell ⟨L.b, 4, none⟩ (.int .i64 (S.ops + 1))).setCell ⟨L.b, 7, none⟩ (.bool ((S.ops : Int) + 1 == S.crash))).drew.drew).heap[g]? = w.heap[g]? := fun g hg => (setCell_keep _ _ _ _ g hg).trans (setCell_keep _ _ _ _ g hg)
  have hz : (((w.setCell ⟨L.b, 4, none⟩ (.int .i64 (S.ops + 1))).setCell ⟨L.b, 7, none⟩ (.bool ((S.ops : Int) + 1 == S.crash))).drew.drew).heap.size = w.heap.size := by rw [show ∀ x : World, x.drew.heap = x.heap from fun _ => rfl, show ∀ x : World, x.drew.heap = x.heap from fun _ => rfl, size_setCell', size_setCell']
  refine ⟨rfl, inv_disk H.out (Nat.le_succ _) hn ?_ hk (Nat.le_of_eq hz.symm) rfl rfl rfl rfl rfl rfl (by simp only [begS]; omega), Step.disk hk H.out.hb hz rfl rfl rfl, fun k _ hne => hk k hne⟩
  have hfin := blk_set (blk_set HB.out 4 (.int .i64 (S.ops + 1))) 7 (.bool ((S.ops : Int) + 1 == S.crash))
  have ec : (((S.ops + 1 : Nat) : Int)) = (S.ops : Int) + 1 := by omega
  have ed : decide (((S.ops + 1 : Nat) : Int) = S.crash) = ((S.ops : Int) + 1 == S.crash) := by rw [ec]; rfl
  simp only [begS, ed]
  rw [ec]
  exact hfin

end Go.Proofs.YthfebcfdhmihcaaGreatDoor

namespace Go.Proofs.YthfebcfdhmihcaaGreatDoor
open Go.RowKit
variable {L : Loc} {ρ ρ' : Nat → Option Role} {n : Nat} {S : DS} {w w' : World}

def stI (s : Bool) : Int := if s then 1 else 0
def applyS (s : Bool) (c : Chg) (S : DS) : DS := match c with
  | .create nm i => { S with dirs := upd S.dirs s (putL (S.dirs s) nm i) }
  | .remove nm => { S with dirs := upd S.dirs s (delL (S.dirs s) nm) }
  | .write i o d => { S with con := upd2 S.con s i (overL (S.con s i) o d) }
  | .trunc i z => { S with con := upd2 S.con s i (resizeL (S.con s i) z) }

/-- The map of one state turned in place. -/
theorem inv_map {S' : DS} {n' : Nat} (h : Inv L ρ n S w) (s : Bool) (l : List (List UInt8 × Nat)) (hS : S' = { S with dirs := upd S.dirs s l }) (hn : n ≤ n') (hn' : n' ≤ 100000) (hl : l.length ≤ n') (hm : MapI ρ L.F w' (L.m s) (.map s) l)
    (hk : ∀ g, ρ g ≠ some (.map s) → w'.heap[g]? = w.heap[g]?) (hz : w.heap.size ≤ w'.heap.size) (hd : ∀ p, p ∈ l → p.2 < S.nf) : Inv L ρ n' S' w' := by
  subst hS
  exact {
    hb := h.hb
    blk := (hk _ (by rw [h.hb]; simp)).trans h.blk
    mp := fun t => by
      by_cases e : t = s
      · subst e; simp only [upd, if_true]; exact hm
      · simp only [upd, if_neg e]
        exact mapI_keep (h.mp t) (fun g hg => hk g (by rw [hg]; simpa using e)) (fun _ _ h => h)
    flt := fltI_keep h.flt (fun g hg => hk g (by rw [hg]; simp)) (fun _ _ h => h)
    pnd := row_keep h.pnd (fun g hg => hk g (by rw [h.pro g hg]; simp))
    pro := h.pro
    fro := h.fro
    fil := fun i hi => (hk _ (by rw [h.fro i hi]; simp)).trans (h.fil i hi)
    con := fun t i hi => row_keep (h.con t i hi) (fun g hg => hk g (by rw [h.cro t i g hi hg]; simp))
    cro := h.cro
    clen := h.clen
    dok := fun t p hp => by
      by_cases e : t = s
      · subst e; simp only [upd, if_true] at hp; exact hd p hp
      · simp only [upd, if_neg e] at hp; exact h.dok t p hp
    pok := h.pok
    old := fun k hk' => h.old k (Nat.le_trans hz hk')
    room := h.room
    bnd := ⟨Nat.le_trans h.bnd.1 hn, Nat.le_trans h.bnd.2.1 hn, fun t => by
      by_cases e : t = s
      · subst e; simp only [upd, if_true]; exact hl
      · simp only [upd, if_neg e]; exact Nat.le_trans (h.bnd.2.2.1 t) hn, hn'⟩ }

/-- The delete of the program at the map of one state. -/
theorem mapI_drop {F : Nat → Nat} {m : Option Nat} {r : Role} {l : List (List UInt8 × Nat)} (h : MapI ρ F w m r l) {p : ByteArray} (hp : p.size ≤ 1000000) :
    ∃ w', (Builtin.delete_ #[88, 9] 0 #[.map m, .string p]).run Tryz.prog w = .ok (.tuple #[]) w' ∧ MapI ρ F w' m r (delL l p.data.toList) ∧ w'.heap.size = w.heap.size ∧ w'.os = w.os ∧ w'.tape = w.tape ∧ w'.output = w.output ∧ ∀ k, ρ k ≠ some r → w'.heap[k]? = w.heap[k]? := by
  rcases h with ⟨rfl, rfl⟩ | ⟨g, rfl, hg, hown⟩
  · exact ⟨w, Maps.drop_nil lawStr underF (keyStr hp) _, .inl ⟨rfl, rfl⟩, rfl, rfl, rfl, rfl, fun _ _ => rfl⟩
  · obtain ⟨w', hrun, hown', hturn⟩ := hown.drop lawStr underF (keyStr hp) 0
    rw [fileD_del] at hown'
    have hsz := hown'.size_le
    rw [fileD_size] at hsz
    have hgr := hturn.grown
    have hzz : w'.heap.size = w.heap.size := by obtain ⟨es, clock, es', clock', _, rfl⟩ := hturn; exact Array.size_setIfInBounds
    refine ⟨w', hrun, .inr ⟨g, rfl, hg, ?_⟩, hzz, hgr.os, hgr.tape, hgr.output, fun k hr => ?_⟩
    · obtain ⟨es, clock, hb, F', hs, hD⟩ := hown'
      refine ⟨es, clock, hb, F', ?_, hD⟩
      have e1 := congrArg Maps.size hD
      rw [fileD_size] at e1
      simp [Maps.size, length_sorted] at e1
      omega
    · rcases Nat.lt_or_ge k w.heap.size with hk | hk
      · exact hgr.block k hk (fun e => by cases e; exact hr hg)
      · rw [Array.getElem?_eq_none hk, Array.getElem?_eq_none (by rw [hzz]; exact hk)]
/-- The store of the program at the map of one state that is not nil. -/
theorem mapI_store {F : Nat → Nat} {g : Nat} {r : Role} {l : List (List UInt8 × Nat)} (h : MapI ρ F w (some g) r l) {p : ByteArray} (hp : p.size ≤ 1000000) (hl : l.length ≤ 1000000) (i : Nat) :
    ∃ w', (Instr.mapUpdate 88 (.map (some g)) (.string p) (.pointer (some ⟨F i, 0, none⟩))).run Tryz.prog w = .ok () w' ∧ MapI ρ F w' (some g) r (putL l p.data.toList i) ∧ w'.heap.size = w.heap.size ∧ w'.os = w.os ∧ w'.tape = w.tape ∧ w'.output = w.output ∧ ∀ k, ρ k ≠ some r → w'.heap[k]? = w.heap[k]? := by
  rcases h with ⟨e, _⟩ | ⟨g', e, hg, hown⟩
  · cases e
  · cases e
    obtain ⟨w', hrun, hown', hturn⟩ := hown.store lawStr underF (by unfold maxLen; omega) (keyStr hp) (val := .pointer (some ⟨F i, 0, none⟩)) (d := .lit (.int .i64 (F i))) (ps := []) rfl
    rw [fileD_put] at hown'
    have hgr := hturn.grown
    have hzz : w'.heap.size = w.heap.size := by obtain ⟨es, clock, es', clock', _, rfl⟩ := hturn; exact Array.size_setIfInBounds
    refine ⟨w', hrun, .inr ⟨g, rfl, hg, ?_⟩, hzz, hgr.os, hgr.tape, hgr.output, fun k hr => ?_⟩
    · obtain ⟨es, clock, hb, F', hs, hD⟩ := hown'
      refine ⟨es, clock, hb, F', ?_, hD⟩
      have e1 := congrArg Maps.size hD
      rw [fileD_size] at e1
      simp [Maps.size, length_sorted] at e1
      omega
    · rcases Nat.lt_or_ge k w.heap.size with hk | hk
      · exact hgr.block k hk (fun e => by cases e; exact hr hg)
      · rw [Array.getElem?_eq_none hk, Array.getElem?_eq_none (by rw [hzz]; exact hk)]

theorem eqlM_none (w : World) : (binOp .eql 88 (.map none) (.map none)).run Tryz.prog w = .ok (.bool true) w := by kernel_rfl
theorem eqlM_some (g : Nat) (w : World) : (binOp .eql 88 (.map (some g)) (.map none)).run Tryz.prog w = .ok (.bool false) w := by kernel_rfl
/-- What apply leaves. -/
abbrev AppQ (L : Loc) (ρ : Nat → Option Role) (n : Nat) (S : DS) (w : World) (e : Ending) (w' : World) : Prop :=
  e = .returned (.tuple #[]) ∧ ∃ L' ρ', Inv L' ρ' n S w' ∧ Step L ρ w L' ρ' w' ∧ L'.F = L.F ∧ L'.pv = L.pv

set_option maxHeartbeats 1000000 in
theorem apply_remove (s : Bool) (nm : ByteArray) (h : Inv L ρ n S w) (hnm : nm.size ≤ 1000000) :
    Calls Tryz.prog 96 #[.pointer (some ⟨L.b, 0, none⟩), .agg #[.int .i64 1, .string nm, .pointer none, .int .i64 0, .string ⟨#[]⟩], .int .i64 (stI s)] w (AppQ L ρ n (applyS s (.remove nm.data.toList) S) w) := by
  have hA := h.alloc (.cells #[.int .i64 1, .string nm, .pointer none, .int .i64 0, .string ⟨#[]⟩] 96)
  have hAB : Step L ρ w L ρ (w.alloc (.cells #[.int .i64 1, .string nm, .pointer none, .int .i64 0, .string ⟨#[]⟩] 96)) := Step.below ((Below.refl _ _).alloc (Nat.le_refl _) _)
  obtain ⟨W, hW⟩ : ∃ W, W = w.alloc (.cells #[.int .i64 1, .string nm, .pointer none, .int .i64 0, .string ⟨#[]⟩] 96) := ⟨_, rfl⟩
  rw [← hW] at hA hAB
  obtain ⟨w', hrun, hM, hz, e1, e2, e3, hk⟩ := mapI_drop (hA.drew.mp s) hnm
  have hI : Inv L ρ n (applyS s (.remove nm.data.toList) S) w' := inv_map hA.drew s _ rfl (Nat.le_refl _) hA.bnd.2.2.2 (Nat.le_trans (delL_len _ _) (hA.bnd.2.2.1 s)) hM hk (Nat.le_of_eq hz.symm) (fun p hp => hA.dok s p (List.mem_filter.1 hp).1)
  have hS : Step L ρ W L ρ w' := ⟨e1, e2, e3, Nat.le_of_eq hz.symm, fun k _ hr => hk k (by rw [hr]; simp), fun _ _ => rfl, rfl⟩
  have HI := Lib.hid hI; have HS := Lib.hid (hAB.trans hS)
  have HK := Lib.hid hA.blk
  have bx : Blk W w.heap.size 96 #[.int .i64 1, .string nm, .pointer none, .int .i64 0, .string ⟨#[]⟩] := by rw [hW]; exact blk_new _ _ _
  have x0 := blk_cell bx 0 rfl
  have x1 := blk_cell bx 1 rfl
  clear h hA hAB hM hk hI hS bx e1 e2 e3 hz
  rw [hW] at hrun HK x0 x1
  clear hW
  cases s
  · simp only [stI, Bool.false_eq_true, if_false]
    have c1 := blk_cell HK.out 1 rfl
    go_enter Tryz.func96, Tryz.ntmps96
    go_wp2
    go_region
    go_wp2
    go_returns
    exact ⟨rfl, L, ρ, HI.out, HS.out, rfl, rfl⟩
  · simp only [stI, if_true]
    have c1 := blk_cell HK.out 2 rfl
    go_enter Tryz.func96, Tryz.ntmps96
    go_wp2
    go_region
    go_wp2
    go_returns
    exact ⟨rfl, L, ρ, HI.out, HS.out, rfl, rfl⟩

set_option maxHeartbeats 1000000 in
set_option maxRecDepth 20000 in
theorem apply_create_some (s : Bool) (nm : ByteArray) (i : Nat) (h : Inv L ρ n S w) (hnm : nm.size ≤ 1000000) (hi : i < S.nf) (hn : n + 1 ≤ 100000) (g : Nat) (hg : L.m s = some g) :
    Calls Tryz.prog 96 #[.pointer (some ⟨L.b, 0, none⟩), .agg #[.int .i64 0, .string nm, .pointer (some ⟨L.F i, 0, none⟩), .int .i64 0, .string ⟨#[]⟩], .int .i64 (stI s)] w (AppQ L ρ (n + 1) (applyS s (.create nm.data.toList i) S) w) := by
  have hA := h.alloc (.cells #[.int .i64 0, .string nm, .pointer (some ⟨L.F i, 0, none⟩), .int .i64 0, .string ⟨#[]⟩] 96)
  have hAB : Step L ρ w L ρ (w.alloc (.cells #[.int .i64 0, .string nm, .pointer (some ⟨L.F i, 0, none⟩), .int .i64 0, .string ⟨#[]⟩] 96)) := Step.below ((Below.refl _ _).alloc (Nat.le_refl _) _)
  obtain ⟨W, hW⟩ : ∃ W, W = w.alloc (.cells #[.int .i64 0, .string nm, .pointer (some ⟨L.F i, 0, none⟩), .int .i64 0, .string ⟨#[]⟩] 96) := ⟨_, rfl⟩
  rw [← hW] at hA hAB
  have hmp := hA.drew.mp s
  rw [hg] at hmp
  obtain ⟨w', hrun, hM, hz, e1, e2, e3, hk⟩ := mapI_store hmp hnm (by have := hA.bnd.2.2.1 s; omega) i
  have hI : Inv L ρ (n + 1) (applyS s (.create nm.data.toList i) S) w' := inv_map hA.drew s _ rfl (Nat.le_succ _) hn (Nat.le_trans (putL_len _ _ _) (Nat.succ_le_succ (hA.bnd.2.2.1 s))) (by rw [hg]; exact hM) hk (Nat.le_of_eq hz.symm) (fun p hp => by
    rcases putL_mem hp with rfl | hp
    · exact hi
    · exact hA.dok s p hp)
  have hS : Step L ρ W L ρ w' := ⟨e1, e2, e3, Nat.le_of_eq hz.symm, fun k _ hr => hk k (by rw [hr]; simp), fun _ _ => rfl, rfl⟩
  have HI := Lib.hid hI; have HS := Lib.hid (hAB.trans hS)
  have HK := Lib.hid hA.blk
  have bx : Blk W w.heap.size 96 #[.int .i64 0, .string nm, .pointer (some ⟨L.F i, 0, none⟩), .int .i64 0, .string ⟨#[]⟩] := by rw [hW]; exact blk_new _ _ _
  have x0 := blk_cell bx 0 rfl
  have x1 := blk_cell bx 1 rfl
  have x2 := blk_cell bx 2 rfl
  clear h hA hAB hM hk hI hS bx e1 e2 e3 hz hmp hi
  rw [hW] at hrun HK x0 x1 x2
  clear hW
  cases s
  · simp only [stI, Bool.false_eq_true, if_false]
    rw [hg] at HK
    have c1 := blk_cell HK.out 1 rfl
    clear hg hn hnm
    have eqn := eqlM_none
    have eqs := eqlM_some
    go_enter Tryz.func96, Tryz.ntmps96
    go_wp2
    go_region
    go_wp2
    go_returns
    exact ⟨rfl, L, ρ, HI.out, HS.out, rfl, rfl⟩
  · simp only [stI, if_true]
    rw [hg] at HK
    have c1 := blk_cell HK.out 2 rfl
    clear hg hn hnm
    have eqn := eqlM_none
    have eqs := eqlM_some
    go_enter Tryz.func96, Tryz.ntmps96
    go_wp2
    go_region
    go_wp2
    go_returns
    exact ⟨rfl, L, ρ, HI.out, HS.out, rfl, rfl⟩

def offM (s : Bool) : Nat := if s then 2 else 1
theorem inv_newmap (h : Inv L ρ n S w) (s : Bool) (g : Nat) (hg : ρ g = none) (hgb : w.heap[g]? = some (.map #[] 0)) (hm : L.m s = none) :
    Inv { L with m := upd L.m s (some g) } (updN ρ g (some (.map s))) n S (w.setCell ⟨L.b, offM s, none⟩ (.map (some g))) := by
  have hx : ∀ k r, ρ k = some r → updN ρ g (some (.map s)) k = some r := fun k r hk => by
    unfold updN
    rw [if_neg (fun e => by subst e; rw [hg] at hk; cases hk)]; exact hk
  have hne : g ≠ L.b := fun e => by subst e; rw [h.hb] at hg; cases hg
  have hk : ∀ k, k ≠ L.b → (w.setCell ⟨L.b, offM s, none⟩ (.map (some g))).heap[k]? = w.heap[k]? := setCell_keep _ _ _ _
  have hkr : ∀ k r, ρ k = some r → r ≠ .disk → (w.setCell ⟨L.b, offM s, none⟩ (.map (some g))).heap[k]? = w.heap[k]? := fun k r hr hd => hk k (fun e => by subst e; rw [h.hb] at hr; cases hr; exact hd rfl)
  have hd0 : S.dirs s = [] := by
    rcases h.mp s with ⟨_, e⟩ | ⟨g', e, _⟩
    · exact e
    · rw [hm] at e; cases e
  have hgs : g < w.heap.size := (Array.getElem?_eq_some_iff.1 hgb).1
  exact {
    hb := hx _ _ h.hb
    blk := by
      have := blk_set h.blk (offM s) (.map (some g))
      cases s
      · exact this
      · exact this
    mp := fun t => by
      by_cases e : t = s
      · subst e
        simp only [upd, if_true]
        refine .inr ⟨g, rfl, by simp [updN], ?_⟩
        rw [hd0]
        exact ⟨#[], 0, (hk g hne).trans hgb, ⟨by simp, MapKept.stamped_empty 0, by simp⟩, Nat.le_refl _, rfl⟩
      · simp only [upd, if_neg e]
        exact mapI_keep (h.mp t) (fun k hk' => hkr k _ hk' (by simp)) hx
    flt := fltI_keep h.flt (fun k hk' => hkr k _ hk' (by simp)) hx
    pnd := row_keep h.pnd (fun k hk' => hkr k _ (h.pro k hk') (by simp))
    pro := fun k hk' => hx _ _ (h.pro k hk')
    fro := fun i hi => hx _ _ (h.fro i hi)
    fil := fun i hi => (hkr _ _ (h.fro i hi) (by simp)).trans (h.fil i hi)
    con := fun t i hi => row_keep (h.con t i hi) (fun k hk' => hkr k _ (h.cro t i k hi hk') (by simp))
    cro := fun t i k hi hk' => hx _ _ (h.cro t i k hi hk')
    clen := h.clen
    dok := h.dok
    pok := h.pok
    old := fun k hk' => by
      rw [size_setCell'] at hk'
      unfold updN
      rw [if_neg (fun e => by omega)]; exact h.old k hk'
    room := h.room
    bnd := h.bnd }
theorem step_newmap (h : Inv L ρ n S w) (s : Bool) (g : Nat) (w0 : World) (hg : w0.heap.size ≤ g) (hb : Below w0.heap.size w0 w) (_h0 : Inv L ρ n S w0) (v : Value) :
    Step L ρ w0 { L with m := upd L.m s (some g) } (updN ρ g (some (.map s))) (w.setCell ⟨L.b, offM s, none⟩ v) :=
  ⟨hb.os, hb.tape, hb.output, by rw [size_setCell']; exact hb.size, fun k hk hr => (setCell_keep _ _ _ _ k (fun e => by subst e; rw [h.hb] at hr; cases hr)).trans (hb.block k hk),
   fun k hk => by unfold updN; rw [if_neg (fun e => by omega)], rfl⟩

set_option maxHeartbeats 1000000 in
set_option maxRecDepth 20000 in
theorem apply_create_none (s : Bool) (nm : ByteArray) (i : Nat) (h : Inv L ρ n S w) (hnm : nm.size ≤ 1000000) (hi : i < S.nf) (hn : n + 1 ≤ 100000) (hg : L.m s = none) :
    Calls Tryz.prog 96 #[.pointer (some ⟨L.b, 0, none⟩), .agg #[.int .i64 0, .string nm, .pointer (some ⟨L.F i, 0, none⟩), .int .i64 0, .string ⟨#[]⟩], .int .i64 (stI s)] w (AppQ L ρ (n + 1) (applyS s (.create nm.data.toList i) S) w) := by
  have hA := h.alloc (.cells #[.int .i64 0, .string nm, .pointer (some ⟨L.F i, 0, none⟩), .int .i64 0, .string ⟨#[]⟩] 96)
  have hb2 : Below w.heap.size w ((w.alloc (.cells #[.int .i64 0, .string nm, .pointer (some ⟨L.F i, 0, none⟩), .int .i64 0, .string ⟨#[]⟩] 96)).alloc (.map #[] 0)) := ((Below.refl _ _).alloc (Nat.le_refl _) _).alloc (by simp) _
  have HK := Lib.hid hA.blk
  have hA2 := hA.alloc (.map #[] 0)
  have HK2 := Lib.hid hA2.blk
  have bx : Blk ((w.alloc (.cells #[.int .i64 0, .string nm, .pointer (some ⟨L.F i, 0, none⟩), .int .i64 0, .string ⟨#[]⟩] 96)).alloc (.map #[] 0)) w.heap.size 96 #[.int .i64 0, .string nm, .pointer (some ⟨L.F i, 0, none⟩), .int .i64 0, .string ⟨#[]⟩] := by
    unfold Blk
    rw [heap_alloc_old _ _ (by simp)]
    exact heap_alloc_new _ _
  have hgb : ((w.alloc (.cells #[.int .i64 0, .string nm, .pointer (some ⟨L.F i, 0, none⟩), .int .i64 0, .string ⟨#[]⟩] 96)).alloc (.map #[] 0)).heap[w.heap.size + 1]? = some (.map #[] 0) := by
    have := heap_alloc_new (w.alloc (.cells #[.int .i64 0, .string nm, .pointer (some ⟨L.F i, 0, none⟩), .int .i64 0, .string ⟨#[]⟩] 96)) (.map #[] 0)
    simpa using this
  have hρ : ρ (w.heap.size + 1) = none := h.old _ (by omega)
  have hNM := inv_newmap hA2 s (w.heap.size + 1) hρ hgb hg
  have hST := step_newmap hA2 s (w.heap.size + 1) w (by omega) hb2 h (.map (some (w.heap.size + 1)))
  have hbne : w.heap.size ≠ L.b := fun e => by have := h.lt (g := L.b) (by rw [h.hb]; simp); omega
  have bx3 : Blk (((w.alloc (.cells #[.int .i64 0, .string nm, .pointer (some ⟨L.F i, 0, none⟩), .int .i64 0, .string ⟨#[]⟩] 96)).alloc (.map #[] 0)).setCell ⟨L.b, offM s, none⟩ (.map (some (w.heap.size + 1)))) w.heap.size 96 #[.int .i64 0, .string nm, .pointer (some ⟨L.F i, 0, none⟩), .int .i64 0, .string ⟨#[]⟩] := (setCell_keep _ _ _ _ _ hbne).trans bx
  have hmp := hNM.drew.mp s
  simp only [upd, if_true] at hmp
  obtain ⟨w', hrun, hM, hz, e1, e2, e3, hk⟩ := mapI_store hmp hnm (by have := hA.bnd.2.2.1 s; omega) i
  have hI : Inv { L with m := upd L.m s (some (w.heap.size + 1)) } (updN ρ (w.heap.size + 1) (some (.map s))) (n + 1) (applyS s (.create nm.data.toList i) S) w' := inv_map hNM.drew s _ rfl (Nat.le_succ _) hn (Nat.le_trans (putL_len _ _ _) (Nat.succ_le_succ (hA.bnd.2.2.1 s))) (by simp only [upd, if_true]; exact hM) hk (Nat.le_of_eq hz.symm) (fun p hp => by
    rcases putL_mem hp with rfl | hp
    · exact hi
    · exact hA.dok s p hp)
  have hS : Step L ρ w { L with m := upd L.m s (some (w.heap.size + 1)) } (updN ρ (w.heap.size + 1) (some (.map s))) w' := hST.trans ⟨e1, e2, e3, Nat.le_of_eq hz.symm, fun k _ hr => hk k (by rw [hr]; simp), fun _ _ => rfl, rfl⟩
  have HI := Lib.hid hI; have HS := Lib.hid hS; have HKN := Lib.hid hNM.blk
  have x0 := blk_cell bx3 0 rfl
  have x1 := blk_cell bx3 1 rfl
  have x2 := blk_cell bx3 2 rfl
  have hmm := @run_makeMap Tryz.prog
  clear h hA hA2 hNM hST hmp hM hk hI hS bx bx3 hgb hρ hbne e1 e2 e3 hz hi hb2
  have eqn := eqlM_none
  cases s
  · simp only [stI, Bool.false_eq_true, if_false]
    simp only [offM, Bool.false_eq_true, if_false] at hrun HKN x0 x1 x2
    rw [hg] at HK HK2
    have c1 := blk_cell HK.out 1 rfl
    have c1' := blk_cell HK2.out 1 rfl
    have f1 := blk_frozen HK2.out 1
    have d1 := blk_cell HKN.out 1 rfl
    simp only [upd, if_true] at d1
    clear hg hn hnm
    go_enter Tryz.func96, Tryz.ntmps96
    go_wp2
    go_region
    go_wp2
    go_returns
    exact ⟨rfl, _, _, HI.out, HS.out, rfl, rfl⟩
  · simp only [stI, if_true]
    simp only [offM, if_true] at hrun HKN x0 x1 x2
    rw [hg] at HK HK2
    have c1 := blk_cell HK.out 2 rfl
    have c1' := blk_cell HK2.out 2 rfl
    have f1 := blk_frozen HK2.out 2
    have d1 := blk_cell HKN.out 2 rfl
    simp only [upd, if_true] at d1
    clear hg hn hnm
    go_enter Tryz.func96, Tryz.ntmps96
    go_wp2
    go_region
    go_wp2
    go_returns
    exact ⟨rfl, _, _, HI.out, HS.out, rfl, rfl⟩
end Go.Proofs.YthfebcfdhmihcaaGreatDoor

namespace Go.Proofs.YthfebcfdhmihcaaGreatDoor
open Go.RowKit
variable {L : Loc} {ρ ρ' : Nat → Option Role} {n : Nat} {S : DS} {w w' : World}

def offC (s : Bool) : Nat := if s then 1 else 0
theorem fil_set (s : Bool) (a b v : Value) (f : Bool → Nat → Value) (i : Nat) (h0 : f false i = a) (h1 : f true i = b) : (#[a, b] : Array Value).setIfInBounds (offC s) v = #[upd2 f s i v false i, upd2 f s i v true i] := by
  cases s <;> simp [offC, upd2, h0, h1]
theorem inv_con (h : Inv L ρ n S w) (s : Bool) (i : Nat) (hi : i < S.nf) {v1 : Value} {l1 : List UInt8} (hg : w.grownBy w' (L.V s i).ownBlock) (hb : Bys w' v1 l1) (hl : l1.length ≤ 4000000) (ho : v1.ownBlock = (L.V s i).ownBlock ∨ v1.ownBlock = some w.heap.size) :
    ∃ ρ', Inv { L with V := upd2 L.V s i v1 } ρ' n { S with con := upd2 S.con s i l1 } (w'.setCell ⟨L.F i, offC s, none⟩ v1) ∧ Step L ρ w { L with V := upd2 L.V s i v1 } ρ' (w'.setCell ⟨L.F i, offC s, none⟩ v1) := by
  have hlt : ∀ g, v1.ownBlock = some g → g < w'.heap.size := fun g hg' => (hb.lt g hg').2
  obtain ⟨ρ', hx, hro, hown, hold⟩ : ∃ ρ' : Nat → Option Role, (∀ k r, ρ k = some r → ρ' k = some r) ∧ (∀ k, k < w.heap.size → ρ' k = ρ k) ∧ (∀ g, v1.ownBlock = some g → ρ' g = some (.con s i)) ∧ (∀ k, w'.heap.size ≤ k → ρ' k = none) := by
    rcases ho with ho | ho
    · exact ⟨ρ, fun _ _ h => h, fun _ _ => rfl, fun g hg' => h.cro s i g hi (ho ▸ hg'), fun k hk => h.old k (Nat.le_trans hg.size hk)⟩
    · refine ⟨updN ρ w.heap.size (some (.con s i)), fun k r hk => ?_, fun k hk => ?_, fun g hg' => ?_, fun k hk => ?_⟩
      · unfold updN
        rw [if_neg (fun e => by subst e; rw [h.old _ (Nat.le_refl _)] at hk; cases hk)]; exact hk
      · unfold updN
        rw [if_neg (Nat.ne_of_lt hk)]
      · rw [ho] at hg'; cases hg'; simp [updN]
      · have := hlt _ ho
        unfold updN
        rw [if_neg (fun e => by omega)]; exact h.old k (Nat.le_trans hg.size hk)
  have hkr : ∀ k r, ρ k = some r → r ≠ .con s i → w'.heap[k]? = w.heap[k]? := fun k r hr hne => hg.block k (h.lt (by rw [hr]; simp)) (fun e => by have := h.cro s i k hi e.symm; rw [hr] at this; cases this; exact hne rfl)
  have hks : ∀ k, k ≠ L.F i → (w'.setCell ⟨L.F i, offC s, none⟩ v1).heap[k]? = w'.heap[k]? := setCell_keep _ _ _ _
  have hkb : ∀ k r, ρ k = some r → r ≠ .con s i → r ≠ .file i → (w'.setCell ⟨L.F i, offC s, none⟩ v1).heap[k]? = w.heap[k]? := fun k r hr h1 h2 => (hks k (fun e => by subst e; rw [h.fro i hi] at hr; cases hr; exact h2 rfl)).trans (hkr k r hr h1)
  have hfi : Blk (w'.setCell ⟨L.F i, offC s, none⟩ v1) (L.F i) 104 #[upd2 L.V s i v1 false i, upd2 L.V s i v1 true i] := by
    have h0 : Blk w' (L.F i) 104 #[L.V false i, L.V true i] := (hkr _ _ (h.fro i hi) (by simp)).trans (h.fil i hi)
    have := blk_set h0 (offC s) v1
    rw [fil_set s _ _ v1 L.V i rfl rfl] at this
    exact this
  refine ⟨ρ', ?_, ?_⟩
  · exact {
      hb := hx _ _ h.hb
      blk := (hkb _ _ h.hb (by simp) (by simp)).trans h.blk
      mp := fun t => mapI_keep (h.mp t) (fun g hg' => hkb g _ hg' (by simp) (by simp)) hx
      flt := fltI_keep h.flt (fun g hg' => hkb g _ hg' (by simp) (by simp)) hx
      pnd := row_keep h.pnd (fun g hg' => hkb g _ (h.pro g hg') (by simp) (by simp))
      pro := fun g hg' => hx _ _ (h.pro g hg')
      fro := fun j hj => hx _ _ (h.fro j hj)
      fil := fun j hj => by
        by_cases e : j = i
        · subst e; exact hfi
        · have e1 : upd2 L.V s i v1 false j = L.V false j := by simp [upd2, e]
          have e2 : upd2 L.V s i v1 true j = L.V true j := by simp [upd2, e]
          simp only [e1, e2]
          exact (hkb _ _ (h.fro j hj) (by simp) (by simpa using e)).trans (h.fil j hj)
      con := fun t j hj => by
        by_cases e : t = s ∧ j = i
        · obtain ⟨rfl, rfl⟩ := e
          simp only [upd2, and_self, if_true]
          exact row_keep hb (fun g hg' => hks g (fun e => by
            subst e
            have h1 := hown _ hg'
            rw [hx _ _ (h.fro j hj)] at h1; cases h1))
        · simp only [upd2, if_neg e]
          exact row_keep (h.con t j hj) (fun g hg' => hkb g _ (h.cro t j g hj hg') (by simpa using e) (by simp))
      cro := fun t j g hj hg' => by
        by_cases e : t = s ∧ j = i
        · obtain ⟨rfl, rfl⟩ := e
          simp only [upd2, and_self, if_true] at hg'
          exact hown g hg'
        · simp only [upd2, if_neg e] at hg'
          exact hx _ _ (h.cro t j g hj hg')
      clen := fun t j hj => by
        by_cases e : t = s ∧ j = i
        · simp only [upd2, if_pos e]; exact hl
        · simp only [upd2, if_neg e]; exact h.clen t j hj
      dok := h.dok
      pok := h.pok
      old := fun k hk => hold k (by rw [size_setCell'] at hk; exact hk)
      room := h.room
      bnd := h.bnd }
  · exact ⟨hg.os, hg.tape, hg.output, by rw [size_setCell']; exact hg.size, fun k hk hr => (hks k (fun e => by subst e; rw [h.fro i hi] at hr; cases hr)).trans (hg.block k hk (fun e => by have := h.cro s i k hi e.symm; rw [hr] at this; cases this)), hro, rfl⟩

/-- What a drawn region of apply reads of a change, and of its file. -/
def AppS (g f s : Nat) (o : Int) (d : ByteArray) (v : Value) (a : World) : Prop := a.cell? ⟨g, 2, none⟩ = some (.pointer (some ⟨f, 0, none⟩)) ∧ a.cell? ⟨g, 3, none⟩ = some (.int .i64 o) ∧ a.cell? ⟨g, 4, none⟩ = some (.string d) ∧ a.cell? ⟨f, s, none⟩ = some v ∧ a.frozen? ⟨f, s, none⟩ = false
theorem appS_of {g f s : Nat} {o : Int} {d : ByteArray} {v v0 v1 : Value} {x y : Value} {a : World} (hb : Blk a g 96 #[x, y, .pointer (some ⟨f, 0, none⟩), .int .i64 o, .string d]) (hf : Blk a f 104 #[v0, v1]) (hv : (#[v0, v1] : Array Value)[s]? = some v) : AppS g f s o d v a :=
  ⟨blk_cell hb 2 rfl, blk_cell hb 3 rfl, blk_cell hb 4 rfl, blk_cell hf s hv, blk_frozen hf s⟩
theorem appS_grown {g f s : Nat} {o : Int} {d : ByteArray} {v v0 v1 : Value} {x y : Value} {a a' : World} {r : Option Nat} (hb : Blk a g 96 #[x, y, .pointer (some ⟨f, 0, none⟩), .int .i64 o, .string d]) (hf : Blk a f 104 #[v0, v1]) (hv : (#[v0, v1] : Array Value)[s]? = some v)
    (hg : a.grownBy a' r) (h1 : some g ≠ r) (h2 : some f ≠ r) : AppS g f s o d v a' :=
  appS_of (a := a') ((hg.block g (blk_lt hb) h1).trans hb) ((hg.block f (blk_lt hf) h2).trans hf) hv
theorem app3_set {g f : Nat} {x y z : Value} {a : World} (hne : g ≠ f) (h : a.cell? ⟨g, 2, none⟩ = some x ∧ a.cell? ⟨g, 3, none⟩ = some y ∧ a.cell? ⟨g, 4, none⟩ = some z) (s : Nat) (v : Value) :
    (a.setCell ⟨f, s, none⟩ v).cell? ⟨g, 2, none⟩ = some x ∧ (a.setCell ⟨f, s, none⟩ v).cell? ⟨g, 3, none⟩ = some y ∧ (a.setCell ⟨f, s, none⟩ v).cell? ⟨g, 4, none⟩ = some z :=
  ⟨(World.cell?_of_block (a := ⟨g, 2, none⟩) (setCell_keep _ _ _ _ g hne)).trans h.1, (World.cell?_of_block (a := ⟨g, 3, none⟩) (setCell_keep _ _ _ _ g hne)).trans h.2.1, (World.cell?_of_block (a := ⟨g, 4, none⟩) (setCell_keep _ _ _ _ g hne)).trans h.2.2⟩
set_option maxHeartbeats 1000000 in
set_option maxRecDepth 20000 in
theorem apply_write_false (i o : Nat) (d : ByteArray) (h0 : Inv L ρ n S w) (hi : i < S.nf) (ho : o + d.size ≤ 4000000) :
    Calls Tryz.prog 96 #[.pointer (some ⟨L.b, 0, none⟩), .agg #[.int .i64 2, .string ⟨#[]⟩, .pointer (some ⟨L.F i, 0, none⟩), .int .i64 o, .string d], .int .i64 0] w (AppQ L ρ n (applyS false (.write i o d.data.toList) S) w) := by
  obtain ⟨W, hW⟩ : ∃ W, W = w.alloc (.cells #[.int .i64 2, .string ⟨#[]⟩, .pointer (some ⟨L.F i, 0, none⟩), .int .i64 o, .string d] 96) := ⟨_, rfl⟩
  have bx : Blk W w.heap.size 96 #[.int .i64 2, .string ⟨#[]⟩, .pointer (some ⟨L.F i, 0, none⟩), .int .i64 o, .string d] := by rw [hW]; exact blk_new _ _ _
  have hAB : Step L ρ w L ρ W := by rw [hW]; exact Step.below ((Below.refl _ _).alloc (Nat.le_refl _) _)
  have h : Inv L ρ n S W.drew := by rw [hW]; exact (h0.alloc _).drew
  have rb : ρ w.heap.size = none := h0.old _ (Nat.le_refl _)
  have ne1 : some w.heap.size ≠ (L.V false i).ownBlock := fun e => by have := h.cro false i _ hi e.symm; rw [rb] at this; cases this
  have ne2 : some (L.F i) ≠ (L.V false i).ownBlock := fun e => by have := h.cro false i _ hi e.symm; rw [h.fro i hi] at this; cases this
  have ne3 : w.heap.size ≠ L.F i := fun e => by have := h.fro i hi; rw [← e, rb] at this; cases this
  have hfin : ∀ w2 v1, W.drew.grownBy w2 (L.V false i).ownBlock → Bys w2 v1 (overL (S.con false i) o d.data.toList) → (v1.ownBlock = (L.V false i).ownBlock ∨ v1.ownBlock = some W.heap.size) → AppQ L ρ n (applyS false (.write i o d.data.toList) S) w (.returned (.tuple #[])) (w2.setCell ⟨L.F i, 0, none⟩ v1) := fun w2 v1 g1 g2 g3 => by
    obtain ⟨ρ', hI, hS⟩ := inv_con h false i hi g1 g2 (by have e2 : d.data.toList.length = d.size := Array.length_toList; rw [overL_len, e2]; have := h.clen false i hi; split <;> omega) g3
    exact ⟨rfl, _, ρ', hI, (hAB.trans (show Step L ρ W L ρ W.drew from ⟨rfl, rfl, rfl, Nat.le_refl _, fun _ _ _ => rfl, fun _ _ => rfl, rfl⟩)).trans hS, rfl, rfl⟩
  have bf : Blk W.drew (L.F i) 104 #[L.V false i, L.V true i] := h.fil i hi
  have bx' : Blk W.drew w.heap.size 96 #[.int .i64 2, .string ⟨#[]⟩, .pointer (some ⟨L.F i, 0, none⟩), .int .i64 o, .string d] := bx
  have HC := Lib.hid (overwrite_any (L.V false i) (S.con false i) o d _ (h.con false i hi) (Nat.le_trans (h.clen false i hi) (by decide)) (by omega))
  have HF := Lib.hid hfin; have HX := Lib.hid bx'; have HB := Lib.hid bf; have N3 := Lib.hid ne3; have N1 := Lib.hid ne1; have N2 := Lib.hid ne2
  have x0 := blk_cell bx 0 rfl
  clear h h0 hAB hfin bx bx' bf ne1 ne2 ne3 rb hi ho
  rw [hW] at HC HF HX HB x0
  clear hW
  generalize L.V false i = V at HC HF N1 N2 HB
  generalize L.V true i = Vo at HB
  generalize L.F i = fb at *
  obtain ⟨z2, z3, z4, z5, z6⟩ := appS_of (s := 0) (v := V) HX.out HB.out rfl
  go_enter Tryz.func96, Tryz.ntmps96
  go_wp2
  refine wp_region_held_drew (S := fun a => a.cell? ⟨w.heap.size, 2, none⟩ = some (.pointer (some ⟨fb, 0, none⟩)) ∧ a.cell? ⟨w.heap.size, 3, none⟩ = some (.int .i64 o) ∧ a.cell? ⟨w.heap.size, 4, none⟩ = some (.string d)) (by kernel_rfl) ⟨z2, z3, z4⟩ (fun hHeld => ?_)
  refine wpAnyH_take (i := 0) (v := .pointer (some ⟨w.heap.size, 2, none⟩)) rfl (by kernel_rfl) (by kernel_rfl) (by kernel_rfl) (fun _ _ _ h => h) (Or.inl ⟨by rfl, ?_⟩) hHeld ?_
  · intro w' hSw
    obtain ⟨a0, a1, a2⟩ := hSw
    go_simp
  go_frame
  refine wpAnyH_take (i := 1) (v := .pointer (some ⟨fb, 0, none⟩)) rfl (by kernel_rfl) (by kernel_rfl) (by kernel_rfl) (fun _ _ _ h => h) (Or.inl ⟨by rfl, ?_⟩) hHeld ?_
  · intro w' hSw
    obtain ⟨a0, a1, a2⟩ := hSw
    go_simp
  go_frame
  refine wpAnyH_take (i := 2) (v := .int .i64 0) rfl (by kernel_rfl) (by kernel_rfl) (by kernel_rfl) (fun _ _ _ h => h) (Or.inl ⟨by rfl, ?_⟩) hHeld ?_
  · intro w' hSw
    obtain ⟨a0, a1, a2⟩ := hSw
    go_simp
  go_frame
  refine wpAnyH_take (i := 3) (v := .pointer (some ⟨w.heap.size, 2, none⟩)) rfl (by kernel_rfl) (by kernel_rfl) (by kernel_rfl) (fun _ _ _ h => h) (Or.inl ⟨by rfl, ?_⟩) hHeld ?_
  · intro w' hSw
    obtain ⟨a0, a1, a2⟩ := hSw
    go_simp
  go_frame
  refine wpAnyH_take (i := 4) (v := .pointer (some ⟨fb, 0, none⟩)) rfl (by kernel_rfl) (by kernel_rfl) (by kernel_rfl) (fun _ _ _ h => h) (Or.inl ⟨by rfl, ?_⟩) hHeld ?_
  · intro w' hSw
    obtain ⟨a0, a1, a2⟩ := hSw
    go_simp
  go_frame
  refine wpAnyH_take (i := 5) (v := .int .i64 0) rfl (by kernel_rfl) (by kernel_rfl) (by kernel_rfl) (fun _ _ _ h => h) (Or.inl ⟨by rfl, ?_⟩) hHeld ?_
  · intro w' hSw
    obtain ⟨a0, a1, a2⟩ := hSw
    go_simp
  go_frame
  refine wpAnyH_take (i := 6) (v := .pointer (some ⟨fb, 0, none⟩)) rfl (by kernel_rfl) (by kernel_rfl) (by kernel_rfl) (fun _ _ _ h => h) (Or.inl ⟨by rfl, ?_⟩) hHeld ?_
  · intro w' hSw
    obtain ⟨a0, a1, a2⟩ := hSw
    go_simp
  go_frame
  refine wpAnyH_take (i := 7) (v := .pointer (some ⟨fb, 0, none⟩)) rfl (by kernel_rfl) (by kernel_rfl) (by kernel_rfl) (fun _ _ _ h => h) (Or.inl ⟨by rfl, ?_⟩) hHeld ?_
  · intro w' hSw
    obtain ⟨a0, a1, a2⟩ := hSw
    go_simp
  go_frame
  refine wpAnyH_take (i := 8) (v := .pointer (some ⟨fb, 0, none⟩)) rfl (by kernel_rfl) (by kernel_rfl) (by kernel_rfl) (fun _ _ _ h => h) (Or.inl ⟨by rfl, ?_⟩) hHeld ?_
  · intro w' hSw
    obtain ⟨a0, a1, a2⟩ := hSw
    go_simp
  go_frame
  refine wpAnyH_take (i := 10) (v := .pointer (some ⟨w.heap.size, 3, none⟩)) rfl (by kernel_rfl) (by kernel_rfl) (by kernel_rfl) (fun _ _ _ h => h) (Or.inl ⟨by rfl, ?_⟩) hHeld ?_
  · intro w' hSw
    obtain ⟨a0, a1, a2⟩ := hSw
    go_simp
  go_frame
  refine wpAnyH_take (i := 11) (v := .int .i64 o) rfl (by kernel_rfl) (by kernel_rfl) (by kernel_rfl) (fun _ _ _ h => h) (Or.inl ⟨by rfl, ?_⟩) hHeld ?_
  · intro w' hSw
    obtain ⟨a0, a1, a2⟩ := hSw
    go_simp
  go_frame
  refine wpAnyH_take (i := 12) (v := .pointer (some ⟨w.heap.size, 4, none⟩)) rfl (by kernel_rfl) (by kernel_rfl) (by kernel_rfl) (fun _ _ _ h => h) (Or.inl ⟨by rfl, ?_⟩) hHeld ?_
  · intro w' hSw
    obtain ⟨a0, a1, a2⟩ := hSw
    go_simp
  go_frame
  refine wpAnyH_take (i := 13) (v := .string d) rfl (by kernel_rfl) (by kernel_rfl) (by kernel_rfl) (fun _ _ _ h => h) (Or.inl ⟨by rfl, ?_⟩) hHeld ?_
  · intro w' hSw
    obtain ⟨a0, a1, a2⟩ := hSw
    go_simp
  go_frame
  refine wpAnyH_take (i := 15) (v := .pointer (some ⟨fb, 0, none⟩)) rfl (by kernel_rfl) (by kernel_rfl) (by kernel_rfl) (fun _ _ _ h => h) (Or.inl ⟨by rfl, ?_⟩) hHeld ?_
  · intro w' hSw
    obtain ⟨a0, a1, a2⟩ := hSw
    go_simp
  go_frame
  refine wpAnyH_take (i := 16) (v := .pointer (some ⟨fb, 0, none⟩)) rfl (by kernel_rfl) (by kernel_rfl) (by kernel_rfl) (fun _ _ _ h => h) (Or.inl ⟨by rfl, ?_⟩) hHeld ?_
  · intro w' hSw
    obtain ⟨a0, a1, a2⟩ := hSw
    go_simp
  go_frame
  refine wpAnyH_ready (rs := [9]) (by kernel_rfl) (by simp) ?_
  refine AllReadyH.cons rfl (fun K hK => ?_) AllReadyH.nil
  go_simp
  refine hK.out _ _ hHeld (fun hHeld => ?_)
  clear hK K
  refine wpAnyH_ready (rs := [14]) (by kernel_rfl) (by simp) ?_
  refine AllReadyH.cons rfl (fun K hK => ?_) AllReadyH.nil
  go_simp
  (with_reducible refine HC.out.mono ?_)
  rintro e w2 ⟨v1, rfl, g2, g1, g3⟩
  obtain ⟨va, vc, rfl, hvc⟩ := bys_slice g2
  obtain ⟨y2, y3, y4, y5, y6⟩ := appS_grown (s := 0) (v := V) HX.out HB.out rfl g1 N1.out N2.out
  go_simp
  refine hK.out _ _ ⟨y2, y3, y4⟩ (fun hHeld => ?_)
  clear hK K
  refine wpAnyH_take (i := 17) (v := .pointer (some ⟨fb, 0, none⟩)) rfl (by kernel_rfl) (by kernel_rfl) (by kernel_rfl) (fun _ _ _ h => h) (Or.inl ⟨by rfl, ?_⟩) hHeld ?_
  · intro w' hSw
    obtain ⟨a0, a1, a2⟩ := hSw
    go_simp
  go_frame
  refine wpAnyH_ready (rs := [18]) (by kernel_rfl) (by simp) ?_
  refine AllReadyH.cons rfl (fun K hK => ?_) AllReadyH.nil
  go_simp
  refine hK.out _ _ (app3_set N3.out ⟨y2, y3, y4⟩ _ _) (fun hHeld => ?_)
  clear hK K
  refine wpAnyH_done (by kernel_rfl) ?_ _
  go_wp2
  go_returns
  exact HF.out _ _ g1 g2 g3

set_option maxHeartbeats 1000000 in
set_option maxRecDepth 20000 in
theorem apply_write_true (i o : Nat) (d : ByteArray) (h0 : Inv L ρ n S w) (hi : i < S.nf) (ho : o + d.size ≤ 4000000) :
    Calls Tryz.prog 96 #[.pointer (some ⟨L.b, 0, none⟩), .agg #[.int .i64 2, .string ⟨#[]⟩, .pointer (some ⟨L.F i, 0, none⟩), .int .i64 o, .string d], .int .i64 1] w (AppQ L ρ n (applyS true (.write i o d.data.toList) S) w) := by
  obtain ⟨W, hW⟩ : ∃ W, W = w.alloc (.cells #[.int .i64 2, .string ⟨#[]⟩, .pointer (some ⟨L.F i, 0, none⟩), .int .i64 o, .string d] 96) := ⟨_, rfl⟩
  have bx : Blk W w.heap.size 96 #[.int .i64 2, .string ⟨#[]⟩, .pointer (some ⟨L.F i, 0, none⟩), .int .i64 o, .string d] := by rw [hW]; exact blk_new _ _ _
  have hAB : Step L ρ w L ρ W := by rw [hW]; exact Step.below ((Below.refl _ _).alloc (Nat.le_refl _) _)
  have h : Inv L ρ n S W.drew := by rw [hW]; exact (h0.alloc _).drew
  have rb : ρ w.heap.size = none := h0.old _ (Nat.le_refl _)
  have ne1 : some w.heap.size ≠ (L.V true i).ownBlock := fun e => by have := h.cro true i _ hi e.symm; rw [rb] at this; cases this
  have ne2 : some (L.F i) ≠ (L.V true i).ownBlock := fun e => by have := h.cro true i _ hi e.symm; rw [h.fro i hi] at this; cases this
  have ne3 : w.heap.size ≠ L.F i := fun e => by have := h.fro i hi; rw [← e, rb] at this; cases this
  have hfin : ∀ w2 v1, W.drew.grownBy w2 (L.V true i).ownBlock → Bys w2 v1 (overL (S.con true i) o d.data.toList) → (v1.ownBlock = (L.V true i).ownBlock ∨ v1.ownBlock = some W.heap.size) → AppQ L ρ n (applyS true (.write i o d.data.toList) S) w (.returned (.tuple #[])) (w2.setCell ⟨L.F i, 1, none⟩ v1) := fun w2 v1 g1 g2 g3 => by
    obtain ⟨ρ', hI, hS⟩ := inv_con h true i hi g1 g2 (by have e2 : d.data.toList.length = d.size := Array.length_toList; rw [overL_len, e2]; have := h.clen true i hi; split <;> omega) g3
    exact ⟨rfl, _, ρ', hI, (hAB.trans (show Step L ρ W L ρ W.drew from ⟨rfl, rfl, rfl, Nat.le_refl _, fun _ _ _ => rfl, fun _ _ => rfl, rfl⟩)).trans hS, rfl, rfl⟩
  have bf : Blk W.drew (L.F i) 104 #[L.V false i, L.V true i] := h.fil i hi
  have bx' : Blk W.drew w.heap.size 96 #[.int .i64 2, .string ⟨#[]⟩, .pointer (some ⟨L.F i, 0, none⟩), .int .i64 o, .string d] := bx
  have HC := Lib.hid (overwrite_any (L.V true i) (S.con true i) o d _ (h.con true i hi) (Nat.le_trans (h.clen true i hi) (by decide)) (by omega))
  have HF := Lib.hid hfin; have HX := Lib.hid bx'; have HB := Lib.hid bf; have N3 := Lib.hid ne3; have N1 := Lib.hid ne1; have N2 := Lib.hid ne2
  have x0 := blk_cell bx 0 rfl
  clear h h0 hAB hfin bx bx' bf ne1 ne2 ne3 rb hi ho
  rw [hW] at HC HF HX HB x0
  clear hW
  generalize L.V true i = V at HC HF N1 N2 HB
  generalize L.V false i = Vo at HB
  generalize L.F i = fb at *
  obtain ⟨z2, z3, z4, z5, z6⟩ := appS_of (s := 1) (v := V) HX.out HB.out rfl
  go_enter Tryz.func96, Tryz.ntmps96
  go_wp2
  refine wp_region_held_drew (S := fun a => a.cell? ⟨w.heap.size, 2, none⟩ = some (.pointer (some ⟨fb, 0, none⟩)) ∧ a.cell? ⟨w.heap.size, 3, none⟩ = some (.int .i64 o) ∧ a.cell? ⟨w.heap.size, 4, none⟩ = some (.string d)) (by kernel_rfl) ⟨z2, z3, z4⟩ (fun hHeld => ?_)
  refine wpAnyH_take (i := 0) (v := .pointer (some ⟨w.heap.size, 2, none⟩)) rfl (by kernel_rfl) (by kernel_rfl) (by kernel_rfl) (fun _ _ _ h => h) (Or.inl ⟨by rfl, ?_⟩) hHeld ?_
  · intro w' hSw
    obtain ⟨a0, a1, a2⟩ := hSw
    go_simp
  go_frame
  refine wpAnyH_take (i := 1) (v := .pointer (some ⟨fb, 0, none⟩)) rfl (by kernel_rfl) (by kernel_rfl) (by kernel_rfl) (fun _ _ _ h => h) (Or.inl ⟨by rfl, ?_⟩) hHeld ?_
  · intro w' hSw
    obtain ⟨a0, a1, a2⟩ := hSw
    go_simp
  go_frame
  refine wpAnyH_take (i := 2) (v := .int .i64 1) rfl (by kernel_rfl) (by kernel_rfl) (by kernel_rfl) (fun _ _ _ h => h) (Or.inl ⟨by rfl, ?_⟩) hHeld ?_
  · intro w' hSw
    obtain ⟨a0, a1, a2⟩ := hSw
    go_simp
  go_frame
  refine wpAnyH_take (i := 3) (v := .pointer (some ⟨w.heap.size, 2, none⟩)) rfl (by kernel_rfl) (by kernel_rfl) (by kernel_rfl) (fun _ _ _ h => h) (Or.inl ⟨by rfl, ?_⟩) hHeld ?_
  · intro w' hSw
    obtain ⟨a0, a1, a2⟩ := hSw
    go_simp
  go_frame
  refine wpAnyH_take (i := 4) (v := .pointer (some ⟨fb, 0, none⟩)) rfl (by kernel_rfl) (by kernel_rfl) (by kernel_rfl) (fun _ _ _ h => h) (Or.inl ⟨by rfl, ?_⟩) hHeld ?_
  · intro w' hSw
    obtain ⟨a0, a1, a2⟩ := hSw
    go_simp
  go_frame
  refine wpAnyH_take (i := 5) (v := .int .i64 1) rfl (by kernel_rfl) (by kernel_rfl) (by kernel_rfl) (fun _ _ _ h => h) (Or.inl ⟨by rfl, ?_⟩) hHeld ?_
  · intro w' hSw
    obtain ⟨a0, a1, a2⟩ := hSw
    go_simp
  go_frame
  refine wpAnyH_take (i := 6) (v := .pointer (some ⟨fb, 0, none⟩)) rfl (by kernel_rfl) (by kernel_rfl) (by kernel_rfl) (fun _ _ _ h => h) (Or.inl ⟨by rfl, ?_⟩) hHeld ?_
  · intro w' hSw
    obtain ⟨a0, a1, a2⟩ := hSw
    go_simp
  go_frame
  refine wpAnyH_take (i := 7) (v := .pointer (some ⟨fb, 0, none⟩)) rfl (by kernel_rfl) (by kernel_rfl) (by kernel_rfl) (fun _ _ _ h => h) (Or.inl ⟨by rfl, ?_⟩) hHeld ?_
  · intro w' hSw
    obtain ⟨a0, a1, a2⟩ := hSw
    go_simp
  go_frame
  refine wpAnyH_take (i := 8) (v := .pointer (some ⟨fb, 1, none⟩)) rfl (by kernel_rfl) (by kernel_rfl) (by kernel_rfl) (fun _ _ _ h => h) (Or.inl ⟨by rfl, ?_⟩) hHeld ?_
  · intro w' hSw
    obtain ⟨a0, a1, a2⟩ := hSw
    go_simp
  go_frame
  refine wpAnyH_take (i := 10) (v := .pointer (some ⟨w.heap.size, 3, none⟩)) rfl (by kernel_rfl) (by kernel_rfl) (by kernel_rfl) (fun _ _ _ h => h) (Or.inl ⟨by rfl, ?_⟩) hHeld ?_
  · intro w' hSw
    obtain ⟨a0, a1, a2⟩ := hSw
    go_simp
  go_frame
  refine wpAnyH_take (i := 11) (v := .int .i64 o) rfl (by kernel_rfl) (by kernel_rfl) (by kernel_rfl) (fun _ _ _ h => h) (Or.inl ⟨by rfl, ?_⟩) hHeld ?_
  · intro w' hSw
    obtain ⟨a0, a1, a2⟩ := hSw
    go_simp
  go_frame
  refine wpAnyH_take (i := 12) (v := .pointer (some ⟨w.heap.size, 4, none⟩)) rfl (by kernel_rfl) (by kernel_rfl) (by kernel_rfl) (fun _ _ _ h => h) (Or.inl ⟨by rfl, ?_⟩) hHeld ?_
  · intro w' hSw
    obtain ⟨a0, a1, a2⟩ := hSw
    go_simp
  go_frame
  refine wpAnyH_take (i := 13) (v := .string d) rfl (by kernel_rfl) (by kernel_rfl) (by kernel_rfl) (fun _ _ _ h => h) (Or.inl ⟨by rfl, ?_⟩) hHeld ?_
  · intro w' hSw
    obtain ⟨a0, a1, a2⟩ := hSw
    go_simp
  go_frame
  refine wpAnyH_take (i := 15) (v := .pointer (some ⟨fb, 0, none⟩)) rfl (by kernel_rfl) (by kernel_rfl) (by kernel_rfl) (fun _ _ _ h => h) (Or.inl ⟨by rfl, ?_⟩) hHeld ?_
  · intro w' hSw
    obtain ⟨a0, a1, a2⟩ := hSw
    go_simp
  go_frame
  refine wpAnyH_take (i := 16) (v := .pointer (some ⟨fb, 0, none⟩)) rfl (by kernel_rfl) (by kernel_rfl) (by kernel_rfl) (fun _ _ _ h => h) (Or.inl ⟨by rfl, ?_⟩) hHeld ?_
  · intro w' hSw
    obtain ⟨a0, a1, a2⟩ := hSw
    go_simp
  go_frame
  refine wpAnyH_ready (rs := [9]) (by kernel_rfl) (by simp) ?_
  refine AllReadyH.cons rfl (fun K hK => ?_) AllReadyH.nil
  go_simp
  refine hK.out _ _ hHeld (fun hHeld => ?_)
  clear hK K
  refine wpAnyH_ready (rs := [14]) (by kernel_rfl) (by simp) ?_
  refine AllReadyH.cons rfl (fun K hK => ?_) AllReadyH.nil
  go_simp
  (with_reducible refine HC.out.mono ?_)
  rintro e w2 ⟨v1, rfl, g2, g1, g3⟩
  obtain ⟨va, vc, rfl, hvc⟩ := bys_slice g2
  obtain ⟨y2, y3, y4, y5, y6⟩ := appS_grown (s := 1) (v := V) HX.out HB.out rfl g1 N1.out N2.out
  go_simp
  refine hK.out _ _ ⟨y2, y3, y4⟩ (fun hHeld => ?_)
  clear hK K
  refine wpAnyH_take (i := 17) (v := .pointer (some ⟨fb, 1, none⟩)) rfl (by kernel_rfl) (by kernel_rfl) (by kernel_rfl) (fun _ _ _ h => h) (Or.inl ⟨by rfl, ?_⟩) hHeld ?_
  · intro w' hSw
    obtain ⟨a0, a1, a2⟩ := hSw
    go_simp
  go_frame
  refine wpAnyH_ready (rs := [18]) (by kernel_rfl) (by simp) ?_
  refine AllReadyH.cons rfl (fun K hK => ?_) AllReadyH.nil
  go_simp
  refine hK.out _ _ (app3_set N3.out ⟨y2, y3, y4⟩ _ _) (fun hHeld => ?_)
  clear hK K
  refine wpAnyH_done (by kernel_rfl) ?_ _
  go_wp2
  go_returns
  exact HF.out _ _ g1 g2 g3

set_option maxHeartbeats 1000000 in
set_option maxRecDepth 20000 in
theorem apply_trunc_false (i o : Nat) (h0 : Inv L ρ n S w) (hi : i < S.nf) (ho : o ≤ 4000000) :
    Calls Tryz.prog 96 #[.pointer (some ⟨L.b, 0, none⟩), .agg #[.int .i64 3, .string ⟨#[]⟩, .pointer (some ⟨L.F i, 0, none⟩), .int .i64 o, .string ⟨#[]⟩], .int .i64 0] w (AppQ L ρ n (applyS false (.trunc i o) S) w) := by
  obtain ⟨W, hW⟩ : ∃ W, W = w.alloc (.cells #[.int .i64 3, .string ⟨#[]⟩, .pointer (some ⟨L.F i, 0, none⟩), .int .i64 o, .string ⟨#[]⟩] 96) := ⟨_, rfl⟩
  have bx : Blk W w.heap.size 96 #[.int .i64 3, .string ⟨#[]⟩, .pointer (some ⟨L.F i, 0, none⟩), .int .i64 o, .string ⟨#[]⟩] := by rw [hW]; exact blk_new _ _ _
  have hAB : Step L ρ w L ρ W := by rw [hW]; exact Step.below ((Below.refl _ _).alloc (Nat.le_refl _) _)
  have h : Inv L ρ n S W.drew := by rw [hW]; exact (h0.alloc _).drew
  have rb : ρ w.heap.size = none := h0.old _ (Nat.le_refl _)
  have ne1 : some w.heap.size ≠ (L.V false i).ownBlock := fun e => by have := h.cro false i _ hi e.symm; rw [rb] at this; cases this
  have ne2 : some (L.F i) ≠ (L.V false i).ownBlock := fun e => by have := h.cro false i _ hi e.symm; rw [h.fro i hi] at this; cases this
  have ne3 : w.heap.size ≠ L.F i := fun e => by have := h.fro i hi; rw [← e, rb] at this; cases this
  have hfin : ∀ w2 v1, W.drew.grownBy w2 (L.V false i).ownBlock → Bys w2 v1 (resizeL (S.con false i) o) → (v1.ownBlock = (L.V false i).ownBlock ∨ v1.ownBlock = some W.heap.size) → AppQ L ρ n (applyS false (.trunc i o) S) w (.returned (.tuple #[])) (w2.setCell ⟨L.F i, 0, none⟩ v1) := fun w2 v1 g1 g2 g3 => by
    obtain ⟨ρ', hI, hS⟩ := inv_con h false i hi g1 g2 (by rw [resizeL_len]; exact ho) g3
    exact ⟨rfl, _, ρ', hI, (hAB.trans (show Step L ρ W L ρ W.drew from ⟨rfl, rfl, rfl, Nat.le_refl _, fun _ _ _ => rfl, fun _ _ => rfl, rfl⟩)).trans hS, rfl, rfl⟩
  have bf : Blk W.drew (L.F i) 104 #[L.V false i, L.V true i] := h.fil i hi
  have bx' : Blk W.drew w.heap.size 96 #[.int .i64 3, .string ⟨#[]⟩, .pointer (some ⟨L.F i, 0, none⟩), .int .i64 o, .string ⟨#[]⟩] := bx
  have HC := Lib.hid (resize_any (L.V false i) (S.con false i) o _ (h.con false i hi) (Nat.le_trans (h.clen false i hi) (by decide)) (by omega))
  have HF := Lib.hid hfin; have HX := Lib.hid bx'; have HB := Lib.hid bf; have N3 := Lib.hid ne3; have N1 := Lib.hid ne1; have N2 := Lib.hid ne2
  have x0 := blk_cell bx 0 rfl
  clear h h0 hAB hfin bx bx' bf ne1 ne2 ne3 rb hi ho
  rw [hW] at HC HF HX HB x0
  clear hW
  generalize L.V false i = V at HC HF N1 N2 HB
  generalize L.V true i = Vo at HB
  generalize L.F i = fb at *
  obtain ⟨z2, z3, z4, z5, z6⟩ := appS_of (s := 0) (v := V) HX.out HB.out rfl
  go_enter Tryz.func96, Tryz.ntmps96
  go_wp2
  refine wp_region_held_drew (S := fun a => a.cell? ⟨w.heap.size, 2, none⟩ = some (.pointer (some ⟨fb, 0, none⟩)) ∧ a.cell? ⟨w.heap.size, 3, none⟩ = some (.int .i64 o) ∧ a.cell? ⟨w.heap.size, 4, none⟩ = some (.string ⟨#[]⟩)) (by kernel_rfl) ⟨z2, z3, z4⟩ (fun hHeld => ?_)
  refine wpAnyH_take (i := 0) (v := .pointer (some ⟨w.heap.size, 2, none⟩)) rfl (by kernel_rfl) (by kernel_rfl) (by kernel_rfl) (fun _ _ _ h => h) (Or.inl ⟨by rfl, ?_⟩) hHeld ?_
  · intro w' hSw
    obtain ⟨a0, a1, a2⟩ := hSw
    go_simp
  go_frame
  refine wpAnyH_take (i := 1) (v := .pointer (some ⟨fb, 0, none⟩)) rfl (by kernel_rfl) (by kernel_rfl) (by kernel_rfl) (fun _ _ _ h => h) (Or.inl ⟨by rfl, ?_⟩) hHeld ?_
  · intro w' hSw
    obtain ⟨a0, a1, a2⟩ := hSw
    go_simp
  go_frame
  refine wpAnyH_take (i := 2) (v := .int .i64 0) rfl (by kernel_rfl) (by kernel_rfl) (by kernel_rfl) (fun _ _ _ h => h) (Or.inl ⟨by rfl, ?_⟩) hHeld ?_
  · intro w' hSw
    obtain ⟨a0, a1, a2⟩ := hSw
    go_simp
  go_frame
  refine wpAnyH_take (i := 3) (v := .pointer (some ⟨w.heap.size, 2, none⟩)) rfl (by kernel_rfl) (by kernel_rfl) (by kernel_rfl) (fun _ _ _ h => h) (Or.inl ⟨by rfl, ?_⟩) hHeld ?_
  · intro w' hSw
    obtain ⟨a0, a1, a2⟩ := hSw
    go_simp
  go_frame
  refine wpAnyH_take (i := 4) (v := .pointer (some ⟨fb, 0, none⟩)) rfl (by kernel_rfl) (by kernel_rfl) (by kernel_rfl) (fun _ _ _ h => h) (Or.inl ⟨by rfl, ?_⟩) hHeld ?_
  · intro w' hSw
    obtain ⟨a0, a1, a2⟩ := hSw
    go_simp
  go_frame
  refine wpAnyH_take (i := 5) (v := .int .i64 0) rfl (by kernel_rfl) (by kernel_rfl) (by kernel_rfl) (fun _ _ _ h => h) (Or.inl ⟨by rfl, ?_⟩) hHeld ?_
  · intro w' hSw
    obtain ⟨a0, a1, a2⟩ := hSw
    go_simp
  go_frame
  refine wpAnyH_take (i := 6) (v := .pointer (some ⟨fb, 0, none⟩)) rfl (by kernel_rfl) (by kernel_rfl) (by kernel_rfl) (fun _ _ _ h => h) (Or.inl ⟨by rfl, ?_⟩) hHeld ?_
  · intro w' hSw
    obtain ⟨a0, a1, a2⟩ := hSw
    go_simp
  go_frame
  refine wpAnyH_take (i := 7) (v := .pointer (some ⟨fb, 0, none⟩)) rfl (by kernel_rfl) (by kernel_rfl) (by kernel_rfl) (fun _ _ _ h => h) (Or.inl ⟨by rfl, ?_⟩) hHeld ?_
  · intro w' hSw
    obtain ⟨a0, a1, a2⟩ := hSw
    go_simp
  go_frame
  refine wpAnyH_take (i := 8) (v := .pointer (some ⟨fb, 0, none⟩)) rfl (by kernel_rfl) (by kernel_rfl) (by kernel_rfl) (fun _ _ _ h => h) (Or.inl ⟨by rfl, ?_⟩) hHeld ?_
  · intro w' hSw
    obtain ⟨a0, a1, a2⟩ := hSw
    go_simp
  go_frame
  refine wpAnyH_take (i := 10) (v := .pointer (some ⟨w.heap.size, 3, none⟩)) rfl (by kernel_rfl) (by kernel_rfl) (by kernel_rfl) (fun _ _ _ h => h) (Or.inl ⟨by rfl, ?_⟩) hHeld ?_
  · intro w' hSw
    obtain ⟨a0, a1, a2⟩ := hSw
    go_simp
  go_frame
  refine wpAnyH_take (i := 11) (v := .int .i64 o) rfl (by kernel_rfl) (by kernel_rfl) (by kernel_rfl) (fun _ _ _ h => h) (Or.inl ⟨by rfl, ?_⟩) hHeld ?_
  · intro w' hSw
    obtain ⟨a0, a1, a2⟩ := hSw
    go_simp
  go_frame
  refine wpAnyH_take (i := 13) (v := .pointer (some ⟨fb, 0, none⟩)) rfl (by kernel_rfl) (by kernel_rfl) (by kernel_rfl) (fun _ _ _ h => h) (Or.inl ⟨by rfl, ?_⟩) hHeld ?_
  · intro w' hSw
    obtain ⟨a0, a1, a2⟩ := hSw
    go_simp
  go_frame
  refine wpAnyH_take (i := 14) (v := .pointer (some ⟨fb, 0, none⟩)) rfl (by kernel_rfl) (by kernel_rfl) (by kernel_rfl) (fun _ _ _ h => h) (Or.inl ⟨by rfl, ?_⟩) hHeld ?_
  · intro w' hSw
    obtain ⟨a0, a1, a2⟩ := hSw
    go_simp
  go_frame
  refine wpAnyH_ready (rs := [9]) (by kernel_rfl) (by simp) ?_
  refine AllReadyH.cons rfl (fun K hK => ?_) AllReadyH.nil
  go_simp
  refine hK.out _ _ hHeld (fun hHeld => ?_)
  clear hK K
  refine wpAnyH_ready (rs := [12]) (by kernel_rfl) (by simp) ?_
  refine AllReadyH.cons rfl (fun K hK => ?_) AllReadyH.nil
  go_simp
  (with_reducible refine HC.out.mono ?_)
  rintro e w2 ⟨v1, rfl, g2, g1, g3⟩
  obtain ⟨va, vc, rfl, hvc⟩ := bys_slice g2
  obtain ⟨y2, y3, y4, y5, y6⟩ := appS_grown (s := 0) (v := V) HX.out HB.out rfl g1 N1.out N2.out
  go_simp
  refine hK.out _ _ ⟨y2, y3, y4⟩ (fun hHeld => ?_)
  clear hK K
  refine wpAnyH_take (i := 15) (v := .pointer (some ⟨fb, 0, none⟩)) rfl (by kernel_rfl) (by kernel_rfl) (by kernel_rfl) (fun _ _ _ h => h) (Or.inl ⟨by rfl, ?_⟩) hHeld ?_
  · intro w' hSw
    obtain ⟨a0, a1, a2⟩ := hSw
    go_simp
  go_frame
  refine wpAnyH_ready (rs := [16]) (by kernel_rfl) (by simp) ?_
  refine AllReadyH.cons rfl (fun K hK => ?_) AllReadyH.nil
  go_simp
  refine hK.out _ _ (app3_set N3.out ⟨y2, y3, y4⟩ _ _) (fun hHeld => ?_)
  clear hK K
  refine wpAnyH_done (by kernel_rfl) ?_ _
  go_wp2
  go_returns
  exact HF.out _ _ g1 g2 g3

set_option maxHeartbeats 1000000 in
set_option maxRecDepth 20000 in
theorem apply_trunc_true (i o : Nat) (h0 : Inv L ρ n S w) (hi : i < S.nf) (ho : o ≤ 4000000) :
    Calls Tryz.prog 96 #[.pointer (some ⟨L.b, 0, none⟩), .agg #[.int .i64 3, .string ⟨#[]⟩, .pointer (some ⟨L.F i, 0, none⟩), .int .i64 o, .string ⟨#[]⟩], .int .i64 1] w (AppQ L ρ n (applyS true (.trunc i o) S) w) := by
  obtain ⟨W, hW⟩ : ∃ W, W = w.alloc (.cells #[.int .i64 3, .string ⟨#[]⟩, .pointer (some ⟨L.F i, 0, none⟩), .int .i64 o, .string ⟨#[]⟩] 96) := ⟨_, rfl⟩
  have bx : Blk W w.heap.size 96 #[.int .i64 3, .string ⟨#[]⟩, .pointer (some ⟨L.F i, 0, none⟩), .int .i64 o, .string ⟨#[]⟩] := by rw [hW]; exact blk_new _ _ _
  have hAB : Step L ρ w L ρ W := by rw [hW]; exact Step.below ((Below.refl _ _).alloc (Nat.le_refl _) _)
  have h : Inv L ρ n S W.drew := by rw [hW]; exact (h0.alloc _).drew
  have rb : ρ w.heap.size = none := h0.old _ (Nat.le_refl _)
  have ne1 : some w.heap.size ≠ (L.V true i).ownBlock := fun e => by have := h.cro true i _ hi e.symm; rw [rb] at this; cases this
  have ne2 : some (L.F i) ≠ (L.V true i).ownBlock := fun e => by have := h.cro true i _ hi e.symm; rw [h.fro i hi] at this; cases this
  have ne3 : w.heap.size ≠ L.F i := fun e => by have := h.fro i hi; rw [← e, rb] at this; cases this
  have hfin : ∀ w2 v1, W.drew.grownBy w2 (L.V true i).ownBlock → Bys w2 v1 (resizeL (S.con true i) o) → (v1.ownBlock = (L.V true i).ownBlock ∨ v1.ownBlock = some W.heap.size) → AppQ L ρ n (applyS true (.trunc i o) S) w (.returned (.tuple #[])) (w2.setCell ⟨L.F i, 1, none⟩ v1) := fun w2 v1 g1 g2 g3 => by
    obtain ⟨ρ', hI, hS⟩ := inv_con h true i hi g1 g2 (by rw [resizeL_len]; exact ho) g3
    exact ⟨rfl, _, ρ', hI, (hAB.trans (show Step L ρ W L ρ W.drew from ⟨rfl, rfl, rfl, Nat.le_refl _, fun _ _ _ => rfl, fun _ _ => rfl, rfl⟩)).trans hS, rfl, rfl⟩
  have bf : Blk W.drew (L.F i) 104 #[L.V false i, L.V true i] := h.fil i hi
  have bx' : Blk W.drew w.heap.size 96 #[.int .i64 3, .string ⟨#[]⟩, .pointer (some ⟨L.F i, 0, none⟩), .int .i64 o, .string ⟨#[]⟩] := bx
  have HC := Lib.hid (resize_any (L.V true i) (S.con true i) o _ (h.con true i hi) (Nat.le_trans (h.clen true i hi) (by decide)) (by omega))
  have HF := Lib.hid hfin; have HX := Lib.hid bx'; have HB := Lib.hid bf; have N3 := Lib.hid ne3; have N1 := Lib.hid ne1; have N2 := Lib.hid ne2
  have x0 := blk_cell bx 0 rfl
  clear h h0 hAB hfin bx bx' bf ne1 ne2 ne3 rb hi ho
  rw [hW] at HC HF HX HB x0
  clear hW
  generalize L.V true i = V at HC HF N1 N2 HB
  generalize L.V false i = Vo at HB
  generalize L.F i = fb at *
  obtain ⟨z2, z3, z4, z5, z6⟩ := appS_of (s := 1) (v := V) HX.out HB.out rfl
  go_enter Tryz.func96, Tryz.ntmps96
  go_wp2
  refine wp_region_held_drew (S := fun a => a.cell? ⟨w.heap.size, 2, none⟩ = some (.pointer (some ⟨fb, 0, none⟩)) ∧ a.cell? ⟨w.heap.size, 3, none⟩ = some (.int .i64 o) ∧ a.cell? ⟨w.heap.size, 4, none⟩ = some (.string ⟨#[]⟩)) (by kernel_rfl) ⟨z2, z3, z4⟩ (fun hHeld => ?_)
  refine wpAnyH_take (i := 0) (v := .pointer (some ⟨w.heap.size, 2, none⟩)) rfl (by kernel_rfl) (by kernel_rfl) (by kernel_rfl) (fun _ _ _ h => h) (Or.inl ⟨by rfl, ?_⟩) hHeld ?_
  · intro w' hSw
    obtain ⟨a0, a1, a2⟩ := hSw
    go_simp
  go_frame
  refine wpAnyH_take (i := 1) (v := .pointer (some ⟨fb, 0, none⟩)) rfl (by kernel_rfl) (by kernel_rfl) (by kernel_rfl) (fun _ _ _ h => h) (Or.inl ⟨by rfl, ?_⟩) hHeld ?_
  · intro w' hSw
    obtain ⟨a0, a1, a2⟩ := hSw
    go_simp
  go_frame
  refine wpAnyH_take (i := 2) (v := .int .i64 1) rfl (by kernel_rfl) (by kernel_rfl) (by kernel_rfl) (fun _ _ _ h => h) (Or.inl ⟨by rfl, ?_⟩) hHeld ?_
  · intro w' hSw
    obtain ⟨a0, a1, a2⟩ := hSw
    go_simp
  go_frame
  refine wpAnyH_take (i := 3) (v := .pointer (some ⟨w.heap.size, 2, none⟩)) rfl (by kernel_rfl) (by kernel_rfl) (by kernel_rfl) (fun _ _ _ h => h) (Or.inl ⟨by rfl, ?_⟩) hHeld ?_
  · intro w' hSw
    obtain ⟨a0, a1, a2⟩ := hSw
    go_simp
  go_frame
  refine wpAnyH_take (i := 4) (v := .pointer (some ⟨fb, 0, none⟩)) rfl (by kernel_rfl) (by kernel_rfl) (by kernel_rfl) (fun _ _ _ h => h) (Or.inl ⟨by rfl, ?_⟩) hHeld ?_
  · intro w' hSw
    obtain ⟨a0, a1, a2⟩ := hSw
    go_simp
  go_frame
  refine wpAnyH_take (i := 5) (v := .int .i64 1) rfl (by kernel_rfl) (by kernel_rfl) (by kernel_rfl) (fun _ _ _ h => h) (Or.inl ⟨by rfl, ?_⟩) hHeld ?_
  · intro w' hSw
    obtain ⟨a0, a1, a2⟩ := hSw
    go_simp
  go_frame
  refine wpAnyH_take (i := 6) (v := .pointer (some ⟨fb, 0, none⟩)) rfl (by kernel_rfl) (by kernel_rfl) (by kernel_rfl) (fun _ _ _ h => h) (Or.inl ⟨by rfl, ?_⟩) hHeld ?_
  · intro w' hSw
    obtain ⟨a0, a1, a2⟩ := hSw
    go_simp
  go_frame
  refine wpAnyH_take (i := 7) (v := .pointer (some ⟨fb, 0, none⟩)) rfl (by kernel_rfl) (by kernel_rfl) (by kernel_rfl) (fun _ _ _ h => h) (Or.inl ⟨by rfl, ?_⟩) hHeld ?_
  · intro w' hSw
    obtain ⟨a0, a1, a2⟩ := hSw
    go_simp
  go_frame
  refine wpAnyH_take (i := 8) (v := .pointer (some ⟨fb, 1, none⟩)) rfl (by kernel_rfl) (by kernel_rfl) (by kernel_rfl) (fun _ _ _ h => h) (Or.inl ⟨by rfl, ?_⟩) hHeld ?_
  · intro w' hSw
    obtain ⟨a0, a1, a2⟩ := hSw
    go_simp
  go_frame
  refine wpAnyH_take (i := 10) (v := .pointer (some ⟨w.heap.size, 3, none⟩)) rfl (by kernel_rfl) (by kernel_rfl) (by kernel_rfl) (fun _ _ _ h => h) (Or.inl ⟨by rfl, ?_⟩) hHeld ?_
  · intro w' hSw
    obtain ⟨a0, a1, a2⟩ := hSw
    go_simp
  go_frame
  refine wpAnyH_take (i := 11) (v := .int .i64 o) rfl (by kernel_rfl) (by kernel_rfl) (by kernel_rfl) (fun _ _ _ h => h) (Or.inl ⟨by rfl, ?_⟩) hHeld ?_
  · intro w' hSw
    obtain ⟨a0, a1, a2⟩ := hSw
    go_simp
  go_frame
  refine wpAnyH_take (i := 13) (v := .pointer (some ⟨fb, 0, none⟩)) rfl (by kernel_rfl) (by kernel_rfl) (by kernel_rfl) (fun _ _ _ h => h) (Or.inl ⟨by rfl, ?_⟩) hHeld ?_
  · intro w' hSw
    obtain ⟨a0, a1, a2⟩ := hSw
    go_simp
  go_frame
  refine wpAnyH_take (i := 14) (v := .pointer (some ⟨fb, 0, none⟩)) rfl (by kernel_rfl) (by kernel_rfl) (by kernel_rfl) (fun _ _ _ h => h) (Or.inl ⟨by rfl, ?_⟩) hHeld ?_
  · intro w' hSw
    obtain ⟨a0, a1, a2⟩ := hSw
    go_simp
  go_frame
  refine wpAnyH_ready (rs := [9]) (by kernel_rfl) (by simp) ?_
  refine AllReadyH.cons rfl (fun K hK => ?_) AllReadyH.nil
  go_simp
  refine hK.out _ _ hHeld (fun hHeld => ?_)
  clear hK K
  refine wpAnyH_ready (rs := [12]) (by kernel_rfl) (by simp) ?_
  refine AllReadyH.cons rfl (fun K hK => ?_) AllReadyH.nil
  go_simp
  (with_reducible refine HC.out.mono ?_)
  rintro e w2 ⟨v1, rfl, g2, g1, g3⟩
  obtain ⟨va, vc, rfl, hvc⟩ := bys_slice g2
  obtain ⟨y2, y3, y4, y5, y6⟩ := appS_grown (s := 1) (v := V) HX.out HB.out rfl g1 N1.out N2.out
  go_simp
  refine hK.out _ _ ⟨y2, y3, y4⟩ (fun hHeld => ?_)
  clear hK K
  refine wpAnyH_take (i := 15) (v := .pointer (some ⟨fb, 1, none⟩)) rfl (by kernel_rfl) (by kernel_rfl) (by kernel_rfl) (fun _ _ _ h => h) (Or.inl ⟨by rfl, ?_⟩) hHeld ?_
  · intro w' hSw
    obtain ⟨a0, a1, a2⟩ := hSw
    go_simp
  go_frame
  refine wpAnyH_ready (rs := [16]) (by kernel_rfl) (by simp) ?_
  refine AllReadyH.cons rfl (fun K hK => ?_) AllReadyH.nil
  go_simp
  refine hK.out _ _ (app3_set N3.out ⟨y2, y3, y4⟩ _ _) (fun hHeld => ?_)
  clear hK K
  refine wpAnyH_done (by kernel_rfl) ?_ _
  go_wp2
  go_returns
  exact HF.out _ _ g1 g2 g3
end Go.Proofs.YthfebcfdhmihcaaGreatDoor

namespace Go.Proofs.YthfebcfdhmihcaaGreatDoor
open Go.RowKit
variable {L : Loc} {ρ ρ' : Nat → Option Role} {n : Nat} {S : DS} {w w' : World}

/-- apply, at any change and in either state. -/
theorem apply_any (s : Bool) (c : Chg) (h : Inv L ρ n S w) (hc : c.Ok S.nf) (hn : n + 1 ≤ 100000) :
    Calls Tryz.prog 96 #[.pointer (some ⟨L.b, 0, none⟩), .agg (c.cells L.F).toArray, .int .i64 (stI s)] w (AppQ L ρ (n + 1) (applyS s c S) w) := by
  have up : ∀ {S' : DS} {e : Ending} {w' : World}, AppQ L ρ n S' w e w' → AppQ L ρ (n + 1) S' w e w' := fun ⟨h1, L', ρ', h2, h3, h4⟩ => ⟨h1, L', ρ', h2.mono (Nat.le_succ _) hn, h3, h4⟩
  cases c with
  | create nm i =>
    obtain ⟨hi, hl⟩ := hc
    have hsz : (bz nm).size ≤ 1000000 := by rw [bz_size]; exact hl
    cases hg : L.m s with
    | none => exact apply_create_none s (bz nm) i h hsz hi hn hg
    | some g => exact apply_create_some s (bz nm) i h hsz hi hn g hg
  | remove nm =>
    have hsz : (bz nm).size ≤ 1000000 := by rw [bz_size]; exact hc
    exact (apply_remove s (bz nm) h hsz).mono fun e w' hq => up hq
  | write i o d =>
    obtain ⟨hi, hl⟩ := hc
    have hsz : o + (bz d).size ≤ 4000000 := by rw [bz_size]; exact hl
    cases s
    · exact (apply_write_false i o (bz d) h hi hsz).mono fun e w' hq => up hq
    · exact (apply_write_true i o (bz d) h hi hsz).mono fun e w' hq => up hq
  | trunc i z =>
    obtain ⟨hi, hl⟩ := hc
    cases s
    · exact (apply_trunc_false i z h hi hl).mono fun e w' hq => up hq
    · exact (apply_trunc_true i z h hi hl).mono fun e w' hq => up hq

/-- The pending changes turned: in their own row, or in a new one. -/
theorem inv_pend {n' : Nat} (h : Inv L ρ n S w) {v1 : Value} (l : List Chg) (hg : w.grownBy w' L.pv.ownBlock) (hb : w'.ownsRow 0 96 5 v1 l.length (l.flatMap (Chg.cells L.F))) (hok : ∀ c, c ∈ l → c.Ok S.nf) (ho : v1.ownBlock = L.pv.ownBlock ∨ v1.ownBlock = some w.heap.size) (hn : n ≤ n') (hn' : n' ≤ 100000) (hl : l.length ≤ n') :
    ∃ ρ', Inv { L with pv := v1 } ρ' n' { S with pend := l } (w'.setCell ⟨L.b, 3, none⟩ v1) ∧ Step L ρ w { L with pv := v1 } ρ' (w'.setCell ⟨L.b, 3, none⟩ v1) := by
  have hlt : ∀ g, v1.ownBlock = some g → g < w'.heap.size := fun g hg' => (hb.lt g hg').2
  obtain ⟨ρ', hx, hro, hown, hold⟩ : ∃ ρ' : Nat → Option Role, (∀ k r, ρ k = some r → ρ' k = some r) ∧ (∀ k, k < w.heap.size → ρ' k = ρ k) ∧ (∀ g, v1.ownBlock = some g → ρ' g = some .pend) ∧ (∀ k, w'.heap.size ≤ k → ρ' k = none) := by
    rcases ho with ho | ho
    · exact ⟨ρ, fun _ _ h => h, fun _ _ => rfl, fun g hg' => h.pro g (ho ▸ hg'), fun k hk => h.old k (Nat.le_trans hg.size hk)⟩
    · refine ⟨updN ρ w.heap.size (some .pend), fun k r hk => ?_, fun k hk => ?_, fun g hg' => ?_, fun k hk => ?_⟩
      · unfold updN
        rw [if_neg (fun e => by subst e; rw [h.old _ (Nat.le_refl _)] at hk; cases hk)]; exact hk
      · unfold updN
        rw [if_neg (Nat.ne_of_lt hk)]
      · rw [ho] at hg'; cases hg'; simp [updN]
      · have := hlt _ ho
        unfold updN
        rw [if_neg (fun e => by omega)]; exact h.old k (Nat.le_trans hg.size hk)
  have hkr : ∀ k r, ρ k = some r → r ≠ .pend → w'.heap[k]? = w.heap[k]? := fun k r hr hne => hg.block k (h.lt (by rw [hr]; simp)) (fun e => by have := h.pro k e.symm; rw [hr] at this; cases this; exact hne rfl)
  have hks : ∀ k, k ≠ L.b → (w'.setCell ⟨L.b, 3, none⟩ v1).heap[k]? = w'.heap[k]? := setCell_keep _ _ _ _
  have hkb : ∀ k r, ρ k = some r → r ≠ .pend → r ≠ .disk → (w'.setCell ⟨L.b, 3, none⟩ v1).heap[k]? = w.heap[k]? := fun k r hr h1 h2 => (hks k (fun e => by subst e; rw [h.hb] at hr; cases hr; exact h2 rfl)).trans (hkr k r hr h1)
  refine ⟨ρ', ?_, ?_⟩
  · exact {
      hb := hx _ _ h.hb
      blk := by
        have h0 : Blk w' L.b 93 _ := (hkr _ _ h.hb (by simp)).trans h.blk
        exact blk_set h0 3 v1
      mp := fun t => mapI_keep (h.mp t) (fun g hg' => hkb g _ hg' (by simp) (by simp)) hx
      flt := fltI_keep h.flt (fun g hg' => hkb g _ hg' (by simp) (by simp)) hx
      pnd := row_keep hb (fun g hg' => hks g (fun e => by
        subst e
        have h1 := hown _ hg'
        rw [hx _ _ h.hb] at h1; cases h1))
      pro := hown
      fro := fun j hj => hx _ _ (h.fro j hj)
      fil := fun j hj => (hkb _ _ (h.fro j hj) (by simp) (by simp)).trans (h.fil j hj)
      con := fun t j hj => row_keep (h.con t j hj) (fun g hg' => hkb g _ (h.cro t j g hj hg') (by simp) (by simp))
      cro := fun t j g hj hg' => hx _ _ (h.cro t j g hj hg')
      clen := h.clen
      dok := h.dok
      pok := hok
      old := fun k hk => hold k (by rw [size_setCell'] at hk; exact hk)
      room := h.room
      bnd := ⟨hl, Nat.le_trans h.bnd.2.1 hn, fun t => Nat.le_trans (h.bnd.2.2.1 t) hn, hn'⟩ }
  · exact ⟨hg.os, hg.tape, hg.output, by rw [size_setCell']; exact hg.size, fun k hk hr => (hks k (fun e => by subst e; rw [h.hb] at hr; cases hr)).trans (hg.block k hk (fun e => by have := h.pro k e.symm; rw [hr] at this; cases this)), hro, rfl⟩
theorem cells_len (F : Nat → Nat) (c : Chg) : (c.cells F).length = 5 := by cases c <;> rfl
theorem cells_one (F : Nat → Nat) (c : Chg) : ∀ u ∈ c.cells F, u.oneCell' = true := by
  intro u hu
  cases c <;> simp only [Chg.cells, List.mem_cons, List.not_mem_nil, or_false] at hu <;> rcases hu with rfl | rfl | rfl | rfl | rfl <;> rfl
theorem chg_info : (Tryz.prog.info? 96).map (fun i => (i.zero, i.size, i.bytes)) = some (some (.agg #[.int .i64 0, .string ⟨#[]⟩, .pointer none, .int .i64 0, .string ⟨#[]⟩]), 5, 56) := by kernel_rfl
end Go.Proofs.YthfebcfdhmihcaaGreatDoor
