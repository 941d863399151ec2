/-
  The statement 'for c := range bytesOf(s)' of layer 1: what a caller owes is an invariant on its own cells and one walk of its own body. Condition: the string is no longer than the model's greatest length.
-/
import Derived.Test.YtadbmjmikoggbaaFigIter
namespace Go.Proofs.Ytadbmjmikoggbaa
open Go.RowKit Go.Shelf

/-- The loop's frame when the byte x has come: the parameter's slot p and the variable's slot q hold it. -/
def frameAt (a : Act) (p q : Nat) (x : UInt8) : Act := { tmps := (a.tmps.setIfInBounds p (.int .u8 x.toNat)).setIfInBounds q (.int .u8 x.toNat), defers := [] }

theorem wpIn_bytes {n : Nat} {g : Operand} {p : Tmp} {assign body : Code} {Q : Exit → Act → World → Prop} {a : Act} {w : World} (hn : 2 ≤ n) (b q : Nat) (s : ByteArray) (hs : s.size ≤ 140737488351232)
    (hg : a.eval g = .func (.func 64) #[] #[.pointer (some ⟨b, 0, none⟩)]) (hb : w.heap[b]? = some (boxOf s))
    (I : List UInt8 → World → Prop) (Ix : Code → List UInt8 → World → Prop) (hI : OwnFrom w.heap.size I) (hIx : ∀ c, OwnFrom w.heap.size (Ix c)) (h0 : I [] w)
    (hassign : ∀ (l : Nat) (x : UInt8) (W : World) (K : Act → World → Prop), K (frameAt a p q x) W →
      assign.wpIn (Fence.wide.inRound l) (n - 1 - 1) Try.prog (Exit.then K (fun _ _ _ => False)) { tmps := a.tmps.setIfInBounds p (.int .u8 x.toNat), defers := [] } W)
    (hbody : ∀ (l : Nat) (pre : List UInt8) (x : UInt8) (W : World), I pre W → pre.length < s.size → body.wpIn (Fence.wide.inRound l) (n - 1 - 1) Try.prog (ownPostG w.heap.size (KeepC b s) I Ix (pre ++ [x]) W) (frameAt a p q x) W)
    (hdone : ∀ (D : Nat) (W : World), w.heap.size ≤ D → I s.data.toList W → W.heap[D]? = some (.deferred (some [])) → Q .normal { a with defers := { target := .collected D, args := #[] } :: a.defers } W)
    (hstop : ∀ (D : Nat) (c : Code) (pre : List UInt8) (W : World), w.heap.size ≤ D → pre <+: s.data.toList → Ix c pre W → W.heap[D]? = some (.deferred (some [])) → c.wpIn Fence.wide n Try.prog Q { a with defers := { target := .collected D, args := #[] } :: a.defers } W) :
    (Code.rangeFunc g #[p] assign body).wpIn Fence.wide n Try.prog Q a w :=
  wpIn_rangeFunc_ownG (F := Fence.wide) rfl (by omega) hg trivial (enters_of Try.func64 (by kernel_rfl) rfl) (bytes_stops (n - 1) (by omega) b s hs w hb) keepC_t keepC_b (Below.refl _ _) (fun _ => rfl) I Ix hI hIx h0
    (frameAt a p q) (fun l x W K hK => by simpa using hassign l x W K hK) hbody (fun D xs W hD hS hi hk => by subst hS; exact hdone D W hD hi hk) hstop

theorem box1 {W : World} {B : Nat} {v : Value} {t : TypeId} (h : W.heap[B]? = some (.cells #[v] t (0, 0))) : W.cell? ⟨B, 0, none⟩ = some v ∧ W.frozen? ⟨B, 0, none⟩ = false := by
  constructor <;> simp [World.cell?, World.frozen?, h]
theorem new1 (W : World) (v : Value) (t : TypeId) : (W.alloc (.cells #[v] t)).cell? ⟨W.heap.size, 0, none⟩ = some v ∧ (W.alloc (.cells #[v] t)).frozen? ⟨W.heap.size, 0, none⟩ = false :=
  box1 (World.alloc_heap_new W _)
theorem old1 {W : World} {a : Addr} {v : Value} (o : Obj) (h : W.cell? a = some v) : (W.alloc o).cell? a = some v := cell_kept h (World.grownBy_alloc W o none) (fun r e => by cases e)
theorem old1f {W : World} {a : Addr} {v : Value} (o : Obj) (h : W.cell? a = some v) (hf : W.frozen? a = false) : (W.alloc o).frozen? a = false := (frozen_kept h (World.grownBy_alloc W o none) (fun r e => by cases e)).trans hf
theorem heap_new (W : World) (o : Obj) : (W.alloc o).heap[W.heap.size]? = some o := World.alloc_heap_new W o
theorem heap_old {W : World} {k : Nat} {o : Obj} (o' : Obj) (h : W.heap[k]? = some o) : (W.alloc o').heap[k]? = some o := (Below.heap_alloc W o' k (Array.getElem?_eq_some_iff.1 h).1).trans h

/-- A builder of one's own abides what the law and the iterator turn. -/
theorem builderAt_own {T e : TypeId} {B b : Nat} {p : Value} {bs : List Value} {W W' : World} {row : Option Nat} (h : Lib.BuilderAtF T e B b p bs W) (hg : W.grownBy W' row) (hr : ∀ r, row = some r → ∃ o : Obj, W.heap[r]? = some o ∧ o.isCells = false) : Lib.BuilderAtF T e B b p bs W' := by
  obtain ⟨hB, v, hb, hown, hne⟩ := h
  refine ⟨hB, v, (grownBy_keeps_cells hg hr hb rfl).trans hb, hown.kept hg ?_, hne⟩
  cases hv : v.ownBlock with
  | none => exact .inl rfl
  | some g =>
    refine .inr fun e1 => ?_
    obtain ⟨o, ho, hc⟩ := hr g e1.symm
    obtain ⟨c, fz, hcc⟩ := Lib.ownsRowF_kind hown g hv
    rw [ho] at hcc; cases hcc; cases hc
theorem builder_own {α : Type} {T e : TypeId} {B b : Nat} (f : α → List Value) : Own (fun pre W => Lib.IsBuilderF T e B b (f pre) W) := fun s W W' row hs hg hr =>
  hs.elim (fun x => .inl (builderAt_own x hg hr)) (fun x => .inr (builderAt_own x hg hr))

/-- What a writer of the builder leaves, in the law's own words: whatever is no cells lies as it lay. -/
theorem keepsFrom_others {W W' : World} {b B n₀ : Nat} {o : Obj} (h : Lib.OthersKept 5 (some b) W W') (hb : Below n₀ W W') (hc : W.heap[b]? = some o) (ho : o.isCells = true) : KeepsFrom B W W' :=
  ⟨hb.size, fun k o' _ hk hno => h k o' hk (fun e => by cases e; rw [hc] at hk; cases hk; rw [ho] at hno; cases hno) (fun c fz e => by subst e; cases hno)⟩
theorem builder_block {T e : TypeId} {B b : Nat} {bs : List Value} {W : World} (h : Lib.IsBuilderF T e B b bs W) : ∃ o : Obj, W.heap[b]? = some o ∧ o.isCells = true := by
  rcases h with ⟨_, v, hb, _⟩ | ⟨_, v, hb, _⟩ <;> exact ⟨_, hb, rfl⟩
end Go.Proofs.Ytadbmjmikoggbaa
