/-
  Layer 16: a node that is being made: a struct of our own in memory, with rows of cells and of numbers of our own that are appended to. Condition: as each theorem says.
-/
import Derived.Test.YtdpjmijdlheajaaNdVal
import Derived.Test.YtdpjmijdlheajaaAppAny
import Derived.Lib.Hide
namespace Go.Proofs.Ytdpjmijdlheajaa
open Go.RowKit

def celC (c : Cel) : List Value := [.string (nb c.key), .int .i64 c.len, .string (nb c.loc), .int .i64 c.ov]
def celsC (l : List Cel) : List Value := l.flatMap celC
def kidsC (l : List Int) : List Value := l.map (.int .i64)
theorem nflatLen {α : Type} (f : α → List Value) (k : Nat) (hf : ∀ x, (f x).length = k) (l : List α) : (l.flatMap f).length = l.length * k := by
  induction l with
  | nil => simp
  | cons x l ih => rw [List.flatMap_cons, List.length_append, ih, hf, List.length_cons, Nat.add_mul]; omega
theorem nflatAt {α : Type} (f : α → List Value) (k : Nat) (hf : ∀ x, (f x).length = k) : ∀ (l : List α) (i j : Nat) (hi : i < l.length), j < k → (l.flatMap f)[i * k + j]? = (f l[i])[j]?
  | [], i, j, hi, _ => absurd hi (Nat.not_lt_zero _)
  | x :: l, 0, j, hi, hj => by rw [List.flatMap_cons, Nat.zero_mul, Nat.zero_add, List.getElem?_append_left (by rw [hf]; exact hj)]; rfl
  | x :: l, i + 1, j, hi, hj => by
    have e : (i + 1) * k + j = k + (i * k + j) := by rw [Nat.add_mul]; omega
    rw [List.flatMap_cons, List.getElem?_append_right (by rw [hf]; omega), hf, e, Nat.add_sub_cancel_left, nflatAt f k hf l i j (by simpa using hi) hj]
    rfl
theorem cels_len (l : List Cel) : (celsC l).length = l.length * 4 := nflatLen celC 4 (fun _ => rfl) l
theorem cels_app (a b : List Cel) : celsC (a ++ b) = celsC a ++ celsC b := List.flatMap_append
theorem cels_ones (l : List Cel) : ∀ u ∈ celsC l, u.oneCell' = true := fun u hu => by
  obtain ⟨c, -, hc⟩ := List.mem_flatMap.1 hu
  simp only [celC, List.mem_cons, List.not_mem_nil, or_false] at hc
  rcases hc with rfl | rfl | rfl | rfl <;> rfl
theorem kids_ones (l : List Int) : ∀ u ∈ kidsC l, u.oneCell' = true := fun u hu => by
  obtain ⟨x, -, rfl⟩ := List.mem_map.1 hu
  rfl
theorem nadd_plain (b off k : Nat) : ((⟨b, off, none⟩ : Addr).add k) = ⟨b, off + k, none⟩ := by
  unfold Addr.add
  by_cases h : k = 0 <;> simp [h]
theorem src_cls {w : World} {a : Option Addr} {l : List Cel} {cap : Nat} (h : Cls w a l) (hn : a = none → cap = 0) : SrcL w 4 (.slice a l.length cap) l.length (celsC l) := by
  cases a with
  | none =>
    have hl : l = [] := by
      cases l with
      | nil => rfl
      | cons x t =>
        obtain ⟨b, off, e, -⟩ := h 0 (Nat.zero_lt_succ _)
        cases e
    subst hl
    rw [hn rfl]
    exact .inl ⟨rfl, rfl, rfl⟩
  | some ad =>
    refine .inr ⟨ad, cap, rfl, cels_len l, fun j u hj => ?_⟩
    have hlt : j < l.length * 4 := by
      have := (List.getElem?_eq_some_iff.1 hj).1
      rwa [cels_len] at this
    have hq : j / 4 < l.length := by omega
    have hr : j % 4 < 4 := Nat.mod_lt _ (by decide)
    have hf := nflatAt celC 4 (fun _ => rfl) l (j / 4) (j % 4) hq hr
    rw [show j / 4 * 4 + j % 4 = j by omega] at hf
    rw [show (celsC l)[j]? = _ from hf] at hj
    obtain ⟨b, off, e, -, c0, c1, c2, c3⟩ := h (j / 4) hq
    cases e
    rw [nadd_plain]
    have hoff : off + j = off + j / 4 * 4 + j % 4 := by omega
    rw [hoff]
    generalize hm : j % 4 = m at hj hr ⊢
    match m, hr with
    | 0, _ => rw [← Option.some.inj hj]; exact c0
    | 1, _ => rw [← Option.some.inj hj]; exact c1
    | 2, _ => rw [← Option.some.inj hj]; exact c2
    | 3, _ => rw [← Option.some.inj hj]; exact c3
theorem src_kds {w : World} {a : Option Addr} {l : List Int} {cap : Nat} (h : Kds w a l) (hn : a = none → cap = 0) : SrcL w 1 (.slice a l.length cap) l.length (kidsC l) := by
  cases a with
  | none =>
    have hl : l = [] := by
      cases l with
      | nil => rfl
      | cons x t =>
        obtain ⟨b, off, e, -⟩ := h 0 (Nat.zero_lt_succ _)
        cases e
    subst hl
    rw [hn rfl]
    exact .inl ⟨rfl, rfl, rfl⟩
  | some ad =>
    refine .inr ⟨ad, cap, rfl, by simp [kidsC], fun j u hj => ?_⟩
    unfold kidsC at hj
    rw [List.getElem?_map] at hj
    cases hl : l[j]? with
    | none => rw [hl] at hj; cases hj
    | some x =>
      rw [hl] at hj
      obtain ⟨hlt, hx⟩ := List.getElem?_eq_some_iff.1 hl
      obtain ⟨b, off, e, -, c0⟩ := h j hlt
      cases e
      rw [nadd_plain, ← Option.some.inj hj, ← hx]
      exact c0
/-- An own row of cells, as a slice of cells. -/
theorem cls_row {W : World} {base : Nat} {e : TypeId} {v : Value} {L : List Cel} (h : W.ownsRow base e 4 v L.length (celsC L)) : ∃ a cap, v = .slice a L.length cap ∧ (a = none → cap = 0) ∧ Cls W a L := by
  rcases h.2 with ⟨rfl, hl⟩ | ⟨g, cap, cur, rfl, hbg, hg, -⟩
  · exact ⟨none, 0, by rw [hl], fun _ => rfl, fun j hj => absurd hj (by omega)⟩
  · refine ⟨_, cap, rfl, (fun e => nomatch e), fun j hj => ?_⟩
    have hc := h.cells (g := g) rfl
    have hf := fun r (hr : r < 4) => nflatAt celC 4 (fun _ => rfl) L j r hj hr
    have hlt := (h.lt g rfl).2
    have at_ := fun r (hr : r < 4) u (hu : (celC L[j])[r]? = some u) => (show W.cell? ⟨g, 0 + (j * 4 + r), none⟩ = some u from by
      have := hc (j * 4 + r) u ((hf r hr).trans hu)
      rwa [nadd_plain] at this)
    refine ⟨g, 0, rfl, hlt, ?_, ?_, ?_, ?_⟩
    · have := at_ 0 (by decide) _ rfl; rwa [show 0 + (j * 4 + 0) = 0 + j * 4 by omega] at this
    · have := at_ 1 (by decide) _ rfl; rwa [show 0 + (j * 4 + 1) = 0 + j * 4 + 1 by omega] at this
    · have := at_ 2 (by decide) _ rfl; rwa [show 0 + (j * 4 + 2) = 0 + j * 4 + 2 by omega] at this
    · have := at_ 3 (by decide) _ rfl; rwa [show 0 + (j * 4 + 3) = 0 + j * 4 + 3 by omega] at this
theorem kds_row {W : World} {base : Nat} {e : TypeId} {v : Value} {L : List Int} (h : W.ownsRow base e 1 v L.length (kidsC L)) : ∃ a cap, v = .slice a L.length cap ∧ (a = none → cap = 0) ∧ Kds W a L := by
  rcases h.2 with ⟨rfl, hl⟩ | ⟨g, cap, cur, rfl, hbg, hg, -⟩
  · exact ⟨none, 0, by rw [hl], fun _ => rfl, fun j hj => absurd hj (by omega)⟩
  · refine ⟨_, cap, rfl, (fun e => nomatch e), fun j hj => ?_⟩
    have hc := h.cells (g := g) rfl j (.int .i64 L[j]) (by unfold kidsC; rw [List.getElem?_map, List.getElem?_eq_getElem hj]; rfl)
    rw [nadd_plain] at hc
    exact ⟨g, 0, rfl, (h.lt g rfl).2, hc⟩

/-- A node in the making: its struct at gx, the result's at gr, its rows beyond base. -/
structure NJ (w0 : World) (gx gr base : Nat) (tn tc : TypeId) (leaf : Bool) (cv kv : Value) (L : List Cel) (K : List Int) (W : World) : Prop where
  hx : Blk W gx tn #[.bool leaf, cv, kv]
  hr : Blk W gr tn #[.bool false, .slice none 0 0, .slice none 0 0]
  cr : W.ownsRow base tc 4 cv L.length (celsC L)
  kr : W.ownsRow base 3 1 kv K.length (kidsC K)
  ne : cv.ownBlock = none ∨ cv.ownBlock ≠ kv.ownBlock
  lx : gx < base
  lr : gr < base
  nr : gx ≠ gr
  wx : w0.heap.size ≤ gx
  wr : w0.heap.size ≤ gr
  bw : Below w0.heap.size w0 W
  bs : base ≤ W.heap.size
section
variable {w0 W W' : World} {gx gr base : Nat} {tn tc : TypeId} {leaf : Bool} {cv kv : Value} {L : List Cel} {K : List Int}
theorem NJ.below (h : NJ w0 gx gr base tn tc leaf cv kv L K W) (hb : Below W.heap.size W W') : NJ w0 gx gr base tn tc leaf cv kv L K W' :=
  ⟨blk_below h.hx hb, blk_below h.hr hb, h.cr.kept (row := none) ⟨hb.os, hb.tape, hb.output, hb.size, fun k hk _ => hb.block k hk⟩ (Classical.em _), h.kr.kept (row := none) ⟨hb.os, hb.tape, hb.output, hb.size, fun k hk _ => hb.block k hk⟩ (Classical.em _), h.ne, h.lx, h.lr, h.nr, h.wx, h.wr, h.bw.trans (hb.mono h.bw.size), Nat.le_trans h.bs hb.size⟩
theorem NJ.alloc (h : NJ w0 gx gr base tn tc leaf cv kv L K W) (o : Obj) : NJ w0 gx gr base tn tc leaf cv kv L K (W.alloc o) := h.below (blw1 _ _)
theorem NJ.drew (h : NJ w0 gx gr base tn tc leaf cv kv L K W) : NJ w0 gx gr base tn tc leaf cv kv L K W.drew := h.below (Below.refl _ _).drew
theorem row_far {W W' : World} {b e : Nat} {size n : Nat} {v : Value} {xs : List Value} {g : Nat} (h : W.ownsRow b e size v n xs) (hg : g < b) : some g ≠ v.ownBlock := fun e => by
  have := (h.lt g e.symm).1
  omega
theorem blk_grownBy {W W' : World} {g : Nat} {t : TypeId} {cs : Array Value} {row : Option Nat} (h : Blk W g t cs) (hg : W.grownBy W' row) (hne : some g ≠ row) : Blk W' g t cs := (hg.block g (blk_lt h) hne).trans h
theorem NJ.far (h : NJ w0 gx gr base tn tc leaf cv kv L K W) : kv.ownBlock = none ∨ kv.ownBlock ≠ cv.ownBlock := by
  rcases h.ne with e | e
  · rw [e]; exact Classical.em _
  · exact .inr (Ne.symm e)
/-- Cells appended, and the slice stored. -/
theorem NJ.cells (h : NJ w0 gx gr base tn tc leaf cv kv L K W) {L2 : List Cel} {v : Value} (ho : W'.ownsRow base tc 4 v (L.length + L2.length) (celsC L ++ celsC L2)) (hg : W.grownBy W' cv.ownBlock) (hv : v.ownBlock = cv.ownBlock ∨ v.ownBlock = some W.heap.size) :
    NJ w0 gx gr base tn tc leaf v kv (L ++ L2) K (W'.setCell ⟨gx, 1, none⟩ v) := by
  refine ⟨blk_set (blk_grownBy h.hx hg (row_far (W' := W) h.cr h.lx)) 1 v, blk_other (blk_grownBy h.hr hg (row_far (W' := W) h.cr h.lr)) (Ne.symm h.nr) 1 v, ?_, ?_, ?_, h.lx, h.lr, h.nr, h.wx, h.wr, ?_, ?_⟩
  · rw [List.length_append, cels_app]
    exact ownsRow_setCell_below ho h.lx v
  · exact ownsRow_setCell_below (h.kr.kept hg h.far) h.lx v
  · rcases hv with e | e
    · rw [e]; exact h.ne
    · rw [e]
      refine .inr fun e2 => ?_
      have := (h.kr.lt _ e2.symm).2
      omega
  · exact (h.bw.grown hg h.bw.size fun k e => by have := (h.cr.lt k e).1; have := h.wx; have := h.lx; omega).setCell h.wx v
  · rw [Deep.nblk_setCell]; exact Nat.le_trans h.bs hg.size
/-- Numbers appended, and the slice stored. -/
theorem NJ.kids (h : NJ w0 gx gr base tn tc leaf cv kv L K W) {K2 : List Int} {v : Value} (ho : W'.ownsRow base 3 1 v (K.length + K2.length) (kidsC K ++ kidsC K2)) (hg : W.grownBy W' kv.ownBlock) (hv : v.ownBlock = kv.ownBlock ∨ v.ownBlock = some W.heap.size) :
    NJ w0 gx gr base tn tc leaf cv v L (K ++ K2) (W'.setCell ⟨gx, 2, none⟩ v) := by
  refine ⟨blk_set (blk_grownBy h.hx hg (row_far (W' := W) h.kr h.lx)) 2 v, blk_other (blk_grownBy h.hr hg (row_far (W' := W) h.kr h.lr)) (Ne.symm h.nr) 2 v, ?_, ?_, ?_, h.lx, h.lr, h.nr, h.wx, h.wr, ?_, ?_⟩
  · exact ownsRow_setCell_below (h.cr.kept hg h.ne) h.lx v
  · rw [List.length_append, show kidsC (K ++ K2) = kidsC K ++ kidsC K2 from List.map_append]
    exact ownsRow_setCell_below ho h.lx v
  · rcases hv with e | e
    · rw [e]; exact h.ne
    · rw [e]
      cases hc : cv.ownBlock with
      | none => exact .inl rfl
      | some g =>
        refine .inr fun e2 => ?_
        have := (h.cr.lt g hc).2
        have := Option.some.inj e2
        omega
  · exact (h.bw.grown hg h.bw.size fun k e => by have := (h.kr.lt k e).1; have := h.wx; have := h.lx; omega).setCell h.wx v
  · rw [Deep.nblk_setCell]; exact Nat.le_trans h.bs hg.size
/-- What is made. -/
def NodQ (J : Nod) (w0 : World) (e : Ending) (W : World) : Prop := ∃ ca cc ka kc, e = .returned (.agg #[.bool J.leaf, .slice ca J.cells.length cc, .slice ka J.kids.length kc]) ∧ ((ca = none → cc = 0) ∧ (ka = none → kc = 0)) ∧ Cls W ca J.cells ∧ Kds W ka J.kids ∧ Below w0.heap.size w0 W
theorem cls_set {W : World} {a : Option Addr} {l : List Cel} {g : Nat} {t : TypeId} {cs : Array Value} (h : Cls W a l) (hg : Blk W g t cs) (hne : ∀ b o q, a = some ⟨b, o, q⟩ → b ≠ g) (i : Nat) (v : Value) : Cls (W.setCell ⟨g, i, none⟩ v) a l := by
  intro j hj
  obtain ⟨b, off, e, hlt, h1, h2, h3, h4⟩ := h j hj
  have hb := Below.heap_setCell W ⟨g, i, none⟩ v b (hne _ _ _ e)
  exact ⟨b, off, e, by rw [Deep.nblk_setCell]; exact hlt, (World.cell?_of_block hb).trans h1, (World.cell?_of_block hb).trans h2, (World.cell?_of_block hb).trans h3, (World.cell?_of_block hb).trans h4⟩
/-- .. stored into the result's cell. -/
theorem NJ.done (h : NJ w0 gx gr base tn tc leaf cv kv L K W) : ∃ W2, W2 = ((W.setCell ⟨gr, 0, none⟩ (.bool leaf)).setCell ⟨gr, 1, none⟩ cv).setCell ⟨gr, 2, none⟩ kv ∧ Blk W2 gr tn #[.bool leaf, cv, kv] ∧ NodQ ⟨leaf, L, K⟩ w0 (.returned (.agg #[.bool leaf, cv, kv])) W2 := by
  refine ⟨_, rfl, blk_set (blk_set (blk_set h.hr 0 _) 1 _) 2 _, ?_⟩
  have c1 := ownsRow_setCell_below (ownsRow_setCell_below (ownsRow_setCell_below h.cr (a := ⟨gr, 0, none⟩) h.lr (.bool leaf)) (a := ⟨gr, 1, none⟩) h.lr cv) (a := ⟨gr, 2, none⟩) h.lr kv
  have c2 := ownsRow_setCell_below (ownsRow_setCell_below (ownsRow_setCell_below h.kr (a := ⟨gr, 0, none⟩) h.lr (.bool leaf)) (a := ⟨gr, 1, none⟩) h.lr cv) (a := ⟨gr, 2, none⟩) h.lr kv
  obtain ⟨ca, cc, rfl, hca, hC⟩ := cls_row c1
  obtain ⟨ka, kc, rfl, hka, hK⟩ := kds_row c2
  exact ⟨ca, cc, ka, kc, rfl, ⟨hca, hka⟩, hC, hK, ((h.bw.setCell h.wr _).setCell h.wr _).setCell h.wr _⟩
end
end Go.Proofs.Ytdpjmijdlheajaa
