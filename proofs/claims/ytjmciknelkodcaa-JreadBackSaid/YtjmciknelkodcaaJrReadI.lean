/-
  Layer 11, Read: what its own cells hold between two segments, and how that stays. No program text is walked here.
-/
import Derived.Test.YtjmciknelkodcaaJrRange
import Derived.Test.YtjmciknelkodcaaSpDec2
import Derived.Deep.WholeRow
namespace Go.Proofs.Ytjmciknelkodcaa
open Go.RowKit
attribute [local go_sem] Oper.semAt_some

theorem wpListIn_append_lies {F : Fence} {n : Nat} {P : Program} (w : World) {ops : Array Oper} {rest : List Oper} {o : Oper} {a : Act} {Q : Exit → Act → World → Prop}
    (hg : o.guard = none) (s x : Operand) (t : TypeId) (hop : o.op = Op.call { callee := Callee.builtin Builtin.append, args := #[s, x], argTypes := #[t, t] })
    (base : Nat) (e : TypeId) (i : TypeInfo) (z : Value) (size bytes : Nat) (h1 : P.underlying t = some (.slice e)) (h2 : P.info? e = some i) (h3 : i.zero = some z) (h4 : i.size = size) (h5 : i.bytes = bytes) (h6 : z.cells.size = size) (h7 : 0 < size)
    (v : Value) (k : Nat) (xs : List Value) (hs : a.eval s = v) (hown : w.ownsRow base e size v k xs) (ad : Addr) (m c : Nat) (news : List Value) (hx : a.eval x = .slice (some ad) m c) (hn : news.length = m * size)
    (hc : ∀ j u, news[j]? = some u → w.cell? (ad.add j) = some u) (h1c : ∀ u ∈ news, u.oneCell' = true) (hm : 0 < m) (b1 : k + m ≤ maxLen) (b2 : (k + m) * bytes ≤ 140737488355328) (b3 : base ≤ w.heap.size) (H : Nat) (hH : w.heap.size = H)
    (hK : ∀ g cap w', w'.ownsRow base e size (.slice (some ⟨g, 0, none⟩) (k + m) cap) (k + m) (xs ++ news) → w.grownBy w' v.ownBlock → (v.ownBlock = some g ∨ g = H) → g < w'.heap.size → wpListIn F n P ops Q rest (a.put o.dst (.slice (some ⟨g, 0, none⟩) (k + m) cap)) w') :
    wpListIn F n P ops Q (o :: rest) a w := by
  refine wpListIn_plain hg fun K hK' => ?_
  obtain ⟨g, cap, w', hrun, r1, r2, r3, r4⟩ := run_append_lies (P := P) w t o.type base e i z size bytes h1 h2 h3 h4 h5 h6 h7 v k xs hown ad m c news hn hc h1c hm b1 b2 b3 H hH
  unfold Oper.wpIn
  refine ⟨?_, ?_⟩
  · simp [Oper.about, hop, resolve, Target.leads, Sem.run_pure]
  · rw [Oper.semAt_plain F _ _ (by rw [hop]; intro c hc'; cases hc')]
    simp [execOp, hop, resolve, invoke, builtin, hs, hx, hrun, Result.andThen]
    exact hK' _ _ (hK g cap w' r1 r2 r3 r4)

def falses : Array Value := Array.replicate 2001 (.bool false)
theorem infoSeen : (Try.prog.info? 53).map (fun i => (i.zero, i.size)) = some (some (.agg falses), 2001) := by kernel_rfl
def zJour : Array Value := #[.int .i64 0, .int .i64 0, .slice none 0 0, .string ⟨#[]⟩]
def seenF (L : List R11) (i : Nat) : Value := .bool (hasR L (i : Int))
theorem jourNeRec : 25 ≠ 52 := by decide
theorem strNeRec : 9 ≠ 52 := by decide
theorem seenNeRec : 53 ≠ 52 := by decide
theorem row_blk {W : World} {b : Nat} {t : TypeId} {n : Nat} {f : Nat → Value} (h : W.rowIs b t n f) : ∃ cs, Blk W b t cs := by
  obtain ⟨cs, h1, -⟩ := h
  exact ⟨cs, h1⟩

/-- What Read's own cells hold, the call's heap ending at N. -/
structure RJ (N : Nat) (w : World) (k : Nat) (p : Int) (L S : List R11) (v : Value) (r : List UInt8) (W : World) : Prop where
  below : Below N w W
  res : Blk W N 25 zJour
  jour : Blk W (N + 1) 25 #[.int .i64 k, .int .i64 p, v, .string ⟨#[]⟩]
  own : W.ownsRow N 52 2 v L.length (recsC L)
  seen : W.rowIs (N + 2) 53 2001 (seenF S)
  rest : Blk W (N + 3) 9 #[.string (ba r)]
  big : N + 6 ≤ W.heap.size
section
variable {N : Nat} {w : World} {k : Nat} {p : Int} {L S : List R11} {v : Value} {r : List UInt8} {A B : World} {row : Option Nat}
theorem rj_kept (h : RJ N w k p L S v r A) (hg : A.grownBy B row) (hr : ∀ j, row = some j → N + 3 < j ∧ v.ownBlock ≠ some j) : RJ N w k p L S v r B := by
  have hb := h.big
  have ne : ∀ j, j ≤ N + 3 → some j ≠ row := fun j hj e => by have := (hr j e.symm).1; omega
  refine ⟨h.below.grown hg (by omega) (fun j e => by have := (hr j e).1; omega), (hg.block _ (by omega) (ne _ (by omega))).trans h.res, (hg.block _ (by omega) (ne _ (by omega))).trans h.jour, h.own.kept hg ?_, h.seen.of_block (hg.block _ (by omega) (ne _ (by omega))), (hg.block _ (by omega) (ne _ (by omega))).trans h.rest, Nat.le_trans hb hg.size⟩
  cases hv : v.ownBlock with
  | none => exact .inl rfl
  | some g => exact .inr fun e => (hr g e.symm).2 hv
theorem rj_alloc (h : RJ N w k p L S v r A) (o : Obj) : RJ N w k p L S v r (A.alloc o) := rj_kept (row := none) h (World.grownBy_alloc A o none) (fun j e => by cases e)
theorem rj_k (h : RJ N w k p L S v r A) (k' : Nat) : RJ N w k' p L S v r (A.setCell ⟨N + 1, 0, none⟩ (.int .i64 k')) :=
  ⟨h.below.setCell (p := ⟨N + 1, 0, none⟩) (by show N ≤ N + 1; omega) _, blk_other h.res (by omega) _ _, blk_set h.jour 0 _, own_set h.own h.jour jourNeRec _ _, h.seen.setOther (by show N + 2 ≠ N + 1; omega) _, blk_other h.rest (by omega) _ _, by have := h.big; simpa [World.setCell] using this⟩
theorem rj_p (h : RJ N w k p L S v r A) (p' : Int) : RJ N w k p' L S v r (A.setCell ⟨N + 1, 1, none⟩ (.int .i64 p')) :=
  ⟨h.below.setCell (p := ⟨N + 1, 1, none⟩) (by show N ≤ N + 1; omega) _, blk_other h.res (by omega) _ _, blk_set h.jour 1 _, own_set h.own h.jour jourNeRec _ _, h.seen.setOther (by show N + 2 ≠ N + 1; omega) _, blk_other h.rest (by omega) _ _, by have := h.big; simpa [World.setCell] using this⟩
theorem rj_r (h : RJ N w k p L S v r A) (r' : List UInt8) : RJ N w k p L S v r' (A.setCell ⟨N + 3, 0, none⟩ (.string (ba r'))) :=
  ⟨h.below.setCell (p := ⟨N + 3, 0, none⟩) (by show N ≤ N + 3; omega) _, blk_other h.res (by omega) _ _, blk_other h.jour (by omega) _ _, own_set h.own h.rest strNeRec _ _, h.seen.setOther (by show N + 2 ≠ N + 3; omega) _, blk_set h.rest 0 _, by have := h.big; simpa [World.setCell] using this⟩
theorem rj_seen (h : RJ N w k p L S v r A) {m : Nat} {x : R11} (hx : x.n = m) : RJ N w k p L (S ++ [x]) v r (A.setCell ⟨N + 2, m, none⟩ (.bool true)) := by
  obtain ⟨cs, hcs⟩ := row_blk h.seen
  refine ⟨h.below.setCell (p := ⟨N + 2, m, none⟩) (by show N ≤ N + 2; omega) _, blk_other h.res (by omega) _ _, blk_other h.jour (by omega) _ _, own_set h.own hcs seenNeRec _ _, (h.seen.set m _).congr fun j hj => ?_, blk_other h.rest (by omega) _ _, by have := h.big; simpa [World.setCell] using this⟩
  unfold seenF
  rw [hasR_app, hx]
  by_cases e : j = m
  · subst e; simp
  · have : ¬ (m : Int) = (j : Int) := by omega
    simp [e, this]
theorem rj_app (h : RJ N w k p L S v r A) (tmp : Obj) {w1 : World} {v' : Value} {L' : List R11} (hgrow : (A.alloc tmp).grownBy w1 v.ownBlock) (hown : w1.ownsRow N 52 2 v' L'.length (recsC L')) :
    RJ N w k p L' S v' r (w1.setCell ⟨N + 1, 2, none⟩ v') := by
  have h2 := rj_alloc h tmp
  obtain ⟨cs, hcs⟩ := row_blk h2.seen
  have hb := h2.big
  have lt : ∀ g, v.ownBlock = some g → N ≤ g ∧ g < (A.alloc tmp).heap.size := fun g e => h2.own.lt g e
  have b0 := blk_own h2.res h2.own jourNeRec hgrow
  have b1 := blk_own h2.jour h2.own jourNeRec hgrow
  have b2 := h2.seen.of_block (hgrow.block _ (by omega) (fun e => own_not h2.own hcs seenNeRec e.symm))
  have b3 := blk_own h2.rest h2.own strNeRec hgrow
  refine ⟨(h2.below.grown hgrow (by omega) (fun j e => (lt j e).1)).setCell (p := ⟨N + 1, 2, none⟩) (by show N ≤ N + 1; omega) _, blk_other b0 (by omega) _ _, blk_set b1 2 _, own_set hown b1 jourNeRec _ _, b2.setOther (by show N + 2 ≠ N + 1; omega) _, blk_other b3 (by omega) _ _, ?_⟩
  have := hgrow.size
  simp only [World.setCell, Array.size_modify]
  omega
end
/-- What is known of the numbers. -/
def PJ (X : Q11 × List UInt8) (k : Nat) (p : Int) (L : List R11) (r : List UInt8) : Prop :=
  (∃ f, rdG f r ⟨k, p, L⟩ = X ∧ r.length < f) ∧ k + r.length ≤ 1048576 ∧ L.length + r.length ≤ 1048576
def IJ (N : Nat) (w : World) (X : Q11 × List UInt8) (F : Nat → Prop) (r : List UInt8) (W : World) : Prop :=
  ∃ k p L v, RJ N w k p L L v r W ∧ PJ X k p L r ∧ (∀ g, v.ownBlock = some g → ¬ F g ∧ g ≠ N + 5 ∧ g ≠ N + 6) ∧ ∀ j, F j → N + 6 < j
def EJ (N : Nat) (w : World) (X : Q11 × List UInt8) (W : World) : Prop :=
  ∃ k p L v r, RJ N w k p L L v r W ∧ (∀ g, v.ownBlock = some g → g ≠ N + 5 ∧ g ≠ N + 6) ∧ X = (⟨k, p, L⟩, r) ∧ k + r.length ≤ 1048576
theorem ij_kept {N : Nat} {w : World} {X : Q11 × List UInt8} {F : Nat → Prop} {r : List UInt8} {A B : World} {row : Option Nat} (h : IJ N w X F r A) (hg : A.grownBy B row) (hr : ∀ j, row = some j → F j ∨ j = N + 5 ∨ j = N + 5 + 1) : IJ N w X F r B := by
  obtain ⟨k, p, L, v, h1, h2, h3, h4⟩ := h
  refine ⟨k, p, L, v, rj_kept h1 hg (fun j e => ?_), h2, h3, h4⟩
  refine ⟨?_, fun ev => ?_⟩
  · rcases hr j e with h | h | h
    · have := h4 j h; omega
    · omega
    · omega
  · have := h3 j ev
    rcases hr j e with h | h | h
    · exact this.1 h
    · exact this.2.1 h
    · exact this.2.2 h
theorem ej_kept {N : Nat} {w : World} {X : Q11 × List UInt8} {A B : World} {row : Option Nat} (h : EJ N w X A) (hg : A.grownBy B row) (hr : ∀ j, row = some j → j = N + 5 ∨ j = N + 5 + 1) : EJ N w X B := by
  obtain ⟨k, p, L, v, r, h1, h2, h3⟩ := h
  refine ⟨k, p, L, v, r, rj_kept h1 hg (fun j e => ⟨by rcases hr j e with h | h <;> omega, fun ev => ?_⟩), h2, h3⟩
  have := h2 j ev
  rcases hr j e with h | h
  · exact this.1 h
  · exact this.2 h
theorem ij_foreign {N : Nat} {w : World} {X : Q11 × List UInt8} {F F' : Nat → Prop} {r : List UInt8} {A : World} (h : IJ N w X F r A) (hs : N + 5 + 1 < A.heap.size) (hF : ∀ k, F' k → F k ∨ A.heap.size ≤ k) : IJ N w X F' r A := by
  obtain ⟨k, p, L, v, h1, h2, h3, h4⟩ := h
  refine ⟨k, p, L, v, h1, h2, fun g e => ⟨fun hf => ?_, (h3 g e).2⟩, fun j hj => ?_⟩
  · rcases hF g hf with h | h
    · exact (h3 g e).1 h
    · have := (h1.own.lt g e).2; omega
  · rcases hF j hj with h | h
    · exact h4 j h
    · omega
/-- The journal laid into the result. -/
theorem read_end {N : Nat} {w V : World} {k : Nat} {p : Int} {L : List R11} {a : Option Addr} {cap : Nat} (sp : ByteArray) (hN : N = w.heap.size) (hb : Below N w V) (hr : Blk V N 25 zJour) (ho : V.ownsRow N 52 2 (.slice a L.length cap) L.length (recsC L))
    (hD : V.heap[N + 5]? = some (.deferred (some []))) :
    ((((V.setCell ⟨N, 0, none⟩ (.int .i64 k)).setCell ⟨N, 1, none⟩ (.int .i64 p)).setCell ⟨N, 2, none⟩ (.slice a L.length cap)).setCell ⟨N, 3, none⟩ (.string sp)).heap[N + 5]? = some (.deferred (some [])) ∧
    Blk (((((V.setCell ⟨N, 0, none⟩ (.int .i64 k)).setCell ⟨N, 1, none⟩ (.int .i64 p)).setCell ⟨N, 2, none⟩ (.slice a L.length cap)).setCell ⟨N, 3, none⟩ (.string sp)).putObj (N + 5) (.deferred none)) N 25 #[.int .i64 k, .int .i64 p, .slice a L.length cap, .string sp] ∧
    Below w.heap.size w (((((V.setCell ⟨N, 0, none⟩ (.int .i64 k)).setCell ⟨N, 1, none⟩ (.int .i64 p)).setCell ⟨N, 2, none⟩ (.slice a L.length cap)).setCell ⟨N, 3, none⟩ (.string sp)).putObj (N + 5) (.deferred none)) ∧
    Recs (((((V.setCell ⟨N, 0, none⟩ (.int .i64 k)).setCell ⟨N, 1, none⟩ (.int .i64 p)).setCell ⟨N, 2, none⟩ (.slice a L.length cap)).setCell ⟨N, 3, none⟩ (.string sp)).putObj (N + 5) (.deferred none)) a L := by
  have o1 := own_set ho hr jourNeRec 0 (.int .i64 k)
  have b1 := blk_set hr 0 (.int .i64 k)
  have o2 := own_set o1 b1 jourNeRec 1 (.int .i64 p)
  have b2 := blk_set b1 1 (.int .i64 p)
  have o3 := own_set o2 b2 jourNeRec 2 (.slice a L.length cap)
  have b3 := blk_set b2 2 (.slice a L.length cap)
  have o4 := own_set o3 b3 jourNeRec 3 (.string sp)
  have b4 := blk_set b3 3 (.string sp)
  have d4 : ((((V.setCell ⟨N, 0, none⟩ (.int .i64 k)).setCell ⟨N, 1, none⟩ (.int .i64 p)).setCell ⟨N, 2, none⟩ (.slice a L.length cap)).setCell ⟨N, 3, none⟩ (.string sp)).heap[N + 5]? = some (.deferred (some [])) :=
    (Below.heap_setCell _ _ _ _ (by show N + 5 ≠ N; omega)).trans ((Below.heap_setCell _ _ _ _ (by show N + 5 ≠ N; omega)).trans ((Below.heap_setCell _ _ _ _ (by show N + 5 ≠ N; omega)).trans ((Below.heap_setCell _ _ _ _ (by show N + 5 ≠ N; omega)).trans hD)))
  have l4 : Below N w ((((V.setCell ⟨N, 0, none⟩ (.int .i64 k)).setCell ⟨N, 1, none⟩ (.int .i64 p)).setCell ⟨N, 2, none⟩ (.slice a L.length cap)).setCell ⟨N, 3, none⟩ (.string sp)) :=
    (((hb.setCell (p := ⟨N, 0, none⟩) (Nat.le_refl _) _).setCell (p := ⟨N, 1, none⟩) (Nat.le_refl _) _).setCell (p := ⟨N, 2, none⟩) (Nat.le_refl _) _).setCell (p := ⟨N, 3, none⟩) (Nat.le_refl _) _
  revert o4 b4 d4 l4
  generalize (((V.setCell ⟨N, 0, none⟩ (.int .i64 k)).setCell ⟨N, 1, none⟩ (.int .i64 p)).setCell ⟨N, 2, none⟩ (.slice a L.length cap)).setCell ⟨N, 3, none⟩ (.string sp) = V4
  intro o4 b4 d4 l4
  obtain ⟨a', cap', e, -, hrec, -⟩ := recs_of_own o4
  cases e
  rw [← hN]
  exact ⟨d4, blk_put b4 _ (by omega), l4.trans (belowK_b (w := w) (by omega) _ (N + 5) _ _ (by omega) d4 rfl rfl), recs_put hrec _ d4 rfl⟩
/-- What a round leaves alone. -/
def KP (P : Nat → Prop) (W A : World) : Prop := (∀ j, P j → A.heap[j]? = W.heap[j]?) ∧ W.heap.size ≤ A.heap.size
theorem kp_refl (P : Nat → Prop) (W : World) : KP P W W := ⟨fun _ _ => rfl, Nat.le_refl _⟩
theorem kp_grown {P : Nat → Prop} {W A B : World} {row : Option Nat} (h : KP P W A) (hP : ∀ j, P j → j < W.heap.size) (hg : A.grownBy B row) (hr : ∀ j, row = some j → ¬ P j) : KP P W B :=
  ⟨fun j hj => (hg.block j (Nat.lt_of_lt_of_le (hP j hj) h.2) (fun e => hr j e.symm hj)).trans (h.1 j hj), Nat.le_trans h.2 hg.size⟩
theorem kp_alloc {P : Nat → Prop} {W A : World} (h : KP P W A) (hP : ∀ j, P j → j < W.heap.size) (o : Obj) : KP P W (A.alloc o) := kp_grown h hP (World.grownBy_alloc A o none) (fun j e => by cases e)
theorem kp_set {P : Nat → Prop} {W A : World} (h : KP P W A) (hP : ∀ j, P j → j < W.heap.size) {b : Nat} (hb : ¬ P b) (i : Nat) (x : Value) : KP P W (A.setCell ⟨b, i, none⟩ x) := kp_grown h hP (Lib.grownBy_setCell A b i x) (fun j e => by cases e; exact hb)
theorem kp_cell {P : Nat → Prop} {W A : World} (h : KP P W A) {b i : Nat} {v : Value} (hb : P b) (hc : W.cell? ⟨b, i, none⟩ = some v) : A.cell? ⟨b, i, none⟩ = some v := (World.cell?_of_block (h.1 b hb)).trans hc
end Go.Proofs.Ytjmciknelkodcaa
