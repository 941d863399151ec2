/-
  figure.undouble: it returns the bytes with one single quote for each two, or ErrForm where a single quote is not followed by another ('undR'), and changes nothing that was there. Condition: the string is no longer than the model's greatest length.
-/
import Derived.Test.YtoeohliniecniaaDoorFigFold
namespace Go.Proofs.YtoeohliniecniaaDoor
open Go.RowKit Go.Shelf
attribute [local go_sem] Oper.semAt_some

/-- One byte more: whether a quote stands open, and what has come out; none: the form is broken. -/
def undS : Option (Bool × List UInt8) → UInt8 → Option (Bool × List UInt8)
  | none, _ => none
  | some (true, out), c => if c = 39 then some (false, out ++ [39]) else none
  | some (false, out), c => if c = 39 then some (true, out) else some (false, out ++ [c])
def undF (l : List UInt8) : Option (Bool × List UInt8) := l.foldl undS (some (false, []))
theorem undF_snoc (l : List UInt8) (c : UInt8) : undF (l ++ [c]) = undS (undF l) c := by simp [undF, List.foldl_append]
theorem undS_none (l : List UInt8) : l.foldl undS none = none := by
  induction l with
  | nil => rfl
  | cons a t ih => exact ih
theorem undF_prefix {a l : List UInt8} (h : a <+: l) (hn : undF a = none) : undF l = none := by
  obtain ⟨t, rfl⟩ := h
  rw [undF, List.foldl_append, show a.foldl undS (some (false, [])) = none from hn, undS_none]
/-- The two results: the bytes and the error's number. -/
def undR (l : List UInt8) : List UInt8 × Int :=
  match undF l with
  | some (false, out) => (out, 0)
  | _ => ([], 4)
theorem undF_length (l : List UInt8) : ∀ op out, undF l = some (op, out) → out.length ≤ l.length := by
  have key : ∀ (l : List UInt8) (op0 : Bool) (out0 : List UInt8) op out, l.foldl undS (some (op0, out0)) = some (op, out) → out.length ≤ out0.length + l.length := by
    intro l
    induction l with
    | nil => intro op0 out0 op out h; simp at h; rw [h.2]; simp
    | cons a t ih =>
      intro op0 out0 op out h
      rw [List.foldl_cons] at h
      cases op0 with
      | true =>
        by_cases e : a = 39
        · rw [show undS (some (true, out0)) a = some (false, out0 ++ [39]) by simp [undS, e]] at h
          have := ih _ _ _ _ h; simp at this ⊢; omega
        · rw [show undS (some (true, out0)) a = none by simp [undS, e], undS_none] at h; cases h
      | false =>
        by_cases e : a = 39
        · rw [show undS (some (false, out0)) a = some (true, out0) by simp [undS, e]] at h
          have := ih _ _ _ _ h; simp at this ⊢; omega
        · rw [show undS (some (false, out0)) a = some (false, out0 ++ [a]) by simp [undS, e]] at h
          have := ih _ _ _ _ h; simp at this ⊢; omega
  intro op out h
  have := key l false [] op out h
  simpa using this

/-- Where a variable's box is written, the builder stays. -/
theorem builderAt_box {T e : TypeId} {B b j : Nat} {p : Value} {bs : List Value} {W : World} {t : TypeId} {v : Value} (u : Value) (h : Lib.BuilderAtF T e B b p bs W) (hj : Boxed W j t v) (ht : t ≠ e) (hjb : j ≠ b) : Lib.BuilderAtF T e B b p bs (W.setCell ⟨j, 0, none⟩ u) := by
  obtain ⟨hB, v', hb, hown, hne⟩ := h
  refine ⟨hB, v', (Below.heap_setCell W ⟨j, 0, none⟩ u b (fun e => hjb e.symm)).trans hb, hown.kept (grownBy_setCell' W j u) ?_, hne⟩
  cases hv : v'.ownBlock with
  | none => exact .inl rfl
  | some g =>
    refine .inr fun e1 => ?_
    obtain rfl := Option.some.inj e1
    obtain ⟨c, fz, hcc⟩ := Lib.ownsRowF_kind hown g hv
    rw [show W.heap[g]? = _ from hj] at hcc
    cases hcc; exact ht rfl
theorem builder_box {T e : TypeId} {B b j : Nat} {bs : List Value} {W : World} {t : TypeId} {v : Value} (u : Value) (h : Lib.IsBuilderF T e B b bs W) (hj : Boxed W j t v) (ht : t ≠ e) (hjb : j ≠ b) : Lib.IsBuilderF T e B b bs (W.setCell ⟨j, 0, none⟩ u) :=
  h.elim (fun x => .inl (builderAt_box u x hj ht hjb)) (fun x => .inr (builderAt_box u x hj ht hjb))
theorem boxed_others {W W' : World} {c j : Nat} {t : TypeId} {v : Value} (hj : Boxed W j t v) (h : Lib.OthersKept 5 (some c) W W') (hne : j ≠ c) (ht : t ≠ 5) : Boxed W' j t v :=
  h j _ hj (fun e => hne (Option.some.inj e)) (fun _ _ e => by cases e; exact ht rfl)

/-- What undouble's own cells hold between two rounds. -/
def UndI (w : World) (op : Bool) (out : List UInt8) (W : World) : Prop :=
  Boxed W w.heap.size 9 (.string ⟨#[]⟩) ∧ Boxed W (w.heap.size + 1) 23 (.int .i64 0) ∧ Lib.IsBuilderF 40 5 w.heap.size (w.heap.size + 1 + 1) (Lib.byteCells out) W ∧ Boxed W (w.heap.size + 1 + 1 + 1) 4 (.bool op)
theorem undI_own (w : World) (op : Bool) (out : List UInt8) : Own (fun (_ : Unit) W => UndI w op out W) := fun s A B row hs hg hr =>
  ⟨boxed_own _ _ (fun _ : Unit => _) s A B row hs.1 hg hr, boxed_own _ _ (fun _ : Unit => _) s A B row hs.2.1 hg hr, builder_own (fun _ : Unit => _) s A B row hs.2.2.1 hg hr, boxed_own _ _ (fun _ : Unit => _) s A B row hs.2.2.2 hg hr⟩

/-- A round that has written its byte. -/
theorem und_wrote {w W W1 : World} {op : Bool} {out : List UInt8} {s : ByteArray} {x : UInt8} {B0 : Nat} (hI : UndI w op out W) (hB : Below w.heap.size w W)
    (h1 : Lib.BuilderAtF 40 5 w.heap.size (w.heap.size + 1 + 1) (.pointer (some ⟨w.heap.size + 1 + 1, 0, none⟩)) (Lib.byteCells out ++ [.int .u8 x.toNat]) W1)
    (b1 : Below w.heap.size (W.setCell ⟨w.heap.size + 1 + 1 + 1, 0, none⟩ (.bool false)) W1) (k1 : Lib.OthersKept 5 (some (w.heap.size + 1 + 1)) (W.setCell ⟨w.heap.size + 1 + 1 + 1, 0, none⟩ (.bool false)) W1) :
    KeepsFrom B0 W W1 ∧ KeepC (w.heap.size + 1 + 1 + 1 + 1) s W W1 ∧ UndI w false (out ++ [x]) W1 ∧ Below w.heap.size w W1 := by
  obtain ⟨x0, x1, x2, x3⟩ := hI
  obtain ⟨o, ho1, ho2⟩ := builder_block (builder_box (.bool false) x2 x3 (by decide) (by omega))
  refine ⟨((KeepsOthers.setCell W ⟨w.heap.size + 1 + 1 + 1, 0, none⟩ (.bool false)).from B0).trans (keepsFrom_others k1 b1 ho1 ho2), keepC_t (keepC_setCell _ _ _ (by simp)) (keepC_others k1 (by omega)),
    ⟨boxed_others (x0.other (by omega) _) k1 (by omega) (by decide), boxed_others (x1.other (by omega) _) k1 (by omega) (by decide), ?_, boxed_others (x3.set (.bool false)) k1 (by omega) (by decide)⟩, (hB.setCell (p := ⟨w.heap.size + 1 + 1 + 1, 0, none⟩) (by simp; omega) _).trans b1⟩
  rw [byteCells_snoc]; exact Or.inr h1

set_option maxRecDepth 100000 in
set_option maxHeartbeats 4000000 in
theorem und_in (s : ByteArray) (w : World) (hs : s.size ≤ 140737488351232) :
    CallsIn Fence.wide 9 Tryd.prog 37 #[.string s] w fun e w' => e = .returned (.tuple #[.string ⟨(undR s.data.toList).1.toArray⟩, .int .i64 (undR s.data.toList).2]) ∧ Below w.heap.size w w' := by
  refine callsIn_of_wp_marks Tryd.func37 rfl trivial ?_ rfl
  simp only [Tryd.ntmps37, List.size_toArray, List.length_cons, List.length_nil, Nat.reduceAdd, Nat.reduceSub, Array.replicate_succ, Array.replicate_zero, List.push_toArray, List.append_toArray, List.nil_append, List.cons_append]
  gi_wp2_with (refine ⟨trivial, ?_⟩; gi_at_call 27; refine (bytesOf_in _ _ _).mono ?_; rintro e w' ⟨rfl, rfl⟩)
  obtain ⟨W0, hW0⟩ : ∃ W0, ((((w.alloc (.cells #[.string ⟨#[]⟩] 9)).alloc (.cells #[.int .i64 0] 23)).alloc (.cells #[.pointer none, .slice none 0 0] 40)).alloc (.cells #[.bool false] 4)).alloc (.cells #[.string s] 9) = W0 := ⟨_, rfl⟩
  have hsz : W0.heap.size = w.heap.size + 1 + 1 + 1 + 1 + 1 := by rw [← hW0]; simp
  have hI0 : UndI w false [] W0 := by
    rw [← hW0]
    refine ⟨(((((Boxed.new w 9 (.string ⟨#[]⟩)).alloc _).alloc _).alloc _).alloc _), ?_, ?_, ?_⟩
    · have := Boxed.new (w.alloc (.cells #[.string ⟨#[]⟩] 9)) 23 (.int .i64 0)
      rw [World.size_alloc] at this
      exact ((this.alloc _).alloc _).alloc _
    · have := heap_new ((w.alloc (.cells #[.string ⟨#[]⟩] 9)).alloc (.cells #[.int .i64 0] 23)) (.cells #[.pointer none, .slice none 0 0] 40)
      simp only [World.size_alloc] at this
      refine Lib.IsBuilderF.alloc (Lib.IsBuilderF.alloc (.inl ⟨by omega, .slice none 0 0, this, ⟨by simp, .inl ⟨rfl, rfl⟩⟩, by simp [Value.ownBlock]⟩) _) _
    · have := Boxed.new (((w.alloc (.cells #[.string ⟨#[]⟩] 9)).alloc (.cells #[.int .i64 0] 23)).alloc (.cells #[.pointer none, .slice none 0 0] 40)) 4 (.bool false)
      simp only [World.size_alloc] at this
      exact this.alloc _
  have hB0 : Below w.heap.size w W0 := by
    rw [← hW0]
    exact ((((((Below.refl _ w).alloc (Nat.le_refl _) _).alloc (by simp) _).alloc (by simp; omega) _).alloc (by simp; omega) _).alloc (by simp; omega) _)
  have hx0 : W0.heap[w.heap.size + 1 + 1 + 1 + 1]? = some (boxOf s) := by
    rw [← hW0]
    have := heap_new ((((w.alloc (.cells #[.string ⟨#[]⟩] 9)).alloc (.cells #[.int .i64 0] 23)).alloc (.cells #[.pointer none, .slice none 0 0] 40)).alloc (.cells #[.bool false] 4)) (boxOf s)
    simp only [World.size_alloc] at this
    exact this
  rw [hW0]
  clear hW0
  have HSZ := Lib.hid hsz; have HX0 := Lib.hid hx0
  have hle0 : w.heap.size + 1 + 1 + 1 + 1 < W0.heap.size := by omega
  clear hsz hx0
  refine wpIn_bytes (by omega) (w.heap.size + 1 + 1 + 1 + 1) 6 s hs rfl HX0.out
    (fun pre W => (∃ op out, undF pre = some (op, out) ∧ UndI w op out W) ∧ Below w.heap.size w W)
    (fun c pre W => (c = .ret ∧ undF pre = none ∧ Boxed W w.heap.size 9 (.string ⟨#[]⟩) ∧ Boxed W (w.heap.size + 1) 23 (.int .i64 4)) ∧ Below w.heap.size w W)
    (OwnFrom.and (Own.from (fun s A B row ⟨op, out, hu, hs⟩ hg hr => ⟨op, out, hu, undI_own w op out () A B row hs hg hr⟩) _) (ownFrom_below (Nat.le_refl _) (by omega)))
    (fun c => OwnFrom.and (Own.from (fun s A B row hs hg hr => ⟨hs.1, hs.2.1, boxed_own _ _ (fun _ : Unit => _) () A B row hs.2.2.1 hg hr, boxed_own _ _ (fun _ : Unit => _) () A B row hs.2.2.2 hg hr⟩) _) (ownFrom_below (Nat.le_refl _) (by omega)))
    ⟨⟨false, [], rfl, hI0⟩, hB0⟩ ?assign ?body ?done ?stop
  case assign =>
    intro l x W K hK
    simp only [frameAt] at hK
    gi_wp2
    exact hK
  case body =>
    rintro l pre x W ⟨⟨op, out, hu, hI⟩, hB⟩ hlen
    have HLEN := undF_length pre op out hu
    have hxb := byte_bd x
    obtain ⟨c, hc⟩ : ∃ c : Int, c = (x.toNat : Int) := ⟨_, rfl⟩
    simp only [frameAt, List.setIfInBounds_toArray, List.set_cons_succ, List.set_cons_zero]
    have HC := Lib.hid hc; have HU := Lib.hid hu
    rw [← hc] at hxb ⊢
    clear hc hu hI0 hB0
    obtain ⟨x0, x1, x2, x3⟩ := hI
    have cc := x3.cell; have cf := x3.frozen
    obtain ⟨o, ho1, ho2⟩ := builder_block x2
    have HO := Lib.hid ho1; clear ho1
    by_cases hx : x = 39
    · have t1 : (c == 39) = true := by rw [HC.out, hx]; rfl
      have t2 : (c != 39) = false := by rw [HC.out, hx]; rfl
      have HX := Lib.hid hx; clear hx
      cases op with
      | true =>
        have HS := Lib.hid (builder_box (.bool false) x2 x3 (by decide) (by omega))
        gi_wp2_with (refine ⟨trivial, ?_⟩; gi_at_call 34; refine (CallsIn.inRound l (callsIn_wide.2 (Tryd.Builder_WriteByte_k w.heap.size (w.heap.size + 1 + 1) _ _ _ (by exact HS.out) (by rw [Lib.byteCells_length]; omega) (by simp; exact hB.size)))).mono ?_; rintro e W1 ⟨rfl, h1, b1, k1⟩)
        rw [HC.out] at h1
        obtain ⟨q1, q2, q3, q4⟩ := und_wrote (s := s) (B0 := W0.heap.size) ⟨x0, x1, x2, x3⟩ hB h1 b1 k1
        exact ⟨q1, q2, ⟨false, _, by rw [undF_snoc, HU.out, HX.out]; rfl, by rw [HX.out] at q3; exact q3⟩, q4⟩
      | false =>
        gi_wp2
        exact ⟨(KeepsOthers.setCell _ _ _).from _, keepC_setCell _ _ _ (by simp), ⟨true, out, by rw [undF_snoc, HU.out, HX.out]; rfl, x0.other (by omega) _, x1.other (by omega) _, builder_box _ x2 x3 (by decide) (by omega), x3.set _⟩, hB.setCell (p := ⟨w.heap.size + 1 + 1 + 1, 0, none⟩) (by simp; omega) _⟩
    · have t1 : (c == 39) = false := by
        rw [HC.out]
        refine beq_eq_false_iff_ne.2 fun e => hx (UInt8.toNat_inj.1 (Int.ofNat.inj e))
      have t2 : (c != 39) = true := by rw [bne, t1]; rfl
      have HX := Lib.hid hx; clear hx
      cases op with
      | true =>
        have c0 := x0.cell; have c0f := x0.frozen; have c1 := x1.cell; have c1f := x1.frozen
        gi_wp2
        exact ⟨((KeepsOthers.setCell _ _ _).trans (KeepsOthers.setCell _ _ _)).from _, ⟨rfl, by rw [undF_snoc, HU.out]; simp [undS, HX.out], (x0.set _).other (by omega) _, (x1.other (by omega) _).set _⟩, (hB.setCell (p := ⟨w.heap.size, 0, none⟩) (Nat.le_refl _) _).setCell (p := ⟨w.heap.size + 1, 0, none⟩) (by simp) _⟩
      | false =>
        have HS := Lib.hid (builder_box (.bool false) x2 x3 (by decide) (by omega))
        gi_wp2_with (refine ⟨trivial, ?_⟩; gi_at_call 34; refine (CallsIn.inRound l (callsIn_wide.2 (Tryd.Builder_WriteByte_k w.heap.size (w.heap.size + 1 + 1) _ _ _ (by exact HS.out) (by rw [Lib.byteCells_length]; omega) (by simp; exact hB.size)))).mono ?_; rintro e W1 ⟨rfl, h1, b1, k1⟩)
        rw [HC.out] at h1
        obtain ⟨q1, q2, q3, q4⟩ := und_wrote (s := s) (B0 := W0.heap.size) ⟨x0, x1, x2, x3⟩ hB h1 b1 k1
        exact ⟨q1, q2, ⟨false, _, by rw [undF_snoc, HU.out]; simp [undS, HX.out], q3⟩, q4⟩
  case done =>
    rintro D W hD ⟨⟨op, out, hu, x0, x1, x2, x3⟩, hB⟩ hK
    have cc := x3.cell; have cf := x3.frozen
    have c0 := x0.cell; have c0f := x0.frozen; have c1 := x1.cell; have c1f := x1.frozen
    cases op with
    | true =>
      have HR := Lib.hid (show undR s.data.toList = ([], 4) by simp [undR, hu])
      clear hu
      gi_wp2
      have y0 := (x0.set (.string ⟨#[]⟩)).other (B' := w.heap.size + 1) (by omega) (.int .i64 4)
      have y1 := (x1.other (B' := w.heap.size) (by omega) (.string ⟨#[]⟩)).set (.int .i64 4)
      have hK' := (KeepsOthers.setCell (W.setCell ⟨w.heap.size, 0, none⟩ (.string ⟨#[]⟩)) ⟨w.heap.size + 1, 0, none⟩ (.int .i64 4)).same D _ ((KeepsOthers.setCell W ⟨w.heap.size, 0, none⟩ (.string ⟨#[]⟩)).same D _ hK rfl) rfl
      refine ⟨by simp, .inl ⟨_, _, rfl, run_takeDeferred hK', ?_⟩⟩
      have z0 := (y0.kept (grownBy_putObj' _ D (.deferred none)) (fun e => by have := Option.some.inj e; omega)).cell
      have z1 := (y1.kept (grownBy_putObj' _ D (.deferred none)) (fun e => by have := Option.some.inj e; omega)).cell
      refine ⟨.tuple #[.string ⟨#[]⟩, .int .i64 4], ?_, by rw [HR.out], ((hB.setCell (p := ⟨w.heap.size, 0, none⟩) (Nat.le_refl _) _).setCell (p := ⟨w.heap.size + 1, 0, none⟩) (by simp) _).trans (belowK_b (w := w) (Nat.le_refl _) _ D _ _ (by omega) hK' rfl rfl)⟩
      simp [results, Tryd.f37, go_sem, z0, z1]
    | false =>
      have HR := Lib.hid (show undR s.data.toList = (out, 0) by simp [undR, hu])
      clear hu
      gi_wp2_with (refine ⟨trivial, ?_⟩; gi_at_call 36; refine (callsIn_wide.2 (Tryd.Builder_String_any_k w.heap.size (w.heap.size + 1 + 1) _ _ x2 hB.size)).mono ?_; rintro e W1 ⟨rfl, h1, b1, k1⟩; have y0 := boxed_others x0 k1 (by omega) (by decide); have y1 := boxed_others x1 k1 (by omega) (by decide); have d0 := y0.cell; have d0f := y0.frozen; have d1 := y1.cell; have d1f := y1.frozen)
      have hK1 := k1 D _ hK (fun e => by have := Option.some.inj e; omega) (fun _ _ e => by cases e)
      have y0' := (y0.set (.string ⟨out.toArray⟩)).other (B' := w.heap.size + 1) (by omega) (.int .i64 0)
      have y1' := (y1.other (B' := w.heap.size) (by omega) (.string ⟨out.toArray⟩)).set (.int .i64 0)
      have hK' := (KeepsOthers.setCell (W1.setCell ⟨w.heap.size, 0, none⟩ (.string ⟨out.toArray⟩)) ⟨w.heap.size + 1, 0, none⟩ (.int .i64 0)).same D _ ((KeepsOthers.setCell W1 ⟨w.heap.size, 0, none⟩ (.string ⟨out.toArray⟩)).same D _ hK1 rfl) rfl
      refine ⟨by simp, .inl ⟨_, _, rfl, run_takeDeferred hK', ?_⟩⟩
      have z0 := (y0'.kept (grownBy_putObj' _ D (.deferred none)) (fun e => by have := Option.some.inj e; omega)).cell
      have z1 := (y1'.kept (grownBy_putObj' _ D (.deferred none)) (fun e => by have := Option.some.inj e; omega)).cell
      refine ⟨.tuple #[.string ⟨out.toArray⟩, .int .i64 0], ?_, by rw [HR.out], (((hB.trans b1).setCell (p := ⟨w.heap.size, 0, none⟩) (Nat.le_refl _) _).setCell (p := ⟨w.heap.size + 1, 0, none⟩) (by simp) _).trans (belowK_b (w := w) (Nat.le_refl _) _ D _ _ (by omega) hK' rfl rfl)⟩
      simp [results, Tryd.f37, go_sem, z0, z1]
  case stop =>
    rintro D c pre W hD hpre ⟨⟨rfl, hu, x0, x1⟩, hB⟩ hK
    have HR := Lib.hid (show undR s.data.toList = ([], 4) by simp [undR, undF_prefix hpre hu])
    clear hu
    gi_wp2
    refine ⟨by simp, .inl ⟨_, _, rfl, run_takeDeferred hK, ?_⟩⟩
    have z0 := (x0.kept (grownBy_putObj' _ D (.deferred none)) (fun e => by have := Option.some.inj e; omega)).cell
    have z1 := (x1.kept (grownBy_putObj' _ D (.deferred none)) (fun e => by have := Option.some.inj e; omega)).cell
    refine ⟨.tuple #[.string ⟨#[]⟩, .int .i64 4], ?_, by rw [HR.out], hB.trans (belowK_b (w := w) (Nat.le_refl _) W D _ _ (by omega) hK rfl rfl)⟩
    simp [results, Tryd.f37, go_sem, z0, z1]
end Go.Proofs.YtoeohliniecniaaDoor
