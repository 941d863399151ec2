/-
  figure.Unhex: it returns the bytes that hexadecimal digits denote, or the error that the chapter names ('unhR'), and changes nothing that was there. Condition: the string is no longer than the model's greatest length.
-/
import Derived.Test.YtoeohliniecniaaDoorFigUnd
namespace Go.Proofs.YtoeohliniecniaaDoor
open Go.RowKit Go.Shelf
attribute [local go_sem] Oper.semAt_some

def hexDigs : ByteArray := ⟨#[48, 49, 50, 51, 52, 53, 54, 55, 56, 57, 97, 98, 99, 100, 101, 102]⟩
/-- What a digit is worth; -1: it is none. -/
def hv (x : UInt8) : Int := Lib.indexByte hexDigs.data.toList (lowU x)
theorem hv_bd' : ∀ k : Fin 256, -1 ≤ hv (UInt8.ofNat k.val) ∧ hv (UInt8.ofNat k.val) < 16 := by decide +kernel
theorem hv_bd (x : UInt8) : -1 ≤ hv x ∧ hv x < 16 := by
  have := hv_bd' ⟨x.toNat, x.toNat_lt⟩
  simpa using this

/-- One digit more: the half that stands open, and what has come out; none: a byte is no digit. -/
def unhS : Option (Int × Bool × List UInt8) → UInt8 → Option (Int × Bool × List UInt8)
  | none, _ => none
  | some (high, half, out), c => if hv c < 0 then none else some (hv c, !half, if half then out ++ [(high * 16 + hv c).toNat.toUInt8] else out)
def unhF (l : List UInt8) : Option (Int × Bool × List UInt8) := l.foldl unhS (some (0, false, []))
theorem unhF_snoc (l : List UInt8) (c : UInt8) : unhF (l ++ [c]) = unhS (unhF l) c := by simp [unhF, List.foldl_append]
theorem unhS_none (l : List UInt8) : l.foldl unhS none = none := by
  induction l with
  | nil => rfl
  | cons a t ih => exact ih
theorem unhF_prefix {a l : List UInt8} (h : a <+: l) (hn : unhF a = none) : unhF l = none := by
  obtain ⟨t, rfl⟩ := h
  rw [unhF, List.foldl_append, show a.foldl unhS (some (0, false, [])) = none from hn, unhS_none]
theorem unhF_inv (l : List UInt8) : ∀ h b out, unhF l = some (h, b, out) → out.length ≤ l.length ∧ 0 ≤ h ∧ h < 16 := by
  have key : ∀ (l : List UInt8) (h0 : Int) (b0 : Bool) (out0 : List UInt8), 0 ≤ h0 ∧ h0 < 16 → ∀ h b out, l.foldl unhS (some (h0, b0, out0)) = some (h, b, out) → out.length ≤ out0.length + l.length ∧ 0 ≤ h ∧ h < 16 := by
    intro l
    induction l with
    | nil => intro h0 b0 out0 hb h b out e; simp at e; obtain ⟨rfl, rfl, rfl⟩ := e; exact ⟨by simp, hb⟩
    | cons a t ih =>
      intro h0 b0 out0 hb h b out e
      rw [List.foldl_cons] at e
      by_cases hh : hv a < 0
      · rw [show unhS (some (h0, b0, out0)) a = none by simp [unhS, hh], unhS_none] at e; cases e
      · rw [show unhS (some (h0, b0, out0)) a = some (hv a, !b0, if b0 then out0 ++ [(h0 * 16 + hv a).toNat.toUInt8] else out0) by simp [unhS, hh]] at e
        have hb' := hv_bd a
        have := ih _ _ _ ⟨by omega, by omega⟩ _ _ _ e
        refine ⟨?_, this.2⟩
        have h1 := this.1
        split at h1 <;> simp at h1 ⊢ <;> omega
  intro h b out e
  have := key l 0 false [] (by omega) h b out e
  simpa using this
/-- The two results. -/
def unhR (l : List UInt8) : List UInt8 × Int :=
  if l.length % 2 = 0 then match unhF l with
    | some (_, _, out) => (out, 0)
    | none => ([], 4)
  else ([], 1)

/-- What Unhex's own cells hold between two rounds. -/
def UnhI (w : World) (high : Int) (half : Bool) (out : List UInt8) (W : World) : Prop :=
  Boxed W w.heap.size 9 (.string ⟨#[]⟩) ∧ Boxed W (w.heap.size + 1) 23 (.int .i64 0) ∧ Lib.IsBuilderF 40 5 w.heap.size (w.heap.size + 1 + 1) (Lib.byteCells out) W ∧ Boxed W (w.heap.size + 1 + 1 + 1) 3 (.int .i64 high) ∧ Boxed W (w.heap.size + 1 + 1 + 1 + 1) 4 (.bool half)
theorem unhI_drew {w : World} {high : Int} {half : Bool} {out : List UInt8} {W : World} (h : UnhI w high half out W) : UnhI w high half out W.drew := h
theorem keepsFrom_drew {B : Nat} {W W' : World} (h : KeepsFrom B W W') : KeepsFrom B W W'.drew := ⟨h.size, h.same⟩
theorem keepC_drew {b : Nat} {s : ByteArray} {W W' : World} (h : KeepC b s W W') : KeepC b s W W'.drew := h
theorem or_hex' : ∀ a b : Fin 16, bits BinOp.or IntKind.i64 ((a.val : Int) * 16) (b.val : Int) % 256 = (a.val : Int) * 16 + (b.val : Int) := by decide +kernel
theorem or_hex (a b : Int) (ha : 0 ≤ a ∧ a < 16) (hb : 0 ≤ b ∧ b < 16) : bits BinOp.or IntKind.i64 (a * 16) b % 256 = a * 16 + b := by
  obtain ⟨a', rfl⟩ := Int.eq_ofNat_of_zero_le ha.1
  obtain ⟨b', rfl⟩ := Int.eq_ofNat_of_zero_le hb.1
  exact or_hex' ⟨a', by omega⟩ ⟨b', by omega⟩
theorem unhI_own (w : World) (high : Int) (half : Bool) (out : List UInt8) : Own (fun (_ : Unit) W => UnhI w high half out W) := fun s A B row hs hg hr =>
  ⟨boxed_own _ _ (fun _ : Unit => _) s A B row hs.1 hg hr, boxed_own _ _ (fun _ : Unit => _) s A B row hs.2.1 hg hr, builder_own (fun _ : Unit => _) s A B row hs.2.2.1 hg hr, boxed_own _ _ (fun _ : Unit => _) s A B row hs.2.2.2.1 hg hr, boxed_own _ _ (fun _ : Unit => _) s A B row hs.2.2.2.2 hg hr⟩

set_option maxRecDepth 100000 in
set_option maxHeartbeats 4000000 in
theorem unhex_loop (s : ByteArray) (w : World) (hs : s.size ≤ 140737488351232) (h2 : Hid (s.size % 2 = 0)) (te : (((s.size : Int) % 2) != 0) = false) :
    CallsIn Fence.wide 9 Tryd.prog 23 #[.string s] w fun e w' => e = .returned (.tuple #[.string ⟨(unhR s.data.toList).1.toArray⟩, .int .i64 (unhR s.data.toList).2]) ∧ Below w.heap.size w w' := by
  refine callsIn_of_wp_marks Tryd.func23 rfl trivial ?_ rfl
  simp only [Tryd.ntmps23, List.size_toArray, List.length_cons, List.length_nil, Nat.reduceAdd, Nat.reduceSub, Array.replicate_succ, Array.replicate_zero, List.push_toArray, List.append_toArray, List.nil_append, List.cons_append]
  have hmix : Tryd.prog.follows Departure.mixedOrders = true := by kernel_rfl
  gi_wp2_with (refine ⟨trivial, ?_⟩; gi_at_call 27; refine (bytesOf_in _ _ _).mono ?_; rintro e w' ⟨rfl, rfl⟩)
  obtain ⟨W0, hW0⟩ : ∃ W0, (((((w.alloc (.cells #[.string ⟨#[]⟩] 9)).alloc (.cells #[.int .i64 0] 23)).alloc (.cells #[.pointer none, .slice none 0 0] 40)).alloc (.cells #[.int .i64 0] 3)).alloc (.cells #[.bool false] 4)).alloc (.cells #[.string s] 9) = W0 := ⟨_, rfl⟩
  have hsz : W0.heap.size = w.heap.size + 1 + 1 + 1 + 1 + 1 + 1 := by rw [← hW0]; simp
  have hI0 : UnhI w 0 false [] W0 := by
    rw [← hW0]
    refine ⟨(((((Boxed.new w 9 (.string ⟨#[]⟩)).alloc _).alloc _).alloc _).alloc _).alloc _, ?_, ?_, ?_, ?_⟩
    · have := Boxed.new (w.alloc (.cells #[.string ⟨#[]⟩] 9)) 23 (.int .i64 0)
      rw [World.size_alloc] at this
      exact (((this.alloc _).alloc _).alloc _).alloc _
    · have := heap_new ((w.alloc (.cells #[.string ⟨#[]⟩] 9)).alloc (.cells #[.int .i64 0] 23)) (.cells #[.pointer none, .slice none 0 0] 40)
      simp only [World.size_alloc] at this
      refine Lib.IsBuilderF.alloc (Lib.IsBuilderF.alloc (Lib.IsBuilderF.alloc (.inl ⟨by omega, .slice none 0 0, this, ⟨by simp, .inl ⟨rfl, rfl⟩⟩, by simp [Value.ownBlock]⟩) _) _) _
    · have := Boxed.new (((w.alloc (.cells #[.string ⟨#[]⟩] 9)).alloc (.cells #[.int .i64 0] 23)).alloc (.cells #[.pointer none, .slice none 0 0] 40)) 3 (.int .i64 0)
      simp only [World.size_alloc] at this
      exact (this.alloc _).alloc _
    · have := Boxed.new ((((w.alloc (.cells #[.string ⟨#[]⟩] 9)).alloc (.cells #[.int .i64 0] 23)).alloc (.cells #[.pointer none, .slice none 0 0] 40)).alloc (.cells #[.int .i64 0] 3)) 4 (.bool false)
      simp only [World.size_alloc] at this
      exact this.alloc _
  have hB0 : Below w.heap.size w W0 := by
    rw [← hW0]
    exact (((((((Below.refl _ w).alloc (Nat.le_refl _) _).alloc (by simp) _).alloc (by simp; omega) _).alloc (by simp; omega) _).alloc (by simp; omega) _).alloc (by simp; omega) _)
  have hx0 : W0.heap[w.heap.size + 1 + 1 + 1 + 1 + 1]? = some (boxOf s) := by
    rw [← hW0]
    have := heap_new (((((w.alloc (.cells #[.string ⟨#[]⟩] 9)).alloc (.cells #[.int .i64 0] 23)).alloc (.cells #[.pointer none, .slice none 0 0] 40)).alloc (.cells #[.int .i64 0] 3)).alloc (.cells #[.bool false] 4)) (boxOf s)
    simp only [World.size_alloc] at this
    exact this
  rw [hW0]
  clear hW0
  have HSZ := Lib.hid hsz; have HX0 := Lib.hid hx0
  have hle0 : w.heap.size + 1 + 1 + 1 + 1 + 1 < W0.heap.size := by omega
  clear hsz hx0
  refine wpIn_bytes (by omega) (w.heap.size + 1 + 1 + 1 + 1 + 1) 7 s hs rfl HX0.out
    (fun pre W => (∃ high half out, unhF pre = some (high, half, out) ∧ UnhI w high half out W) ∧ Below w.heap.size w W)
    (fun c pre W => (c = .ret ∧ unhF pre = none ∧ Boxed W w.heap.size 9 (.string ⟨#[]⟩) ∧ Boxed W (w.heap.size + 1) 23 (.int .i64 4)) ∧ Below w.heap.size w W)
    (OwnFrom.and (Own.from (fun s A B row ⟨h, b, out, hu, hs⟩ hg hr => ⟨h, b, out, hu, unhI_own w h b out () A B row hs hg hr⟩) _) (ownFrom_below (Nat.le_refl _) (by omega)))
    (fun c => OwnFrom.and (Own.from (fun s A B row hs hg hr => ⟨hs.1, hs.2.1, boxed_own _ _ (fun _ : Unit => _) () A B row hs.2.2.1 hg hr, boxed_own _ _ (fun _ : Unit => _) () A B row hs.2.2.2 hg hr⟩) _) (ownFrom_below (Nat.le_refl _) (by omega)))
    ⟨⟨0, false, [], rfl, hI0⟩, hB0⟩ ?assign ?body ?done ?stop
  case assign =>
    intro l x W K hK
    simp only [frameAt] at hK
    gi_wp2
    exact hK
  case body =>
    rintro l pre x W ⟨⟨high, half, out, hu, hI⟩, hB⟩ hlen
    obtain ⟨HLEN, hh0, hh1⟩ := unhF_inv pre high half out hu
    have hxb := byte_bd x
    have hvb := hv_bd x
    obtain ⟨c, hc⟩ : ∃ c : Int, c = (x.toNat : Int) := ⟨_, rfl⟩
    obtain ⟨d, hd⟩ : ∃ d : Int, d = hv x := ⟨_, rfl⟩
    have HD := Lib.hid (show Lib.indexByte hexDigs.data.toList (lowI c).toNat.toUInt8 = d by rw [hd, hc]; rfl)
    simp only [frameAt, List.setIfInBounds_toArray, List.set_cons_succ, List.set_cons_zero]
    have HU := Lib.hid hu; have HD2 := Lib.hid hd
    rw [← hc] at hxb ⊢
    rw [← hd] at hvb
    obtain ⟨hv0, hv1⟩ := hvb
    clear hc hu hI0 hB0 hd
    obtain ⟨x0, x1, x2, x3, x4⟩ := hI
    have cc := x3.cell; have cf := x3.frozen
    have ch := x4.cell; have chf := x4.frozen
    obtain ⟨o, ho1, ho2⟩ := builder_block x2
    have HO := Lib.hid ho1; clear ho1
    by_cases hn : d < 0
    · have c0 := x0.cell; have c0f := x0.frozen; have c1 := x1.cell; have c1f := x1.frozen
      gi_wp2_with (first
        | (refine ⟨trivial, ?_⟩; gi_at_call 35; refine (CallsIn.inRound l (callsIn_wide.2 (lower_any _ hxb _))).mono ?_; rintro e w' ⟨rfl, rfl⟩)
        | (refine ⟨trivial, ?_⟩; gi_at_call 38; refine (CallsIn.inRound l (callsIn_wide.2 (Tryd.strings_IndexByte hexDigs _ _))).mono ?_; rintro e w' ⟨rfl, rfl⟩; rw [HD.out]))
      exact ⟨((KeepsOthers.setCell _ _ _).trans (KeepsOthers.setCell _ _ _)).from _, ⟨rfl, by rw [unhF_snoc, HU.out]; simp only [unhS]; rw [if_pos (by rw [← HD2.out]; exact hn)], (x0.set _).other (by omega) _, (x1.other (by omega) _).set _⟩, (hB.setCell (p := ⟨w.heap.size, 0, none⟩) (Nat.le_refl _) _).setCell (p := ⟨w.heap.size + 1, 0, none⟩) (by simp) _⟩
    · cases half with
      | true =>
        gi_wp2_with (first
          | (refine ⟨trivial, ?_⟩; gi_at_call 35; refine (CallsIn.inRound l (callsIn_wide.2 (lower_any _ hxb _))).mono ?_; rintro e w' ⟨rfl, rfl⟩)
          | (refine ⟨trivial, ?_⟩; gi_at_call 38; refine (CallsIn.inRound l (callsIn_wide.2 (Tryd.strings_IndexByte hexDigs _ _))).mono ?_; rintro e w' ⟨rfl, rfl⟩; rw [HD.out])
          | (refine ⟨trivial, ?_⟩; gi_at_call 34; refine (CallsIn.inRound l (callsIn_wide.2 (Tryd.Builder_WriteByte_k w.heap.size (w.heap.size + 1 + 1) _ _ _ x2 (by rw [Lib.byteCells_length]; omega) hB.size))).mono ?_; rintro e W1 ⟨rfl, h1, b1, k1⟩; have y3 := boxed_others x3 k1 (by omega) (by decide); have y4 := boxed_others x4 k1 (by omega) (by decide); have d3 := y3.cell; have d3f := y3.frozen; have d4 := y4.cell; have d4f := y4.frozen))
        gi_region_o
        all_goals gi_wp2
        all_goals
          have hv : (d : Int) = hv x := HD2.out
          refine ⟨keepsFrom_drew ((keepsFrom_others k1 b1 HO.out ho2).trans (((KeepsOthers.setCell _ _ _).trans (KeepsOthers.setCell _ _ _)).from _)), keepC_drew (keepC_t (keepC_others k1 (by omega)) (keepC_t (keepC_setCell _ _ _ (by simp)) (keepC_setCell _ _ _ (by simp)))), ⟨d, false, out ++ [(high * 16 + d).toNat.toUInt8], ?_, unhI_drew ⟨((boxed_others x0 k1 (by omega) (by decide)).other (by omega) _).other (by omega) _, ((boxed_others x1 k1 (by omega) (by decide)).other (by omega) _).other (by omega) _, builder_box _ (builder_box _ ?_ y3 (by decide) (by omega)) (y4.other (by omega) _) (by decide) (by omega), (y3.set _).other (by omega) _, (y4.other (by omega) _).set _⟩⟩, (((hB.trans b1).setCell (p := ⟨w.heap.size + 1 + 1 + 1, 0, none⟩) (by simp; omega) _).setCell (p := ⟨w.heap.size + 1 + 1 + 1 + 1, 0, none⟩) (by simp; omega) _).drew⟩
          · rw [unhF_snoc, HU.out]
            simp only [unhS]
            rw [if_neg (by rw [← hv]; omega), ← hv]; rfl
          · rw [byteCells_snoc]
            rw [or_hex high d ⟨hh0, hh1⟩ ⟨by omega, hv1⟩] at h1
            have hz : (((high * 16 + d).toNat.toUInt8).toNat : Int) = high * 16 + d := by simp; omega
            rw [hz]
            exact Or.inr h1
      | false =>
        gi_wp2_with (first
          | (refine ⟨trivial, ?_⟩; gi_at_call 35; refine (CallsIn.inRound l (callsIn_wide.2 (lower_any _ hxb _))).mono ?_; rintro e w' ⟨rfl, rfl⟩)
          | (refine ⟨trivial, ?_⟩; gi_at_call 38; refine (CallsIn.inRound l (callsIn_wide.2 (Tryd.strings_IndexByte hexDigs _ _))).mono ?_; rintro e w' ⟨rfl, rfl⟩; rw [HD.out]))
        gi_region_o
        all_goals gi_wp2
        all_goals
          have hv : (d : Int) = hv x := HD2.out
          refine ⟨keepsFrom_drew (((KeepsOthers.setCell _ _ _).trans (KeepsOthers.setCell _ _ _)).from _), keepC_drew (keepC_t (keepC_setCell _ _ _ (by simp)) (keepC_setCell _ _ _ (by simp))), ⟨d, true, out, ?_, unhI_drew ⟨(x0.other (by omega) _).other (by omega) _, (x1.other (by omega) _).other (by omega) _, builder_box _ (builder_box _ x2 x3 (by decide) (by omega)) (x4.other (by omega) _) (by decide) (by omega), (x3.set _).other (by omega) _, (x4.other (by omega) _).set _⟩⟩, ((hB.setCell (p := ⟨w.heap.size + 1 + 1 + 1, 0, none⟩) (by simp; omega) _).setCell (p := ⟨w.heap.size + 1 + 1 + 1 + 1, 0, none⟩) (by simp; omega) _).drew⟩
          rw [unhF_snoc, HU.out]
          simp only [unhS]
          rw [if_neg (by rw [← hv]; omega), ← hv]; rfl
  case done =>
    rintro D W hD ⟨⟨high, half, out, hu, x0, x1, x2, x3, x4⟩, hB⟩ hK
    have HR := Lib.hid (show unhR s.data.toList = (out, 0) by simp [unhR, hu, h2.out])
    clear hu
    gi_wp2_with (refine ⟨trivial, ?_⟩; gi_at_call 36; refine (callsIn_wide.2 (Tryd.Builder_String_any_k w.heap.size (w.heap.size + 1 + 1) _ _ x2 hB.size)).mono ?_; rintro e W1 ⟨rfl, h1, b1, k1⟩; have y0 := boxed_others x0 k1 (by omega) (by decide); have y1 := boxed_others x1 k1 (by omega) (by decide); have d0 := y0.cell; have d0f := y0.frozen; have d1 := y1.cell; have d1f := y1.frozen)
    have hK1 := k1 D _ hK (fun e => by have := Option.some.inj e; omega) (fun _ _ e => by cases e)
    have y0' := (y0.set (.string ⟨out.toArray⟩)).other (B' := w.heap.size + 1) (by omega) (.int .i64 0)
    have y1' := (y1.other (B' := w.heap.size) (by omega) (.string ⟨out.toArray⟩)).set (.int .i64 0)
    have hK' := (KeepsOthers.setCell (W1.setCell ⟨w.heap.size, 0, none⟩ (.string ⟨out.toArray⟩)) ⟨w.heap.size + 1, 0, none⟩ (.int .i64 0)).same D _ ((KeepsOthers.setCell W1 ⟨w.heap.size, 0, none⟩ (.string ⟨out.toArray⟩)).same D _ hK1 rfl) rfl
    refine ⟨by simp, .inl ⟨_, _, rfl, run_takeDeferred hK', ?_⟩⟩
    have z0 := (y0'.kept (grownBy_putObj' _ D (.deferred none)) (fun e => by have := Option.some.inj e; omega)).cell
    have z1 := (y1'.kept (grownBy_putObj' _ D (.deferred none)) (fun e => by have := Option.some.inj e; omega)).cell
    refine ⟨.tuple #[.string ⟨out.toArray⟩, .int .i64 0], ?_, by rw [HR.out], (((hB.trans b1).setCell (p := ⟨w.heap.size, 0, none⟩) (Nat.le_refl _) _).setCell (p := ⟨w.heap.size + 1, 0, none⟩) (by simp) _).trans (belowK_b (w := w) (Nat.le_refl _) _ D _ _ (by omega) hK' rfl rfl)⟩
    simp [results, Tryd.f23, go_sem, z0, z1]
  case stop =>
    rintro D c pre W hD hpre ⟨⟨rfl, hu, x0, x1⟩, hB⟩ hK
    have HR := Lib.hid (show unhR s.data.toList = ([], 4) by simp [unhR, unhF_prefix hpre hu, h2.out])
    clear hu
    gi_wp2
    refine ⟨by simp, .inl ⟨_, _, rfl, run_takeDeferred hK, ?_⟩⟩
    have z0 := (x0.kept (grownBy_putObj' _ D (.deferred none)) (fun e => by have := Option.some.inj e; omega)).cell
    have z1 := (x1.kept (grownBy_putObj' _ D (.deferred none)) (fun e => by have := Option.some.inj e; omega)).cell
    refine ⟨.tuple #[.string ⟨#[]⟩, .int .i64 4], ?_, by rw [HR.out], hB.trans (belowK_b (w := w) (Nat.le_refl _) W D _ _ (by omega) hK rfl rfl)⟩
    simp [results, Tryd.f23, go_sem, z0, z1]

theorem unhex_odd (s : ByteArray) (w : World) (hs : s.size ≤ 140737488351232) (te : (((s.size : Int) % 2) != 0) = true) :
    Calls Tryd.prog 23 #[.string s] w fun e w' => e = .returned (.tuple #[.string ⟨#[]⟩, .int .i64 1]) ∧ Below w.heap.size w w' := by
  go_enter Tryd.func23, Tryd.ntmps23
  go_wp2
  exact bodyPost_ret (v := .tuple #[.string ⟨#[]⟩, .int .i64 1]) (by simp [results, Tryd.results23, go_sem]) rfl ⟨rfl, ((Below.refl _ _).alloc (Nat.le_refl _) _).alloc (by simp) _⟩

theorem unhex_any (s : ByteArray) (w : World) (hs : s.size ≤ 140737488351232) :
    Calls Tryd.prog 23 #[.string s] w fun e w' => e = .returned (.tuple #[.string ⟨(unhR s.data.toList).1.toArray⟩, .int .i64 (unhR s.data.toList).2]) ∧ Below w.heap.size w w' := by
  have hlen : s.data.toList.length = s.size := by simp
  by_cases h2 : s.size % 2 = 0
  · exact callsIn_wide.1 (unhex_loop s w hs (Lib.hid h2) (by simp; omega))
  · refine (unhex_odd s w hs (by simp; omega)).mono fun e w' ⟨he, hb⟩ => ⟨?_, hb⟩
    rw [he, unhR, if_neg (by omega)]
end Go.Proofs.YtoeohliniecniaaDoor
