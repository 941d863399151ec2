/-
  figure.Read: it returns the number that decimal digits denote, or the error that the chapter names ('readR'), and changes nothing that was there. Condition: the string is no longer than the model's greatest length.
-/
import Derived.Test.YtoeohliniecniaaDoorFigUnd
import Derived.Test.YtoeohliniecniaaDoorFigName
namespace Go.Proofs.YtoeohliniecniaaDoor
open Go.RowKit Go.Shelf
attribute [local go_sem] Oper.semAt_some

def maxI : Int := 9223372036854775807
/-- One digit more: the number so far, and whether it has grown too great; none: a byte is no digit. -/
def readS : Option (Int × Bool) → UInt8 → Option (Int × Bool)
  | none, _ => none
  | some (n, over), c => if isDigB c.toNat = true then (if over = true ∨ (maxI - ((c.toNat : Int) - 48)) / 10 < n then some (n, true) else some (n * 10 + ((c.toNat : Int) - 48), false)) else none
def readF (l : List UInt8) : Option (Int × Bool) := l.foldl readS (some (0, false))
theorem readF_snoc (l : List UInt8) (c : UInt8) : readF (l ++ [c]) = readS (readF l) c := by simp [readF, List.foldl_append]
theorem readS_none (l : List UInt8) : l.foldl readS none = none := by
  induction l with
  | nil => rfl
  | cons a t ih => exact ih
theorem readF_prefix {a l : List UInt8} (h : a <+: l) (hn : readF a = none) : readF l = none := by
  obtain ⟨t, rfl⟩ := h
  rw [readF, List.foldl_append, show a.foldl readS (some (0, false)) = none from hn, readS_none]
theorem isDig_bd {c : Int} (h : isDigB c = true) : 48 ≤ c ∧ c ≤ 57 := of_decide_eq_true h
theorem readF_inv (l : List UInt8) : ∀ n o, readF l = some (n, o) → 0 ≤ n ∧ n ≤ maxI := by
  have key : ∀ (l : List UInt8) (n0 : Int) (o0 : Bool), 0 ≤ n0 ∧ n0 ≤ maxI → ∀ n o, l.foldl readS (some (n0, o0)) = some (n, o) → 0 ≤ n ∧ n ≤ maxI := by
    intro l
    induction l with
    | nil => intro n0 o0 hb n o e; simp at e; obtain ⟨rfl, rfl⟩ := e; exact hb
    | cons a t ih =>
      intro n0 o0 hb n o e
      rw [List.foldl_cons] at e
      by_cases hd : isDigB a.toNat = true
      · have hd' := isDig_bd hd
        by_cases ho : o0 = true ∨ (maxI - ((a.toNat : Int) - 48)) / 10 < n0
        · rw [show readS (some (n0, o0)) a = some (n0, true) by simp only [readS, if_pos hd, if_pos ho]] at e
          exact ih _ _ hb _ _ e
        · rw [show readS (some (n0, o0)) a = some (n0 * 10 + ((a.toNat : Int) - 48), false) by simp only [readS, if_pos hd, if_neg ho]] at e
          refine ih _ _ ?_ _ _ e
          have : ¬ (maxI - ((a.toNat : Int) - 48)) / 10 < n0 := fun h => ho (.inr h)
          unfold maxI at *
          omega
      · rw [show readS (some (n0, o0)) a = none by simp only [readS, if_neg hd], readS_none] at e; cases e
  intro n o e
  exact key l 0 false (by unfold maxI; omega) n o e
/-- The two results. -/
def readR (l : List UInt8) : Int × Int :=
  if l = [] then (0, 1) else match readF l with
    | some (n, false) => (n, 0)
    | some (_, true) => (0, 15)
    | none => (0, 4)

/-- What Read's own cells hold between two rounds. -/
def ReadI (w : World) (n : Int) (over : Bool) (W : World) : Prop :=
  Boxed W w.heap.size 3 (.int .i64 0) ∧ Boxed W (w.heap.size + 1) 23 (.int .i64 0) ∧ Boxed W (w.heap.size + 1 + 1) 3 (.int .i64 n) ∧ Boxed W (w.heap.size + 1 + 1 + 1) 4 (.bool over)
theorem readI_own (w : World) (n : Int) (over : Bool) : Own (fun (_ : Unit) W => ReadI w n over W) := fun s A B row hs hg hr =>
  ⟨boxed_own _ _ (fun _ : Unit => _) s A B row hs.1 hg hr, boxed_own _ _ (fun _ : Unit => _) s A B row hs.2.1 hg hr, boxed_own _ _ (fun _ : Unit => _) s A B row hs.2.2.1 hg hr, boxed_own _ _ (fun _ : Unit => _) s A B row hs.2.2.2 hg hr⟩

set_option maxRecDepth 100000 in
set_option maxHeartbeats 4000000 in
theorem read_loop (s : ByteArray) (w : World) (hs : s.size ≤ 140737488351232) (te : s.toList.isEmpty = false) (te' : ¬ s.toList = []) (hne : Hid (s.data.toList ≠ [])) :
    CallsIn Fence.wide 9 Tryd.prog 10 #[.string s] w fun e w' => e = .returned (.tuple #[.int .i64 (readR s.data.toList).1, .int .i64 (readR s.data.toList).2]) ∧ Below w.heap.size w w' := by
  refine callsIn_of_wp_marks Tryd.func10 rfl trivial ?_ rfl
  simp only [Tryd.ntmps10, List.size_toArray, List.length_cons, List.length_nil, Nat.reduceAdd, Nat.reduceSub, Array.replicate_succ, Array.replicate_zero, List.push_toArray, List.append_toArray, List.nil_append, List.cons_append]
  have hmix : Tryd.prog.follows Departure.mixedOrders = true := by kernel_rfl
  gi_wp2_with (refine ⟨trivial, ?_⟩; gi_at_call 27; refine (bytesOf_in _ _ _).mono ?_; rintro e w' ⟨rfl, rfl⟩)
  obtain ⟨W0, hW0⟩ : ∃ W0, ((((w.alloc (.cells #[.int .i64 0] 3)).alloc (.cells #[.int .i64 0] 23)).alloc (.cells #[.int .i64 0] 3)).alloc (.cells #[.bool false] 4)).alloc (.cells #[.string s] 9) = W0 := ⟨_, rfl⟩
  have hsz : W0.heap.size = w.heap.size + 1 + 1 + 1 + 1 + 1 := by rw [← hW0]; simp
  have hI0 : ReadI w 0 false W0 := by
    rw [← hW0]
    refine ⟨((((Boxed.new w 3 (.int .i64 0)).alloc _).alloc _).alloc _).alloc _, ?_, ?_, ?_⟩
    · have := Boxed.new (w.alloc (.cells #[.int .i64 0] 3)) 23 (.int .i64 0)
      rw [World.size_alloc] at this
      exact ((this.alloc _).alloc _).alloc _
    · have := Boxed.new ((w.alloc (.cells #[.int .i64 0] 3)).alloc (.cells #[.int .i64 0] 23)) 3 (.int .i64 0)
      simp only [World.size_alloc] at this
      exact (this.alloc _).alloc _
    · have := Boxed.new (((w.alloc (.cells #[.int .i64 0] 3)).alloc (.cells #[.int .i64 0] 23)).alloc (.cells #[.int .i64 0] 3)) 4 (.bool false)
      simp only [World.size_alloc] at this
      exact this.alloc _
  have hB0 : Below w.heap.size w W0 := by
    rw [← hW0]
    exact ((((((Below.refl _ w).alloc (Nat.le_refl _) _).alloc (by simp) _).alloc (by simp; omega) _).alloc (by simp; omega) _).alloc (by simp; omega) _)
  have hx0 : W0.heap[w.heap.size + 1 + 1 + 1 + 1]? = some (boxOf s) := by
    rw [← hW0]
    have := heap_new ((((w.alloc (.cells #[.int .i64 0] 3)).alloc (.cells #[.int .i64 0] 23)).alloc (.cells #[.int .i64 0] 3)).alloc (.cells #[.bool false] 4)) (boxOf s)
    simp only [World.size_alloc] at this
    exact this
  rw [hW0]
  clear hW0
  have HSZ := Lib.hid hsz; have HX0 := Lib.hid hx0
  have hle0 : w.heap.size + 1 + 1 + 1 + 1 < W0.heap.size := by omega
  clear hsz hx0
  refine wpIn_bytes (by omega) (w.heap.size + 1 + 1 + 1 + 1) 6 s hs rfl HX0.out
    (fun pre W => (∃ n over, readF pre = some (n, over) ∧ ReadI w n over W) ∧ Below w.heap.size w W)
    (fun c pre W => (c = .ret ∧ readF pre = none ∧ Boxed W w.heap.size 3 (.int .i64 0) ∧ Boxed W (w.heap.size + 1) 23 (.int .i64 4)) ∧ Below w.heap.size w W)
    (OwnFrom.and (Own.from (fun s A B row ⟨n, o, hu, hs⟩ hg hr => ⟨n, o, hu, readI_own w n o () A B row hs hg hr⟩) _) (ownFrom_below (Nat.le_refl _) (by omega)))
    (fun c => OwnFrom.and (Own.from (fun s A B row hs hg hr => ⟨hs.1, hs.2.1, boxed_own _ _ (fun _ : Unit => _) () A B row hs.2.2.1 hg hr, boxed_own _ _ (fun _ : Unit => _) () A B row hs.2.2.2 hg hr⟩) _) (ownFrom_below (Nat.le_refl _) (by omega)))
    ⟨⟨0, false, rfl, hI0⟩, hB0⟩ ?assign ?body ?done ?stop
  case assign =>
    intro l x W K hK
    simp only [frameAt] at hK
    gi_wp2
    exact hK
  case body =>
    rintro l pre x W ⟨⟨n, over, hu, hI⟩, hB⟩ hlen
    obtain ⟨hn0, hn1⟩ := readF_inv pre n over hu
    unfold maxI at hn1
    have hxb := byte_bd x
    obtain ⟨c, hc⟩ : ∃ c : Int, c = (x.toNat : Int) := ⟨_, rfl⟩
    simp only [frameAt, List.setIfInBounds_toArray, List.set_cons_succ, List.set_cons_zero]
    have HU := Lib.hid hu; have HC := Lib.hid hc
    rw [← hc] at hxb ⊢
    clear hc hu hI0 hB0
    obtain ⟨x0, x1, x2, x3⟩ := hI
    have cc := x2.cell; have cf := x2.frozen
    have ch := x3.cell; have chf := x3.frozen
    cases hdg : isDigB c with
    | false =>
      have HDG := Lib.hid hdg; clear hdg
      have c0 := x0.cell; have c0f := x0.frozen; have c1 := x1.cell; have c1f := x1.frozen
      gi_wp2_with (refine ⟨trivial, ?_⟩; gi_at_call 28; refine (CallsIn.inRound l (callsIn_wide.2 (isDigit_any _ _))).mono ?_; rintro e w' ⟨rfl, rfl⟩; rw [HDG.out])
      exact ⟨((KeepsOthers.setCell _ _ _).trans (KeepsOthers.setCell _ _ _)).from _, ⟨rfl, by rw [readF_snoc, HU.out]; simp only [readS]; rw [← HC.out, HDG.out]; rfl, (x0.set _).other (by omega) _, (x1.other (by omega) _).set _⟩, (hB.setCell (p := ⟨w.heap.size, 0, none⟩) (Nat.le_refl _) _).setCell (p := ⟨w.heap.size + 1, 0, none⟩) (by simp) _⟩
    | true =>
      obtain ⟨hd0, hd1⟩ := isDig_bd hdg
      have HDG := Lib.hid hdg; clear hdg
      cases over with
      | true =>
        gi_wp2_with (refine ⟨trivial, ?_⟩; gi_at_call 28; refine (CallsIn.inRound l (callsIn_wide.2 (isDigit_any _ _))).mono ?_; rintro e w' ⟨rfl, rfl⟩; rw [HDG.out])
        exact ⟨(KeepsOthers.setCell _ _ _).from _, keepC_setCell _ _ _ (by simp), ⟨n, true, by rw [readF_snoc, HU.out]; simp only [readS]; rw [← HC.out, if_pos HDG.out, if_pos (by simp)], x0.other (by omega) _, x1.other (by omega) _, x2.other (by omega) _, x3.set _⟩, hB.setCell (p := ⟨w.heap.size + 1 + 1 + 1, 0, none⟩) (by simp; omega) _⟩
      | false =>
        by_cases ho : (9223372036854775807 - (c - 48)) / 10 < n
        · have to : decide ((9223372036854775807 - (c - 48)) / 10 < n) = true := by simpa using ho
          gi_wp2_with (refine ⟨trivial, ?_⟩; gi_at_call 28; refine (CallsIn.inRound l (callsIn_wide.2 (isDigit_any _ _))).mono ?_; rintro e w' ⟨rfl, rfl⟩; rw [HDG.out])
          exact ⟨(KeepsOthers.setCell _ _ _).from _, keepC_setCell _ _ _ (by simp), ⟨n, true, by rw [readF_snoc, HU.out]; simp only [readS]; rw [← HC.out, if_pos HDG.out, if_pos (.inr ho)], x0.other (by omega) _, x1.other (by omega) _, x2.other (by omega) _, x3.set _⟩, hB.setCell (p := ⟨w.heap.size + 1 + 1 + 1, 0, none⟩) (by simp; omega) _⟩
        · have to : decide ((9223372036854775807 - (c - 48)) / 10 < n) = false := by simpa using ho
          gi_wp2_with (refine ⟨trivial, ?_⟩; gi_at_call 28; refine (CallsIn.inRound l (callsIn_wide.2 (isDigit_any _ _))).mono ?_; rintro e w' ⟨rfl, rfl⟩; rw [HDG.out])
          refine ⟨((KeepsOthers.setCell _ _ _).trans (KeepsOthers.setCell _ _ _)).from _, keepC_t (keepC_setCell _ _ _ (by simp)) (keepC_setCell _ _ _ (by simp)), ⟨n * 10 + (c - 48), false, ?_, (x0.other (by omega) _).other (by omega) _, (x1.other (by omega) _).other (by omega) _, (x2.other (by omega) _).set _, (x3.set _).other (by omega) _⟩, (hB.setCell (p := ⟨w.heap.size + 1 + 1 + 1, 0, none⟩) (by simp; omega) _).setCell (p := ⟨w.heap.size + 1 + 1, 0, none⟩) (by simp; omega) _⟩
          rw [readF_snoc, HU.out]
          simp only [readS]
          rw [← HC.out, if_pos HDG.out, if_neg (fun h => h.elim (fun e => by cases e) (fun e => absurd e (Int.not_lt.2 ho)))]
  case done =>
    rintro D W hD ⟨⟨n, over, hu, x0, x1, x2, x3⟩, hB⟩ hK
    have cc := x3.cell; have cf := x3.frozen; have cn := x2.cell
    have c0 := x0.cell; have c0f := x0.frozen; have c1 := x1.cell; have c1f := x1.frozen
    cases over with
    | true =>
      have HR := Lib.hid (show readR s.data.toList = (0, 15) by rw [readR, if_neg hne.out, hu])
      clear hu
      gi_wp2
      have y0 := (x0.set (.int .i64 0)).other (B' := w.heap.size + 1) (by omega) (.int .i64 15)
      have y1 := (x1.other (B' := w.heap.size) (by omega) (.int .i64 0)).set (.int .i64 15)
      have hK' := (KeepsOthers.setCell (W.setCell ⟨w.heap.size, 0, none⟩ (.int .i64 0)) ⟨w.heap.size + 1, 0, none⟩ (.int .i64 15)).same D _ ((KeepsOthers.setCell W ⟨w.heap.size, 0, none⟩ (.int .i64 0)).same D _ hK rfl) rfl
      refine ⟨by simp, .inl ⟨_, _, rfl, run_takeDeferred hK', ?_⟩⟩
      have z0 := (y0.kept (grownBy_putObj' _ D (.deferred none)) (fun e => by have := Option.some.inj e; omega)).cell
      have z1 := (y1.kept (grownBy_putObj' _ D (.deferred none)) (fun e => by have := Option.some.inj e; omega)).cell
      refine ⟨.tuple #[.int .i64 0, .int .i64 15], ?_, by rw [HR.out], ((hB.setCell (p := ⟨w.heap.size, 0, none⟩) (Nat.le_refl _) _).setCell (p := ⟨w.heap.size + 1, 0, none⟩) (by simp) _).trans (belowK_b (w := w) (Nat.le_refl _) _ D _ _ (by omega) hK' rfl rfl)⟩
      simp [results, Tryd.f10, go_sem, z0, z1]
    | false =>
      have HR := Lib.hid (show readR s.data.toList = (n, 0) by rw [readR, if_neg hne.out, hu])
      clear hu
      gi_wp2
      have y0 := (x0.set (.int .i64 n)).other (B' := w.heap.size + 1) (by omega) (.int .i64 0)
      have y1 := (x1.other (B' := w.heap.size) (by omega) (.int .i64 n)).set (.int .i64 0)
      have hK' := (KeepsOthers.setCell (W.setCell ⟨w.heap.size, 0, none⟩ (.int .i64 n)) ⟨w.heap.size + 1, 0, none⟩ (.int .i64 0)).same D _ ((KeepsOthers.setCell W ⟨w.heap.size, 0, none⟩ (.int .i64 n)).same D _ hK rfl) rfl
      refine ⟨by simp, .inl ⟨_, _, rfl, run_takeDeferred hK', ?_⟩⟩
      have z0 := (y0.kept (grownBy_putObj' _ D (.deferred none)) (fun e => by have := Option.some.inj e; omega)).cell
      have z1 := (y1.kept (grownBy_putObj' _ D (.deferred none)) (fun e => by have := Option.some.inj e; omega)).cell
      refine ⟨.tuple #[.int .i64 n, .int .i64 0], ?_, by rw [HR.out], ((hB.setCell (p := ⟨w.heap.size, 0, none⟩) (Nat.le_refl _) _).setCell (p := ⟨w.heap.size + 1, 0, none⟩) (by simp) _).trans (belowK_b (w := w) (Nat.le_refl _) _ D _ _ (by omega) hK' rfl rfl)⟩
      simp [results, Tryd.f10, go_sem, z0, z1]
  case stop =>
    rintro D c pre W hD hpre ⟨⟨rfl, hu, x0, x1⟩, hB⟩ hK
    have HR := Lib.hid (show readR s.data.toList = (0, 4) by rw [readR, if_neg hne.out, readF_prefix hpre hu])
    clear hu
    gi_wp2
    refine ⟨by simp, .inl ⟨_, _, rfl, run_takeDeferred hK, ?_⟩⟩
    have z0 := (x0.kept (grownBy_putObj' _ D (.deferred none)) (fun e => by have := Option.some.inj e; omega)).cell
    have z1 := (x1.kept (grownBy_putObj' _ D (.deferred none)) (fun e => by have := Option.some.inj e; omega)).cell
    refine ⟨.tuple #[.int .i64 0, .int .i64 4], ?_, by rw [HR.out], hB.trans (belowK_b (w := w) (Nat.le_refl _) W D _ _ (by omega) hK rfl rfl)⟩
    simp [results, Tryd.f10, go_sem, z0, z1]

theorem read_empty (s : ByteArray) (w : World) (te : s.toList.isEmpty = true) (te' : s.toList = []) :
    Calls Tryd.prog 10 #[.string s] w fun e w' => e = .returned (.tuple #[.int .i64 0, .int .i64 1]) ∧ Below w.heap.size w w' := by
  go_enter Tryd.func10, Tryd.ntmps10
  go_wp2
  exact bodyPost_ret (v := .tuple #[.int .i64 0, .int .i64 1]) (by simp [results, Tryd.results10, go_sem]) rfl ⟨rfl, ((Below.refl _ _).alloc (Nat.le_refl _) _).alloc (by simp) _⟩

theorem read_any (s : ByteArray) (w : World) (hs : s.size ≤ 140737488351232) :
    Calls Tryd.prog 10 #[.string s] w fun e w' => e = .returned (.tuple #[.int .i64 (readR s.data.toList).1, .int .i64 (readR s.data.toList).2]) ∧ Below w.heap.size w w' := by
  by_cases h0 : s.size = 0
  · obtain ⟨te, te'⟩ := empty_yes h0
    refine (read_empty s w te te').mono fun e w' ⟨he, hb⟩ => ⟨?_, hb⟩
    rw [ByteArray.toList_eq] at te'
    rw [he, readR, if_pos te']
  · obtain ⟨te, te'⟩ := empty_no (s := s) (by omega)
    have te2 := te'
    rw [ByteArray.toList_eq] at te2
    exact callsIn_wide.1 (read_loop s w hs te te' (Lib.hid te2))
end Go.Proofs.YtoeohliniecniaaDoor
