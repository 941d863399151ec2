/-
  The statement 'for g := range segments(s)' of layer 11: what a caller owes is an invariant on its own cells, which the iterator's own cell and the loop's record do not touch, and one walk of its own body. Condition: at most 2^20 bytes.
-/
import Derived.Test.YtjmciknelkodcaaJrIter
namespace Go.Proofs.Ytjmciknelkodcaa
open Go.RowKit

/-- How a round may be left. -/
def segPost (D G : Nat) (F : Nat → Prop) (I : (Nat → Prop) → List UInt8 → World → Prop) (Ix : Code → World → Prop) (r : List UInt8) (W : World) : Exit → Act → World → Prop
  | .normal, _, W' => (W'.heap[D]? = W.heap[D]? ∧ W'.heap[D + 1]? = W.heap[D + 1]? ∧ W'.heap[G]? = W.heap[G]? ∧ W.heap.size ≤ W'.heap.size) ∧ I F r W'
  | .exit id, _, W' => (W'.heap[D]? = W.heap[D]? ∧ W'.heap[D + 1]? = W.heap[D + 1]?) ∧ Ix (.exit id) W'
  | _, _, _ => False
theorem recs_put {W : World} {a : Option Addr} {L : List R11} (h : Recs W a L) {l : Nat} {o : Obj} (o' : Obj) (hl : W.heap[l]? = some o) (ho : o.isCells = false) : Recs (W.putObj l o') a L := by
  have hg := grownBy_putObj' W l o'
  have hr : ∀ r, some l = some r → ∃ o : Obj, W.heap[r]? = some o ∧ o.isCells = false := fun r e => by cases e; exact ⟨o, hl, ho⟩
  intro j hj
  obtain ⟨b, off, ha, hlt, h1, h2⟩ := h j hj
  exact ⟨b, off, ha, by simpa using hlt, cell_kept h1 hg hr, cell_kept h2 hg hr⟩
theorem blk_put {W : World} {g : Nat} {t : TypeId} {cs : Array Value} (h : Blk W g t cs) {l : Nat} (o' : Obj) (hne : g ≠ l) : Blk (W.putObj l o') g t cs := (World.putObj_heap_other hne).trans h

theorem wpIn_segs {n : Nat} {g : Operand} {p q : Tmp} {assign body : Code} {Q : Exit → Act → World → Prop} {a : Act} {w : World} (hn : 2 ≤ n) (b : Nat) (s : List UInt8) (hs : s.length ≤ 1048576)
    (hg : a.eval g = .func (.func 36) #[] #[.pointer (some ⟨b, 0, none⟩)]) (hb : Blk w b 9 #[.string (ba s)])
    (I : (Nat → Prop) → List UInt8 → World → Prop) (Ix : Code → World → Prop)
    (hI : ∀ F r A B row, I F r A → A.grownBy B row → (∀ k, row = some k → F k ∨ k = w.heap.size ∨ k = w.heap.size + 1) → I F r B)
    (hIF : ∀ (F F' : Nat → Prop) r A, I F r A → w.heap.size + 1 < A.heap.size → (∀ k, F' k → F k ∨ A.heap.size ≤ k) → I F' r A)
    (hIx : ∀ c A B row, Ix c A → A.grownBy B row → (∀ k, row = some k → k = w.heap.size ∨ k = w.heap.size + 1) → Ix c B)
    (h0 : ∀ W, Below w.heap.size w W → w.heap.size + 1 < W.heap.size → I (fun _ => False) s W)
    (hassign : ∀ (l : Nat) (x : Int) (z : ByteArray) (a1 : Option Addr) (len cap : Nat) (W : World) (K : Act → World → Prop), K { tmps := (a.tmps.setIfInBounds p (.agg #[.int .i64 x, .slice a1 len cap, .string z])).setIfInBounds q (.pointer (some ⟨W.heap.size, 0, none⟩)), defers := [] } (W.alloc (.cells #[.int .i64 x, .slice a1 len cap, .string z] 58)) →
      assign.wpIn (Fence.wide.inRound l) (n - 1 - 1) Try.prog (Exit.then K (fun _ _ _ => False)) { tmps := a.tmps.setIfInBounds p (.agg #[.int .i64 x, .slice a1 len cap, .string z]), defers := [] } W)
    (hbody : ∀ (l G X : Nat) (F : Nat → Prop) (r : List UInt8) (g : S11) (a1 : Option Addr) (cap : Nat) (W : World), (∀ k, F k → w.heap.size + 1 < k) → F G → (∀ k, F k → k < X) → X < W.heap.size → I F r W → fsS r = some g → r.length ≤ s.length → Recs W a1 g.L → (∀ b off, a1 = some ⟨b, off, none⟩ → F b) → Blk W X 58 #[.int .i64 g.p, .slice a1 g.L.length cap, .string (ba g.t)] →
      body.wpIn (Fence.wide.inRound l) (n - 1 - 1) Try.prog (segPost w.heap.size G F I Ix g.t W) { tmps := (a.tmps.setIfInBounds p (.agg #[.int .i64 g.p, .slice a1 g.L.length cap, .string (ba g.t)])).setIfInBounds q (.pointer (some ⟨X, 0, none⟩)), defers := [] } W)
    (hdone : ∀ (F : Nat → Prop) (r : List UInt8) (W : World), fsS r = none → I F r W → W.heap[w.heap.size]? = some (.deferred (some [])) → Q .normal { a with defers := { target := .collected w.heap.size, args := #[] } :: a.defers } W)
    (hstop : ∀ (c : Code) (W : World), Ix c W → W.heap[w.heap.size]? = some (.deferred (some [])) → c.wpIn Fence.wide n Try.prog Q { a with defers := { target := .collected w.heap.size, args := #[] } :: a.defers } W) :
    (Code.rangeFunc g #[p] assign body).wpIn Fence.wide n Try.prog Q a w := by
  refine wpIn_rangeFunc fun fn hfn => ?_
  rw [show (Fence.wide).round = none from rfl]
  obtain ⟨D, hD⟩ : ∃ D, D = w.heap.size := ⟨_, rfl⟩
  obtain ⟨rc, hrc⟩ : ∃ rc : LoopState → Option Code → Loop, rc = fun st pe => { state := st, pending := pe, fn := fn, tmps := a.tmps, params := #[p], assign := assign, body := body, defers := w.heap.size } := ⟨_, rfl⟩
  have henter := run_enterLoop_outer (P := Try.prog) (w := w) fn a.tmps #[p] assign body
  obtain ⟨W1, hW1⟩ : ∃ W1, W1 = (w.alloc (.deferred (some []))).alloc (.loop (rc .ready none)) := ⟨_, rfl⟩
  have hs1 : W1.heap.size = D + 2 := by rw [hW1, hD]; simp
  have hL1 : W1.heap[D + 1]? = some (.loop (rc .ready none)) := by
    rw [hW1, hD]
    have := World.alloc_heap_new (w.alloc (.deferred (some []))) (.loop (rc .ready none))
    rwa [World.size_alloc] at this
  have hK1 : W1.heap[D]? = some (.deferred (some [])) := by
    rw [hW1, hD]
    exact (Below.heap_alloc _ _ _ (by simp)).trans (World.alloc_heap_new w _)
  have hbw : Below w.heap.size w W1 := by rw [hW1]; exact blw2 _ _ _
  have hrun : (Instr.enterLoop fn a.tmps #[p] assign body none).run Try.prog w = .ok (D + 1, [{ target := .collected w.heap.size, args := #[] }]) W1 := by
    rw [henter, hW1, hrc, hD]
  have hb1 := blk_below hb hbw
  rw [← hD] at hI hIF hIx h0 hbody hdone hstop hrun hbw
  clear henter hW1 hb
  have hrp : (rc .ready none).params = #[p] := by rw [hrc]
  refine ⟨D + 1, [{ target := .collected D, args := #[] }], W1, { target := .fn (.func 36) #[.pointer (some ⟨b, 0, none⟩)], args := #[.func (.yield (D + 1)) #[] #[]] }, W1, 36,
    #[.func (.yield (D + 1)) #[] #[], .pointer (some ⟨b, 0, none⟩)], W1, hrun, ?_, fun _ _ => trivial, ?_, fun _ => by omega, ?_⟩
  · simp only [resolve, hg]
    simp [go_sem]
  · have eg := fun args w => enters_of (P := Try.prog) Try.func36 (by kernel_rfl) rfl args w
    simp [invoke, go_sem, eg]
  refine (segs1_in (n - 1) (by omega) (D + 1) b s hs
    (fun F r W => (∀ k, F k → D + 1 < k) ∧ I F r W ∧ W.heap[D + 1]? = some (.loop (rc .ready none)) ∧ W.heap[D]? = some (.deferred (some [])))
    (fun W => ∃ c, Ix c W ∧ W.heap[D + 1]? = some (.loop (rc .done (some c))) ∧ W.heap[D]? = some (.deferred (some [])))
    ?hG ?hF ?hY W1 hb1 ?h0).mono ?_
  case hG =>
    rintro F r A B row ⟨hDG, hi, hl, hk⟩ hgr hrow
    have l1 := (Array.getElem?_eq_some_iff.1 hl).1
    exact ⟨hDG, hI F r A B _ hi hgr (fun k e => .inl (hrow k e)), (hgr.block (D + 1) l1 (fun e => by have := hDG _ (hrow _ e.symm); omega)).trans hl, (hgr.block D (by omega) (fun e => by have := hDG _ (hrow _ e.symm); omega)).trans hk⟩
  case hF =>
    rintro F F' r A ⟨hDG, hi, hl, hk⟩ hFF
    have l1 := (Array.getElem?_eq_some_iff.1 hl).1
    exact ⟨fun k hk' => (hFF k hk').elim (fun h => hDG k h) (fun h => by omega), hIF F F' r A hi l1 hFF, hl, hk⟩
  case h0 => exact ⟨fun k h => h.elim, h0 W1 hbw (by omega), hL1, hK1⟩
  case hY =>
    rintro F G r g1 a1 cap W ⟨hDF, hi, hl, hk⟩ hFG hfs hrl hGl hrec hne
    have hDG := hDF G hFG
    have hFl := hGl
    replace hGl := hGl G hFG
    have hy := run_yield (P := Try.prog) (args := #[.agg #[.int .i64 g1.p, .slice a1 g1.L.length cap, .string (ba g1.t)]]) hl (by rw [hrp]; rfl)
    rw [hrc] at hy
    refine ⟨fn, a.tmps.setIfInBounds p (.agg #[.int .i64 g1.p, .slice a1 g1.L.length cap, .string (ba g1.t)]), assign, body, by simpa using hy, roundIn_of_wpIn hfn (hassign (D + 1) g1.p (ba g1.t) a1 _ cap W _ ?_)⟩
    obtain ⟨ob, hob⟩ : ∃ ob, ob = Obj.cells #[.int .i64 g1.p, .slice a1 g1.L.length cap, .string (ba g1.t)] 58 := ⟨_, rfl⟩
    have hl2 : (W.alloc ob).heap[D + 1]? = some (.loop (rc .ready none)) := (Below.heap_alloc _ _ _ (by omega)).trans hl
    have hk2 : (W.alloc ob).heap[D]? = some (.deferred (some [])) := (Below.heap_alloc _ _ _ (by omega)).trans hk
    have hi2 : I F r (W.alloc ob) := hI _ _ _ _ none hi (World.grownBy_alloc W ob none) (fun k e => by cases e)
    have hX2 : Blk (W.alloc ob) W.heap.size 58 #[.int .i64 g1.p, .slice a1 g1.L.length cap, .string (ba g1.t)] := by rw [hob]; exact blk_new _ _ _
    have hrec2 := recs_alloc hrec ob
    have hsz2 : (W.alloc ob).heap.size = W.heap.size + 1 := by simp
    have hGV : (W.alloc ob).heap[G]? = W.heap[G]? := Below.heap_alloc _ _ _ (by omega)
    rw [← hob]
    clear hob
    generalize W.alloc ob = V at *
    refine ⟨_, run_beginRound hl2 (by rw [hrc]), ?_⟩
    have hlt : D + 1 < V.heap.size := by omega
    have hl3 : (V.putObj (D + 1) (.loop { rc .ready none with state := .busy })).heap[D + 1]? = some (.loop { rc .ready none with state := .busy }) := World.putObj_heap_same hlt
    have hk3 : (V.putObj (D + 1) (.loop { rc .ready none with state := .busy })).heap[D]? = some (.deferred (some [])) := (World.putObj_heap_other (by omega)).trans hk2
    have hi3 := hI _ _ _ _ _ hi2 (grownBy_putObj' V (D + 1) (.loop { rc .ready none with state := .busy })) (fun k e => .inr (.inr (Option.some.inj e).symm))
    have hX3 := blk_put hX2 (.loop { rc .ready none with state := .busy }) (l := D + 1) (by omega)
    have hrec3 := recs_put hrec2 (.loop { rc .ready none with state := .busy }) hl2 rfl
    have hsz3 : (V.putObj (D + 1) (.loop { rc .ready none with state := .busy })).heap.size = W.heap.size + 1 := by simp [hsz2]
    have hG3 : (V.putObj (D + 1) (.loop { rc .ready none with state := .busy })).heap[G]? = V.heap[G]? := World.putObj_heap_other (by omega)
    have hXs : W.heap.size < (V.putObj (D + 1) (.loop { rc .ready none with state := .busy })).heap.size := by omega
    have hb := hbody (D + 1) G W.heap.size F r g1 a1 cap _ hDF hFG hFl hXs hi3 hfs hrl hrec3 hne hX3
    clear hi3 hX3 hrec3
    revert hl3 hk3 hG3 hb hsz3 hXs
    generalize V.putObj (D + 1) (.loop { rc .ready none with state := .busy }) = U
    intro hl3 hk3 hsz3 hG3 hXs hb
    refine wpIn_mono hb ?_
    rintro e a3 W3 hp
    cases e with
    | normal =>
      obtain ⟨⟨kD, kD1, kG, kS⟩, hi4⟩ := hp
      have hl4 := kD1.trans hl3
      have hr := run_endRound (P := Try.prog) none hl4
      rw [hrc] at hr
      refine ⟨_, _, hr, .inl ⟨rfl, ⟨hDF, hI _ _ _ _ _ hi4 (grownBy_putObj' _ _ _) (fun k e => .inr (.inr (Option.some.inj e).symm)), ?_, (World.putObj_heap_other (by omega)).trans (kD.trans hk3)⟩, ?_, ?_⟩⟩
      · rw [World.putObj_heap_same (Array.getElem?_eq_some_iff.1 hl4).1, hrc]; rfl
      · exact (World.putObj_heap_other (by omega)).trans (kG.trans (hG3.trans hGV))
      · rw [World.putObj_size]; omega
    | exit id =>
      obtain ⟨⟨kD, kD1⟩, hi4⟩ := hp
      have hl4 := kD1.trans hl3
      have hr := run_endRound (P := Try.prog) (some (.exit id)) hl4
      rw [hrc] at hr
      refine ⟨_, _, hr, .inr ⟨rfl, .exit id, hIx _ _ _ _ hi4 (grownBy_putObj' _ _ _) (fun k e => .inr (Option.some.inj e).symm), ?_, (World.putObj_heap_other (by omega)).trans (kD.trans hk3)⟩⟩
      rw [World.putObj_heap_same (Array.getElem?_eq_some_iff.1 hl4).1, hrc]; rfl
    | ret => exact hp.elim
    | goto t => exact hp.elim
    | panic ch => exact hp.elim
    | outgrown => exact hp.elim
  · rintro e W2 ⟨⟨v, rfl⟩, (⟨G, r, hno, hDG, hi, hl, hk⟩ | ⟨c, hi, hl, hk⟩)⟩
    · have hr := run_endLoop (P := Try.prog) hl (by rw [hrc]; simp)
      exact ⟨none, _, by rw [hrc] at hr; exact hr, by
        have := hdone G r _ hno (hI _ _ _ _ _ hi (grownBy_putObj' W2 (D + 1) (.loop { rc .ready none with state := .exhausted })) (fun k e => .inr (.inr (Option.some.inj e).symm))) ((World.putObj_heap_other (by omega)).trans hk)
        rw [hrc] at this
        exact this⟩
    · have hr := run_endLoop (P := Try.prog) hl (by rw [hrc]; simp)
      exact ⟨some c, _, by rw [hrc] at hr; exact hr, by
        have := hstop c _ (hIx _ _ _ _ hi (grownBy_putObj' W2 (D + 1) (.loop { rc .done (some c) with state := .exhausted })) (fun k e => .inr (Option.some.inj e).symm)) ((World.putObj_heap_other (by omega)).trans hk)
        rw [hrc] at this
        exact this⟩
end Go.Proofs.Ytjmciknelkodcaa
