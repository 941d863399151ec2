/-
  Layer 12, CacheTrue: the cache, a row of operations of the law's own, and a block with one operation, in one memory; without. Condition: at most ten thousand operations.
-/
import Derived.Test.YtkpgekfejfbpjaaCtMath
namespace Go.Proofs.Ytkpgekfejfbpjaa
open Go.RowKit
variable {L : CL} {ρ ρ' : Nat → Option CRole} {A A' : AP} {w0 w w' : World} {v v' : Value} {M M' : List OpC} {pb : Nat} {o : OpC}

def opL (o : OpC) : List Value := [.int .i64 o.kind, .int .i64 o.n, .string o.data]
theorem opL_len (o : OpC) : (opL o).length = 3 := rfl
theorem opL_one (l : List OpC) : ∀ u ∈ l.flatMap opL, u.oneCell' = true := fun u hu => by
  obtain ⟨p, -, hu⟩ := List.mem_flatMap.1 hu
  simp only [opL, List.mem_cons, List.not_mem_nil, or_false] at hu
  rcases hu with rfl | rfl | rfl <;> rfl
theorem infoO : ∃ i z, Try.prog.info? 30 = some i ∧ i.zero = some z ∧ i.size = 3 ∧ i.bytes = 32 ∧ z.cells.size = 3 := by
  have h : (Try.prog.info? 30).map (fun i => (i.zero.map (·.cells.size), i.size, i.bytes)) = some (some 3, 3, 32) := by kernel_rfl
  obtain ⟨i, hi, hz⟩ := Option.map_eq_some_iff.1 h
  simp only [Prod.mk.injEq] at hz
  obtain ⟨h1, h2, h3⟩ := hz
  obtain ⟨z, h4, h5⟩ := Option.map_eq_some_iff.1 h1
  exact ⟨i, z, hi, h4, h2, h3, h5⟩
abbrev ORow (w : World) (base : Nat) (v : Value) (l : List OpC) : Prop := w.ownsRow base 30 3 v l.length (l.flatMap opL)
theorem row_base2 {b b' : Nat} {e : TypeId} {size : Nat} {k : Nat} {xs : List Value} (h : w.ownsRow b e size v k xs) (hb : b' ≤ b) : w.ownsRow b' e size v k xs := by
  refine ⟨h.1, ?_⟩
  rcases h.2 with h1 | ⟨g, cap, cur, rfl, hg, rest⟩
  · exact .inl h1
  · exact .inr ⟨g, cap, cur, rfl, Nat.le_trans hb hg, rest⟩
theorem op_cells {base : Nat} {l : List OpC} (h : ORow w base v l) : ∃ a cap, v = .slice a l.length cap ∧ ∀ k (hk : k < l.length), ∃ g, a = some ⟨g, 0, none⟩ ∧ v.ownBlock = some g ∧ base ≤ g ∧ g < w.heap.size ∧
    w.cell? ⟨g, k * 3, none⟩ = some (.int .i64 l[k].kind) ∧ w.cell? ⟨g, k * 3 + 1, none⟩ = some (.int .i64 l[k].n) ∧ w.cell? ⟨g, k * 3 + 2, none⟩ = some (.string l[k].data) ∧ ∀ j, w.frozen? ⟨g, j, none⟩ = false := by
  obtain ⟨a, cap, rfl, -, hc⟩ := row_form h
  refine ⟨a, cap, rfl, fun k hk => ?_⟩
  rcases hc with ⟨h0, -⟩ | ⟨g, rfl, hb, hg, hc, hf⟩
  · omega
  · refine ⟨g, rfl, rfl, hb, hg, ?_, hc (k * 3 + 1) _ (by rw [flatAt opL 3 opL_len l k 1 hk (by decide)]; rfl), hc (k * 3 + 2) _ (by rw [flatAt opL 3 opL_len l k 2 hk (by decide)]; rfl), hf⟩
    have := hc (k * 3 + 0) _ (by rw [flatAt opL 3 opL_len l k 0 hk (by decide)]; rfl)
    rwa [Nat.add_zero] at this

/-- The cache and the row. -/
structure JT (w0 : World) (L : CL) (ρ : Nat → Option CRole) (A : AP) (v : Value) (M : List OpC) (w : World) : Prop extends JC w0 L ρ A w where
  row : ORow w w0.heap.size v M
  ap : ∀ g, v.ownBlock = some g → ρ g = none
/-- And a block with one operation. -/
structure JTB (w0 : World) (L : CL) (ρ : Nat → Option CRole) (A : AP) (v : Value) (M : List OpC) (pb : Nat) (o : OpC) (w : World) : Prop extends JT w0 L ρ A v M w where
  ob : Blk w pb 30 (opL o).toArray
  pr : ρ pb = none
  pv : v.ownBlock ≠ some pb
theorem JT.cache (h : JT w0 L ρ A v M w) (hc : CacheI L ρ' A' w') (hs : CStep ρ w ρ' w') : JT w0 L ρ' A' v M w' :=
  ⟨h.toJC.call hc hs, rowk h.row (fun g hg => hs.blk g (h.row.lt g hg).2 (h.ap g hg)), fun g hg => by rw [hs.ro g (h.row.lt g hg).2]; exact h.ap g hg⟩
theorem JTB.cache (h : JTB w0 L ρ A v M pb o w) (hc : CacheI L ρ' A' w') (hs : CStep ρ w ρ' w') : JTB w0 L ρ' A' v M pb o w' :=
  ⟨h.toJT.cache hc hs, (hs.blk pb (blk_lt h.ob) h.pr).trans h.ob, by rw [hs.ro pb (blk_lt h.ob)]; exact h.pr, h.pv⟩
theorem JTB.below (h : JTB w0 L ρ A v M pb o w) (hb : Below w.heap.size w w') : JTB w0 L ρ A v M pb o w' :=
  h.cache (h.c.heap (fun g hg => hb.block g (h.c.lt hg)) hb.size) (CStep.below hb)
theorem JT.below (h : JT w0 L ρ A v M w) (hb : Below w.heap.size w w') : JT w0 L ρ A v M w' :=
  h.cache (h.c.heap (fun g hg => hb.block g (h.c.lt hg)) hb.size) (CStep.below hb)
theorem JTB.drewN (h : JTB w0 L ρ A v M pb o w) (n : Nat) : JTB w0 L ρ A v M pb o (w.drewN n) := h.below ⟨rfl, rfl, rfl, Nat.le_refl _, fun _ _ => rfl⟩
theorem JTB.new (h : JT w0 L ρ A v M w) (o : OpC) : JTB w0 L ρ A v M w.heap.size o (w.alloc (.cells (opL o).toArray 30)) :=
  ⟨h.below ((Below.refl _ _).alloc (Nat.le_refl _) _), blk_new _ _ _, Classical.byContradiction fun hn => by have := h.c.lt hn; omega, fun e => by have := (h.row.lt _ e).2; omega⟩
theorem JTB.cells (h : JTB w0 L ρ A v M pb o w) : w.cell? ⟨pb, 0, none⟩ = some (.int .i64 o.kind) ∧ w.cell? ⟨pb, 1, none⟩ = some (.int .i64 o.n) ∧ w.cell? ⟨pb, 2, none⟩ = some (.string o.data) :=
  ⟨blk_cell h.ob 0 rfl, blk_cell h.ob 1 rfl, blk_cell h.ob 2 rfl⟩
/-- Another row, made since. -/
theorem JTB.put (h : JTB w0 L ρ A v M pb o w) (hb : Below w.heap.size w w') (hrow : ORow w' w.heap.size v' M') : JTB w0 L ρ A v' M' pb o w' := by
  have h1 := h.below hb
  refine ⟨⟨h1.toJC, row_base2 hrow h.bel.size, fun g hg => ?_⟩, h1.ob, h1.pr, fun e => ?_⟩
  · exact Classical.byContradiction fun hn => by have := h.c.lt hn; have := (hrow.lt g hg).1; omega
  · have := (hrow.lt _ e).1; have := blk_lt h.ob; omega
/-- One operation of the row made clean. -/
theorem JTB.set (h : JTB w0 L ρ A v M pb o w) {g n cap : Nat} (hv : v = .slice (some ⟨g, 0, none⟩) n cap) {a b : List OpC} {p : OpC} (hM : M = a ++ p :: b) :
    JTB w0 L ρ A v (a ++ { p with kind := 1 } :: b) pb o (w.setCell ⟨g, a.length * 3, none⟩ (.int .i64 1)) := by
  subst hv
  have hown : (Value.slice (some ⟨g, 0, none⟩) n cap).ownBlock = some g := rfl
  have hg := h.ap g hown
  have hlt := (h.row.lt g hown)
  have hk : ∀ k, k ≠ g → (w.setCell ⟨g, a.length * 3, none⟩ (.int .i64 1)).heap[k]? = w.heap[k]? := keep_set _ _ _ _
  have hn : n = M.length := by
    rcases h.row.2 with ⟨h1, -⟩ | ⟨g', cap', cur, h1, -⟩
    · cases h1
    · injection h1
  subst hn
  refine ⟨⟨⟨h.c.heap (fun k hr => hk k (fun e => hr (e ▸ hg))) (by rw [size_set]; exact Nat.le_refl _), h.lo, ⟨h.bel.os, h.bel.tape, h.bel.output, by rw [size_set]; exact h.bel.size, fun k hk' => (hk k (by omega)).trans (h.bel.block k hk')⟩⟩, ?_, h.ap⟩, (hk pb (fun e => h.pv (by rw [e]; rfl))).trans h.ob, h.pr, h.pv⟩
  have h1 := (h.row.stored (a.length * 3) (.int .i64 1)).1
  have e : M.length = (a ++ { p with kind := 1 } :: b).length := by rw [hM]; simp
  have e2 : (M.flatMap opL).set (a.length * 3) (.int .i64 1) = (a ++ { p with kind := 1 } :: b).flatMap opL := by
    rw [hM, List.flatMap_append, List.flatMap_cons, List.flatMap_append, List.flatMap_cons, List.set_append_right _ _ (by rw [flatLen opL 3 opL_len]; exact Nat.le_refl _), flatLen opL 3 opL_len, Nat.sub_self, List.set_append_left _ _ (by rw [opL_len]; decide)]
    rfl
  rw [e2] at h1
  show World.ownsRow _ _ 30 3 _ (a ++ { p with kind := 1 } :: b).length _
  rw [← e]
  exact h1

theorem filt_stepO (l : List OpC) (k : Nat) (hk : k < l.length) (f : OpC → Bool) : (f l[k] = true → (l.take (k + 1)).filter f = (l.take k).filter f ++ [l[k]]) ∧ (f l[k] = false → (l.take (k + 1)).filter f = (l.take k).filter f) := by
  have e : l.take (k + 1) = l.take k ++ [l[k]] := by
    rw [List.take_add_one, List.getElem?_eq_getElem hk]
    rfl
  rw [e, List.filter_append]
  constructor
  · intro h; rw [List.filter_cons_of_pos h, List.filter_nil]
  · intro h; rw [List.filter_cons_of_neg (by rw [h]; simp), List.filter_nil, List.append_nil]

set_option maxHeartbeats 2000000 in
theorem without_any {base : Nat} (h : ORow w base v M) (hl : M.length ≤ 10000) (f t : Int) :
    Calls Try.prog 21 #[v, .int .i64 f, .int .i64 t] w fun e w' => ∃ v', e = .returned v' ∧ ORow w' w.heap.size v' (withoutL M f t) ∧ Below w.heap.size w w' := by
  have HI := Lib.hid h
  obtain ⟨i1, z1, hi1, hz1, hs1, hb1, hzs⟩ := infoO
  obtain ⟨a, cap, rfl, hc⟩ := op_cells h
  clear h
  have HC := Lib.hid hc
  clear hc
  go_enter Try.func21, Try.ntmps21
  go_wp2
  go_loopw [7, 8] (fun t3 t4 wr => ∃ k : Nat, k ≤ M.length ∧ t4 = .int .i64 k ∧ Hid (ORow wr w.heap.size t3 (withoutL (M.take k) f t)) ∧ Hid (Below w.heap.size w wr)) (fun _ t4 _ => M.length - (intOf t4).toNat)
  case atStart => exact ⟨0, Nat.zero_le _, rfl, Lib.hid (World.ownsRow_nil _ _ _ _), Lib.hid (Below.refl _ _)⟩
  case round =>
    obtain ⟨k, hk, rfl, hO, hB⟩ := hrel
    by_cases hlt : k < M.length
    · obtain ⟨g, rfl, -, -, hg, c1, c2, c3, -⟩ := HC.out k hlt
      rw [← hB.out.cell hg] at c1 c2 c3
      have hkI : (k : Int) < M.length := by omega
      have s0 : ¬ (k : Int) < 0 := by omega
      obtain ⟨HT, HF⟩ := filt_stepO M k hlt (fun o => decide (o.n < f) || decide (t < o.n))
      have hfl : (withoutL (M.take k) f t).length ≤ 10000 := Nat.le_trans (without_len _ _ _) (by rw [List.length_take]; omega)
      have hbs := hB.out.size
      by_cases he : M[k].n < f ∨ t < M[k].n
      · have hT : withoutL (M.take (k + 1)) f t = withoutL (M.take k) f t ++ [M[k]] := HT (by simpa using he)
        have HTT := Lib.hid hT
        generalize hp : M[k] = p at *
        obtain ⟨y, z, x⟩ := p
        simp only at c1 c2 c3 he
        clear hT HT HF
        by_cases he1 : z < f
        · have t1 : decide (z < f) = true := decide_eq_true he1
          clear he
          go_wp2_with (at_builtin; refine wpList_append_own _ rfl _ _ 22 rfl w.heap.size 30 i1 z1 3 32 Try.underlying22 hi1 hz1 hs1 hb1 hzs (by decide) _ _ _ rfl (hO.out.alloc _) ⟨wr.heap.size, 0, none⟩ 1 1 (opL ⟨y, z, x⟩) rfl rfl (World.news_of_block (blk_new wr 30 (opL ⟨y, z, x⟩).toArray)) (fun u hu => opL_one [⟨y, z, x⟩] u (by simpa using hu)) (by unfold maxLen; omega) (by omega) (by simp only [World.size_alloc]; omega) ?_; intro v3 w3 hown3 hgrow3 hnil3
                       have HB3 := Lib.hid (below_own (hB.out.alloc hbs (.cells (opL ⟨y, z, x⟩).toArray 30)) (hO.out.alloc _) hgrow3)
                       have HO3 : Hid (ORow w3 w.heap.size v3 (withoutL (M.take (k + 1)) f t)) := by
                         rw [HTT.out]
                         show World.ownsRow _ _ _ _ _ (_ ++ [_]).length ((_ ++ [_]).flatMap opL)
                         rw [List.length_append, List.length_singleton, List.flatMap_append, List.flatMap_singleton]
                         exact hown3
                       clear hown3 hgrow3 hnil3)
          go_roundw
          case rel => exact ⟨k + 1, by omega, by go_num, HO3, HB3⟩
          case measure => simp [intOf]; omega
        · have he2 : t < z := by rcases he with h1 | h1 <;> omega
          have t1 : decide (z < f) = false := decide_eq_false he1
          have t2 : decide (t < z) = true := decide_eq_true he2
          clear he
          go_wp2_with (at_builtin; refine wpList_append_own _ rfl _ _ 22 rfl w.heap.size 30 i1 z1 3 32 Try.underlying22 hi1 hz1 hs1 hb1 hzs (by decide) _ _ _ rfl (hO.out.alloc _) ⟨wr.heap.size, 0, none⟩ 1 1 (opL ⟨y, z, x⟩) rfl rfl (World.news_of_block (blk_new wr 30 (opL ⟨y, z, x⟩).toArray)) (fun u hu => opL_one [⟨y, z, x⟩] u (by simpa using hu)) (by unfold maxLen; omega) (by omega) (by simp only [World.size_alloc]; omega) ?_; intro v3 w3 hown3 hgrow3 hnil3
                       have HB3 := Lib.hid (below_own (hB.out.alloc hbs (.cells (opL ⟨y, z, x⟩).toArray 30)) (hO.out.alloc _) hgrow3)
                       have HO3 : Hid (ORow w3 w.heap.size v3 (withoutL (M.take (k + 1)) f t)) := by
                         rw [HTT.out]
                         show World.ownsRow _ _ _ _ _ (_ ++ [_]).length ((_ ++ [_]).flatMap opL)
                         rw [List.length_append, List.length_singleton, List.flatMap_append, List.flatMap_singleton]
                         exact hown3
                       clear hown3 hgrow3 hnil3)
          go_roundw
          case rel => exact ⟨k + 1, by omega, by go_num, HO3, HB3⟩
          case measure => simp [intOf]; omega
      · have hF : withoutL (M.take (k + 1)) f t = withoutL (M.take k) f t := HF (by simpa using he)
        have HO3 : Hid (ORow wr w.heap.size u7 (withoutL (M.take (k + 1)) f t)) := by
          rw [hF]; exact hO
        have he1 : ¬ M[k].n < f := fun h => he (.inl h)
        have he2 : ¬ t < M[k].n := fun h => he (.inr h)
        clear HT HF hF he
        generalize M[k].n = z at *
        go_wp2
        go_roundw
        case rel => exact ⟨k + 1, by omega, by go_num, HO3, hB⟩
        case measure => simp [intOf]; omega
    · have hkI : ¬ (k : Int) < M.length := by omega
      have HO3 := hO.out
      rw [List.take_of_length_le (by omega)] at HO3
      have HO4 := Lib.hid HO3
      clear HO3
      go_wp2
      first | go_ret | go_returns
      exact ⟨_, rfl, HO4.out, hB.out⟩
end Go.Proofs.Ytkpgekfejfbpjaa
