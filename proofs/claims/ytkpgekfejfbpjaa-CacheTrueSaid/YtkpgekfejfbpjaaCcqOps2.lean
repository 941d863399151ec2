/-
  Layer 12, the document's cache: Drop and Dirty. Condition: at most ten thousand pages.
-/
import Derived.Test.YtkpgekfejfbpjaaCcqOps
namespace Go.Proofs.Ytkpgekfejfbpjaa
open Go.RowKit
variable {w w' : World} {q : Nat} {v : Value} {R : QS}

theorem filt_step (l : List QP) (k : Nat) (hk : k < l.length) (f : QP → Bool) : (f l[k] = true → (l.take (k + 1)).filter f = (l.take k).filter f ++ [l[k]]) ∧ (f l[k] = false → (l.take (k + 1)).filter f = (l.take k).filter f) := by
  rw [take_snocQ l k hk, List.filter_append]
  constructor
  · intro h; rw [List.filter_cons_of_pos h, List.filter_nil]
  · intro h; rw [List.filter_cons_of_neg (by rw [h]; simp), List.filter_nil, List.append_nil]
def dirtyQ (l : List QP) : List Int := (l.filter fun p => p.d == true).map (·.n)
theorem filt_len (l : List QP) (k : Nat) (f : QP → Bool) : ((l.take k).filter f).length ≤ l.length :=
  Nat.le_trans (List.length_filter_le _ _) (by rw [List.length_take]; omega)
theorem nums_snoc (l : List QP) (p : QP) : ((l ++ [p]).map (·.n)).map intC = (l.map (·.n)).map intC ++ [Value.int .i64 p.n] := by simp [intC]

set_option maxHeartbeats 1000000 in
theorem qdirty_any (h : QInv q v R w) (hl : R.L.length ≤ 10000) :
    Calls Try.prog 20 #[.pointer (some ⟨q, 0, none⟩)] w fun e w' => ∃ v', e = .returned v' ∧ w'.ownsRow w.heap.size 3 1 v' (dirtyQ R.L).length ((dirtyQ R.L).map intC) ∧ Below w.heap.size w w' := by
  have HI := Lib.hid h
  obtain ⟨i1, hi1, hz1, hs1, hb1⟩ := infoI
  clear h
  obtain ⟨l, hl'⟩ : ∃ l, l = R.L := ⟨_, rfl⟩
  rw [← hl'] at hl ⊢
  have HL := Lib.hid hl'
  clear hl'
  go_enter Try.func20, Try.ntmps20
  go_wp2
  go_loopw [3, 4] (fun t3 t4 wr => ∃ k : Nat, k ≤ l.length ∧ t4 = .int .i64 k ∧ Hid (wr.ownsRow w.heap.size 3 1 t3 (dirtyQ (l.take k)).length ((dirtyQ (l.take k)).map intC)) ∧ Hid (Below w.heap.size w wr)) (fun _ t4 _ => l.length - (intOf t4).toNat)
  case atStart => exact ⟨0, Nat.zero_le _, rfl, Lib.hid (World.ownsRow_nil _ _ _ _), Lib.hid (Below.refl _ _)⟩
  case round =>
    obtain ⟨k, hk, rfl, hO, hB⟩ := hrel
    have hI2 := HI.out.below hB.out
    obtain ⟨c0, -, -⟩ := q_cells hI2
    obtain ⟨a, cap, rfl, hc⟩ := pg_cells hI2.row
    rw [← HL.out] at hc c0
    have HC := Lib.hid hc
    clear hc hI2
    by_cases hlt : k < l.length
    · obtain ⟨g, rfl, -, hg, c1, -, c3, -⟩ := HC.out k hlt
      have hkI : (k : Int) < l.length := by omega
      have s0 : ¬ (k : Int) < 0 := by omega
      obtain ⟨HT, HF⟩ := filt_step l k hlt (fun p => p.d == true)
      by_cases he : l[k].d = true
      · have hT := HT (by simpa using he)
        rw [he] at c3
        have hfl := filt_len l k (fun p => p.d == true)
        have hbs := hB.out.size
        have hN : (dirtyQ (l.take k)).length ≤ 10000 := by unfold dirtyQ; rw [List.length_map]; omega
        have HTT := Lib.hid hT
        generalize hz : l[k].n = z at *
        have HZ := Lib.hid hz
        clear hT HT HF he hfl hz
        go_wp2_with (at_builtin; refine wpList_append_own _ rfl _ _ 40 rfl w.heap.size 3 i1 (.int .i64 0) 1 8 Try.underlying40 hi1 hz1 hs1 hb1 rfl (by decide) _ _ _ rfl (hO.out.alloc _) ⟨wr.heap.size, 0, none⟩ 1 1 [.int .i64 z] rfl rfl (newsI wr (.int .i64 z) _) (oneI z) (by unfold maxLen; omega) (by omega) (by simp only [World.size_alloc]; omega) ?_; intro v3 w3 hown3 hgrow3 hnil3
                     have HB3 := Lib.hid (below_own (hB.out.alloc hbs (.cells #[.int .i64 z] 3)) (hO.out.alloc _) hgrow3)
                     have HO3 : Hid (w3.ownsRow w.heap.size 3 1 v3 (dirtyQ (l.take (k + 1))).length ((dirtyQ (l.take (k + 1))).map intC)) := by
                       unfold dirtyQ
                       rw [HTT.out, nums_snoc, HZ.out, List.map_append, List.length_append, List.map_singleton, List.length_singleton]
                       exact hown3
                     clear hown3 hgrow3 hnil3)
        go_roundw
        case rel => exact ⟨k + 1, by omega, by go_num, HO3, HB3⟩
        case measure => simp [intOf]; omega
      · have he' : l[k].d = false := by simpa using he
        have hF := HF (by simpa using he')
        rw [he'] at c3
        have HO3 : Hid (wr.ownsRow w.heap.size 3 1 u3 (dirtyQ (l.take (k + 1))).length ((dirtyQ (l.take (k + 1))).map intC)) := by
          unfold dirtyQ; rw [hF]; exact hO
        clear HT HF he he' hF
        go_wp2
        go_roundw
        case rel => exact ⟨k + 1, by omega, by go_num, HO3, hB⟩
        case measure => simp [intOf]; omega
    · have hkI : ¬ (k : Int) < l.length := by omega
      have HO3 := hO.out
      rw [List.take_of_length_le (by omega)] at HO3
      have HO4 := Lib.hid HO3
      clear HO3
      go_wp2
      first | go_ret | go_returns
      exact ⟨_, rfl, HO4.out, hB.out⟩

set_option maxHeartbeats 1000000 in
theorem qdrop_any (h : QInv q v R w) (hl : R.L.length ≤ 10000) (f : Int) :
    Calls Try.prog 16 #[.pointer (some ⟨q, 0, none⟩), .int .i64 f] w fun e w' => e = .returned (.tuple #[]) ∧ ∃ v', QInv q v' { R with L := R.L.filter fun p => decide (p.n < f) } w' ∧ QStep q v w v' w' := by
  have HI := Lib.hid h
  obtain ⟨i1, z1, hi1, hz1, hs1, hb1, hzs⟩ := infoP
  clear h
  obtain ⟨l, hl'⟩ : ∃ l, l = R.L := ⟨_, rfl⟩
  rw [← hl'] at hl ⊢
  have HL := Lib.hid hl'
  clear hl'
  go_enter Try.func16, Try.ntmps16
  go_wp2
  go_loopw [4, 5] (fun t3 t4 wr => ∃ k : Nat, k ≤ l.length ∧ t4 = .int .i64 k ∧ Hid (PRow wr w.heap.size t3 ((l.take k).filter fun p => decide (p.n < f))) ∧ Hid (Below w.heap.size w wr)) (fun _ t4 _ => l.length - (intOf t4).toNat)
  case atStart => exact ⟨0, Nat.zero_le _, rfl, Lib.hid (World.ownsRow_nil _ _ _ _), Lib.hid (Below.refl _ _)⟩
  case round =>
    obtain ⟨k, hk, rfl, hO, hB⟩ := hrel
    have hI2 := HI.out.below hB.out
    obtain ⟨c0, -, -⟩ := q_cells hI2
    have fq := blk_frozen hI2.blk 0
    obtain ⟨a, cap, rfl, hc⟩ := pg_cells hI2.row
    rw [← HL.out] at hc c0
    have HC := Lib.hid hc
    clear hc hI2
    by_cases hlt : k < l.length
    · obtain ⟨g, rfl, -, hg, c1, c2, c3, c4, -⟩ := HC.out k hlt
      have hkI : (k : Int) < l.length := by omega
      have s0 : ¬ (k : Int) < 0 := by omega
      obtain ⟨HT, HF⟩ := filt_step l k hlt (fun p => decide (p.n < f))
      by_cases he : l[k].n < f
      · have hT := HT (by simpa using he)
        have hfl := filt_len l k (fun p => decide (p.n < f))
        have hbs := hB.out.size
        have HTT := Lib.hid hT
        have hN : ((l.take k).filter fun p => decide (p.n < f)).length ≤ 10000 := by omega
        generalize hp : l[k] = p at *
        obtain ⟨z, y, x, u⟩ := p
        simp only at c1 c2 c3 c4 he
        clear hT HT HF hfl
        go_wp2_with (at_builtin; refine wpList_append_own _ rfl _ _ 36 rfl w.heap.size 59 i1 z1 4 40 Try.underlying36 hi1 hz1 hs1 hb1 hzs (by decide) _ _ _ rfl (hO.out.alloc _) ⟨wr.heap.size, 0, none⟩ 1 1 (pgC ⟨z, y, x, u⟩) rfl rfl (World.news_of_block (blk_new wr 59 (pgC ⟨z, y, x, u⟩).toArray)) (fun t ht => pgC_one [⟨z, y, x, u⟩] t (by simpa using ht)) (by unfold maxLen; omega) (by omega) (by simp only [World.size_alloc]; omega) ?_; intro v3 w3 hown3 hgrow3 hnil3
                     have HB3 := Lib.hid (below_own (hB.out.alloc hbs (.cells (pgC ⟨z, y, x, u⟩).toArray 59)) (hO.out.alloc _) hgrow3)
                     have HO3 : Hid (PRow w3 w.heap.size v3 ((l.take (k + 1)).filter fun p => decide (p.n < f))) := by
                       rw [HTT.out]
                       show World.ownsRow _ _ _ _ _ (_ ++ [_]).length ((_ ++ [_]).flatMap pgC)
                       rw [List.length_append, List.length_singleton, List.flatMap_append, List.flatMap_singleton]
                       exact hown3
                     clear hown3 hgrow3 hnil3)
        go_roundw
        case rel => exact ⟨k + 1, by omega, by go_num, HO3, HB3⟩
        case measure => simp [intOf]; omega
      · have hF := HF (by simpa using he)
        have HO3 : Hid (PRow wr w.heap.size u4 ((l.take (k + 1)).filter fun p => decide (p.n < f))) := by
          rw [hF]; exact hO
        clear HT HF hF
        generalize l[k].n = z at *
        go_wp2
        go_roundw
        case rel => exact ⟨k + 1, by omega, by go_num, HO3, hB⟩
        case measure => simp [intOf]; omega
    · have hkI : ¬ (k : Int) < l.length := by omega
      have HO3 := hO.out
      rw [List.take_of_length_le (by omega)] at HO3
      obtain ⟨a4, cap4, rfl, -⟩ := row_form HO3
      obtain ⟨q1, q2⟩ := q_put HI.out hB.out HO3
      have Q1 := Lib.hid q1; have Q2 := Lib.hid q2
      clear HO3 q1 q2
      go_wp2
      first | go_ret | go_returns
      exact ⟨rfl, _, Q1.out, Q2.out⟩
end Go.Proofs.Ytkpgekfejfbpjaa
