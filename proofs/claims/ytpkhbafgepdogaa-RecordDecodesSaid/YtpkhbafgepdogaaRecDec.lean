/-
  Layer 5, record.Decode and Column: they return the row that the bytes hold and one value of it, or the first error ('decR'), and change nothing that was there. Condition: at most 2^47 - 4096 bytes.
-/
import Derived.Test.YtpkhbafgepdogaaRecCollV
namespace Go.Proofs.Ytpkhbafgepdogaa
open Go.RowKit

theorem rd_new (w : World) (l : List UInt8) : Rd (w.alloc (.cells #[.string (bz l), .slice none 0 0] 58)) w.heap.size l (.slice none 0 0) :=
  ⟨#[.string (bz l), .slice none 0 0], Deep.blk_alloc_new _ _, rfl, fun j hj => by match j, hj with | 0, _ => rfl | 1, _ => rfl⟩
theorem vals_row {w : World} {g : Nat} {vs : List Val} (h : w.rowIs g 32 (vs.length * 3) (valF vs)) (hc : ∀ v ∈ vs, checkZ v.k v.n v.s = 0) (hn : ∀ v ∈ vs, I64 v.n) : Vals w (some ⟨g, 0, none⟩) vs := by
  intro j hj
  have hm := List.getElem_mem hj
  have h5 := (check_ok (hc _ hm)).2.2.2.2
  have e := valF_at (vs := vs) (k := j)
  rw [getD_in _ _ hj] at e
  refine ⟨by omega, hn _ hm, g, 0, rfl, h.lt, ?_, ?_, ?_⟩
  · rw [Nat.zero_add, h.cell (by omega), e.1]
  · rw [Nat.zero_add, h.cell (by omega), e.2.1]
  · rw [Nat.zero_add, h.cell (by omega), e.2.2]
theorem below_grown {w W W' : World} {b : Nat} (h : Below w.heap.size w W) (hg : W.grownBy W' (some b)) (hb : w.heap.size ≤ b) : Below w.heap.size w W' :=
  h.grown hg h.size (fun k e => by have := Option.some.inj e; omega)

theorem dec_bad {l : List UInt8} (h : (getR l).2.2 ≠ 0) : cntR l = (0, (getR l).2.2) ∧ decR l = ([], (getR l).2.2) := by
  rw [cntR, decR, if_neg h, if_neg h]; exact ⟨rfl, rfl⟩
theorem dec_many {l : List UInt8} (h : (getR l).2.2 = 0) (h16 : 16 < (getR l).1) : cntR l = (0, 18) ∧ decR l = ([], 18) := by
  rw [cntR, decR, if_pos h, if_pos h, if_pos h16, if_pos h16]; exact ⟨rfl, rfl⟩
theorem dec_few {l : List UInt8} (h : (getR l).2.2 = 0) (h16 : ¬ 16 < (getR l).1) : cntR l = ((getR l).1, 0) ∧ decR l = finR (marksS (getR l).1 [] (restR l)) := by
  rw [cntR, decR, restR, if_pos h, if_pos h, if_pos h, if_neg h16, if_neg h16]; exact ⟨rfl, rfl⟩
theorem rest_len (l : List UInt8) : (restR l).length ≤ l.length := by
  unfold restR; split <;> simp
theorem marksS_len : ∀ (n : Nat) (ms : List Nat) (l : List UInt8), (marksS n ms l).2.1.length ≤ l.length := by
  intro n
  induction n with
  | zero => intro ms l; simp [marksS]
  | succ n ih =>
    intro ms l
    rw [marksS]
    split
    · have := ih (ms ++ [(markS l).1]) (markS l).2.1
      have := markS_len l
      omega
    · simp

set_option maxRecDepth 100000 in
set_option maxHeartbeats 1000000 in
theorem decode_any (l : List UInt8) (w : World) (hs : l.length ≤ 140737488351232) :
    Calls Try.prog 12 #[.string (bz l)] w fun e w' => Below w.heap.size w w' ∧ ∃ a cap, e = .returned (.tuple #[.slice a (decR l).1.length cap, .int .i64 (decR l).2]) ∧ Vals w' a (decR l).1 := by
  have hc := count_r w.heap.size l (.slice none 0 0) (w.alloc (.cells #[.string (bz l), .slice none 0 0] 58)) (by omega) (rd_new w l)
  have hmf : ∀ (fn : Fn) (first cap : Array Value) (w : World), (Instr.makeFunc fn first cap).run Try.prog w = .ok (.func fn first cap) w := fun _ _ _ _ => rfl
  have hrl := rest_len l
  by_cases h0 : (getR l).2.2 = 0
  · by_cases h16 : 16 < (getR l).1
    · obtain ⟨e1, e2⟩ := dec_many h0 h16
      rw [e2]
      rw [e1] at hc
      clear e1 e2 h0 h16
      go_enter Try.func12, Try.ntmps12
      go_wp2_with (go_at_call 25; refine hc.mono ?_; rintro e w1 ⟨rfl, q1, q2⟩)
      go_ret2
      exact ⟨below_grown (below_alloc _ _) q2 (Nat.le_refl _), none, 0, rfl, vals_nil _ _⟩
    · obtain ⟨e1, e2⟩ := dec_few h0 h16
      rw [e2]
      rw [e1] at hc
      have hnn : (getR l).1 ≤ 16 := by omega
      clear e1 e2 h0 h16
      generalize (getR l).1 = n at *
      simp only at hc
      have hml := marksS_len n [] (restR l)
      have hmf2 := marks_form n [] (restR l) (marksS n [] (restR l)).1 (marksS n [] (restR l)).2.1
      have hcf := fun w1 h => collF_r n hnn w.heap.size (restR l) (.slice none 0 0) w1 (by omega) h
      obtain ⟨M, hM⟩ : ∃ M, M = marksS n [] (restR l) := ⟨_, rfl⟩
      rw [← hM] at hml hmf2 hcf ⊢
      clear hM
      obtain ⟨ms, l2, x⟩ := M
      simp only at hml hmf2 hcf
      by_cases hx : x = 0
      · subst hx
        obtain ⟨t, t1, t2, t3, -⟩ := hmf2 rfl
        rw [List.nil_append] at t1
        subst t1
        clear hmf2
        rw [show finR (ms, l2, 0) = lastR (valsS ms [] l2) from rfl]
        have hcv := fun fb w1 h1 h2 h3 => collV_r n hnn ms t2 t3 w.heap.size fb l2 w1 (by omega) h1 h2 h3
        have hvf := vals_form ms [] l2 (valsS ms [] l2).1 (valsS ms [] l2).2.1 t3
        obtain ⟨V, hV⟩ : ∃ V, V = valsS ms [] l2 := ⟨_, rfl⟩
        rw [← hV] at hcv hvf ⊢
        clear hV
        obtain ⟨vs, l3, y⟩ := V
        simp only at hcv hvf
        by_cases hy : y = 0
        · subst hy
          obtain ⟨u, u1, u2, u3, u4, -⟩ := hvf rfl
          rw [List.nil_append] at u1
          subst u1
          have hlen : vs.length = n := by rw [← t2, ← u2, List.length_map]
          clear hvf
          have HL := Lib.hid hlen; have HC := Lib.hid u3; have HN := Lib.hid u4
          clear hlen u3 u4 u2 t3 t2
          by_cases h3 : l3 = []
          · subst h3
            rw [show lastR (vs, [], 0) = (vs, 0) from rfl]
            go_enter Try.func12, Try.ntmps12
            go_wp2_with (first
              | (go_at_call 25; refine hc.mono ?_; rintro e w1 ⟨rfl, q1, q2⟩)
              | (go_at_call 26; refine (hcf _ q1).mono ?_; rintro e w2 ⟨q3, q4, -⟩; obtain ⟨g, hg, rfl, q5, q6⟩ := q4 (by first | rfl | trivial); clear q4; have d1 := (rd_cells q5).2.1; have d2 := (rd_cells q5).2.2.2.1)
              | (go_at_call 28; refine (hcv g _ (by have := q2.size; simp only [World.size_alloc] at this; omega) (rd_set1 q5 _) (World.rowIs.setOther q6 (by have := q2.size; simp only [World.size_alloc] at this; simp only; omega) _)).mono ?_; rintro e w3 ⟨q7, q8, -⟩; obtain ⟨g2, hg2, rfl, ⟨f2, q9⟩, q10⟩ := q8 (by first | rfl | trivial); clear q8; have d3 : w3.cell? ⟨w.heap.size, 0, none⟩ = some (.string ⟨#[]⟩) := (rd_cells q9).1))
            go_ret2
            refine ⟨below_grown (below_grown (below_grown (below_grown (below_alloc _ _) q2 (Nat.le_refl _)) q3 (Nat.le_refl _)) (Lib.grownBy_setCell _ _ _ _) (Nat.le_refl _)) q7 (Nat.le_refl _), some ⟨g2, 0, none⟩, n, by simp only [HL.out]; exact rfl, vals_row ?_ HC.out HN.out⟩
            rw [HL.out]; exact q10
          · rw [show lastR (vs, l3, 0) = ([], 2) by rw [lastR, if_pos rfl, if_neg h3]]
            have t1 : (bz l3).toList.isEmpty = false := by rw [empty_size, bz_size]; simpa using h3
            clear h3
            go_enter Try.func12, Try.ntmps12
            go_wp2_with (first
              | (go_at_call 25; refine hc.mono ?_; rintro e w1 ⟨rfl, q1, q2⟩)
              | (go_at_call 26; refine (hcf _ q1).mono ?_; rintro e w2 ⟨q3, q4, -⟩; obtain ⟨g, hg, rfl, q5, q6⟩ := q4 (by first | rfl | trivial); clear q4; have d1 := (rd_cells q5).2.1; have d2 := (rd_cells q5).2.2.2.1)
              | (go_at_call 28; refine (hcv g _ (by have := q2.size; simp only [World.size_alloc] at this; omega) (rd_set1 q5 _) (World.rowIs.setOther q6 (by have := q2.size; simp only [World.size_alloc] at this; simp only; omega) _)).mono ?_; rintro e w3 ⟨q7, q8, -⟩; obtain ⟨g2, hg2, rfl, ⟨f2, q9⟩, q10⟩ := q8 (by first | rfl | trivial); clear q8; have d3 := (rd_cells q9).1))
            go_ret2
            exact ⟨below_grown (below_grown (below_grown (below_grown (below_alloc _ _) q2 (Nat.le_refl _)) q3 (Nat.le_refl _)) (Lib.grownBy_setCell _ _ _ _) (Nat.le_refl _)) q7 (Nat.le_refl _), none, 0, rfl, vals_nil _ _⟩
        · rw [show lastR (vs, l3, y) = ([], y) by rw [lastR, if_neg hy]]
          have t1 : (y != 0) = true := by simpa using hy
          have HY := Lib.hid hy; clear hy hvf
          go_enter Try.func12, Try.ntmps12
          go_wp2_with (first
            | (go_at_call 25; refine hc.mono ?_; rintro e w1 ⟨rfl, q1, q2⟩)
            | (go_at_call 26; refine (hcf _ q1).mono ?_; rintro e w2 ⟨q3, q4, -⟩; obtain ⟨g, hg, rfl, q5, q6⟩ := q4 (by first | rfl | trivial); clear q4; have d1 := (rd_cells q5).2.1; have d2 := (rd_cells q5).2.2.2.1)
            | (go_at_call 28; refine (hcv g _ (by have := q2.size; simp only [World.size_alloc] at this; omega) (rd_set1 q5 _) (World.rowIs.setOther q6 (by have := q2.size; simp only [World.size_alloc] at this; simp only; omega) _)).mono ?_; rintro e w3 ⟨q7, -, q8⟩; obtain rfl := q8 HY.out))
          go_ret2
          exact ⟨below_grown (below_grown (below_grown (below_grown (below_alloc _ _) q2 (Nat.le_refl _)) q3 (Nat.le_refl _)) (Lib.grownBy_setCell _ _ _ _) (Nat.le_refl _)) q7 (Nat.le_refl _), none, 0, rfl, vals_nil _ _⟩
      · rw [show finR (ms, l2, x) = ([], x) by rw [finR, if_neg hx]]
        have t1 : (x != 0) = true := by simpa using hx
        have HX := Lib.hid hx; clear hx hmf2
        go_enter Try.func12, Try.ntmps12
        go_wp2_with (first
          | (go_at_call 25; refine hc.mono ?_; rintro e w1 ⟨rfl, q1, q2⟩)
          | (go_at_call 26; refine (hcf _ q1).mono ?_; rintro e w2 ⟨q3, -, q4⟩; obtain ⟨rfl, l', q5⟩ := q4 HX.out; clear q4; have d1 := (rd_cells q5).2.1; have d2 := (rd_cells q5).2.2.2.1))
        go_ret2
        exact ⟨below_grown (below_grown (below_grown (below_alloc _ _) q2 (Nat.le_refl _)) q3 (Nat.le_refl _)) (Lib.grownBy_setCell _ _ _ _) (Nat.le_refl _), none, 0, rfl, vals_nil _ _⟩
  · obtain ⟨e1, e2⟩ := dec_bad h0
    rw [e2]
    rw [e1] at hc
    generalize (getR l).2.2 = x at *
    have t1 : (x != 0) = true := by simpa using h0
    clear e1 e2 h0
    simp only at hc
    go_enter Try.func12, Try.ntmps12
    go_wp2_with (go_at_call 25; refine hc.mono ?_; rintro e w1 ⟨rfl, q1, q2⟩)
    go_ret2
    exact ⟨below_grown (below_alloc _ _) q2 (Nat.le_refl _), none, 0, rfl, vals_nil _ _⟩

/-- What Column returns. -/
def colR (l : List UInt8) (n : Int) : Val × Int := if (decR l).2 = 0 then (if 0 ≤ n ∧ n < (decR l).1.length then ((decR l).1.getD n.toNat val0, 0) else (val0, 3)) else (val0, (decR l).2)
set_option maxRecDepth 100000 in
set_option maxHeartbeats 1000000 in
theorem column_any (l : List UInt8) (n : Int) (w : World) (hs : l.length ≤ 140737488351232) :
    Calls Try.prog 14 #[.string (bz l), .int .i64 n] w fun e w' => Below w.heap.size w w' ∧ e = .returned (.tuple #[aggV (colR l n).1, .int .i64 (colR l n).2]) := by
  have hd := decode_any l (w.alloc (.cells #[.int .i64 0, .int .i64 0, .string ⟨#[]⟩] 32)) hs
  have hlen : (decR l).1.length ≤ 16 := by
    by_cases h0 : (decR l).2 = 0
    · exact (err_all.1 (enc_dec (s := l) (x := (decR l).1) (Prod.ext rfl h0)).2.1).1
    · rw [dec_none h0]; simp
  obtain ⟨C, hC⟩ : ∃ C, C = colR l n := ⟨_, rfl⟩
  rw [← hC]
  unfold colR at hC
  obtain ⟨D, hD⟩ : ∃ D, D = decR l := ⟨_, rfl⟩
  rw [← hD] at hd hC hlen
  clear hD
  obtain ⟨vs, x⟩ := D
  simp only at hd hC hlen
  by_cases h0 : x = 0
  · rw [if_pos h0] at hC; subst h0
    by_cases hn : 0 ≤ n ∧ n < vs.length
    · rw [if_pos hn] at hC
      obtain ⟨n0, n1⟩ := hn
      obtain ⟨j, rfl⟩ : ∃ j : Nat, n = j := ⟨n.toNat, by omega⟩
      have hj : j < vs.length := by omega
      rw [Int.toNat_natCast, getD_in _ _ hj] at hC
      subst hC
      go_enter Try.func14, Try.ntmps14
      go_wp2_with (go_at_call 12; refine hd.mono ?_; rintro e w1 ⟨b1, a, cap, rfl, hv⟩; have hrow := blk_below (blk_new w 32 #[.int .i64 0, .int .i64 0, .string ⟨#[]⟩]) b1; obtain ⟨-, -, g, off, rfl, hgl, g0, g1, g2⟩ := hv j hj; have r0 := blk_cell hrow 0 rfl; have r1 := blk_cell hrow 1 rfl; have r2 := blk_cell hrow 2 rfl; have r3 := blk_frozen hrow 0; have r4 := blk_frozen hrow 1; have r5 := blk_frozen hrow 2)
      refine bodyPost_ret (results_pair rfl _ _ w.heap.size _ _ _ rfl (blk_set (blk_set (blk_set hrow 0 _) 1 _) 2 _) Try.underlying32 rfl (by kernel_rfl)) rfl ?_
      exact ⟨((((below_alloc _ _).trans (b1.mono (by simp))).setCell (p := ⟨w.heap.size, 0, none⟩) (Nat.le_refl _) _).setCell (p := ⟨w.heap.size, 1, none⟩) (Nat.le_refl _) _).setCell (p := ⟨w.heap.size, 2, none⟩) (Nat.le_refl _) _, rfl⟩
    · rw [if_neg hn] at hC
      subst hC
      by_cases h1 : n < 0
      · clear hn
        go_enter Try.func14, Try.ntmps14
        go_wp2_with (go_at_call 12; refine hd.mono ?_; rintro e w1 ⟨b1, a, cap, rfl, hv⟩; have hrow := blk_below (blk_new w 32 #[.int .i64 0, .int .i64 0, .string ⟨#[]⟩]) b1; have r0 := blk_cell hrow 0 rfl; have r1 := blk_cell hrow 1 rfl; have r2 := blk_cell hrow 2 rfl; have r3 := blk_frozen hrow 0; have r4 := blk_frozen hrow 1; have r5 := blk_frozen hrow 2)
        refine bodyPost_ret (results_pair rfl _ _ w.heap.size _ _ _ rfl (blk_set (blk_set (blk_set hrow 0 _) 1 _) 2 _) Try.underlying32 rfl (by kernel_rfl)) rfl ?_
        exact ⟨((((below_alloc _ _).trans (b1.mono (by simp))).setCell (p := ⟨w.heap.size, 0, none⟩) (Nat.le_refl _) _).setCell (p := ⟨w.heap.size, 1, none⟩) (Nat.le_refl _) _).setCell (p := ⟨w.heap.size, 2, none⟩) (Nat.le_refl _) _, rfl⟩
      · have h2 : (vs.length : Int) ≤ n := by omega
        clear hn
        go_enter Try.func14, Try.ntmps14
        go_wp2_with (go_at_call 12; refine hd.mono ?_; rintro e w1 ⟨b1, a, cap, rfl, hv⟩; have hrow := blk_below (blk_new w 32 #[.int .i64 0, .int .i64 0, .string ⟨#[]⟩]) b1; have r0 := blk_cell hrow 0 rfl; have r1 := blk_cell hrow 1 rfl; have r2 := blk_cell hrow 2 rfl; have r3 := blk_frozen hrow 0; have r4 := blk_frozen hrow 1; have r5 := blk_frozen hrow 2)
        refine bodyPost_ret (results_pair rfl _ _ w.heap.size _ _ _ rfl (blk_set (blk_set (blk_set hrow 0 _) 1 _) 2 _) Try.underlying32 rfl (by kernel_rfl)) rfl ?_
        exact ⟨((((below_alloc _ _).trans (b1.mono (by simp))).setCell (p := ⟨w.heap.size, 0, none⟩) (Nat.le_refl _) _).setCell (p := ⟨w.heap.size, 1, none⟩) (Nat.le_refl _) _).setCell (p := ⟨w.heap.size, 2, none⟩) (Nat.le_refl _) _, rfl⟩
  · rw [if_neg h0] at hC; subst hC
    have t1 : (x != 0) = true := by simpa using h0
    clear h0
    go_enter Try.func14, Try.ntmps14
    go_wp2_with (go_at_call 12; refine hd.mono ?_; rintro e w1 ⟨b1, a, cap, rfl, hv⟩; have hrow := blk_below (blk_new w 32 #[.int .i64 0, .int .i64 0, .string ⟨#[]⟩]) b1; have r0 := blk_cell hrow 0 rfl; have r1 := blk_cell hrow 1 rfl; have r2 := blk_cell hrow 2 rfl; have r3 := blk_frozen hrow 0; have r4 := blk_frozen hrow 1; have r5 := blk_frozen hrow 2)
    refine bodyPost_ret (results_pair rfl _ _ w.heap.size _ _ _ rfl (blk_set (blk_set (blk_set hrow 0 _) 1 _) 2 _) Try.underlying32 rfl (by kernel_rfl)) rfl ?_
    exact ⟨((((below_alloc _ _).trans (b1.mono (by simp))).setCell (p := ⟨w.heap.size, 0, none⟩) (Nat.le_refl _) _).setCell (p := ⟨w.heap.size, 1, none⟩) (Nat.le_refl _) _).setCell (p := ⟨w.heap.size, 2, none⟩) (Nat.le_refl _) _, rfl⟩
end Go.Proofs.Ytpkhbafgepdogaa
