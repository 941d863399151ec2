/-
  Layer 11, the iterator of segments: it hands out the segments at the start of a string one by one, in order, up to the first one that is torn, to whatever loop body leaves its own cell alone; all of them, or a beginning of them where the body stops. Condition: at most 2^20 bytes.
-/
import Derived.Test.YtjmciknelkodcaaJrFirst
import Derived.RangeFuncNested
import Derived.RangeFuncBound
import Derived.RangeFuncCalls
import Derived.RangeFuncLeaves
import Derived.OwnWalkIn
import Derived.TacticsInMore
import Derived.LoopNIn
import Derived.LoopIn
namespace Go.Proofs.Ytjmciknelkodcaa
open Go.RowKit
attribute [local go_sem] Oper.semAt_some

theorem first_no {l : List UInt8} (hs : l.length ≤ 1048576) (h : fsS l = none) (w : World) : Calls Try.prog 37 #[.string (ba l)] w fun e w' => e = .returned (.tuple #[.agg #[.int .i64 0, .slice none 0 0, .string ⟨#[]⟩], .bool false]) ∧ Below w.heap.size w w' :=
  (first_any l hs w).mono fun e w' hq => by
    obtain ⟨hb, ⟨-, rfl⟩ | ⟨a, cap, g, hg, -, -, -⟩⟩ := hq
    · exact ⟨rfl, hb⟩
    · rw [h] at hg; cases hg
theorem first_yes {l : List UInt8} (hs : l.length ≤ 1048576) {g : S11} (h : fsS l = some g) (w : World) : Calls Try.prog 37 #[.string (ba l)] w fun e w' => ∃ a cap, e = .returned (.tuple #[.agg #[.int .i64 g.p, .slice a g.L.length cap, .string (ba g.t)], .bool true]) ∧ Below w.heap.size w w' ∧ Recs w' a g.L ∧ ∀ b off, a = some ⟨b, off, none⟩ → w.heap.size ≤ b ∧ b < w'.heap.size :=
  (first_any l hs w).mono fun e w' hq => by
    obtain ⟨hb, ⟨hn, -⟩ | ⟨a, cap, g', hg, rfl, hr, hbs⟩⟩ := hq
    · rw [h] at hn; cases hn
    · rw [h] at hg; cases hg
      exact ⟨a, cap, rfl, hb, hr, hbs⟩

theorem segs_in (n : Nat) (s : ByteArray) (w : World) :
    CallsIn Fence.wide n Try.prog 20 #[.string s] w fun e w' => e = .returned (.func (.func 36) #[] #[.pointer (some ⟨w.heap.size, 0, none⟩)]) ∧ w' = w.alloc (.cells #[.string s] 9) := by
  refine callsIn_of_wp Try.func20 rfl trivial ?_ rfl
  simp only [Try.ntmps20, List.size_toArray, List.length_cons, List.length_nil, Nat.reduceAdd, Nat.reduceSub, Array.replicate_succ, Array.replicate_zero, List.push_toArray, List.append_toArray, List.nil_append, List.cons_append]
  gi_wp2
  go_ret
  exact ⟨rfl, rfl⟩

/-- What is left to be read, as the iterator's own cell tells. -/
def segM (G : Nat) (t : Value) (w : World) : Nat := match t, w.cell? ⟨G, 2, none⟩ with
  | .bool true, some (.string x) => x.size + 1
  | _, _ => 0
theorem segM_no (G : Nat) (w : World) : segM G (.bool false) w = 0 := rfl
theorem segM_yes {G : Nat} {w : World} {x : ByteArray} (h : w.cell? ⟨G, 2, none⟩ = some (.string x)) : segM G (.bool true) w = x.size + 1 := by
  unfold segM; rw [h]
theorem grown_set3 {A B : World} {G : Nat} (h : Below A.heap.size A B) (x y z : Value) : A.grownBy (((B.setCell ⟨G, 0, none⟩ x).setCell ⟨G, 1, none⟩ y).setCell ⟨G, 2, none⟩ z) (some G) :=
  Lib.grownBy_trans (Lib.grownBy_trans (Lib.grownBy_trans (below_grown h rfl) (Lib.grownBy_setCell B G 0 x)) (Lib.grownBy_setCell _ G 1 y)) (Lib.grownBy_setCell _ G 2 z)
theorem recs_set {w : World} {a : Option Addr} {L : List R11} (h : Recs w a L) {G : Nat} (hne : ∀ b off, a = some ⟨b, off, none⟩ → b ≠ G) (i : Nat) (x : Value) : Recs (w.setCell ⟨G, i, none⟩ x) a L := by
  intro j hj
  obtain ⟨b, off, ha, hlt, h1, h2⟩ := h j hj
  have hk := Below.heap_setCell w ⟨G, i, none⟩ x b (hne b off ha)
  exact ⟨b, off, ha, by simpa [World.setCell] using hlt, (World.cell?_of_block hk).trans h1, (World.cell?_of_block hk).trans h2⟩

set_option maxRecDepth 100000 in
set_option maxHeartbeats 4000000 in
theorem segs1_in (n : Nat) (hn : 1 ≤ n) (l b : Nat) (s : List UInt8) (hs : s.length ≤ 1048576) (J : (Nat → Prop) → List UInt8 → World → Prop) (Jx : World → Prop)
    (hG : ∀ F r A B row, J F r A → A.grownBy B row → (∀ k, row = some k → F k) → J F r B)
    (hF : ∀ (F F' : Nat → Prop) r A, J F r A → (∀ k, F' k → F k ∨ A.heap.size ≤ k) → J F' r A)
    (hY : ∀ (F : Nat → Prop) G r g a cap W1, J F r W1 → F G → fsS r = some g → r.length ≤ s.length → (∀ k, F k → k < W1.heap.size) → Recs W1 a g.L → (∀ b off, a = some ⟨b, off, none⟩ → F b) → YieldAt Fence.wide (n - 1) Try.prog l #[.agg #[.int .i64 g.p, .slice a g.L.length cap, .string (ba g.t)]] W1 fun e W' =>
      (e = .returned (.bool true) ∧ J F g.t W' ∧ W'.heap[G]? = W1.heap[G]? ∧ W1.heap.size ≤ W'.heap.size) ∨ (e = .returned (.bool false) ∧ Jx W'))
    (W : World) (hB : Blk W b 9 #[.string (ba s)]) (h0 : J (fun _ => False) s W) :
    CallsIn Fence.wide n Try.prog 36 #[.func (.yield l) #[] #[], .pointer (some ⟨b, 0, none⟩)] W fun e W' => (∃ v, e = .returned v) ∧ ((∃ F r, fsS r = none ∧ J F r W') ∨ Jx W') := by
  have hb := blk_cell hB 0 rfl
  clear hB
  refine callsIn_of_wp Try.func36 rfl trivial ?_ rfl
  simp only [Try.ntmps36, List.size_toArray, List.length_cons, List.length_nil, Nat.reduceAdd, Nat.reduceSub, Array.replicate_succ, Array.replicate_zero, List.push_toArray, List.append_toArray, List.nil_append, List.cons_append]
  cases hf : fsS s with
  | none =>
    have HF := Lib.hid hf; clear hf
    gi_wp2
    refine ⟨trivial, ?_⟩
    gi_at_call 37
    refine (callsIn_wide.2 (first_no hs HF.out _)).mono ?_
    rintro e w1 ⟨rfl, b1⟩
    have HJ := Lib.hid (hG _ _ _ _ none h0 (below_grown (b1.alloc b1.size (.cells zSeg 58)) rfl) (fun k e => by cases e))
    gi_wp2
    gi_loopw [4] (fun t4 wr => t4 = .bool false ∧ Hid (J (fun _ => False) s wr)) (fun _ _ => 0)
    case atStart => exact ⟨rfl, HJ⟩
    case round =>
      obtain ⟨rfl, HJ1⟩ := hrel
      gi_wp2
      all_goals (refine ⟨(fun f e => by cases e), ?_⟩; gi_wp2)
      go_end0
      exact ⟨⟨_, rfl⟩, .inl ⟨_, _, HF.out, HJ1.out⟩⟩
  | some g =>
    have HF := Lib.hid hf; clear hf
    gi_wp2
    refine ⟨trivial, ?_⟩
    gi_at_call 37
    refine (callsIn_wide.2 (first_yes hs HF.out _)).mono ?_
    rintro e w1 ⟨a, cap, rfl, b1, hrec, hbs⟩
    have HJ := Lib.hid (hG _ _ _ _ none (hF _ (fun k => k = w1.heap.size ∨ ∃ off, a = some ⟨k, off, none⟩) _ _ h0 (fun k hk => .inr (by rcases hk with rfl | ⟨off, e⟩ <;> first | exact b1.size | exact (hbs k off e).1))) (below_grown (b1.alloc b1.size (.cells #[.int .i64 g.p, .slice a g.L.length cap, .string (ba g.t)] 58)) rfl) (fun k e => by cases e))
    have HG := Lib.hid (blk_new w1 58 #[.int .i64 g.p, .slice a g.L.length cap, .string (ba g.t)])
    have HR := Lib.hid (recs_alloc hrec (.cells #[.int .i64 g.p, .slice a g.L.length cap, .string (ba g.t)] 58))
    have HL := Lib.hid (show w1.heap.size < (w1.alloc (.cells #[.int .i64 g.p, .slice a g.L.length cap, .string (ba g.t)] 58)).heap.size by simp)
    have HST : Hid (∃ g' a' cap', fsS s = some g' ∧ Blk (w1.alloc (.cells #[.int .i64 g.p, .slice a g.L.length cap, .string (ba g.t)] 58)) w1.heap.size 58 #[.int .i64 g'.p, .slice a' g'.L.length cap', .string (ba g'.t)] ∧ Recs (w1.alloc (.cells #[.int .i64 g.p, .slice a g.L.length cap, .string (ba g.t)] 58)) a' g'.L ∧ a' = a ∧ ∀ b off, a' = some ⟨b, off, none⟩ → b < (w1.alloc (.cells #[.int .i64 g.p, .slice a g.L.length cap, .string (ba g.t)] 58)).heap.size) := Lib.hid ⟨g, a, cap, HF.out, HG.out, HR.out, rfl, fun b off e => by have := (hbs b off e).2; simp; omega⟩
    clear hrec hbs b1 HG HR h0 HF
    gi_wp2
    generalize w1.heap.size = G at *
    gi_loopw [4] (fun t4 wr => ∃ (r : List UInt8) (ok : Bool) (F : Nat → Prop), t4 = .bool ok ∧ r.length ≤ s.length ∧ Hid (J F r wr) ∧ Hid (∀ k, F k → k < wr.heap.size) ∧ Hid (F G) ∧ Hid ((ok = false ∧ fsS r = none) ∨ (ok = true ∧ ∃ g a cap, fsS r = some g ∧ Blk wr G 58 #[.int .i64 g.p, .slice a g.L.length cap, .string (ba g.t)] ∧ Recs wr a g.L ∧ (∀ b off, a = some ⟨b, off, none⟩ → F b)))) (fun t4 wr => segM G t4 wr)
    case atStart =>
      obtain ⟨g1, a1, cap1, e1, e2, e3, rfl, e5⟩ := HST.out
      exact ⟨s, true, _, rfl, Nat.le_refl _, HJ, Lib.hid (fun k hk => by rcases hk with rfl | ⟨off, e⟩ <;> first | exact HL.out | exact e5 k off e), Lib.hid (.inl rfl), Lib.hid (.inr ⟨rfl, g1, a1, cap1, e1, e2, e3, fun b off e => .inr ⟨off, e⟩⟩)⟩
    case round =>
      clear HJ HL HST
      obtain ⟨r, ok, F, rfl, hrl, hJ, hGl, hFG, hst⟩ := hrel
      rcases hst.out with ⟨rfl, hno⟩ | ⟨rfl, g2, a2, cap2, hg2, hblk, hrec2, hne2⟩
      · have HNO := Lib.hid hno; clear hno hst
        gi_wp2
        all_goals (refine ⟨(fun f e => by cases e), ?_⟩; gi_wp2)
        go_end0
        exact ⟨⟨_, rfl⟩, .inl ⟨_, _, HNO.out, hJ.out⟩⟩
      · have c0 := blk_cell hblk 0 rfl
        have c1 := blk_cell hblk 1 rfl
        have c2 := blk_cell hblk 2 rfl
        obtain ⟨fn, tmps, assign, body, hy, hR⟩ := hY F G r g2 a2 cap2 wr hJ.out hFG.out hg2 hrl hGl.out hrec2 hne2
        have HBL := Lib.hid hblk
        have HR' := Lib.hid hR
        have HG2 := Lib.hid hg2
        have hlt2 := fsS_lt hg2
        clear hR hblk hrec2 hne2 hg2 hst
        gi_wp2
        refine HR'.out.mono ?_
        rintro e W3 (⟨rfl, hJ3, hk3, hz3⟩ | ⟨rfl, hJx3⟩)
        · have HB3 := Lib.hid (show Blk W3 G 58 _ from hk3.trans HBL.out)
          have hl3 := blk_lt HB3.out
          have hFS3 := Lib.hid (show ∀ k, F k → k < W3.heap.size from fun k hk => Nat.lt_of_lt_of_le (hGl.out k hk) hz3)
          clear hz3
          have e2 := blk_cell HB3.out 2 rfl
          have HJ3 := Lib.hid hJ3
          have hM := Lib.hid (segM_yes (x := ba g2.t) c2)
          have hsz2 : (ba g2.t).size = g2.t.length := ba_size _
          clear hJ3 hk3 hy HR' HBL c0 c1 c2
          cases hf2 : fsS g2.t with
          | none =>
            have HF2 := Lib.hid hf2; clear hf2
            have k1 := fun w => first_no (l := g2.t) (by omega) HF2.out w
            gi_wp2
            refine ⟨trivial, ?_⟩
            gi_at_call 37
            refine (callsIn_wide.2 (k1 _)).mono ?_
            rintro e w4 ⟨rfl, b4⟩
            have HB4 := Lib.hid (blk_below HB3.out b4)
            have z0 := blk_cell HB4.out 0 rfl
            have z1 := blk_cell HB4.out 1 rfl
            have z2 := blk_cell HB4.out 2 rfl
            have z3 := blk_frozen HB4.out 0
            have z4 := blk_frozen HB4.out 1
            have z5 := blk_frozen HB4.out 2
            have HJ4 := Lib.hid (fun x y z => hG F g2.t _ _ _ HJ3.out (grown_set3 b4 x y z) (fun k e => by cases e; exact hFG.out))
            have hl4 := b4.size
            have HX4 := Lib.hid (show ∀ k, F k → k < w4.heap.size from fun k hk => by have := hFS3.out k hk; omega)
            clear e2 k1 b4
            gi_wp2
            go_roundw
            case rel => exact ⟨g2.t, false, F, rfl, by omega, Lib.hid (HJ4.out _ _ _), Lib.hid (fun k hk => by have := HX4.out k hk; simpa [World.setCell] using this), hFG, Lib.hid (.inl ⟨rfl, HF2.out⟩)⟩
            case measure => rw [hM.out]; exact Nat.lt_of_lt_of_le (by rw [segM_no]; exact Nat.zero_lt_succ _) (Nat.le_refl _)
          | some g4 =>
            have HF2 := Lib.hid hf2; clear hf2
            have k1 := fun w => first_yes (l := g2.t) (by omega) HF2.out w
            have hlt4 := fsS_lt HF2.out
            gi_wp2
            refine ⟨trivial, ?_⟩
            gi_at_call 37
            refine (callsIn_wide.2 (k1 _)).mono ?_
            rintro e w4 ⟨a4, cap4, rfl, b4, hrec4, hbs4⟩
            have HB4 := Lib.hid (blk_below HB3.out b4)
            have z0 := blk_cell HB4.out 0 rfl
            have z1 := blk_cell HB4.out 1 rfl
            have z2 := blk_cell HB4.out 2 rfl
            have z3 := blk_frozen HB4.out 0
            have z4 := blk_frozen HB4.out 1
            have z5 := blk_frozen HB4.out 2
            have HJ4 := Lib.hid (fun x y z => hG _ g2.t _ _ _ (hF F (fun k => k = G ∨ ∃ off, a4 = some ⟨k, off, none⟩) _ _ HJ3.out (fun k hk => by rcases hk with rfl | ⟨off, e⟩ <;> first | exact .inl hFG.out | exact .inr (hbs4 k off e).1)) (grown_set3 b4 x y z) (fun k e => by cases e; exact .inl rfl))
            have hne4 : ∀ b off, a4 = some ⟨b, off, none⟩ → b ≠ G := fun b off e => by have := (hbs4 b off e).1; omega
            have HST4 : Hid (∃ g a cap, fsS g2.t = some g ∧ Blk (((w4.setCell ⟨G, 0, none⟩ (.int .i64 g4.p)).setCell ⟨G, 1, none⟩ (.slice a4 g4.L.length cap4)).setCell ⟨G, 2, none⟩ (.string (ba g4.t))) G 58 #[.int .i64 g.p, .slice a g.L.length cap, .string (ba g.t)] ∧ Recs (((w4.setCell ⟨G, 0, none⟩ (.int .i64 g4.p)).setCell ⟨G, 1, none⟩ (.slice a4 g4.L.length cap4)).setCell ⟨G, 2, none⟩ (.string (ba g4.t))) a g.L ∧ (∀ b off, a = some ⟨b, off, none⟩ → b = G ∨ ∃ off, a4 = some ⟨b, off, none⟩)) :=
              Lib.hid ⟨g4, a4, cap4, HF2.out, blk_set (blk_set (blk_set HB4.out 0 _) 1 _) 2 _, recs_set (recs_set (recs_set hrec4 hne4 0 _) hne4 1 _) hne4 2 _, fun b off e => .inr ⟨off, e⟩⟩
            have HX4 := Lib.hid (show ∀ k, (k = G ∨ ∃ off, a4 = some ⟨k, off, none⟩) → k < w4.heap.size from fun k hk => by rcases hk with rfl | ⟨off, e⟩ <;> first | (have := b4.size; omega) | exact (hbs4 k off e).2)
            have HM4 := Lib.hid (segM_yes (x := ba g4.t) (blk_cell (blk_set (blk_set (blk_set HB4.out 0 (.int .i64 g4.p)) 1 (.slice a4 g4.L.length cap4)) 2 (.string (ba g4.t))) 2 rfl))
            have hl4 := b4.size
            clear e2 k1 b4 hrec4 hbs4 hne4
            gi_wp2
            go_roundw
            case rel => exact ⟨g2.t, true, _, rfl, by omega, Lib.hid (HJ4.out _ _ _), Lib.hid (fun k hk => by have := HX4.out k hk; simpa [World.setCell] using this), Lib.hid (.inl rfl), Lib.hid (.inr ⟨rfl, HST4.out⟩)⟩
            case measure => rw [hM.out, HM4.out, ba_size]; omega
        · gi_wp2
          go_end0
          exact ⟨⟨_, rfl⟩, .inr hJx3⟩
end Go.Proofs.Ytjmciknelkodcaa
