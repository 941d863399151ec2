/-
  Layer 11, Read: what its own cells hold between two segments, and how that stays. No program text is walked here.
  Layer 11, the iterator of segments: it hands out the segments at the start of a string one by one, in order, up to the first one that is torn, to whatever loop body leaves its own cell alone; all of them, or a beginning of them where the body stops. Condition: at most 2^20 bytes.
  The statement 'for g := range segments(s)' of layer 11: what a caller owes is an invariant on its own cells, which the iterator's own cell and the loop's record do not touch, and one walk of its own body. Condition: at most 2^20 bytes.
  Layer 10: strings.Clone, and the reader's methods path, name and files: each returns what it reads, and changes the reader alone. Condition: at most 1048576 bytes.
  Layer 10, the reader's method files: it returns the files that it reads, in a slice of its own, and changes the reader alone. Condition: at most 1048576 bytes.
  Layer 10, the program's check: it returns what is wrong with the files of a super-journal ('ckS') and changes nothing. Condition: none beyond the memory's own.
  Layer 10, super.Encode and Trailer: they return the encoding of a super-journal ('encS') and of a trailer ('trS'), and change nothing that was there. Condition: none beyond the memory's own.
  Layer 10, the document's Encode and Trailer: they return the same encodings and change nothing that was there. Condition: none beyond the memory's own.
  Layer 10, Decode and Named, the program's and the document's: each returns its plain function of the bytes and changes nothing that was there. Condition: at most 1048576 bytes.
  Layer 10, Decode and Named, the program's and the document's: each returns its plain function of the bytes and changes nothing that was there. Condition: at most 1048576 bytes.
-/
import Derived.RangeFuncNested
import Derived.RangeFuncBound
import Derived.RangeFuncCalls
import Derived.RangeFuncLeaves
import Derived.OwnWalkIn
import Derived.TacticsInMore
import Derived.LoopNIn
import Derived.LoopIn
import Derived.Lib.SlicesS
import Derived.Lib.BufferOwn
import Derived.OwnWalk
import Derived.Deep.WholeRow
import Derived.Test.YthfebcfdhmihcaaGreatDoorMh8
import Derived.Test.YthfebcfdhmihcaaGreatDoorMh1
namespace Go.Proofs.YthfebcfdhmihcaaGreatDoor
open Go.RowKit
attribute [local go_sem] Oper.semAt_some

theorem first_no {l : List UInt8} (hs : l.length ≤ 1048576) (h : fsS l = none) (w : World) : Calls Tryz.prog 138 #[.string (ba l)] w fun e w' => e = .returned (.tuple #[.agg #[.int .i64 0, .slice none 0 0, .string ⟨#[]⟩], .bool false]) ∧ Below w.heap.size w w' :=
  (first_any l hs w).mono fun e w' hq => by
    obtain ⟨hb, ⟨-, rfl⟩ | ⟨a, cap, g, hg, -, -, -⟩⟩ := hq
    · exact ⟨rfl, hb⟩
    · rw [h] at hg; cases hg
theorem first_yes {l : List UInt8} (hs : l.length ≤ 1048576) {g : S11} (h : fsS l = some g) (w : World) : Calls Tryz.prog 138 #[.string (ba l)] w fun e w' => ∃ a cap, e = .returned (.tuple #[.agg #[.int .i64 g.p, .slice a g.L.length cap, .string (ba g.t)], .bool true]) ∧ Below w.heap.size w w' ∧ Recs w' a g.L ∧ ∀ b off, a = some ⟨b, off, none⟩ → w.heap.size ≤ b ∧ b < w'.heap.size :=
  (first_any l hs w).mono fun e w' hq => by
    obtain ⟨hb, ⟨hn, -⟩ | ⟨a, cap, g', hg, rfl, hr, hbs⟩⟩ := hq
    · rw [h] at hn; cases hn
    · rw [h] at hg; cases hg
      exact ⟨a, cap, rfl, hb, hr, hbs⟩

theorem segs_in (n : Nat) (s : ByteArray) (w : World) :
    CallsIn Fence.wide n Tryz.prog 107 #[.string s] w fun e w' => e = .returned (.func (.func 137) #[] #[.pointer (some ⟨w.heap.size, 0, none⟩)]) ∧ w' = w.alloc (.cells #[.string s] 9) := by
  refine callsIn_of_wp Tryz.func107 rfl trivial ?_ rfl
  simp only [Tryz.ntmps107, List.size_toArray, List.length_cons, List.length_nil, Nat.reduceAdd, Nat.reduceSub, Array.replicate_succ, Array.replicate_zero, List.push_toArray, List.append_toArray, List.nil_append, List.cons_append]
  gi_wp2
  go_ret
  exact ⟨rfl, rfl⟩

/-- What is left to be read, as the iterator's own cell tells. -/
def segM (G : Nat) (t : Value) (w : World) : Nat := match t, w.cell? ⟨G, 2, none⟩ with
  | .bool true, some (.string x) => x.size + 1
  | _, _ => 0
theorem segM_no (G : Nat) (w : World) : segM G (.bool false) w = 0 := rfl
theorem segM_yes {G : Nat} {w : World} {x : ByteArray} (h : w.cell? ⟨G, 2, none⟩ = some (.string x)) : segM G (.bool true) w = x.size + 1 := by
  unfold segM; rw [h]
theorem grown_set3 {A B : World} {G : Nat} (h : Below A.heap.size A B) (x y z : Value) : A.grownBy (((B.setCell ⟨G, 0, none⟩ x).setCell ⟨G, 1, none⟩ y).setCell ⟨G, 2, none⟩ z) (some G) :=
  Lib.grownBy_trans (Lib.grownBy_trans (Lib.grownBy_trans (below_grown h rfl) (Lib.grownBy_setCell B G 0 x)) (Lib.grownBy_setCell _ G 1 y)) (Lib.grownBy_setCell _ G 2 z)
theorem recs_set {w : World} {a : Option Addr} {L : List R11} (h : Recs w a L) {G : Nat} (hne : ∀ b off, a = some ⟨b, off, none⟩ → b ≠ G) (i : Nat) (x : Value) : Recs (w.setCell ⟨G, i, none⟩ x) a L := by
  intro j hj
  obtain ⟨b, off, ha, hlt, h1, h2⟩ := h j hj
  have hk := Below.heap_setCell w ⟨G, i, none⟩ x b (hne b off ha)
  exact ⟨b, off, ha, by simpa [World.setCell] using hlt, (World.cell?_of_block hk).trans h1, (World.cell?_of_block hk).trans h2⟩

set_option maxRecDepth 100000 in
set_option maxHeartbeats 4000000 in
theorem segs1_in (n : Nat) (hn : 1 ≤ n) (l b : Nat) (s : List UInt8) (hs : s.length ≤ 1048576) (J : (Nat → Prop) → List UInt8 → World → Prop) (Jx : World → Prop)
    (hG : ∀ F r A B row, J F r A → A.grownBy B row → (∀ k, row = some k → F k) → J F r B)
    (hF : ∀ (F F' : Nat → Prop) r A, J F r A → (∀ k, F' k → F k ∨ A.heap.size ≤ k) → J F' r A)
    (hY : ∀ (F : Nat → Prop) G r g a cap W1, J F r W1 → F G → fsS r = some g → r.length ≤ s.length → (∀ k, F k → k < W1.heap.size) → Recs W1 a g.L → (∀ b off, a = some ⟨b, off, none⟩ → F b) → YieldAt Fence.wide (n - 1) Tryz.prog l #[.agg #[.int .i64 g.p, .slice a g.L.length cap, .string (ba g.t)]] W1 fun e W' =>
      (e = .returned (.bool true) ∧ J F g.t W' ∧ W'.heap[G]? = W1.heap[G]? ∧ W1.heap.size ≤ W'.heap.size) ∨ (e = .returned (.bool false) ∧ Jx W'))
    (W : World) (hB : Blk W b 9 #[.string (ba s)]) (h0 : J (fun _ => False) s W) :
    CallsIn Fence.wide n Tryz.prog 137 #[.func (.yield l) #[] #[], .pointer (some ⟨b, 0, none⟩)] W fun e W' => (∃ v, e = .returned v) ∧ ((∃ F r, fsS r = none ∧ J F r W') ∨ Jx W') := by
  have hb := blk_cell hB 0 rfl
  clear hB
  refine callsIn_of_wp Tryz.func137 rfl trivial ?_ rfl
  simp only [Tryz.ntmps137, List.size_toArray, List.length_cons, List.length_nil, Nat.reduceAdd, Nat.reduceSub, Array.replicate_succ, Array.replicate_zero, List.push_toArray, List.append_toArray, List.nil_append, List.cons_append]
  cases hf : fsS s with
  | none =>
    have HF := Lib.hid hf; clear hf
    gi_wp2
    refine ⟨trivial, ?_⟩
    gi_at_call 138
    refine (callsIn_wide.2 (first_no hs HF.out _)).mono ?_
    rintro e w1 ⟨rfl, b1⟩
    have HJ := Lib.hid (hG _ _ _ _ none h0 (below_grown (b1.alloc b1.size (.cells zSeg 164)) rfl) (fun k e => by cases e))
    gi_wp2
    gi_loopw [4] (fun t4 wr => t4 = .bool false ∧ Hid (J (fun _ => False) s wr)) (fun _ _ => 0)
    case atStart => exact ⟨rfl, HJ⟩
    case round =>
      obtain ⟨rfl, HJ1⟩ := hrel
      gi_wp2
      all_goals (refine ⟨(fun f e => by cases e), ?_⟩; gi_wp2)
      go_end0
      exact ⟨⟨_, rfl⟩, .inl ⟨_, _, HF.out, HJ1.out⟩⟩
  | some g =>
    have HF := Lib.hid hf; clear hf
    gi_wp2
    refine ⟨trivial, ?_⟩
    gi_at_call 138
    refine (callsIn_wide.2 (first_yes hs HF.out _)).mono ?_
    rintro e w1 ⟨a, cap, rfl, b1, hrec, hbs⟩
    have HJ := Lib.hid (hG _ _ _ _ none (hF _ (fun k => k = w1.heap.size ∨ ∃ off, a = some ⟨k, off, none⟩) _ _ h0 (fun k hk => .inr (by rcases hk with rfl | ⟨off, e⟩ <;> first | exact b1.size | exact (hbs k off e).1))) (below_grown (b1.alloc b1.size (.cells #[.int .i64 g.p, .slice a g.L.length cap, .string (ba g.t)] 164)) rfl) (fun k e => by cases e))
    have HG := Lib.hid (blk_new w1 164 #[.int .i64 g.p, .slice a g.L.length cap, .string (ba g.t)])
    have HR := Lib.hid (recs_alloc hrec (.cells #[.int .i64 g.p, .slice a g.L.length cap, .string (ba g.t)] 164))
    have HL := Lib.hid (show w1.heap.size < (w1.alloc (.cells #[.int .i64 g.p, .slice a g.L.length cap, .string (ba g.t)] 164)).heap.size by simp)
    have HST : Hid (∃ g' a' cap', fsS s = some g' ∧ Blk (w1.alloc (.cells #[.int .i64 g.p, .slice a g.L.length cap, .string (ba g.t)] 164)) w1.heap.size 164 #[.int .i64 g'.p, .slice a' g'.L.length cap', .string (ba g'.t)] ∧ Recs (w1.alloc (.cells #[.int .i64 g.p, .slice a g.L.length cap, .string (ba g.t)] 164)) a' g'.L ∧ a' = a ∧ ∀ b off, a' = some ⟨b, off, none⟩ → b < (w1.alloc (.cells #[.int .i64 g.p, .slice a g.L.length cap, .string (ba g.t)] 164)).heap.size) := Lib.hid ⟨g, a, cap, HF.out, HG.out, HR.out, rfl, fun b off e => by have := (hbs b off e).2; simp; omega⟩
    clear hrec hbs b1 HG HR h0 HF
    gi_wp2
    generalize w1.heap.size = G at *
    gi_loopw [4] (fun t4 wr => ∃ (r : List UInt8) (ok : Bool) (F : Nat → Prop), t4 = .bool ok ∧ r.length ≤ s.length ∧ Hid (J F r wr) ∧ Hid (∀ k, F k → k < wr.heap.size) ∧ Hid (F G) ∧ Hid ((ok = false ∧ fsS r = none) ∨ (ok = true ∧ ∃ g a cap, fsS r = some g ∧ Blk wr G 164 #[.int .i64 g.p, .slice a g.L.length cap, .string (ba g.t)] ∧ Recs wr a g.L ∧ (∀ b off, a = some ⟨b, off, none⟩ → F b)))) (fun t4 wr => segM G t4 wr)
    case atStart =>
      obtain ⟨g1, a1, cap1, e1, e2, e3, rfl, e5⟩ := HST.out
      exact ⟨s, true, _, rfl, Nat.le_refl _, HJ, Lib.hid (fun k hk => by rcases hk with rfl | ⟨off, e⟩ <;> first | exact HL.out | exact e5 k off e), Lib.hid (.inl rfl), Lib.hid (.inr ⟨rfl, g1, a1, cap1, e1, e2, e3, fun b off e => .inr ⟨off, e⟩⟩)⟩
    case round =>
      clear HJ HL HST
      obtain ⟨r, ok, F, rfl, hrl, hJ, hGl, hFG, hst⟩ := hrel
      rcases hst.out with ⟨rfl, hno⟩ | ⟨rfl, g2, a2, cap2, hg2, hblk, hrec2, hne2⟩
      · have HNO := Lib.hid hno; clear hno hst
        gi_wp2
        all_goals (refine ⟨(fun f e => by cases e), ?_⟩; gi_wp2)
        go_end0
        exact ⟨⟨_, rfl⟩, .inl ⟨_, _, HNO.out, hJ.out⟩⟩
      · have c0 := blk_cell hblk 0 rfl
        have c1 := blk_cell hblk 1 rfl
        have c2 := blk_cell hblk 2 rfl
        obtain ⟨fn, tmps, assign, body, hy, hR⟩ := hY F G r g2 a2 cap2 wr hJ.out hFG.out hg2 hrl hGl.out hrec2 hne2
        have HBL := Lib.hid hblk
        have HR' := Lib.hid hR
        have HG2 := Lib.hid hg2
        have hlt2 := fsS_lt hg2
        clear hR hblk hrec2 hne2 hg2 hst
        gi_wp2
        refine HR'.out.mono ?_
        rintro e W3 (⟨rfl, hJ3, hk3, hz3⟩ | ⟨rfl, hJx3⟩)
        · have HB3 := Lib.hid (show Blk W3 G 164 _ from hk3.trans HBL.out)
          have hl3 := blk_lt HB3.out
          have hFS3 := Lib.hid (show ∀ k, F k → k < W3.heap.size from fun k hk => Nat.lt_of_lt_of_le (hGl.out k hk) hz3)
          clear hz3
          have e2 := blk_cell HB3.out 2 rfl
          have HJ3 := Lib.hid hJ3
          have hM := Lib.hid (segM_yes (x := ba g2.t) c2)
          have hsz2 : (ba g2.t).size = g2.t.length := ba_size _
          clear hJ3 hk3 hy HR' HBL c0 c1 c2
          cases hf2 : fsS g2.t with
          | none =>
            have HF2 := Lib.hid hf2; clear hf2
            have k1 := fun w => first_no (l := g2.t) (by omega) HF2.out w
            gi_wp2
            refine ⟨trivial, ?_⟩
            gi_at_call 138
            refine (callsIn_wide.2 (k1 _)).mono ?_
            rintro e w4 ⟨rfl, b4⟩
            have HB4 := Lib.hid (blk_below HB3.out b4)
            have z0 := blk_cell HB4.out 0 rfl
            have z1 := blk_cell HB4.out 1 rfl
            have z2 := blk_cell HB4.out 2 rfl
            have z3 := blk_frozen HB4.out 0
            have z4 := blk_frozen HB4.out 1
            have z5 := blk_frozen HB4.out 2
            have HJ4 := Lib.hid (fun x y z => hG F g2.t _ _ _ HJ3.out (grown_set3 b4 x y z) (fun k e => by cases e; exact hFG.out))
            have hl4 := b4.size
            have HX4 := Lib.hid (show ∀ k, F k → k < w4.heap.size from fun k hk => by have := hFS3.out k hk; omega)
            clear e2 k1 b4
            gi_wp2
            go_roundw
            case rel => exact ⟨g2.t, false, F, rfl, by omega, Lib.hid (HJ4.out _ _ _), Lib.hid (fun k hk => by have := HX4.out k hk; simpa [World.setCell] using this), hFG, Lib.hid (.inl ⟨rfl, HF2.out⟩)⟩
            case measure => rw [hM.out]; exact Nat.lt_of_lt_of_le (by rw [segM_no]; exact Nat.zero_lt_succ _) (Nat.le_refl _)
          | some g4 =>
            have HF2 := Lib.hid hf2; clear hf2
            have k1 := fun w => first_yes (l := g2.t) (by omega) HF2.out w
            have hlt4 := fsS_lt HF2.out
            gi_wp2
            refine ⟨trivial, ?_⟩
            gi_at_call 138
            refine (callsIn_wide.2 (k1 _)).mono ?_
            rintro e w4 ⟨a4, cap4, rfl, b4, hrec4, hbs4⟩
            have HB4 := Lib.hid (blk_below HB3.out b4)
            have z0 := blk_cell HB4.out 0 rfl
            have z1 := blk_cell HB4.out 1 rfl
            have z2 := blk_cell HB4.out 2 rfl
            have z3 := blk_frozen HB4.out 0
            have z4 := blk_frozen HB4.out 1
            have z5 := blk_frozen HB4.out 2
            have HJ4 := Lib.hid (fun x y z => hG _ g2.t _ _ _ (hF F (fun k => k = G ∨ ∃ off, a4 = some ⟨k, off, none⟩) _ _ HJ3.out (fun k hk => by rcases hk with rfl | ⟨off, e⟩ <;> first | exact .inl hFG.out | exact .inr (hbs4 k off e).1)) (grown_set3 b4 x y z) (fun k e => by cases e; exact .inl rfl))
            have hne4 : ∀ b off, a4 = some ⟨b, off, none⟩ → b ≠ G := fun b off e => by have := (hbs4 b off e).1; omega
            have HST4 : Hid (∃ g a cap, fsS g2.t = some g ∧ Blk (((w4.setCell ⟨G, 0, none⟩ (.int .i64 g4.p)).setCell ⟨G, 1, none⟩ (.slice a4 g4.L.length cap4)).setCell ⟨G, 2, none⟩ (.string (ba g4.t))) G 164 #[.int .i64 g.p, .slice a g.L.length cap, .string (ba g.t)] ∧ Recs (((w4.setCell ⟨G, 0, none⟩ (.int .i64 g4.p)).setCell ⟨G, 1, none⟩ (.slice a4 g4.L.length cap4)).setCell ⟨G, 2, none⟩ (.string (ba g4.t))) a g.L ∧ (∀ b off, a = some ⟨b, off, none⟩ → b = G ∨ ∃ off, a4 = some ⟨b, off, none⟩)) :=
              Lib.hid ⟨g4, a4, cap4, HF2.out, blk_set (blk_set (blk_set HB4.out 0 _) 1 _) 2 _, recs_set (recs_set (recs_set hrec4 hne4 0 _) hne4 1 _) hne4 2 _, fun b off e => .inr ⟨off, e⟩⟩
            have HX4 := Lib.hid (show ∀ k, (k = G ∨ ∃ off, a4 = some ⟨k, off, none⟩) → k < w4.heap.size from fun k hk => by rcases hk with rfl | ⟨off, e⟩ <;> first | (have := b4.size; omega) | exact (hbs4 k off e).2)
            have HM4 := Lib.hid (segM_yes (x := ba g4.t) (blk_cell (blk_set (blk_set (blk_set HB4.out 0 (.int .i64 g4.p)) 1 (.slice a4 g4.L.length cap4)) 2 (.string (ba g4.t))) 2 rfl))
            have hl4 := b4.size
            clear e2 k1 b4 hrec4 hbs4 hne4
            gi_wp2
            go_roundw
            case rel => exact ⟨g2.t, true, _, rfl, by omega, Lib.hid (HJ4.out _ _ _), Lib.hid (fun k hk => by have := HX4.out k hk; simpa [World.setCell] using this), Lib.hid (.inl rfl), Lib.hid (.inr ⟨rfl, HST4.out⟩)⟩
            case measure => rw [hM.out, HM4.out, ba_size]; omega
        · gi_wp2
          go_end0
          exact ⟨⟨_, rfl⟩, .inr hJx3⟩
end Go.Proofs.YthfebcfdhmihcaaGreatDoor

namespace Go.Proofs.YthfebcfdhmihcaaGreatDoor
open Go.RowKit

/-- How a round may be left. -/
def segPost (D G : Nat) (F : Nat → Prop) (I : (Nat → Prop) → List UInt8 → World → Prop) (Ix : Code → World → Prop) (r : List UInt8) (W : World) : Exit → Act → World → Prop
  | .normal, _, W' => (W'.heap[D]? = W.heap[D]? ∧ W'.heap[D + 1]? = W.heap[D + 1]? ∧ W'.heap[G]? = W.heap[G]? ∧ W.heap.size ≤ W'.heap.size) ∧ I F r W'
  | .exit id, _, W' => (W'.heap[D]? = W.heap[D]? ∧ W'.heap[D + 1]? = W.heap[D + 1]?) ∧ Ix (.exit id) W'
  | _, _, _ => False
theorem recs_put {W : World} {a : Option Addr} {L : List R11} (h : Recs W a L) {l : Nat} {o : Obj} (o' : Obj) (hl : W.heap[l]? = some o) (ho : o.isCells = false) : Recs (W.putObj l o') a L := by
  have hg := grownBy_putObj' W l o'
  have hr : ∀ r, some l = some r → ∃ o : Obj, W.heap[r]? = some o ∧ o.isCells = false := fun r e => by cases e; exact ⟨o, hl, ho⟩
  intro j hj
  obtain ⟨b, off, ha, hlt, h1, h2⟩ := h j hj
  exact ⟨b, off, ha, by simpa using hlt, cell_kept h1 hg hr, cell_kept h2 hg hr⟩
theorem blk_put {W : World} {g : Nat} {t : TypeId} {cs : Array Value} (h : Blk W g t cs) {l : Nat} (o' : Obj) (hne : g ≠ l) : Blk (W.putObj l o') g t cs := (World.putObj_heap_other hne).trans h

theorem wpIn_segs {n : Nat} {g : Operand} {p q : Tmp} {assign body : Code} {Q : Exit → Act → World → Prop} {a : Act} {w : World} (hn : 2 ≤ n) (b : Nat) (s : List UInt8) (hs : s.length ≤ 1048576)
    (hg : a.eval g = .func (.func 137) #[] #[.pointer (some ⟨b, 0, none⟩)]) (hb : Blk w b 9 #[.string (ba s)])
    (I : (Nat → Prop) → List UInt8 → World → Prop) (Ix : Code → World → Prop)
    (hI : ∀ F r A B row, I F r A → A.grownBy B row → (∀ k, row = some k → F k ∨ k = w.heap.size ∨ k = w.heap.size + 1) → I F r B)
    (hIF : ∀ (F F' : Nat → Prop) r A, I F r A → w.heap.size + 1 < A.heap.size → (∀ k, F' k → F k ∨ A.heap.size ≤ k) → I F' r A)
    (hIx : ∀ c A B row, Ix c A → A.grownBy B row → (∀ k, row = some k → k = w.heap.size ∨ k = w.heap.size + 1) → Ix c B)
    (h0 : ∀ W, Below w.heap.size w W → w.heap.size + 1 < W.heap.size → I (fun _ => False) s W)
    (hassign : ∀ (l : Nat) (x : Int) (z : ByteArray) (a1 : Option Addr) (len cap : Nat) (W : World) (K : Act → World → Prop), K { tmps := (a.tmps.setIfInBounds p (.agg #[.int .i64 x, .slice a1 len cap, .string z])).setIfInBounds q (.pointer (some ⟨W.heap.size, 0, none⟩)), defers := [] } (W.alloc (.cells #[.int .i64 x, .slice a1 len cap, .string z] 164)) →
      assign.wpIn (Fence.wide.inRound l) (n - 1 - 1) Tryz.prog (Exit.then K (fun _ _ _ => False)) { tmps := a.tmps.setIfInBounds p (.agg #[.int .i64 x, .slice a1 len cap, .string z]), defers := [] } W)
    (hbody : ∀ (l G X : Nat) (F : Nat → Prop) (r : List UInt8) (g : S11) (a1 : Option Addr) (cap : Nat) (W : World), (∀ k, F k → w.heap.size + 1 < k) → F G → (∀ k, F k → k < X) → X < W.heap.size → I F r W → fsS r = some g → r.length ≤ s.length → Recs W a1 g.L → (∀ b off, a1 = some ⟨b, off, none⟩ → F b) → Blk W X 164 #[.int .i64 g.p, .slice a1 g.L.length cap, .string (ba g.t)] →
      body.wpIn (Fence.wide.inRound l) (n - 1 - 1) Tryz.prog (segPost w.heap.size G F I Ix g.t W) { tmps := (a.tmps.setIfInBounds p (.agg #[.int .i64 g.p, .slice a1 g.L.length cap, .string (ba g.t)])).setIfInBounds q (.pointer (some ⟨X, 0, none⟩)), defers := [] } W)
    (hdone : ∀ (F : Nat → Prop) (r : List UInt8) (W : World), fsS r = none → I F r W → W.heap[w.heap.size]? = some (.deferred (some [])) → Q .normal { a with defers := { target := .collected w.heap.size, args := #[] } :: a.defers } W)
    (hstop : ∀ (c : Code) (W : World), Ix c W → W.heap[w.heap.size]? = some (.deferred (some [])) → c.wpIn Fence.wide n Tryz.prog Q { a with defers := { target := .collected w.heap.size, args := #[] } :: a.defers } W) :
    (Code.rangeFunc g #[p] assign body).wpIn Fence.wide n Tryz.prog Q a w := by
  refine wpIn_rangeFunc fun fn hfn => ?_
  rw [show (Fence.wide).round = none from rfl]
  obtain ⟨D, hD⟩ : ∃ D, D = w.heap.size := ⟨_, rfl⟩
  obtain ⟨rc, hrc⟩ : ∃ rc : LoopState → Option Code → Loop, rc = fun st pe => { state := st, pending := pe, fn := fn, tmps := a.tmps, params := #[p], assign := assign, body := body, defers := w.heap.size } := ⟨_, rfl⟩
  have henter := run_enterLoop_outer (P := Tryz.prog) (w := w) fn a.tmps #[p] assign body
  obtain ⟨W1, hW1⟩ : ∃ W1, W1 = (w.alloc (.deferred (some []))).alloc (.loop (rc .ready none)) := ⟨_, rfl⟩
  have hs1 : W1.heap.size = D + 2 := by rw [hW1, hD]; simp
  have hL1 : W1.heap[D + 1]? = some (.loop (rc .ready none)) := by
    rw [hW1, hD]
    have := World.alloc_heap_new (w.alloc (.deferred (some []))) (.loop (rc .ready none))
    rwa [World.size_alloc] at this
  have hK1 : W1.heap[D]? = some (.deferred (some [])) := by
    rw [hW1, hD]
    exact (Below.heap_alloc _ _ _ (by simp)).trans (World.alloc_heap_new w _)
  have hbw : Below w.heap.size w W1 := by rw [hW1]; exact blw2 _ _ _
  have hrun : (Instr.enterLoop fn a.tmps #[p] assign body none).run Tryz.prog w = .ok (D + 1, [{ target := .collected w.heap.size, args := #[] }]) W1 := by
    rw [henter, hW1, hrc, hD]
  have hb1 := blk_below hb hbw
  rw [← hD] at hI hIF hIx h0 hbody hdone hstop hrun hbw
  clear henter hW1 hb
  have hrp : (rc .ready none).params = #[p] := by rw [hrc]
  refine ⟨D + 1, [{ target := .collected D, args := #[] }], W1, { target := .fn (.func 137) #[.pointer (some ⟨b, 0, none⟩)], args := #[.func (.yield (D + 1)) #[] #[]] }, W1, 137,
    #[.func (.yield (D + 1)) #[] #[], .pointer (some ⟨b, 0, none⟩)], W1, hrun, ?_, fun _ _ => trivial, ?_, fun _ => by omega, ?_⟩
  · simp only [resolve, hg]
    simp [go_sem]
  · have eg := fun args w => enters_of (P := Tryz.prog) Tryz.func137 (by kernel_rfl) rfl args w
    simp [invoke, go_sem, eg]
  refine (segs1_in (n - 1) (by omega) (D + 1) b s hs
    (fun F r W => (∀ k, F k → D + 1 < k) ∧ I F r W ∧ W.heap[D + 1]? = some (.loop (rc .ready none)) ∧ W.heap[D]? = some (.deferred (some [])))
    (fun W => ∃ c, Ix c W ∧ W.heap[D + 1]? = some (.loop (rc .done (some c))) ∧ W.heap[D]? = some (.deferred (some [])))
    ?hG ?hF ?hY W1 hb1 ?h0).mono ?_
  case hG =>
    rintro F r A B row ⟨hDG, hi, hl, hk⟩ hgr hrow
    have l1 := (Array.getElem?_eq_some_iff.1 hl).1
    exact ⟨hDG, hI F r A B _ hi hgr (fun k e => .inl (hrow k e)), (hgr.block (D + 1) l1 (fun e => by have := hDG _ (hrow _ e.symm); omega)).trans hl, (hgr.block D (by omega) (fun e => by have := hDG _ (hrow _ e.symm); omega)).trans hk⟩
  case hF =>
    rintro F F' r A ⟨hDG, hi, hl, hk⟩ hFF
    have l1 := (Array.getElem?_eq_some_iff.1 hl).1
    exact ⟨fun k hk' => (hFF k hk').elim (fun h => hDG k h) (fun h => by omega), hIF F F' r A hi l1 hFF, hl, hk⟩
  case h0 => exact ⟨fun k h => h.elim, h0 W1 hbw (by omega), hL1, hK1⟩
  case hY =>
    rintro F G r g1 a1 cap W ⟨hDF, hi, hl, hk⟩ hFG hfs hrl hGl hrec hne
    have hDG := hDF G hFG
    have hFl := hGl
    replace hGl := hGl G hFG
    have hy := run_yield (P := Tryz.prog) (args := #[.agg #[.int .i64 g1.p, .slice a1 g1.L.length cap, .string (ba g1.t)]]) hl (by rw [hrp]; rfl)
    rw [hrc] at hy
    refine ⟨fn, a.tmps.setIfInBounds p (.agg #[.int .i64 g1.p, .slice a1 g1.L.length cap, .string (ba g1.t)]), assign, body, by simpa using hy, roundIn_of_wpIn hfn (hassign (D + 1) g1.p (ba g1.t) a1 _ cap W _ ?_)⟩
    obtain ⟨ob, hob⟩ : ∃ ob, ob = Obj.cells #[.int .i64 g1.p, .slice a1 g1.L.length cap, .string (ba g1.t)] 164 := ⟨_, rfl⟩
    have hl2 : (W.alloc ob).heap[D + 1]? = some (.loop (rc .ready none)) := (Below.heap_alloc _ _ _ (by omega)).trans hl
    have hk2 : (W.alloc ob).heap[D]? = some (.deferred (some [])) := (Below.heap_alloc _ _ _ (by omega)).trans hk
    have hi2 : I F r (W.alloc ob) := hI _ _ _ _ none hi (World.grownBy_alloc W ob none) (fun k e => by cases e)
    have hX2 : Blk (W.alloc ob) W.heap.size 164 #[.int .i64 g1.p, .slice a1 g1.L.length cap, .string (ba g1.t)] := by rw [hob]; exact blk_new _ _ _
    have hrec2 := recs_alloc hrec ob
    have hsz2 : (W.alloc ob).heap.size = W.heap.size + 1 := by simp
    have hGV : (W.alloc ob).heap[G]? = W.heap[G]? := Below.heap_alloc _ _ _ (by omega)
    rw [← hob]
    clear hob
    generalize W.alloc ob = V at *
    refine ⟨_, run_beginRound hl2 (by rw [hrc]), ?_⟩
    have hlt : D + 1 < V.heap.size := by omega
    have hl3 : (V.putObj (D + 1) (.loop { rc .ready none with state := .busy })).heap[D + 1]? = some (.loop { rc .ready none with state := .busy }) := World.putObj_heap_same hlt
    have hk3 : (V.putObj (D + 1) (.loop { rc .ready none with state := .busy })).heap[D]? = some (.deferred (some [])) := (World.putObj_heap_other (by omega)).trans hk2
    have hi3 := hI _ _ _ _ _ hi2 (grownBy_putObj' V (D + 1) (.loop { rc .ready none with state := .busy })) (fun k e => .inr (.inr (Option.some.inj e).symm))
    have hX3 := blk_put hX2 (.loop { rc .ready none with state := .busy }) (l := D + 1) (by omega)
    have hrec3 := recs_put hrec2 (.loop { rc .ready none with state := .busy }) hl2 rfl
    have hsz3 : (V.putObj (D + 1) (.loop { rc .ready none with state := .busy })).heap.size = W.heap.size + 1 := by simp [hsz2]
    have hG3 : (V.putObj (D + 1) (.loop { rc .ready none with state := .busy })).heap[G]? = V.heap[G]? := World.putObj_heap_other (by omega)
    have hXs : W.heap.size < (V.putObj (D + 1) (.loop { rc .ready none with state := .busy })).heap.size := by omega
    have hb := hbody (D + 1) G W.heap.size F r g1 a1 cap _ hDF hFG hFl hXs hi3 hfs hrl hrec3 hne hX3
    clear hi3 hX3 hrec3
    revert hl3 hk3 hG3 hb hsz3 hXs
    generalize V.putObj (D + 1) (.loop { rc .ready none with state := .busy }) = U
    intro hl3 hk3 hsz3 hG3 hXs hb
    refine wpIn_mono hb ?_
    rintro e a3 W3 hp
    cases e with
    | normal =>
      obtain ⟨⟨kD, kD1, kG, kS⟩, hi4⟩ := hp
      have hl4 := kD1.trans hl3
      have hr := run_endRound (P := Tryz.prog) none hl4
      rw [hrc] at hr
      refine ⟨_, _, hr, .inl ⟨rfl, ⟨hDF, hI _ _ _ _ _ hi4 (grownBy_putObj' _ _ _) (fun k e => .inr (.inr (Option.some.inj e).symm)), ?_, (World.putObj_heap_other (by omega)).trans (kD.trans hk3)⟩, ?_, ?_⟩⟩
      · rw [World.putObj_heap_same (Array.getElem?_eq_some_iff.1 hl4).1, hrc]; rfl
      · exact (World.putObj_heap_other (by omega)).trans (kG.trans (hG3.trans hGV))
      · rw [World.putObj_size]; omega
    | exit id =>
      obtain ⟨⟨kD, kD1⟩, hi4⟩ := hp
      have hl4 := kD1.trans hl3
      have hr := run_endRound (P := Tryz.prog) (some (.exit id)) hl4
      rw [hrc] at hr
      refine ⟨_, _, hr, .inr ⟨rfl, .exit id, hIx _ _ _ _ hi4 (grownBy_putObj' _ _ _) (fun k e => .inr (Option.some.inj e).symm), ?_, (World.putObj_heap_other (by omega)).trans (kD.trans hk3)⟩⟩
      rw [World.putObj_heap_same (Array.getElem?_eq_some_iff.1 hl4).1, hrc]; rfl
    | ret => exact hp.elim
    | goto t => exact hp.elim
    | panic ch => exact hp.elim
    | outgrown => exact hp.elim
  · rintro e W2 ⟨⟨v, rfl⟩, (⟨G, r, hno, hDG, hi, hl, hk⟩ | ⟨c, hi, hl, hk⟩)⟩
    · have hr := run_endLoop (P := Tryz.prog) hl (by rw [hrc]; simp)
      exact ⟨none, _, by rw [hrc] at hr; exact hr, by
        have := hdone G r _ hno (hI _ _ _ _ _ hi (grownBy_putObj' W2 (D + 1) (.loop { rc .ready none with state := .exhausted })) (fun k e => .inr (.inr (Option.some.inj e).symm))) ((World.putObj_heap_other (by omega)).trans hk)
        rw [hrc] at this
        exact this⟩
    · have hr := run_endLoop (P := Tryz.prog) hl (by rw [hrc]; simp)
      exact ⟨some c, _, by rw [hrc] at hr; exact hr, by
        have := hstop c _ (hIx _ _ _ _ hi (grownBy_putObj' W2 (D + 1) (.loop { rc .done (some c) with state := .exhausted })) (fun k e => .inr (Option.some.inj e).symm)) ((World.putObj_heap_other (by omega)).trans hk)
        rw [hrc] at this
        exact this⟩
end Go.Proofs.YthfebcfdhmihcaaGreatDoor

namespace Go.Proofs.YthfebcfdhmihcaaGreatDoor
open Go.RowKit

theorem spclone_any (s : ByteArray) (w : World) (h : s.size ≤ 281474976710656) :
    Calls Tryz.prog 38 #[.string s] w fun e w' => e = .returned (.string s) ∧ Below w.heap.size w w' := by
  have hc := fun w => Tryz.stringslite_Clone s w h
  go_enter Tryz.func38, Tryz.ntmps38
  go_wp2_with (go_at_call 83; refine (hc _).mono ?_; rintro e w' ⟨rfl, hb⟩)
  go_ret
  exact ⟨rfl, hb⟩
theorem sp_grown_then {w w1 w2 : World} {b : Nat} (h : w.grownBy w1 (some b)) (h2 : Below w1.heap.size w1 w2) : w.grownBy w2 (some b) := Lib.grownBy_trans h (below_grown h2 rfl)
set_option maxHeartbeats 1000000 in
theorem sppath_any (b : Nat) (l : List UInt8) (w : World) (hs : l.length ≤ 1048576) (h : Rdr w b l) :
    Calls Tryz.prog 171 #[.pointer (some ⟨b, 0, none⟩)] w fun e w' => e = .returned (.string (ba (pthP l).1)) ∧ Rdr w' b (pthP l).2 ∧ w.grownBy w' (some b) := by
  have k1 := spnumber_any b l w hs h
  have hbd := nmL_bd l
  obtain ⟨r, hr⟩ : ∃ r, r = pthP l := ⟨_, rfl⟩
  rw [← hr]
  rw [pthP] at hr
  obtain ⟨n, hn⟩ : ∃ n, n = nmL l := ⟨_, rfl⟩
  rw [← hn] at k1 hr hbd
  clear hn h
  have hl4 : (l.drop 4).length ≤ 1048576 := by rw [List.length_drop]; omega
  by_cases h40 : 40 < n
  · rw [if_pos h40] at hr; subst hr
    go_enter Tryz.func171, Tryz.ntmps171
    go_wp2_with (first | (go_at_call 196; refine k1.mono ?_; rintro e w1 ⟨rfl, hr, hg⟩))
    go_ret
    exact ⟨rfl, hr, hg⟩
  rw [if_neg h40] at hr; subst hr
  obtain ⟨m, rfl⟩ : ∃ m : Nat, n = m := ⟨n.toNat, by omega⟩
  rw [Int.toNat_natCast]
  have k2 := fun w (h : Rdr w b (l.drop 4)) => sptake_any b (l.drop 4) m w hl4 (by omega) h
  have k3 := fun w => spclone_any (ba ((l.drop 4).take m)) w (by rw [ba_size, List.length_take]; omega)
  generalize l.drop 4 = q at k1 k2 k3 ⊢
  go_enter Tryz.func171, Tryz.ntmps171
  go_wp2_with (first | (go_at_call 196; refine k1.mono ?_; rintro e w1 ⟨rfl, hr, hg⟩) | (go_at_call 170; refine (k2 _ hr).mono ?_; rintro e w2 ⟨rfl, hr2, hg2⟩) | (go_at_call 38; refine (k3 _).mono ?_; rintro e w3 ⟨rfl, hb⟩))
  go_ret
  exact ⟨rfl, blk_below hr2 hb, sp_grown_then (Lib.grownBy_trans hg hg2) hb⟩
theorem spname_any (b : Nat) (l : List UInt8) (w : World) (hs : l.length ≤ 1048576) (h : Rdr w b l) :
    Calls Tryz.prog 139 #[.pointer (some ⟨b, 0, none⟩)] w fun e w' => e = .returned (.string (ba (nmP l))) ∧ w.grownBy w' (some b) := by
  have k1 := sptake_any b l 8 w hs (by decide) h
  have k2 := fun w (h : Rdr w b (l.drop 8)) => sppath_any b (l.drop 8) w (by rw [List.length_drop]; omega) h
  rw [nmP]
  generalize l.drop 8 = q at k1 k2 ⊢
  clear h
  go_enter Tryz.func139, Tryz.ntmps139
  go_wp2_with (first | (go_at_call 170; refine k1.mono ?_; rintro e w1 ⟨rfl, hr, hg⟩) | (go_at_call 171; refine (k2 _ hr).mono ?_; rintro e w2 ⟨rfl, hr2, hg2⟩))
  go_ret
  exact ⟨rfl, Lib.grownBy_trans hg hg2⟩
end Go.Proofs.YthfebcfdhmihcaaGreatDoor

namespace Go.Proofs.YthfebcfdhmihcaaGreatDoor
open Go.RowKit

/-- The strings of a slice. -/
def Strs (w : World) (a : Option Addr) (L : List (List UInt8)) : Prop := ∀ j (h : j < L.length), ∃ b off, a = some ⟨b, off, none⟩ ∧ b < w.heap.size ∧ w.cell? ⟨b, off + j, none⟩ = some (.string (ba L[j]))
theorem strs_below {w w' : World} {a : Option Addr} {L : List (List UInt8)} (h : Strs w a L) (hb : Below w.heap.size w w') : Strs w' a L := by
  intro j hj
  obtain ⟨b, off, e, hlt, hc⟩ := h j hj
  exact ⟨b, off, e, Nat.lt_of_lt_of_le hlt hb.size, by rw [hb.cell hlt]; exact hc⟩
theorem strs_nil (w : World) (a : Option Addr) : Strs w a [] := fun j hj => absurd hj (Nat.not_lt_zero j)
/-- The cells of a row of strings. -/
def strF (L : List (List UInt8)) (j : Nat) : Value := .string (ba (L.getD j []))
theorem strF_snoc {w : World} {g n : Nat} {L : List (List UInt8)} (p : List UInt8) (h : w.rowIs g 9 n (strF L)) : (w.setCell ⟨g, L.length, none⟩ (.string (ba p))).rowIs g 9 n (strF (L ++ [p])) := by
  refine (h.set L.length _).congr fun j hj => ?_
  unfold strF
  by_cases h1 : j = L.length
  · rw [if_pos h1, h1]; simp
  · rw [if_neg h1]
    by_cases h3 : j < L.length
    · simp [List.getD, List.getElem?_append_left h3]
    · rw [List.getD_eq_getElem?_getD, List.getD_eq_getElem?_getD, List.getElem?_eq_none (l := L) (by omega), List.getElem?_eq_none (l := L ++ [p]) (by rw [List.length_append]; simp; omega)]
theorem strs_row {w : World} {g : Nat} {L : List (List UInt8)} (h : w.rowIs g 9 L.length (strF L)) : Strs w (some ⟨g, 0, none⟩) L := by
  intro j hj
  refine ⟨g, 0, rfl, h.lt, ?_⟩
  have := h.cell hj
  rw [Nat.zero_add, this]
  simp [strF, List.getD, List.getElem?_eq_getElem hj]
theorem infoS : ∃ i, Tryz.prog.info? 9 = some i ∧ i.zero = some (.string ByteArray.empty) ∧ i.size = 1 ∧ i.bytes = 16 := by
  obtain ⟨i, hi, hz⟩ := Option.map_eq_some_iff.1 (show (Tryz.prog.info? 9).map (fun i => (i.zero, i.size, i.bytes)) = some (some (.string ByteArray.empty), 1, 16) by kernel_rfl)
  simp only [Prod.mk.injEq] at hz
  exact ⟨i, hi, hz⟩
theorem made_str (n : Nat) (w : World) : (w.alloc (.cells (madeCells #[.string ByteArray.empty] n) 9)).rowIs w.heap.size 9 n (strF []) := by
  refine ⟨_, Deep.blk_alloc_new _ _, by rw [size_madeCells], fun j hj => ?_⟩
  unfold madeCells strF
  simp [hj, Nat.mod_one]
  rfl
theorem make_str (n : Nat) (hn : n ≤ 16) (w : World) : (Instr.makeSlice 43 (.int .i64 (n : Int)) (.int .i64 (n : Int))).run Tryz.prog w = .ok (.slice (some ⟨w.heap.size, 0, none⟩) n n) (w.alloc (.cells (madeCells #[.string ByteArray.empty] n) 9)) := by
  obtain ⟨i, hi, hz, h2, hb⟩ := infoS
  have h := run_make (P := Tryz.prog) w 43 9 i _ Tryz.underlying43 hi hz .i64 .i64 (n : Int) (n : Int) (by omega) (by omega) (by rw [hb]; omega) (by omega)
  rw [h2, Int.toNat_natCast, Nat.mul_one] at h
  exact h
theorem pths_len (k : Nat) (r : List UInt8) : (pths k r).1.length = k := by
  induction k with
  | zero => rfl
  | succ k ih => rw [pths, List.length_append, ih]; rfl
theorem pthP_le (l : List UInt8) : (pthP l).2.length ≤ l.length := by
  unfold pthP; split
  · simp
  · simp only [List.length_drop]; omega
theorem pths_le (k : Nat) (r : List UInt8) : (pths k r).2.length ≤ r.length := by
  induction k with
  | zero => exact Nat.le_refl _
  | succ k ih => rw [pths]; exact Nat.le_trans (pthP_le _) ih
theorem sgrown_set {a w : World} {row : Option Nat} (h : a.grownBy w row) {g : Nat} (hg : a.heap.size ≤ g) (i : Nat) (v : Value) : a.grownBy (w.setCell ⟨g, i, none⟩ v) row :=
  ⟨h.os, h.tape, h.output, by rw [World.size_setCell]; exact h.size, fun k hk hne => by
    rw [Below.heap_setCell w ⟨g, i, none⟩ v k (by show k ≠ g; omega)]; exact h.block k hk hne⟩

set_option maxRecDepth 100000 in
set_option maxHeartbeats 1000000 in
theorem spfiles_new (b : Nat) (l : List UInt8) (w : World) (hs : l.length ≤ 1048576) (h : Rdr w b l) :
    Calls Tryz.prog 181 #[.pointer (some ⟨b, 0, none⟩)] w fun e w' => ∃ a cap, (flP l).length ≤ cap ∧ e = .returned (.slice a (flP l).length cap) ∧ Strs w' a (flP l) ∧ w.grownBy w' (some b) ∧ ∀ g o, a = some ⟨g, o, none⟩ → w.heap.size ≤ g := by
  have hbw := blk_lt h
  have k1 := sptake_any b l 8 w hs (by decide) h
  have k2 := fun w (h : Rdr w b (l.drop 8)) => spnumber_any b (l.drop 8) w (by rw [List.length_drop]; omega) h
  have hbd := nmL_bd (l.drop 8)
  have e12 : (l.drop 8).drop 4 = l.drop 12 := by rw [List.drop_drop]
  rw [e12] at k2
  obtain ⟨r, hr⟩ : ∃ r, r = flP l := ⟨_, rfl⟩
  rw [← hr]
  rw [flP] at hr
  obtain ⟨n, hn⟩ : ∃ n, n = nmL (l.drop 8) := ⟨_, rfl⟩
  rw [← hn] at k2 hr hbd
  clear hn e12 h
  by_cases h12 : 12 < n
  · rw [if_pos h12] at hr; subst hr
    go_enter Tryz.func181, Tryz.ntmps181
    go_wp2_with (first | (go_at_call 170; refine k1.mono ?_; rintro e w1 ⟨rfl, hr, hg⟩) | (go_at_call 196; refine (k2 _ hr).mono ?_; rintro e w2 ⟨rfl, hr2, hg2⟩))
    go_ret
    exact ⟨none, 0, Nat.le_refl _, rfl, strs_nil _ _, Lib.grownBy_trans hg hg2, fun g o e => by cases e⟩
  rw [if_neg h12] at hr
  obtain ⟨m, rfl⟩ : ∃ m : Nat, n = m := ⟨n.toNat, by omega⟩
  rw [Int.toNat_natCast] at hr
  have hql : (l.drop 12).length ≤ 1048576 := by rw [List.length_drop]; omega
  generalize l.drop 12 = q at k2 hr hql
  have hm : m ≤ 12 := by omega
  have hrl : r.length = m := by rw [hr, pths_len]
  have HR := Lib.hid hr; clear hr
  rw [hrl]
  clear hrl
  have hmk := fun w => make_str m (by omega) w
  have k3 := fun k w (h : Rdr w b (pths k q).2) => sppath_any b (pths k q).2 w (Nat.le_trans (pths_le k q) hql) h
  go_enter Tryz.func181, Tryz.ntmps181
  go_wp2_with (first | (go_at_call 170; refine k1.mono ?_; rintro e w1 ⟨rfl, hr, hg⟩) | (go_at_call 196; refine (k2 _ hr).mono ?_; rintro e w2 ⟨rfl, hr2, hg2⟩))
  have HRD := Lib.hid (show Rdr _ b (pths 0 q).2 from blk_alloc hr2 (.cells (madeCells #[.string ByteArray.empty] m) 9))
  have HM := Lib.hid (show World.rowIs _ w2.heap.size 9 m (strF (pths 0 q).1) from made_str m w2)
  have HG := Lib.hid (Lib.grownBy_trans (Lib.grownBy_trans hg hg2) (World.grownBy_alloc w2 (.cells (madeCells #[.string ByteArray.empty] m) 9) (some b)))
  have hgb : b ≠ w2.heap.size := by have := blk_lt hr2; omega
  have hwg : w.heap.size ≤ w2.heap.size := (Lib.grownBy_trans hg hg2).size
  generalize (w2.alloc (.cells (madeCells #[.string ByteArray.empty] m) 9)) = W0 at HRD HM HG ⊢
  obtain ⟨g, hgg⟩ : ∃ g, w2.heap.size = g := ⟨_, rfl⟩
  rw [hgg] at HM hgb hwg ⊢
  clear hgg hmk hr hg hr2 hg2 k1 k2
  go_loopw [20] (fun i wr => ∃ (k : Nat), k ≤ m ∧ i = .int .i64 k ∧ Hid (Rdr wr b (pths k q).2) ∧ Hid (wr.rowIs g 9 m (strF (pths k q).1)) ∧ Hid (w.grownBy wr (some b))) (fun i _ => m - (intOf i).toNat)
  case atStart => exact ⟨0, by omega, rfl, HRD, HM, HG⟩
  case round =>
    obtain ⟨k, hk, rfl, hrd, hrow, hgr⟩ := hrel
    clear HRD HM HG
    by_cases hlt : k < m
    · have hgl := hrow.out.lt
      have hkl := pths_len k q
      have hp := k3 k
      have e1 : (pths (k + 1) q).1 = (pths k q).1 ++ [(pthP (pths k q).2).1] := rfl
      have e2 : (pths (k + 1) q).2 = (pthP (pths k q).2).2 := rfl
      have HK := Lib.hid (show ∀ w' : World, w'.rowIs g 9 m (strF (pths k q).1) → (w'.setCell ⟨g, k, none⟩ (.string (ba (pthP (pths k q).2).1))).rowIs g 9 m (strF (pths (k + 1) q).1) from fun w' h => by
        have := strF_snoc (pthP (pths k q).2).1 h
        rw [hkl] at this
        rw [e1]; exact this)
      rw [← e2] at hp
      clear e1 e2 hkl
      generalize pthP (pths k q).2 = x at hp HK
      go_wp2_with (go_at_call 171; refine (hp _ hrd.out).mono ?_; rintro e w1 ⟨rfl, q1, q2⟩; have hrow1 := World.rowIs.of_block hrow.out (q2.block g hgl (fun e => hgb (Option.some.inj e).symm)); have hgl1 := hrow1.lt; have g0 := hrow1.cell (i := k) (by omega); have g2 := hrow1.frozen k)
      go_roundw
      case rel =>
        exact ⟨k + 1, by omega, by go_num, Lib.hid (blk_other q1 hgb _ _), Lib.hid (HK.out _ hrow1), Lib.hid (sgrown_set (Lib.grownBy_trans hgr.out q2) hwg _ _)⟩
      case measure => simp [intOf]; omega
    · obtain rfl : k = m := by omega
      go_wp2
      go_ret
      refine ⟨_, _, Nat.le_refl _, rfl, ?_, hgr.out, fun g o e => by cases e; exact hwg⟩
      rw [HR.out]
      refine strs_row ?_
      rw [pths_len]
      exact hrow.out
end Go.Proofs.YthfebcfdhmihcaaGreatDoor

namespace Go.Proofs.YthfebcfdhmihcaaGreatDoor
open Go.RowKit

theorem ck_18 {L : List (List UInt8)} (h : L.length < 2 ∨ 12 < L.length) : ckS L = 18 := by rw [ckS, if_pos h]
theorem ck_13 {L : List (List UInt8)} (h2 : 2 ≤ L.length) (h12 : L.length ≤ 12) {k : Nat} (hk : k < L.length) (h : okS L[k] = false) : ckS L = 13 := by
  rw [ckS, if_neg (by omega), if_pos]
  rw [List.all_eq_false]
  exact ⟨L[k], List.getElem_mem hk, by rw [h]; decide⟩
theorem ck_9 {L : List (List UInt8)} (h2 : 2 ≤ L.length) (h12 : L.length ≤ 12) (ha : ∀ p ∈ L, okS p = true) (h : ¬ L.Nodup) : ckS L = 9 := by
  rw [ckS, if_neg (by omega), if_neg, if_neg h]
  have : L.all okS = true := List.all_eq_true.2 ha
  rw [this]; decide
theorem not_nodup {L : List (List UInt8)} {k : Nat} (hk : k < L.length) (h : L[k] ∈ L.take k) : ¬ L.Nodup := by
  intro hn
  rw [← List.take_append_drop k L, List.nodup_append] at hn
  refine hn.2.2 _ h _ ?_ rfl
  rw [List.drop_eq_getElem_cons hk]
  exact List.mem_cons_self ..
theorem nodup_snoc {L : List (List UInt8)} {k : Nat} (hk : k < L.length) (h : L[k] ∉ L.take k) (hn : (L.take k).Nodup) : (L.take (k + 1)).Nodup := by
  rw [List.take_succ_eq_append_getElem hk, List.nodup_append]
  refine ⟨hn, by simp, ?_⟩
  intro x hx y hy e
  rw [List.mem_singleton] at hy
  subst hy e
  exact h hx
theorem ok_snoc {L : List (List UInt8)} {k : Nat} (hk : k < L.length) (h : okS L[k] = true) (hn : ∀ p ∈ L.take k, okS p = true) : ∀ p ∈ L.take (k + 1), okS p = true := by
  rw [List.take_succ_eq_append_getElem hk]
  intro p hp
  rcases List.mem_append.1 hp with hp | hp
  · exact hn p hp
  · rw [List.mem_singleton] at hp; rw [hp]; exact h
theorem cont_ba {l : List (List UInt8)} {x : List UInt8} : Lib.containsS (l.map ba) (ba x) = decide (x ∈ l) := by
  rw [Bool.eq_iff_iff, Lib.containsS_iff, decide_eq_true_iff, List.mem_map]
  constructor
  · rintro ⟨y, hy, e⟩
    rw [ba_inj.1 e] at hy
    exact hy
  · exact fun h => ⟨x, h, rfl⟩

set_option maxRecDepth 100000 in
set_option maxHeartbeats 1000000 in
theorem spcheck_any (a : Option Addr) (cap : Nat) (L : List (List UInt8)) (w : World) (hl : L.length ≤ 9223372036854775807) (ha : Strs w a L) (hcap : L.length ≤ cap) :
    Calls Tryz.prog 203 #[.slice a L.length cap] w fun e w' => e = .returned (.int .i64 (ckS L)) ∧ w = w' := by
  obtain ⟨r, hr⟩ : ∃ r, r = ckS L := ⟨_, rfl⟩
  rw [← hr]
  have HR := Lib.hid hr; clear hr
  obtain ⟨n, hn⟩ : ∃ n, n = L.length := ⟨_, rfl⟩
  rw [← hn] at hl hcap ⊢
  have HN := Lib.hid hn
  have HA := Lib.hid ha
  clear ha
  by_cases h18 : n < 2 ∨ 12 < n
  · have HE := Lib.hid (show r = 18 by rw [HR.out, ck_18 (by omega)])
    clear hn
    by_cases h2 : n < 2
    · have t1 : decide ((n : Int) < 2) = true := decide_eq_true (by omega)
      go_enter Tryz.func203, Tryz.ntmps203
      go_wp2
      go_ret
      exact ⟨ret_int HE.out.symm, rfl⟩
    · have t1 : decide ((n : Int) < 2) = false := decide_eq_false (by omega)
      have t2 : decide (12 < (n : Int)) = true := decide_eq_true (by omega)
      go_enter Tryz.func203, Tryz.ntmps203
      go_wp2
      go_ret
      exact ⟨ret_int HE.out.symm, rfl⟩
  have g2 : 2 ≤ n := by omega
  have g12 : n ≤ 12 := by omega
  have t1 : decide ((n : Int) < 2) = false := decide_eq_false (by omega)
  have t2 : decide (12 < (n : Int)) = false := decide_eq_false (by omega)
  clear h18 hn hl
  go_enter Tryz.func203, Tryz.ntmps203
  go_wp2
  go_loopw [17] (fun i wr => ∃ k : Nat, k ≤ n ∧ i = .int .i64 k ∧ Hid (∀ p ∈ L.take k, okS p = true) ∧ w = wr) (fun i _ => n - (intOf i).toNat)
  case atStart => exact ⟨0, by omega, rfl, Lib.hid (fun p hp => absurd hp (by simp)), rfl⟩
  case round =>
    obtain ⟨k, hk, rfl, hok, rfl⟩ := hrel
    by_cases hlt : k < n
    · have hlt' : k < L.length := by rw [← HN.out]; exact hlt
      obtain ⟨b, off, rfl, hbw, c0⟩ := HA.out k hlt'
      have HL := Lib.hid hlt'
      obtain ⟨p, hp⟩ : ∃ p, p = L[k]'hlt' := ⟨_, rfl⟩
      have HP := Lib.hid hp
      rw [← hp] at c0
      clear hp
      have kv := fun w => spvalid_any (ba p) w
      rw [ba_list] at kv
      obtain ⟨o, ho⟩ : ∃ o, o = okS p := ⟨_, rfl⟩
      rw [← ho] at kv
      have HO := Lib.hid ho
      clear ho
      cases o
      · go_wp2_with (go_at_call 172; refine (kv _).mono ?_; rintro e w1 ⟨rfl, rfl⟩)
        go_ret
        exact ⟨ret_int (by rw [HR.out]; exact (ck_13 (by rw [← HN.out]; exact g2) (by rw [← HN.out]; exact g12) HL.out (by rw [← HP.out]; exact HO.out.symm)).symm), rfl⟩
      · go_wp2_with (go_at_call 172; refine (kv _).mono ?_; rintro e w1 ⟨rfl, rfl⟩)
        go_roundw
        case rel => exact ⟨k + 1, by omega, by go_num, Lib.hid (ok_snoc HL.out (by rw [← HP.out]; exact HO.out.symm) hok.out), trivial⟩
        case measure => simp [intOf]; omega
    · have HOK := Lib.hid (show ∀ p ∈ L, okS p = true from fun p hp => hok.out p (by rw [List.take_of_length_le (by have := HN.out; omega)]; exact hp))
      clear hok
      go_wp2
      go_loopw [27] (fun i wr => ∃ k : Nat, k ≤ n ∧ i = .int .i64 k ∧ Hid ((L.take k).Nodup) ∧ w = wr) (fun i _ => n - (intOf i).toNat)
      case atStart => exact ⟨0, by omega, rfl, Lib.hid (by simp), rfl⟩
      case round =>
        obtain ⟨k, hk, rfl, hnd, rfl⟩ := hrel
        by_cases hlt : k < n
        · have hlt' : k < L.length := by rw [← HN.out]; exact hlt
          obtain ⟨b, off, rfl, hbw, c0⟩ := HA.out k hlt'
          have HL := Lib.hid hlt'
          obtain ⟨p, hp⟩ : ∃ p, p = L[k]'hlt' := ⟨_, rfl⟩
          have HP := Lib.hid hp
          rw [← hp] at c0
          have kc := Tryz.slices_Contains_string b off k cap (L.map ba) (ba p) w (by rw [List.length_map]; omega) (by omega) (fun j hj => by
            rw [List.length_map] at hj
            obtain ⟨b', off', e, -, c⟩ := HA.out j hj
            injection e with e
            injection e with e1 e2
            subst e1 e2
            rw [c]
            simp [List.getD, List.getElem?_eq_getElem hj])
          rw [← List.map_take, cont_ba] at kc
          clear hp
          obtain ⟨o, ho⟩ : ∃ o, o = decide (p ∈ L.take k) := ⟨_, rfl⟩
          rw [← ho] at kc
          have HO := Lib.hid ho
          clear ho
          have i1 : k ≤ cap := by omega
          have i2 : (k : Int) ≤ cap := by omega
          cases o
          · go_wp2_with (go_at_call 155; refine kc.mono ?_; rintro e w1 ⟨rfl, rfl⟩)
            go_roundw
            case rel => exact ⟨k + 1, by omega, by go_num, Lib.hid (nodup_snoc HL.out (by rw [← HP.out]; exact of_decide_eq_false HO.out.symm) hnd.out), trivial⟩
            case measure => simp [intOf]; omega
          · go_wp2_with (go_at_call 155; refine kc.mono ?_; rintro e w1 ⟨rfl, rfl⟩)
            go_ret
            exact ⟨ret_int (by rw [HR.out]; exact (ck_9 (by rw [← HN.out]; exact g2) (by rw [← HN.out]; exact g12) HOK.out (not_nodup HL.out (by rw [← HP.out]; exact of_decide_eq_true HO.out.symm))).symm), rfl⟩
        · go_wp2
          go_ret
          refine ⟨ret_int ?_, rfl⟩
          rw [HR.out]
          have := HN.out
          refine (ckS_ok.2 ⟨by omega, by omega, HOK.out, ?_⟩).symm
          have h := hnd.out
          rw [List.take_of_length_le (by omega)] at h
          exact h
end Go.Proofs.YthfebcfdhmihcaaGreatDoor

namespace Go.Proofs.YthfebcfdhmihcaaGreatDoor
open Go.RowKit

theorem sbuilderAt_below {T e : TypeId} {B b : Nat} {p : Value} {bs : List Value} {W W' : World} (h : Lib.BuilderAtF T e B b p bs W) (hb : Below W.heap.size W W') : Lib.BuilderAtF T e B b p bs W' := by
  obtain ⟨hB, v, hh, hown, hne⟩ := h
  have hg : W.grownBy W' none := ⟨hb.os, hb.tape, hb.output, hb.size, fun k hk _ => hb.block k hk⟩
  have hlt : b < W.heap.size := by
    obtain ⟨hlt, _⟩ := Array.getElem?_eq_some_iff.1 hh
    exact hlt
  refine ⟨hB, v, (hb.block b hlt).trans hh, hown.kept hg ?_, hne⟩
  cases hv : v.ownBlock with
  | none => exact .inl rfl
  | some g => exact .inr (by simp)
theorem sbuilder_below {T e : TypeId} {B b : Nat} {bs : List Value} {W W' : World} (h : Lib.IsBuilderF T e B b bs W) (hb : Below W.heap.size W W') : Lib.IsBuilderF T e B b bs W' :=
  h.elim (fun x => .inl (sbuilderAt_below x hb)) (fun x => .inr (sbuilderAt_below x hb))
theorem sbyteCells_app (a b : List UInt8) : Lib.byteCells (a ++ b) = Lib.byteCells a ++ Lib.byteCells b := by simp [Lib.byteCells]
theorem sbelow_alloc (w : World) (o : Obj) : Below w.heap.size w (w.alloc o) := (Below.refl _ w).alloc (Nat.le_refl _) o
theorem bd_snoc {L : List (List UInt8)} {k : Nat} (hk : k < L.length) : bdS (L.take (k + 1)) = bdS (L.take k) ++ txS L[k] := by
  rw [List.take_succ_eq_append_getElem hk, bdS_app, bdS, bdS, List.append_nil]

set_option maxRecDepth 100000 in
set_option maxHeartbeats 2000000 in
theorem spencode_any (a : Option Addr) (cap : Nat) (L : List (List UInt8)) (w : World) (hl : L.length ≤ 9223372036854775807) (ha : Strs w a L) (hcap : L.length ≤ cap) :
    Calls Tryz.prog 182 #[.slice a L.length cap] w fun e w' => e = .returned (.tuple #[.string (ba (encS L).1), .int .i64 (encS L).2]) ∧ Below w.heap.size w w' := by
  have hc := spcheck_any a cap L w hl ha hcap
  obtain ⟨x, hx⟩ : ∃ x, x = ckS L := ⟨_, rfl⟩
  rw [← hx] at hc
  by_cases h0 : x = 0
  case neg =>
    have hr : encS L = ([], x) := by rw [encS, if_neg (by rw [← hx]; exact h0), ← hx]
    rw [hr]
    have t1 : (x != 0) = true := by simpa using h0
    clear hr hx h0
    go_enter Tryz.func182, Tryz.ntmps182
    go_wp2_with (go_at_call 203; refine hc.mono ?_; rintro e w0 ⟨rfl, rfl⟩)
    go_ret2
    exact ⟨rfl, Below.refl _ _⟩
  have hr : encS L = (seS (hdS L) 11 sjL, 0) := by rw [encS, if_pos (by rw [← hx, h0])]
  obtain ⟨g2, g12, hok, -⟩ := ckS_ok.1 (hx.symm.trans h0)
  rw [hr]
  rw [h0] at hc
  clear hr hx h0
  simp only
  obtain ⟨n, hn⟩ : ∃ n, n = L.length := ⟨_, rfl⟩
  have HN := Lib.hid hn
  have HA := Lib.hid ha; clear ha
  have HO := Lib.hid hok; clear hok
  have hbl : (bdS L).length ≤ 44 * L.length := bdS_len L fun p hp => (okS_iff.1 (HO.out p hp)).2
  have ks := fun w => spseal_any (ba (hdS L)) (by rw [ba_size, hdS_len]; omega) 11 (by decide) (by decide) (ba sjL) rfl w
  rw [ba_list, ba_list] at ks
  have HBL := Lib.hid (show ∀ k, k < n → (sjF ++ fourL n ++ bdS (L.take k)).length ≤ 600 from fun k hk => by
    have h3 := bdS_len (L.take k) fun p hp => (okS_iff.1 (HO.out p (List.mem_of_mem_take hp))).2
    rw [List.length_take] at h3
    rw [List.length_append, List.length_append, four_len, show sjF.length = 8 from rfl]; omega)
  have HZ := Lib.hid (show hdS L = sjF ++ fourL n ++ bdS L by rw [hn, hdS])
  obtain ⟨z, hz⟩ : ∃ z, z = hdS L := ⟨_, rfl⟩
  rw [← hz] at ks HZ
  rw [← hz]
  clear hz hbl
  rw [← hn] at hl hcap hc g2 g12 ⊢
  clear hn
  have kf := fun w => spfixed_any (n : Int) (by omega) (by omega) w
  rw [Int.toNat_natCast] at kf
  go_enter Tryz.func182, Tryz.ntmps182
  go_wp2_with (first
    | (go_at_call 203; refine hc.mono ?_; rintro e w0 ⟨rfl, rfl⟩; have HI0 := Lib.hid (Lib.IsBuilderF.of (Lib.fresh_isBuilder 267 5 w)))
    | (go_at_call 197; refine (kf _).mono ?_; rintro e w2 ⟨rfl, b2⟩)
    | (go_at_call_of 204 (Value.string ⟨#[97, 110, 110, 120, 115, 117, 112, 114]⟩); refine (Tryz.Builder_WriteString_k w.heap.size w.heap.size [] _ _ HI0.out (by decide) (by simp)).mono ?_; rintro e w1 ⟨rfl, hbd1, hbl1, -⟩)
    | (go_at_call 204; refine (Tryz.Builder_WriteString_k w.heap.size w.heap.size _ _ _ (sbuilder_below (Or.inr hbd1) b2) (by rw [ba_size, four_len]; decide) (by have := b2.size; have := hbl1.size; simp at this; omega)).mono ?_; rintro e w3 ⟨rfl, hbd, hbl, -⟩))
  obtain ⟨B, hB⟩ : ∃ B, B = w.heap.size := ⟨_, rfl⟩
  have hI3 : Lib.IsBuilderF 267 5 B B (Lib.byteCells (sjF ++ fourL n ++ bdS (L.take 0))) w3 := by
    rw [hB, List.take_zero, bdS, List.append_nil, sbyteCells_app]; exact Or.inr hbd
  have hB3 : Below w.heap.size w w3 := ((((sbelow_alloc w _).trans (hbl1.mono (by simp))).trans (b2.mono (by have := hbl1.size; simp at *; omega)))).trans (hbl.mono (Nat.le_refl _))
  have hs3 : B ≤ w3.heap.size := by rw [hB]; exact hB3.size
  have hwB : w.heap.size ≤ B := by omega
  rw [← hB]
  have HI3 := Lib.hid hI3; have HB3 := Lib.hid hB3
  clear hI3 hB3 hbd hbl b2 hbd1 hbl1 HI0 hB hc kf
  have kt := fun p (hp : okS p = true) w => sptext_any (ba p) (by rw [ba_size]; exact (okS_iff.1 hp).2) w
  go_loopw [20] (fun i wr => ∃ k : Nat, k ≤ n ∧ i = .int .i64 k ∧ B ≤ wr.heap.size ∧ Hid (Lib.IsBuilderF 267 5 B B (Lib.byteCells (sjF ++ fourL n ++ bdS (L.take k))) wr) ∧ Hid (Below w.heap.size w wr)) (fun i _ => n - (intOf i).toNat)
  case atStart => exact ⟨0, by omega, rfl, hs3, HI3, HB3⟩
  case round =>
    obtain ⟨k, hk, rfl, hsr, hI, hBr⟩ := hrel
    clear HI3 HB3 hs3
    by_cases hlt : k < n
    · have hlt' : k < L.length := by rw [← HN.out]; exact hlt
      obtain ⟨b, off, rfl, hbw, c0⟩ := HA.out k hlt'
      rw [← hBr.out.cell hbw] at c0
      have HLN := Lib.hid (HBL.out k hlt)
      have HS := Lib.hid (bd_snoc hlt')
      have HOk := Lib.hid (HO.out _ (List.getElem_mem hlt'))
      obtain ⟨p, hp⟩ : ∃ p, p = L[k]'hlt' := ⟨_, rfl⟩
      rw [← hp] at c0 HS HOk
      clear hp hlt'
      have kp := fun w => kt p HOk.out w
      rw [ba_list] at kp
      have hpl : (txS p).length ≤ 44 := by have := okS_iff.1 HOk.out; rw [txS_len]; omega
      clear kt
      go_wp2_with (first
        | (go_at_call 174; refine (kp _).mono ?_; rintro e w5 ⟨rfl, b5⟩)
        | (go_at_call 204; refine (Tryz.Builder_WriteString_k B B _ _ _ (sbuilder_below hI.out b5) (by have := HLN.out; rw [Lib.byteCells_length, ba_size]; omega) (by have h5 := b5.size; omega)).mono ?_; rintro e w6 ⟨rfl, hbd, hbl, -⟩))
      have HI6 : Hid (Lib.IsBuilderF 267 5 B B (Lib.byteCells (sjF ++ fourL n ++ bdS (L.take (k + 1)))) w6) := by
        rw [HS.out, ← List.append_assoc, sbyteCells_app]; exact Or.inr hbd
      have h5 := b5.size
      have h6 := hbl.size
      have HB6 := Lib.hid ((hBr.out.trans (b5.mono (by omega))).trans (hbl.mono hwB))
      clear hbd hbl b5
      go_roundw
      case rel => exact ⟨k + 1, by omega, by go_num, by omega, HI6, HB6⟩
      case measure => simp [intOf]; omega
    · have hkl : L.take k = L := List.take_of_length_le (by have := HN.out; omega)
      rw [hkl, ← HZ.out] at hI
      clear hkl kt HBL
      go_wp2_with (first
        | (go_at_call 205; refine (Tryz.Builder_String_any_k B B _ _ hI.out hsr).mono ?_; rintro e W1 ⟨rfl, h1, b1, k1⟩)
        | (go_at_call 173; refine (ks _).mono ?_; rintro e W2 ⟨rfl, b2⟩))
      go_ret2
      exact ⟨rfl, (hBr.out.trans (b1.mono hwB)).trans (b2.mono (by have := b1.size; omega))⟩
theorem sptrailer_any (s : ByteArray) (w : World) :
    Calls Tryz.prog 140 #[.string s] w fun e w' => e = .returned (.tuple #[.string (ba (trS s.data.toList).1), .int .i64 (trS s.data.toList).2]) ∧ Below w.heap.size w w' := by
  have kv := fun w => spvalid_any s w
  by_cases hok : okS s.data.toList = true
  case neg =>
    have hr : trS s.data.toList = ([], 13) := by rw [trS, if_neg hok]
    rw [hr]
    rw [show okS s.data.toList = false by simpa using hok] at kv
    go_enter Tryz.func140, Tryz.ntmps140
    go_wp2_with (go_at_call 172; refine (kv _).mono ?_; rintro e w0 ⟨rfl, rfl⟩)
    go_ret2
    exact ⟨rfl, Below.refl _ _⟩
  have hr : trS s.data.toList = (seS (stF ++ txS s.data.toList) 13 stL, 0) := by rw [trS, if_pos hok]
  rw [hr]
  rw [hok] at kv
  have hl : s.data.toList.length = s.size := by simp
  have h40 := okS_iff.1 hok
  have kt := fun w => sptext_any s (by omega) w
  have hz := ba_size (txS s.data.toList)
  rw [txS_len] at hz
  have hfz : (ba stF).size = 8 := rfl
  have ks := fun w => spseal_any (ba (stF ++ txS s.data.toList)) (by rw [ba_size, List.length_append, txS_len, show stF.length = 8 from rfl]; omega) 13 (by decide) (by decide) (ba stL) rfl w
  rw [ba_list, ba_list, ← ba_app] at ks
  generalize ba (seS (stF ++ txS s.data.toList) 13 stL) = y at ks ⊢
  obtain ⟨x, hx⟩ : ∃ x, x = ba (txS s.data.toList) := ⟨_, rfl⟩
  rw [← hx] at kt ks hz
  clear hx hr hok
  go_enter Tryz.func140, Tryz.ntmps140
  go_wp2_with (first
    | (go_at_call 172; refine (kv _).mono ?_; rintro e w0 ⟨rfl, rfl⟩)
    | (go_at_call 174; refine (kt _).mono ?_; rintro e w1 ⟨rfl, b1⟩)
    | (go_at_call 173; refine (ks _).mono ?_; rintro e w2 ⟨rfl, b2⟩))
  go_ret2
  exact ⟨rfl, b1.trans (b2.mono b1.size)⟩
end Go.Proofs.YthfebcfdhmihcaaGreatDoor

namespace Go.Proofs.YthfebcfdhmihcaaGreatDoor
open Go.RowKit

theorem twice_not {L : List (List UInt8)} {i k : Nat} (hk : k < i) (hi : i < L.length) (h : L[i] = L[k]) : ¬ L.Nodup := by
  refine not_nodup hi ?_
  rw [h]
  have : L[k] = (L.take i)[k]'(by rw [List.length_take]; omega) := by rw [List.getElem_take]
  rw [this]
  exact List.getElem_mem _
theorem not_take {L : List (List UInt8)} {i : Nat} (hi : i < L.length) (h : ∀ j, (hj : j < i) → L[i] ≠ L[j]) : L[i] ∉ L.take i := by
  intro hm
  obtain ⟨j, hj, e⟩ := List.getElem_of_mem hm
  rw [List.length_take] at hj
  rw [List.getElem_take] at e
  exact h j (by omega) e.symm
theorem ba_eqb (p q : List UInt8) : ((ba p).toList == (ba q).toList) = decide (p = q) := by
  rw [Bool.eq_iff_iff, beq_iff_eq, decide_eq_true_iff, ByteArray.toList_eq, ByteArray.toList_eq, ba_list, ba_list]

set_option maxRecDepth 100000 in
set_option maxHeartbeats 2000000 in
theorem r10encode_any (a : Option Addr) (cap : Nat) (L : List (List UInt8)) (w : World) (hl : L.length ≤ 9223372036854775807) (ha : Strs w a L) :
    Calls Tryz.prog 129 #[.slice a L.length cap] w fun e w' => e = .returned (.tuple #[.string (ba (encS L).1), .int .i64 (encS L).2]) ∧ Below w.heap.size w w' := by
  obtain ⟨r, hr⟩ : ∃ r, r = encS L := ⟨_, rfl⟩
  rw [← hr]
  have HR := Lib.hid hr; clear hr
  obtain ⟨n, hn⟩ : ∃ n, n = L.length := ⟨_, rfl⟩
  rw [← hn] at hl ⊢
  have HN := Lib.hid hn
  have HA := Lib.hid ha
  clear ha
  have HF := Lib.hid (show ∀ x, ckS L = x → x ≠ 0 → r = ([], x) from fun x h h0 => by rw [HR.out, encS, if_neg (by rw [h]; exact h0), h])
  by_cases h18 : n < 2 ∨ 12 < n
  · have HE := Lib.hid (HF.out 18 (ck_18 (by omega)) (by decide))
    clear hn
    by_cases h2 : n < 2
    · have t1 : decide ((n : Int) < 2) = true := decide_eq_true (by omega)
      go_enter Tryz.func129, Tryz.ntmps129
      go_wp2
      go_ret2
      exact ⟨by rw [HE.out]; rfl, Below.refl _ _⟩
    · have t1 : decide ((n : Int) < 2) = false := decide_eq_false (by omega)
      have t2 : decide (12 < (n : Int)) = true := decide_eq_true (by omega)
      go_enter Tryz.func129, Tryz.ntmps129
      go_wp2
      go_ret2
      exact ⟨by rw [HE.out]; rfl, Below.refl _ _⟩
  have g2 : 2 ≤ n := by omega
  have g12 : n ≤ 12 := by omega
  have t1 : decide ((n : Int) < 2) = false := decide_eq_false (by omega)
  have t2 : decide (12 < (n : Int)) = false := decide_eq_false (by omega)
  clear h18 hn
  have kf := fun w => sfour_any (n : Int) (by omega) (by omega) w
  rw [Int.toNat_natCast] at kf
  have hb4 : (ba (fourL n)).size = 4 := rfl
  have HX0 := Lib.hid (show (⟨#[97, 110, 110, 120, 115, 117, 112, 114]⟩ : ByteArray) ++ ba (fourL n) = ba (sjF ++ fourL n ++ bdS (L.take 0)) by
    rw [List.take_zero, bdS, List.append_nil, ← ba_app]; rfl)
  have HBL := Lib.hid (show ∀ k, k ≤ n → (∀ p ∈ L.take k, okS p = true) → (sjF ++ fourL n ++ bdS (L.take k)).length ≤ 600 from fun k hk hok => by
    have h3 := bdS_len (L.take k) fun p hp => (okS_iff.1 (hok p hp)).2
    rw [List.length_take] at h3
    rw [List.length_append, List.length_append, four_len, show sjF.length = 8 from rfl]; omega)
  have kt := fun p (hp : okS p = true) w => r10text_any (ba p) (by rw [ba_size]; exact (okS_iff.1 hp).2) w
  go_enter Tryz.func129, Tryz.ntmps129
  go_wp2_with (go_at_call 145; refine (kf _).mono ?_; rintro e w1 ⟨rfl, b1⟩)
  rw [HX0.out]
  have HB1 := Lib.hid b1
  clear kf b1 hb4
  go_loopw [4, 5] (fun s i wr => ∃ k : Nat, k ≤ n ∧ i = .int .i64 k ∧ s = .string (ba (sjF ++ fourL n ++ bdS (L.take k))) ∧ Hid (∀ p ∈ L.take k, okS p = true) ∧ Hid (Below w.heap.size w wr)) (fun _ i _ => n - (intOf i).toNat)
  case atStart => exact ⟨0, by omega, rfl, rfl, Lib.hid (fun p hp => absurd hp (by simp)), HB1⟩
  case round =>
    obtain ⟨k, hk, rfl, rfl, hok, hB⟩ := hrel
    clear HB1 HX0
    by_cases hlt : k < n
    · have hlt' : k < L.length := by rw [← HN.out]; exact hlt
      obtain ⟨b, off, rfl, hbw, c0⟩ := HA.out k hlt'
      rw [← hB.out.cell hbw] at c0
      have HL := Lib.hid hlt'
      have HS := Lib.hid (bd_snoc hlt')
      have hlen := HBL.out k hk hok.out
      obtain ⟨p, hp⟩ : ∃ p, p = L[k]'hlt' := ⟨_, rfl⟩
      have HP := Lib.hid hp
      rw [← hp] at c0 HS
      clear hp
      have kv := fun w => r10path_any (ba p) w
      rw [ba_list] at kv
      obtain ⟨o, ho⟩ : ∃ o, o = okS p := ⟨_, rfl⟩
      rw [← ho] at kv
      cases o
      · have HE := Lib.hid (HF.out 13 (ck_13 (by rw [← HN.out]; exact g2) (by rw [← HN.out]; exact g12) hlt' (by rw [← HP.out]; exact ho.symm)) (by decide))
        clear ho kt
        go_wp2_with (go_at_call 148; refine (kv _).mono ?_; rintro e w2 ⟨rfl, rfl⟩)
        go_ret2
        exact ⟨by rw [HE.out]; rfl, hB.out⟩
      · have kp := fun w => kt p ho.symm w
        rw [ba_list] at kp
        have hz := ba_size (txS p)
        have hpl : (txS p).length ≤ 44 := by have := okS_iff.1 ho.symm; rw [txS_len]; omega
        have hsz := ba_size (sjF ++ fourL n ++ bdS (L.take k))
        have HOk := Lib.hid (ok_snoc hlt' (by rw [← HP.out]; exact ho.symm) hok.out)
        have HAp := Lib.hid (show ba (sjF ++ fourL n ++ bdS (L.take k)) ++ ba (txS p) = ba (sjF ++ fourL n ++ bdS (L.take (k + 1))) by rw [ba_app, HS.out, List.append_assoc])
        generalize ba (txS p) = y at kp hz HAp
        generalize ba (sjF ++ fourL n ++ bdS (L.take k)) = x at hsz HAp ⊢
        generalize (sjF ++ fourL n ++ bdS (L.take k)).length = m at hlen hsz
        clear ho kt
        go_wp2_with (first
          | (go_at_call 148; refine (kv _).mono ?_; rintro e w2 ⟨rfl, rfl⟩)
          | (go_at_call 149; refine (kp _).mono ?_; rintro e w3 ⟨rfl, b3⟩))
        refine ⟨?_, ?measure⟩
        repeat apply Exists.intro
        refine ⟨?rel, rfl⟩
        case rel => exact ⟨k + 1, by omega, by go_num, by rw [HAp.out], HOk, Lib.hid (hB.out.trans (b3.mono hB.out.size))⟩
        case measure => simp [intOf]; omega
    · have hkn : k = n := by omega
      subst hkn
      have hkl : L.take k = L := List.take_of_length_le (by have := HN.out; omega)
      have hlen := HBL.out k (Nat.le_refl _) hok.out
      rw [hkl] at hok hlen ⊢
      have HOK := hok
      have HZ := Lib.hid (show sjF ++ fourL k ++ bdS L = hdS L by rw [hdS, HN.out])
      rw [HZ.out] at hlen ⊢
      clear hkl kt hok HBL hk hlt
      obtain ⟨z, hz⟩ : ∃ z, z = hdS L := ⟨_, rfl⟩
      rw [← hz] at hlen ⊢
      have HZZ := Lib.hid hz
      clear hz HZ
      go_wp2
      go_loopw [6] (fun i wr => ∃ j : Nat, j ≤ k ∧ i = .int .i64 j ∧ Hid ((L.take j).Nodup) ∧ Hid (Below w.heap.size w wr)) (fun i _ => k - (intOf i).toNat)
      case atStart => exact ⟨0, by omega, rfl, Lib.hid (by simp), hB⟩
      case round =>
        clear hB
        obtain ⟨j, hj, rfl, hnd, hB⟩ := hrel
        by_cases hlt : j < k
        · have hlt' : j < L.length := by rw [← HN.out]; exact hlt
          obtain ⟨b, off, rfl, hbw, c0⟩ := HA.out j hlt'
          have HL := Lib.hid hlt'
          have HC := Lib.hid (show ∀ q, (hq : q < L.length) → w.cell? ⟨b, off + q, none⟩ = some (.string (ba L[q])) from fun q hq => by
            obtain ⟨b', off', e, -, c⟩ := HA.out q hq
            injection e with e
            injection e with e1 e2
            subst e1 e2
            exact c)
          obtain ⟨p, hp⟩ : ∃ p, p = L[j]'hlt' := ⟨_, rfl⟩
          have HP := Lib.hid hp
          rw [← hp] at c0
          clear hp
          go_wp2
          go_loopw [7] (fun i wr => ∃ q : Nat, q ≤ j ∧ i = .int .i64 q ∧ Hid (∀ x, (hx : x < q) → ∀ hx' : x < L.length, p ≠ L[x]) ∧ Hid (Below w.heap.size w wr)) (fun i _ => j - (intOf i).toNat)
          case atStart => exact ⟨0, by omega, rfl, Lib.hid (fun x hx => absurd hx (by omega)), hB⟩
          case round =>
            clear hB
            obtain ⟨q, hq, rfl, hne, hB⟩ := hrel
            by_cases hql : q < j
            · have hq' : q < L.length := by have := HL.out; omega
              have c1 := HC.out q hq'
              have c0' := c0
              rw [← hB.out.cell hbw] at c1 c0'
              obtain ⟨p2, hp2⟩ : ∃ p2, p2 = L[q]'hq' := ⟨_, rfl⟩
              have HP2 := Lib.hid hp2
              rw [← hp2] at c1
              have hqq := ba_eqb p p2
              have i1 : (q : Int) < k := by omega
              have i2 : (j : Int) < k := by omega
              by_cases hpe : p = p2
              · rw [decide_eq_true hpe] at hqq
                have HE := Lib.hid (HF.out 9 (ck_9 (by rw [← HN.out]; exact g2) (by rw [← HN.out]; exact g12) HOK.out (twice_not hql HL.out (by rw [← HP.out, ← HP2.out]; exact hpe))) (by decide))
                clear hp2 hpe c0
                go_upto_region 16 with (fail)
                go_quiet (fail)
                all_goals go_wp2
                all_goals go_ret2
                all_goals exact ⟨by rw [HE.out]; rfl, hB.out.trans ⟨rfl, rfl, rfl, Nat.le_refl _, fun _ _ => rfl⟩⟩
              · rw [decide_eq_false hpe] at hqq
                have HNE := Lib.hid (show ∀ x, (hx : x < q + 1) → ∀ hx' : x < L.length, p ≠ L[x] from fun x hx hx' => by
                  by_cases e : x = q
                  · subst e; rw [← hp2]; exact hpe
                  · exact hne.out x (by omega) hx')
                clear hp2 hpe c0
                go_upto_region 16 with (fail)
                go_quiet (fail)
                all_goals go_wp2
                all_goals go_roundw
                all_goals first
                  | exact ⟨q + 1, by omega, by go_num, HNE, Lib.hid (hB.out.trans ⟨rfl, rfl, rfl, Nat.le_refl _, fun _ _ => rfl⟩)⟩
                  | (simp [intOf]; omega)
            · obtain rfl : q = j := by omega
              go_wp2
              go_roundw
              case rel => exact ⟨q + 1, by omega, by go_num, Lib.hid (nodup_snoc HL.out (not_take HL.out fun x hx => by rw [← HP.out]; exact hne.out x hx _) hnd.out), hB⟩
              case measure => simp [intOf]; omega
        · have HK0 := Lib.hid (show ckS L = 0 from by
            have := HN.out
            refine ckS_ok.2 ⟨by omega, by omega, HOK.out, ?_⟩
            have h := hnd.out
            rw [List.take_of_length_le (by omega)] at h
            exact h)
          have HE := Lib.hid (show r = (seS z 11 sjL, 0) by rw [HR.out, encS, if_pos HK0.out, HZZ.out])
          have k1 := fun w => rsum_any 11 (by decide) (by decide) (ba z) (by rw [ba_size]; omega) w
          rw [ba_list] at k1
          have hbd := sumZ_bd 11 z
          obtain ⟨g, hg⟩ : ∃ g, g = sumZ 11 z := ⟨_, rfl⟩
          rw [← hg] at k1 hbd
          have HG := Lib.hid hg
          have k2 := fun w => sfour_any g hbd.1 hbd.2 w
          have hy : (ba (fourL g.toNat)).size = 4 := rfl
          have hzs := ba_size z
          clear hg
          have e1 := app_size (ba z) (ba (fourL g.toNat))
          have e2 := app_size (ba z ++ ba (fourL g.toNat)) ⟨#[114, 112, 117, 115, 120, 110, 110, 97]⟩
          have HAp := Lib.hid (show ba z ++ ba (fourL g.toNat) ++ ⟨#[114, 112, 117, 115, 120, 110, 110, 97]⟩ = ba (seS z 11 sjL) by rw [seS, ← ba_app, ← ba_app, HG.out]; rfl)
          generalize ba (fourL g.toNat) = y at k2 hy e1 e2 HAp
          generalize ba z = x at k1 hzs e1 e2 HAp ⊢
          go_wp2_with (first
            | (go_at_call 146; refine (k1 _).mono ?_; rintro e w2 ⟨rfl, rfl⟩)
            | (go_at_call 145; refine (k2 _).mono ?_; rintro e w3 ⟨rfl, b3⟩))
          go_ret2
          exact ⟨by rw [HE.out]; exact ret_sbe HAp.out, hB.out.trans (b3.mono hB.out.size)⟩
end Go.Proofs.YthfebcfdhmihcaaGreatDoor

namespace Go.Proofs.YthfebcfdhmihcaaGreatDoor
open Go.RowKit

theorem sext_drop2 (s : ByteArray) (k : Nat) : (s.extract k s.size).data.toList = s.data.toList.drop k := by
  rw [Lib.extract_data]
  exact List.take_of_length_le (by simp)
theorem sext_mid (s : ByteArray) (k m : Nat) : s.extract k m = ba ((s.data.toList.drop k).take (m - k)) := by
  have : (s.extract k m).data.toList = (s.data.toList.drop k).take (m - k) := by rw [Lib.extract_data]
  rw [← this, ba_back]
theorem r10trailer_any (s : ByteArray) (w : World) :
    Calls Tryz.prog 120 #[.string s] w fun e w' => e = .returned (.tuple #[.string (ba (trS s.data.toList).1), .int .i64 (trS s.data.toList).2]) ∧ Below w.heap.size w w' := by
  have kv := fun w => r10path_any s w
  by_cases hok : okS s.data.toList = true
  case neg =>
    have hr : trS s.data.toList = ([], 13) := by rw [trS, if_neg hok]
    rw [hr]
    rw [show okS s.data.toList = false by simpa using hok] at kv
    go_enter Tryz.func120, Tryz.ntmps120
    go_wp2_with (go_at_call 148; refine (kv _).mono ?_; rintro e w0 ⟨rfl, rfl⟩)
    go_ret2
    exact ⟨rfl, Below.refl _ _⟩
  have hr : trS s.data.toList = (seS (stF ++ txS s.data.toList) 13 stL, 0) := by rw [trS, if_pos hok]
  rw [hr]
  rw [hok] at kv
  have hl : s.data.toList.length = s.size := by simp
  have h40 := okS_iff.1 hok
  have kt := fun w => r10text_any s (by omega) w
  have hz := ba_size (txS s.data.toList)
  rw [txS_len] at hz
  have k1 := fun w => rsum_any 13 (by decide) (by decide) (ba (stF ++ txS s.data.toList)) (by rw [ba_size, List.length_append, txS_len, show stF.length = 8 from rfl]; omega) w
  rw [ba_list] at k1
  have hbd := sumZ_bd 13 (stF ++ txS s.data.toList)
  obtain ⟨g, hg⟩ : ∃ g, g = sumZ 13 (stF ++ txS s.data.toList) := ⟨_, rfl⟩
  rw [← hg] at k1 hbd
  have k2 := fun w => sfour_any g hbd.1 hbd.2 w
  have hy : (ba (fourL g.toNat)).size = 4 := rfl
  obtain ⟨x, hx⟩ : ∃ x, x = ba (txS s.data.toList) := ⟨_, rfl⟩
  have HE : (⟨#[97, 110, 110, 120, 110, 97, 109, 101]⟩ : ByteArray) ++ x = ba (stF ++ txS s.data.toList) := by rw [← ba_app, hx]; rfl
  have HAp := Lib.hid (show ba (stF ++ txS s.data.toList) ++ ba (fourL g.toNat) ++ ⟨#[101, 109, 97, 110, 120, 110, 110, 97]⟩ = ba (seS (stF ++ txS s.data.toList) 13 stL) by rw [seS, ← ba_app, ← ba_app, hg]; rfl)
  have hzs : (ba (stF ++ txS s.data.toList)).size ≤ 60 := by rw [ba_size, List.length_append, txS_len, show stF.length = 8 from rfl]; omega
  generalize ba (seS (stF ++ txS s.data.toList) 13 stL) = y at HAp ⊢
  rw [← hx] at kt hz
  generalize ba (stF ++ txS s.data.toList) = z at k1 HE HAp hzs
  generalize ba (fourL g.toNat) = u at k2 hy HAp
  have e1 := app_size z u
  have e2 := app_size (z ++ u) ⟨#[101, 109, 97, 110, 120, 110, 110, 97]⟩
  clear hx hr hok hg
  go_enter Tryz.func120, Tryz.ntmps120
  go_wp2_with (first
    | (go_at_call 148; refine (kv _).mono ?_; rintro e w0 ⟨rfl, rfl⟩)
    | (go_at_call 149; refine (kt _).mono ?_; rintro e w1 ⟨rfl, b1⟩)
    | (go_at_call 146; refine (k1 _).mono ?_; rintro e w2 ⟨rfl, rfl⟩)
    | (go_at_call 145; refine (k2 _).mono ?_; rintro e w3 ⟨rfl, b3⟩))
  go_ret2
  exact ⟨ret_sbe HAp.out, b1.trans (b3.mono b1.size)⟩

set_option maxHeartbeats 1000000 in
theorem r10take_any (s : ByteArray) (hs : s.size ≤ 1048576) (at_ : Int) (h1 : -1 ≤ at_) (h2 : at_ ≤ 1048576) (w : World) :
    Calls Tryz.prog 119 #[.string s, .int .i64 at_] w fun e w' => e = .returned (.tuple #[.string (ba (tkD s.data.toList at_).1), .int .i64 (tkD s.data.toList at_).2]) ∧ Below w.heap.size w w' := by
  have hl : s.data.toList.length = s.size := by simp
  obtain ⟨r, hr⟩ : ∃ r, r = tkD s.data.toList at_ := ⟨_, rfl⟩
  rw [← hr]
  unfold tkD at hr
  rw [hl] at hr
  by_cases ha : at_ < 0 ∨ s.size < at_
  · rw [if_pos ha] at hr; subst hr
    by_cases h0 : at_ < 0
    · have t1 : decide (at_ < 0) = true := decide_eq_true h0
      go_enter Tryz.func119, Tryz.ntmps119
      go_wp2
      go_ret2
      exact ⟨rfl, Below.refl _ _⟩
    · have t1 : decide (at_ < 0) = false := decide_eq_false h0
      have t2 : decide ((s.size : Int) < at_) = true := decide_eq_true (by omega)
      go_enter Tryz.func119, Tryz.ntmps119
      go_wp2
      go_ret2
      exact ⟨rfl, Below.refl _ _⟩
  rw [if_neg ha] at hr
  obtain ⟨a, rfl⟩ : ∃ a : Nat, at_ = a := ⟨at_.toNat, by omega⟩
  rw [Int.toNat_natCast] at hr
  have t1 : decide ((a : Int) < 0) = false := decide_eq_false (by omega)
  have t2 : decide ((s.size : Int) < a) = false := decide_eq_false (by omega)
  have ha' : a ≤ s.size := by omega
  have ha2 : (a : Int) ≤ s.size := by omega
  have kn := fun w => rnumber_any (s.extract a s.size) (by simp only [ByteArray.size_extract]; omega) w
  rw [sext_drop2] at kn
  have hbd := nmL_bd (s.data.toList.drop a)
  have hlen : (s.data.toList.drop a).length = s.size - a := by rw [List.length_drop, hl]
  have hN : (numR (s.data.toList.drop a)).1 = nmL (s.data.toList.drop a) := rfl
  have hE : (numR (s.data.toList.drop a)).2 = if s.size - a < 4 then (numR []).2 else 0 := by
    unfold numR
    rw [hlen]
    by_cases c : s.size - a < 4
    · rw [if_pos c, if_pos c]; rfl
    · rw [if_neg c, if_neg c]
  have he1 : (numR []).2 ≠ 0 := by decide
  generalize (numR []).2 = e1 at hE he1
  rw [hN] at kn
  generalize nmL (s.data.toList.drop a) = n at kn hr hbd
  generalize (numR (s.data.toList.drop a)).2 = er at kn hE
  clear hN ha
  by_cases c4 : s.size - a < 4
  · rw [if_pos c4] at hE
    subst hE
    have t3 : (er != 0) = true := by simpa using he1
    rw [if_pos (by left; omega)] at hr; subst hr
    go_enter Tryz.func119, Tryz.ntmps119
    go_wp2_with (go_at_call 128; refine (kn _).mono ?_; rintro e w1 ⟨rfl, hb⟩)
    go_ret2
    exact ⟨rfl, hb⟩
  rw [if_neg c4] at hE
  subst hE
  by_cases c40 : 40 < n
  · have t4 : decide (40 < n) = true := decide_eq_true c40
    rw [if_pos (by right; left; exact c40)] at hr; subst hr
    go_enter Tryz.func119, Tryz.ntmps119
    go_wp2_with (go_at_call 128; refine (kn _).mono ?_; rintro e w1 ⟨rfl, hb⟩)
    go_ret2
    exact ⟨rfl, hb⟩
  have t4 : decide (40 < n) = false := decide_eq_false c40
  by_cases cn : (s.size : Int) - a - 4 < n
  · have t5 : decide ((s.size : Int) - a - 4 < n) = true := decide_eq_true cn
    rw [if_pos (by right; right; exact cn)] at hr; subst hr
    go_enter Tryz.func119, Tryz.ntmps119
    go_wp2_with (go_at_call 128; refine (kn _).mono ?_; rintro e w1 ⟨rfl, hb⟩)
    go_ret2
    exact ⟨rfl, hb⟩
  have t5 : decide ((s.size : Int) - a - 4 < n) = false := decide_eq_false cn
  rw [if_neg (by omega)] at hr
  obtain ⟨m, rfl⟩ : ∃ m : Nat, n = m := ⟨n.toNat, by omega⟩
  rw [Int.toNat_natCast] at hr
  have HM := Lib.hid (sext_mid s (a + 4) (a + 4 + m))
  rw [show a + 4 + m - (a + 4) = m by omega] at HM
  have HR := Lib.hid hr
  clear hr hlen hl he1
  have i1 : a + 4 + m ≤ s.size := by omega
  have i2 : (a : Int) + 4 + m ≤ s.size := by omega
  have i3 : ((a : Int) + 4).toNat = a + 4 := by omega
  have i4 : ((a : Int) + 4 + m).toNat = a + 4 + m := by omega
  have sl : ∀ w : World, (Instr.slice 9 (.string s) (some (.int .i64 ((a : Int) + 4))) (some (.int .i64 ((a : Int) + 4 + m))) none).run Tryz.prog w = .ok (.string (s.extract (a + 4) (a + 4 + m))) w := fun w => by
    have := run_slice_string (P := Tryz.prog) w 9 s .i64 .i64 ((a : Int) + 4) ((a : Int) + 4 + m) Tryz.underlying9 (by omega) (by omega) (by omega)
    rw [i3, i4] at this
    exact this
  go_enter Tryz.func119, Tryz.ntmps119
  go_wp2_with (go_at_call 128; refine (kn _).mono ?_; rintro e w1 ⟨rfl, hb⟩)
  all_goals go_ret2
  all_goals exact ⟨by rw [HR.out]; exact ret_sbe HM.out, hb⟩
end Go.Proofs.YthfebcfdhmihcaaGreatDoor

namespace Go.Proofs.YthfebcfdhmihcaaGreatDoor
open Go.RowKit

theorem ba_neb (p : List UInt8) (s : ByteArray) : ((ba p).toList == s.toList) = decide (p = s.data.toList) := by
  rw [← ba_back s, ba_eqb, ba_list]
theorem enc_pair (L : List (List UInt8)) (s : List UInt8) : encS L = (s, 0) ↔ (encS L).2 = 0 ∧ (encS L).1 = s := ⟨fun h => by rw [h]; exact ⟨rfl, rfl⟩, fun h => Prod.ext h.2 h.1⟩
theorem tr_pair (p : List UInt8) (s : List UInt8) : trS p = (s, 0) ↔ (trS p).2 = 0 ∧ (trS p).1 = s := ⟨fun h => by rw [h]; exact ⟨rfl, rfl⟩, fun h => Prod.ext h.2 h.1⟩
theorem flP_len (s : List UInt8) : (flP s).length ≤ 12 := by
  unfold flP; split
  · exact Nat.zero_le _
  · rw [pths_len]; omega
theorem rdr_new (w : World) (s : ByteArray) : Rdr (w.alloc (.cells #[.string s] 215)) w.heap.size s.data.toList := by
  have := blk_new w 215 #[.string s]
  rw [← ba_back s] at this
  exact this
theorem below_dec {w W w' : World} {o : Obj} (hW : W = w.alloc o) (h : W.grownBy w' (some w.heap.size)) : Below w.heap.size w w' := by
  subst hW
  refine ⟨h.os, h.tape, h.output, Nat.le_trans (by simp) h.size, fun k hk => ?_⟩
  rw [h.block k (by simp; omega) (fun e => by injection e; omega)]
  exact (sbelow_alloc w o).block k hk

set_option maxHeartbeats 1000000 in
theorem spdecode_new (s : ByteArray) (hs : s.size ≤ 1048576) (w : World) :
    Calls Tryz.prog 154 #[.string s] w fun e w' => ∃ a cap, e = .returned (.tuple #[.slice a (decS s.data.toList).1.length cap, .int .i64 (decS s.data.toList).2]) ∧ Strs w' a (decS s.data.toList).1 ∧ Below w.heap.size w w' ∧ ∀ g o, a = some ⟨g, o, none⟩ → w.heap.size ≤ g := by
  have hl : s.data.toList.length = s.size := by simp
  have kf := fun w b h => spfiles_new b s.data.toList w (by omega) h
  have hfl := flP_len s.data.toList
  obtain ⟨r, hr⟩ : ∃ r, r = decS s.data.toList := ⟨_, rfl⟩
  rw [← hr]
  unfold decS at hr
  generalize flP s.data.toList = F at kf hfl hr
  have ke := fun a cap w ha hcap => spencode_any a cap F w (by omega) ha hcap
  simp only [enc_pair] at hr
  have hq := ba_neb (encS F).1 s
  obtain ⟨x, hx⟩ : ∃ x, x = encS F := ⟨_, rfl⟩
  rw [← hx] at ke hr hq
  clear hx hl
  obtain ⟨p, q⟩ := x
  simp only at ke hr hq
  have HR := rdr_new w s
  obtain ⟨W0, hW0⟩ : ∃ W0, W0 = w.alloc (.cells #[.string s] 215) := ⟨_, rfl⟩
  have HW0 := Lib.hid hW0
  rw [← hW0] at HR
  have HRD := Lib.hid HR
  clear HR
  by_cases h0 : q = 0
  · by_cases h1 : p = s.data.toList
    · rw [decide_eq_true h1] at hq
      rw [if_pos ⟨h0, h1⟩] at hr; subst hr h0
      clear h1
      go_enter Tryz.func154, Tryz.ntmps154
      go_wp2_with (first
        | (go_at_call 181; refine (kf _ _ (by rw [← hW0]; exact HRD.out)).mono ?_; rintro e w1 ⟨a, cap, hcap, rfl, hst, hg, hnw⟩; have b1 := Lib.hid (below_dec rfl hg); clear hg)
        | (go_at_call 182; refine (ke _ _ _ hst hcap).mono ?_; rintro e w2 ⟨rfl, b2⟩))
      go_ret2
      exact ⟨a, cap, rfl, strs_below hst b2, b1.out.trans (b2.mono b1.out.size), fun g o e => Nat.le_trans (by simp) (hnw g o e)⟩
    · rw [decide_eq_false h1] at hq
      rw [if_neg (fun h => h1 h.2)] at hr; subst hr h0
      clear h1
      go_enter Tryz.func154, Tryz.ntmps154
      go_wp2_with (first
        | (go_at_call 181; refine (kf _ _ (by rw [← hW0]; exact HRD.out)).mono ?_; rintro e w1 ⟨a, cap, hcap, rfl, hst, hg, hnw⟩; have b1 := Lib.hid (below_dec rfl hg); clear hg)
        | (go_at_call 182; refine (ke _ _ _ hst hcap).mono ?_; rintro e w2 ⟨rfl, b2⟩))
      go_ret2
      exact ⟨none, 0, rfl, strs_nil _ _, b1.out.trans (b2.mono b1.out.size), fun g o e => by cases e⟩
  · have t1 : (q != 0) = true := by simpa using h0
    rw [if_neg (fun h => h0 h.1)] at hr; subst hr
    clear h0 hq
    go_enter Tryz.func154, Tryz.ntmps154
    go_wp2_with (first
      | (go_at_call 181; refine (kf _ _ (by rw [← hW0]; exact HRD.out)).mono ?_; rintro e w1 ⟨a, cap, hcap, rfl, hst, hg, hnw⟩; have b1 := Lib.hid (below_dec rfl hg); clear hg)
      | (go_at_call 182; refine (ke _ _ _ hst hcap).mono ?_; rintro e w2 ⟨rfl, b2⟩))
    go_ret2
    exact ⟨none, 0, rfl, strs_nil _ _, b1.out.trans (b2.mono b1.out.size), fun g o e => by cases e⟩

set_option maxHeartbeats 1000000 in
theorem spnamed_any (s : ByteArray) (hs : s.size ≤ 1048576) (w : World) :
    Calls Tryz.prog 108 #[.string s] w fun e w' => e = .returned (.tuple #[.string (ba (namS s.data.toList).1), .int .i64 (namS s.data.toList).2]) ∧ Below w.heap.size w w' := by
  have hl : s.data.toList.length = s.size := by simp
  have kf := fun w b h => spname_any b s.data.toList w (by omega) h
  obtain ⟨r, hr⟩ : ∃ r, r = namS s.data.toList := ⟨_, rfl⟩
  rw [← hr]
  unfold namS at hr
  generalize nmP s.data.toList = F at kf hr
  have ke := fun w => sptrailer_any (ba F) w
  rw [ba_list] at ke
  simp only [tr_pair] at hr
  have hq := ba_neb (trS F).1 s
  obtain ⟨x, hx⟩ : ∃ x, x = trS F := ⟨_, rfl⟩
  rw [← hx] at ke hr hq
  clear hx hl
  obtain ⟨p, q⟩ := x
  simp only at ke hr hq
  have HR := rdr_new w s
  obtain ⟨W0, hW0⟩ : ∃ W0, W0 = w.alloc (.cells #[.string s] 215) := ⟨_, rfl⟩
  rw [← hW0] at HR
  have HRD := Lib.hid HR
  clear HR
  by_cases h0 : q = 0
  · by_cases h1 : p = s.data.toList
    · rw [decide_eq_true h1] at hq
      rw [if_pos ⟨h0, h1⟩] at hr; subst hr h0
      clear h1
      go_enter Tryz.func108, Tryz.ntmps108
      go_wp2_with (first
        | (go_at_call 139; refine (kf _ _ (by rw [← hW0]; exact HRD.out)).mono ?_; rintro e w1 ⟨rfl, hg⟩; have b1 := Lib.hid (below_dec rfl hg); clear hg)
        | (go_at_call 140; refine (ke _).mono ?_; rintro e w2 ⟨rfl, b2⟩))
      go_ret2
      exact ⟨rfl, b1.out.trans (b2.mono b1.out.size)⟩
    · rw [decide_eq_false h1] at hq
      rw [if_neg (fun h => h1 h.2)] at hr; subst hr h0
      clear h1
      go_enter Tryz.func108, Tryz.ntmps108
      go_wp2_with (first
        | (go_at_call 139; refine (kf _ _ (by rw [← hW0]; exact HRD.out)).mono ?_; rintro e w1 ⟨rfl, hg⟩; have b1 := Lib.hid (below_dec rfl hg); clear hg)
        | (go_at_call 140; refine (ke _).mono ?_; rintro e w2 ⟨rfl, b2⟩))
      go_ret2
      exact ⟨rfl, b1.out.trans (b2.mono b1.out.size)⟩
  · have t1 : (q != 0) = true := by simpa using h0
    rw [if_neg (fun h => h0 h.1)] at hr; subst hr
    clear h0 hq
    go_enter Tryz.func108, Tryz.ntmps108
    go_wp2_with (first
      | (go_at_call 139; refine (kf _ _ (by rw [← hW0]; exact HRD.out)).mono ?_; rintro e w1 ⟨rfl, hg⟩; have b1 := Lib.hid (below_dec rfl hg); clear hg)
      | (go_at_call 140; refine (ke _).mono ?_; rintro e w2 ⟨rfl, b2⟩))
    go_ret2
    exact ⟨rfl, b1.out.trans (b2.mono b1.out.size)⟩
theorem r10named_any (s : ByteArray) (hs : s.size ≤ 1048576) (w : World) :
    Calls Tryz.prog 86 #[.string s] w fun e w' => e = .returned (.tuple #[.string (ba (namS s.data.toList).1), .int .i64 (namS s.data.toList).2]) ∧ Below w.heap.size w w' := by
  have kf := fun w => r10take_any s hs 8 (by decide) (by decide) w
  obtain ⟨r, hr⟩ : ∃ r, r = namS s.data.toList := ⟨_, rfl⟩
  rw [← hr]
  rw [← namD_eq] at hr
  unfold namD at hr
  generalize tkD s.data.toList 8 = F at kf hr
  obtain ⟨F, u⟩ := F
  simp only at kf hr
  have ke := fun w => r10trailer_any (ba F) w
  rw [ba_list] at ke
  simp only [tr_pair] at hr
  have hq := ba_neb (trS F).1 s
  obtain ⟨x, hx⟩ : ∃ x, x = trS F := ⟨_, rfl⟩
  rw [← hx] at ke hr hq
  clear hx
  obtain ⟨p, q⟩ := x
  simp only at ke hr hq
  by_cases h0 : q = 0
  · by_cases h1 : p = s.data.toList
    · rw [decide_eq_true h1] at hq
      rw [if_pos ⟨h0, h1⟩] at hr; subst hr h0
      clear h1
      go_enter Tryz.func86, Tryz.ntmps86
      go_wp2_with (first
        | (go_at_call 119; refine (kf _).mono ?_; rintro e w1 ⟨rfl, b1⟩)
        | (go_at_call 120; refine (ke _).mono ?_; rintro e w2 ⟨rfl, b2⟩))
      go_ret2
      exact ⟨rfl, b1.trans (b2.mono b1.size)⟩
    · rw [decide_eq_false h1] at hq
      rw [if_neg (fun h => h1 h.2)] at hr; subst hr h0
      clear h1
      go_enter Tryz.func86, Tryz.ntmps86
      go_wp2_with (first
        | (go_at_call 119; refine (kf _).mono ?_; rintro e w1 ⟨rfl, b1⟩)
        | (go_at_call 120; refine (ke _).mono ?_; rintro e w2 ⟨rfl, b2⟩))
      go_ret2
      exact ⟨rfl, b1.trans (b2.mono b1.size)⟩
  · have t1 : (q != 0) = true := by simpa using h0
    rw [if_neg (fun h => h0 h.1)] at hr; subst hr
    clear h0 hq
    go_enter Tryz.func86, Tryz.ntmps86
    go_wp2_with (first
      | (go_at_call 119; refine (kf _).mono ?_; rintro e w1 ⟨rfl, b1⟩)
      | (go_at_call 120; refine (ke _).mono ?_; rintro e w2 ⟨rfl, b2⟩))
    go_ret2
    exact ⟨rfl, b1.trans (b2.mono b1.size)⟩
end Go.Proofs.YthfebcfdhmihcaaGreatDoor

namespace Go.Proofs.YthfebcfdhmihcaaGreatDoor
open Go.RowKit
attribute [local go_sem] Oper.semAt_some

theorem wpListIn_append_lies {F : Fence} {n : Nat} {P : Program} (w : World) {ops : Array Oper} {rest : List Oper} {o : Oper} {a : Act} {Q : Exit → Act → World → Prop}
    (hg : o.guard = none) (s x : Operand) (t : TypeId) (hop : o.op = Op.call { callee := Callee.builtin Builtin.append, args := #[s, x], argTypes := #[t, t] })
    (base : Nat) (e : TypeId) (i : TypeInfo) (z : Value) (size bytes : Nat) (h1 : P.underlying t = some (.slice e)) (h2 : P.info? e = some i) (h3 : i.zero = some z) (h4 : i.size = size) (h5 : i.bytes = bytes) (h6 : z.cells.size = size) (h7 : 0 < size)
    (v : Value) (k : Nat) (xs : List Value) (hs : a.eval s = v) (hown : w.ownsRow base e size v k xs) (ad : Addr) (m c : Nat) (news : List Value) (hx : a.eval x = .slice (some ad) m c) (hn : news.length = m * size)
    (hc : ∀ j u, news[j]? = some u → w.cell? (ad.add j) = some u) (h1c : ∀ u ∈ news, u.oneCell' = true) (hm : 0 < m) (b1 : k + m ≤ maxLen) (b2 : (k + m) * bytes ≤ 140737488355328) (b3 : base ≤ w.heap.size) (H : Nat) (hH : w.heap.size = H)
    (hK : ∀ g cap w', w'.ownsRow base e size (.slice (some ⟨g, 0, none⟩) (k + m) cap) (k + m) (xs ++ news) → w.grownBy w' v.ownBlock → (v.ownBlock = some g ∨ g = H) → g < w'.heap.size → wpListIn F n P ops Q rest (a.put o.dst (.slice (some ⟨g, 0, none⟩) (k + m) cap)) w') :
    wpListIn F n P ops Q (o :: rest) a w := by
  refine wpListIn_plain hg fun K hK' => ?_
  obtain ⟨g, cap, w', hrun, r1, r2, r3, r4⟩ := run_append_lies (P := P) w t o.type base e i z size bytes h1 h2 h3 h4 h5 h6 h7 v k xs hown ad m c news hn hc h1c hm b1 b2 b3 H hH
  unfold Oper.wpIn
  refine ⟨?_, ?_⟩
  · simp [Oper.about, hop, resolve, Target.leads, Sem.run_pure]
  · rw [Oper.semAt_plain F _ _ (by rw [hop]; intro c hc'; cases hc')]
    simp [execOp, hop, resolve, invoke, builtin, hs, hx, hrun, Result.andThen]
    exact hK' _ _ (hK g cap w' r1 r2 r3 r4)

def falses : Array Value := Array.replicate 2001 (.bool false)
theorem infoSeen : (Tryz.prog.info? 159).map (fun i => (i.zero, i.size)) = some (some (.agg falses), 2001) := by kernel_rfl
def zJour : Array Value := #[.int .i64 0, .int .i64 0, .slice none 0 0, .string ⟨#[]⟩]
def seenF (L : List R11) (i : Nat) : Value := .bool (hasR L (i : Int))
theorem jourNeRec : 55 ≠ 165 := by decide
theorem strNeRec : 9 ≠ 165 := by decide
theorem seenNeRec : 159 ≠ 165 := by decide
theorem row_blk {W : World} {b : Nat} {t : TypeId} {n : Nat} {f : Nat → Value} (h : W.rowIs b t n f) : ∃ cs, Blk W b t cs := by
  obtain ⟨cs, h1, -⟩ := h
  exact ⟨cs, h1⟩

/-- What Read's own cells hold, the call's heap ending at N. -/
structure RJ (N : Nat) (w : World) (k : Nat) (p : Int) (L S : List R11) (v : Value) (r : List UInt8) (W : World) : Prop where
  below : Below N w W
  res : Blk W N 55 zJour
  jour : Blk W (N + 1) 55 #[.int .i64 k, .int .i64 p, v, .string ⟨#[]⟩]
  own : W.ownsRow N 165 2 v L.length (recsC L)
  seen : W.rowIs (N + 2) 159 2001 (seenF S)
  rest : Blk W (N + 3) 9 #[.string (ba r)]
  big : N + 6 ≤ W.heap.size
section
variable {N : Nat} {w : World} {k : Nat} {p : Int} {L S : List R11} {v : Value} {r : List UInt8} {A B : World} {row : Option Nat}
theorem rj_kept (h : RJ N w k p L S v r A) (hg : A.grownBy B row) (hr : ∀ j, row = some j → N + 3 < j ∧ v.ownBlock ≠ some j) : RJ N w k p L S v r B := by
  have hb := h.big
  have ne : ∀ j, j ≤ N + 3 → some j ≠ row := fun j hj e => by have := (hr j e.symm).1; omega
  refine ⟨h.below.grown hg (by omega) (fun j e => by have := (hr j e).1; omega), (hg.block _ (by omega) (ne _ (by omega))).trans h.res, (hg.block _ (by omega) (ne _ (by omega))).trans h.jour, h.own.kept hg ?_, h.seen.of_block (hg.block _ (by omega) (ne _ (by omega))), (hg.block _ (by omega) (ne _ (by omega))).trans h.rest, Nat.le_trans hb hg.size⟩
  cases hv : v.ownBlock with
  | none => exact .inl rfl
  | some g => exact .inr fun e => (hr g e.symm).2 hv
theorem rj_alloc (h : RJ N w k p L S v r A) (o : Obj) : RJ N w k p L S v r (A.alloc o) := rj_kept (row := none) h (World.grownBy_alloc A o none) (fun j e => by cases e)
theorem rj_k (h : RJ N w k p L S v r A) (k' : Nat) : RJ N w k' p L S v r (A.setCell ⟨N + 1, 0, none⟩ (.int .i64 k')) :=
  ⟨h.below.setCell (p := ⟨N + 1, 0, none⟩) (by show N ≤ N + 1; omega) _, blk_other h.res (by omega) _ _, blk_set h.jour 0 _, own_set h.own h.jour jourNeRec _ _, h.seen.setOther (by show N + 2 ≠ N + 1; omega) _, blk_other h.rest (by omega) _ _, by have := h.big; simpa [World.setCell] using this⟩
theorem rj_p (h : RJ N w k p L S v r A) (p' : Int) : RJ N w k p' L S v r (A.setCell ⟨N + 1, 1, none⟩ (.int .i64 p')) :=
  ⟨h.below.setCell (p := ⟨N + 1, 1, none⟩) (by show N ≤ N + 1; omega) _, blk_other h.res (by omega) _ _, blk_set h.jour 1 _, own_set h.own h.jour jourNeRec _ _, h.seen.setOther (by show N + 2 ≠ N + 1; omega) _, blk_other h.rest (by omega) _ _, by have := h.big; simpa [World.setCell] using this⟩
theorem rj_r (h : RJ N w k p L S v r A) (r' : List UInt8) : RJ N w k p L S v r' (A.setCell ⟨N + 3, 0, none⟩ (.string (ba r'))) :=
  ⟨h.below.setCell (p := ⟨N + 3, 0, none⟩) (by show N ≤ N + 3; omega) _, blk_other h.res (by omega) _ _, blk_other h.jour (by omega) _ _, own_set h.own h.rest strNeRec _ _, h.seen.setOther (by show N + 2 ≠ N + 3; omega) _, blk_set h.rest 0 _, by have := h.big; simpa [World.setCell] using this⟩
theorem rj_seen (h : RJ N w k p L S v r A) {m : Nat} {x : R11} (hx : x.n = m) : RJ N w k p L (S ++ [x]) v r (A.setCell ⟨N + 2, m, none⟩ (.bool true)) := by
  obtain ⟨cs, hcs⟩ := row_blk h.seen
  refine ⟨h.below.setCell (p := ⟨N + 2, m, none⟩) (by show N ≤ N + 2; omega) _, blk_other h.res (by omega) _ _, blk_other h.jour (by omega) _ _, own_set h.own hcs seenNeRec _ _, (h.seen.set m _).congr fun j hj => ?_, blk_other h.rest (by omega) _ _, by have := h.big; simpa [World.setCell] using this⟩
  unfold seenF
  rw [hasR_app, hx]
  by_cases e : j = m
  · subst e; simp
  · have : ¬ (m : Int) = (j : Int) := by omega
    simp [e, this]
theorem rj_app (h : RJ N w k p L S v r A) (tmp : Obj) {w1 : World} {v' : Value} {L' : List R11} (hgrow : (A.alloc tmp).grownBy w1 v.ownBlock) (hown : w1.ownsRow N 165 2 v' L'.length (recsC L')) :
    RJ N w k p L' S v' r (w1.setCell ⟨N + 1, 2, none⟩ v') := by
  have h2 := rj_alloc h tmp
  obtain ⟨cs, hcs⟩ := row_blk h2.seen
  have hb := h2.big
  have lt : ∀ g, v.ownBlock = some g → N ≤ g ∧ g < (A.alloc tmp).heap.size := fun g e => h2.own.lt g e
  have b0 := blk_own h2.res h2.own jourNeRec hgrow
  have b1 := blk_own h2.jour h2.own jourNeRec hgrow
  have b2 := h2.seen.of_block (hgrow.block _ (by omega) (fun e => own_not h2.own hcs seenNeRec e.symm))
  have b3 := blk_own h2.rest h2.own strNeRec hgrow
  refine ⟨(h2.below.grown hgrow (by omega) (fun j e => (lt j e).1)).setCell (p := ⟨N + 1, 2, none⟩) (by show N ≤ N + 1; omega) _, blk_other b0 (by omega) _ _, blk_set b1 2 _, own_set hown b1 jourNeRec _ _, b2.setOther (by show N + 2 ≠ N + 1; omega) _, blk_other b3 (by omega) _ _, ?_⟩
  have := hgrow.size
  simp only [World.setCell, Array.size_modify]
  omega
end
/-- What is known of the numbers. -/
def PJ (X : Q11 × List UInt8) (k : Nat) (p : Int) (L : List R11) (r : List UInt8) : Prop :=
  (∃ f, rdG f r ⟨k, p, L⟩ = X ∧ r.length < f) ∧ k + r.length ≤ 1048576 ∧ L.length + r.length ≤ 1048576
def IJ (N : Nat) (w : World) (X : Q11 × List UInt8) (F : Nat → Prop) (r : List UInt8) (W : World) : Prop :=
  ∃ k p L v, RJ N w k p L L v r W ∧ PJ X k p L r ∧ (∀ g, v.ownBlock = some g → ¬ F g ∧ g ≠ N + 5 ∧ g ≠ N + 6) ∧ ∀ j, F j → N + 6 < j
def EJ (N : Nat) (w : World) (X : Q11 × List UInt8) (W : World) : Prop :=
  ∃ k p L v r, RJ N w k p L L v r W ∧ (∀ g, v.ownBlock = some g → g ≠ N + 5 ∧ g ≠ N + 6) ∧ X = (⟨k, p, L⟩, r) ∧ k + r.length ≤ 1048576
theorem ij_kept {N : Nat} {w : World} {X : Q11 × List UInt8} {F : Nat → Prop} {r : List UInt8} {A B : World} {row : Option Nat} (h : IJ N w X F r A) (hg : A.grownBy B row) (hr : ∀ j, row = some j → F j ∨ j = N + 5 ∨ j = N + 5 + 1) : IJ N w X F r B := by
  obtain ⟨k, p, L, v, h1, h2, h3, h4⟩ := h
  refine ⟨k, p, L, v, rj_kept h1 hg (fun j e => ?_), h2, h3, h4⟩
  refine ⟨?_, fun ev => ?_⟩
  · rcases hr j e with h | h | h
    · have := h4 j h; omega
    · omega
    · omega
  · have := h3 j ev
    rcases hr j e with h | h | h
    · exact this.1 h
    · exact this.2.1 h
    · exact this.2.2 h
theorem ej_kept {N : Nat} {w : World} {X : Q11 × List UInt8} {A B : World} {row : Option Nat} (h : EJ N w X A) (hg : A.grownBy B row) (hr : ∀ j, row = some j → j = N + 5 ∨ j = N + 5 + 1) : EJ N w X B := by
  obtain ⟨k, p, L, v, r, h1, h2, h3⟩ := h
  refine ⟨k, p, L, v, r, rj_kept h1 hg (fun j e => ⟨by rcases hr j e with h | h <;> omega, fun ev => ?_⟩), h2, h3⟩
  have := h2 j ev
  rcases hr j e with h | h
  · exact this.1 h
  · exact this.2 h
theorem ij_foreign {N : Nat} {w : World} {X : Q11 × List UInt8} {F F' : Nat → Prop} {r : List UInt8} {A : World} (h : IJ N w X F r A) (hs : N + 5 + 1 < A.heap.size) (hF : ∀ k, F' k → F k ∨ A.heap.size ≤ k) : IJ N w X F' r A := by
  obtain ⟨k, p, L, v, h1, h2, h3, h4⟩ := h
  refine ⟨k, p, L, v, h1, h2, fun g e => ⟨fun hf => ?_, (h3 g e).2⟩, fun j hj => ?_⟩
  · rcases hF g hf with h | h
    · exact (h3 g e).1 h
    · have := (h1.own.lt g e).2; omega
  · rcases hF j hj with h | h
    · exact h4 j h
    · omega
/-- Records in memory that is not older than N. -/
def RecsN (N : Nat) (w : World) (a : Option Addr) (L : List R11) : Prop := Recs w a L ∧ ∀ b off, a = some ⟨b, off, none⟩ → N ≤ b
/-- The journal laid into the result. -/
theorem read_end {N : Nat} {w V : World} {k : Nat} {p : Int} {L : List R11} {a : Option Addr} {cap : Nat} (sp : ByteArray) (hN : N = w.heap.size) (hb : Below N w V) (hr : Blk V N 55 zJour) (ho : V.ownsRow N 165 2 (.slice a L.length cap) L.length (recsC L))
    (hD : V.heap[N + 5]? = some (.deferred (some []))) :
    ((((V.setCell ⟨N, 0, none⟩ (.int .i64 k)).setCell ⟨N, 1, none⟩ (.int .i64 p)).setCell ⟨N, 2, none⟩ (.slice a L.length cap)).setCell ⟨N, 3, none⟩ (.string sp)).heap[N + 5]? = some (.deferred (some [])) ∧
    Blk (((((V.setCell ⟨N, 0, none⟩ (.int .i64 k)).setCell ⟨N, 1, none⟩ (.int .i64 p)).setCell ⟨N, 2, none⟩ (.slice a L.length cap)).setCell ⟨N, 3, none⟩ (.string sp)).putObj (N + 5) (.deferred none)) N 55 #[.int .i64 k, .int .i64 p, .slice a L.length cap, .string sp] ∧
    Below w.heap.size w (((((V.setCell ⟨N, 0, none⟩ (.int .i64 k)).setCell ⟨N, 1, none⟩ (.int .i64 p)).setCell ⟨N, 2, none⟩ (.slice a L.length cap)).setCell ⟨N, 3, none⟩ (.string sp)).putObj (N + 5) (.deferred none)) ∧
    RecsN w.heap.size (((((V.setCell ⟨N, 0, none⟩ (.int .i64 k)).setCell ⟨N, 1, none⟩ (.int .i64 p)).setCell ⟨N, 2, none⟩ (.slice a L.length cap)).setCell ⟨N, 3, none⟩ (.string sp)).putObj (N + 5) (.deferred none)) a L := by
  have o1 := own_set ho hr jourNeRec 0 (.int .i64 k)
  have b1 := blk_set hr 0 (.int .i64 k)
  have o2 := own_set o1 b1 jourNeRec 1 (.int .i64 p)
  have b2 := blk_set b1 1 (.int .i64 p)
  have o3 := own_set o2 b2 jourNeRec 2 (.slice a L.length cap)
  have b3 := blk_set b2 2 (.slice a L.length cap)
  have o4 := own_set o3 b3 jourNeRec 3 (.string sp)
  have b4 := blk_set b3 3 (.string sp)
  have d4 : ((((V.setCell ⟨N, 0, none⟩ (.int .i64 k)).setCell ⟨N, 1, none⟩ (.int .i64 p)).setCell ⟨N, 2, none⟩ (.slice a L.length cap)).setCell ⟨N, 3, none⟩ (.string sp)).heap[N + 5]? = some (.deferred (some [])) :=
    (Below.heap_setCell _ _ _ _ (by show N + 5 ≠ N; omega)).trans ((Below.heap_setCell _ _ _ _ (by show N + 5 ≠ N; omega)).trans ((Below.heap_setCell _ _ _ _ (by show N + 5 ≠ N; omega)).trans ((Below.heap_setCell _ _ _ _ (by show N + 5 ≠ N; omega)).trans hD)))
  have l4 : Below N w ((((V.setCell ⟨N, 0, none⟩ (.int .i64 k)).setCell ⟨N, 1, none⟩ (.int .i64 p)).setCell ⟨N, 2, none⟩ (.slice a L.length cap)).setCell ⟨N, 3, none⟩ (.string sp)) :=
    (((hb.setCell (p := ⟨N, 0, none⟩) (Nat.le_refl _) _).setCell (p := ⟨N, 1, none⟩) (Nat.le_refl _) _).setCell (p := ⟨N, 2, none⟩) (Nat.le_refl _) _).setCell (p := ⟨N, 3, none⟩) (Nat.le_refl _) _
  revert o4 b4 d4 l4
  generalize (((V.setCell ⟨N, 0, none⟩ (.int .i64 k)).setCell ⟨N, 1, none⟩ (.int .i64 p)).setCell ⟨N, 2, none⟩ (.slice a L.length cap)).setCell ⟨N, 3, none⟩ (.string sp) = V4
  intro o4 b4 d4 l4
  obtain ⟨a', cap', e, -, hrec, hnew⟩ := recs_of_own o4
  cases e
  rw [← hN]
  exact ⟨d4, blk_put b4 _ (by omega), l4.trans (belowK_b (w := w) (by omega) _ (N + 5) _ _ (by omega) d4 rfl rfl), recs_put hrec _ d4 rfl, fun b off e => (hnew b off e).1⟩
/-- What a round leaves alone. -/
def KP (P : Nat → Prop) (W A : World) : Prop := (∀ j, P j → A.heap[j]? = W.heap[j]?) ∧ W.heap.size ≤ A.heap.size
theorem kp_refl (P : Nat → Prop) (W : World) : KP P W W := ⟨fun _ _ => rfl, Nat.le_refl _⟩
theorem kp_grown {P : Nat → Prop} {W A B : World} {row : Option Nat} (h : KP P W A) (hP : ∀ j, P j → j < W.heap.size) (hg : A.grownBy B row) (hr : ∀ j, row = some j → ¬ P j) : KP P W B :=
  ⟨fun j hj => (hg.block j (Nat.lt_of_lt_of_le (hP j hj) h.2) (fun e => hr j e.symm hj)).trans (h.1 j hj), Nat.le_trans h.2 hg.size⟩
theorem kp_alloc {P : Nat → Prop} {W A : World} (h : KP P W A) (hP : ∀ j, P j → j < W.heap.size) (o : Obj) : KP P W (A.alloc o) := kp_grown h hP (World.grownBy_alloc A o none) (fun j e => by cases e)
theorem kp_set {P : Nat → Prop} {W A : World} (h : KP P W A) (hP : ∀ j, P j → j < W.heap.size) {b : Nat} (hb : ¬ P b) (i : Nat) (x : Value) : KP P W (A.setCell ⟨b, i, none⟩ x) := kp_grown h hP (Lib.grownBy_setCell A b i x) (fun j e => by cases e; exact hb)
theorem kp_cell {P : Nat → Prop} {W A : World} (h : KP P W A) {b i : Nat} {v : Value} (hb : P b) (hc : W.cell? ⟨b, i, none⟩ = some v) : A.cell? ⟨b, i, none⟩ = some v := (World.cell?_of_block (h.1 b hb)).trans hc
end Go.Proofs.YthfebcfdhmihcaaGreatDoor
