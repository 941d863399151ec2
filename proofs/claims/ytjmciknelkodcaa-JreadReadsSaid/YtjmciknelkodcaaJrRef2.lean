/-
  Layer 11, the document's Read (annexeref11): it returns the same contents and changes nothing that was there. Condition: at most 2^20 bytes.
-/
import Derived.Test.YtjmciknelkodcaaJrRef
import Derived.Test.YtjmciknelkodcaaJrReadI
import Derived.Deep.RegionLaw
namespace Go.Proofs.Ytjmciknelkodcaa
open Go.RowKit

theorem part_no {l : List UInt8} (hs : l.length ≤ 1048576) (h : fsS l = none) (w : World) : Calls Try.prog 22 #[.string (ba l)] w fun e w' => ∃ x y z, e = .returned (.tuple #[.agg #[.int .i64 x, .int .i64 y, .int .i64 z], .slice none 0 0, .int .i64 0, .bool false]) ∧ Below w.heap.size w w' :=
  (part_any l hs w).mono fun e w' hq => by
    obtain ⟨hb, ⟨-, x, y, z, rfl⟩ | ⟨a, cap, g, x, z, hg, -, -, -⟩⟩ := hq
    · exact ⟨x, y, z, rfl, hb⟩
    · rw [h] at hg; cases hg
theorem part_yes {l : List UInt8} (hs : l.length ≤ 1048576) {g : S11} (h : fsS l = some g) (w : World) : Calls Try.prog 22 #[.string (ba l)] w fun e w' => ∃ a cap x z, e = .returned (.tuple #[.agg #[.int .i64 x, .int .i64 g.p, .int .i64 z], .slice a g.L.length cap, .int .i64 ((32 + 520 * g.L.length : Nat) : Int), .bool true]) ∧ Below w.heap.size w w' ∧ Recs w' a g.L ∧ ∀ b off, a = some ⟨b, off, none⟩ → w.heap.size ≤ b ∧ b < w'.heap.size :=
  (part_any l hs w).mono fun e w' hq => by
    obtain ⟨hb, ⟨hn, -⟩ | ⟨a, cap, g', x, z, hg, rfl, hr, hbs⟩⟩ := hq
    · rw [h] at hn; cases hn
    · rw [h] at hg; cases hg
      exact ⟨a, cap, x, z, rfl, hb, hr, hbs⟩
theorem nam_none {s : List UInt8} (h : (namS s).2 ≠ 0) : (namS s).1 = [] := by
  unfold namS at h ⊢
  split
  · rename_i c; rw [if_pos c] at h; exact absurd rfl h
  · rfl
theorem own_recs {W : World} {base : Nat} {e : TypeId} {a : Option Addr} {n cap : Nat} {L : List R11} (h : W.ownsRow base e 2 (.slice a n cap) n (recsC L)) : Recs W a L := by
  obtain ⟨a', cap', he, -, hr, -⟩ := recs_of_own h
  cases he
  exact hr
theorem qjourNeRec : 29 ≠ 43 := by decide
/-- What the document's Read's own cells hold. -/
structure QJ (N : Nat) (w : World) (k : Nat) (p : Int) (L : List R11) (v : Value) (W : World) : Prop where
  below : Below N w W
  res : Blk W N 29 zJour
  jour : Blk W (N + 1) 29 #[.int .i64 k, .int .i64 p, v, .string ⟨#[]⟩]
  own : W.ownsRow N 43 2 v L.length (recsC L)
section
variable {N : Nat} {w : World} {k : Nat} {p : Int} {L : List R11} {v : Value} {A B : World}
theorem qj_big (h : QJ N w k p L v A) : N + 2 ≤ A.heap.size := by have := blk_lt h.jour; omega
theorem qj_below (h : QJ N w k p L v A) (hb : Below A.heap.size A B) : QJ N w k p L v B :=
  ⟨h.below.trans (hb.mono (by have := qj_big h; omega)), blk_below h.res hb, blk_below h.jour hb, rown_below h.own hb⟩
theorem qj_alloc (h : QJ N w k p L v A) (o : Obj) : QJ N w k p L v (A.alloc o) := qj_below h (blw1 _ _)
theorem qj_drew (h : QJ N w k p L v A) : QJ N w k p L v A.drew := ⟨h.below.drew, h.res, h.jour, h.own⟩
theorem qj_k (h : QJ N w k p L v A) (k' : Nat) : QJ N w k' p L v (A.setCell ⟨N + 1, 0, none⟩ (.int .i64 k')) :=
  ⟨h.below.setCell (p := ⟨N + 1, 0, none⟩) (by show N ≤ N + 1; omega) _, blk_other h.res (by omega) _ _, blk_set h.jour 0 _, own_set h.own h.jour qjourNeRec _ _⟩
theorem qj_p (h : QJ N w k p L v A) (p' : Int) : QJ N w k p' L v (A.setCell ⟨N + 1, 1, none⟩ (.int .i64 p')) :=
  ⟨h.below.setCell (p := ⟨N + 1, 1, none⟩) (by show N ≤ N + 1; omega) _, blk_other h.res (by omega) _ _, blk_set h.jour 1 _, own_set h.own h.jour qjourNeRec _ _⟩
theorem qj_app (h : QJ N w k p L v A) (tmp : Obj) {w1 : World} {v' : Value} {L' : List R11} (hgrow : (A.alloc tmp).grownBy w1 v.ownBlock) (hown : w1.ownsRow N 43 2 v' L'.length (recsC L')) :
    QJ N w k p L' v' (w1.setCell ⟨N + 1, 2, none⟩ v') := by
  have h2 := qj_alloc h tmp
  have hb := qj_big h2
  have lt : ∀ g, v.ownBlock = some g → N ≤ g ∧ g < (A.alloc tmp).heap.size := fun g e => h2.own.lt g e
  have b0 := blk_own h2.res h2.own qjourNeRec hgrow
  have b1 := blk_own h2.jour h2.own qjourNeRec hgrow
  exact ⟨(h2.below.grown hgrow (by omega) (fun j e => (lt j e).1)).setCell (p := ⟨N + 1, 2, none⟩) (by show N ≤ N + 1; omega) _, blk_other b0 (by omega) _ _, blk_set b1 2 _, own_set hown b1 qjourNeRec _ _⟩
end
/-- The journal laid into the result. -/
theorem qread_end {N : Nat} {w V : World} {k : Nat} {p : Int} {L : List R11} {a : Option Addr} {cap : Nat} (sp : ByteArray) (hN : N = w.heap.size) (hb : Below N w V) (hr : Blk V N 29 zJour) (ho : V.ownsRow N 43 2 (.slice a L.length cap) L.length (recsC L)) :
    Blk ((((V.setCell ⟨N, 0, none⟩ (.int .i64 k)).setCell ⟨N, 1, none⟩ (.int .i64 p)).setCell ⟨N, 2, none⟩ (.slice a L.length cap)).setCell ⟨N, 3, none⟩ (.string sp)) N 29 #[.int .i64 k, .int .i64 p, .slice a L.length cap, .string sp] ∧
    Below w.heap.size w ((((V.setCell ⟨N, 0, none⟩ (.int .i64 k)).setCell ⟨N, 1, none⟩ (.int .i64 p)).setCell ⟨N, 2, none⟩ (.slice a L.length cap)).setCell ⟨N, 3, none⟩ (.string sp)) ∧
    Recs ((((V.setCell ⟨N, 0, none⟩ (.int .i64 k)).setCell ⟨N, 1, none⟩ (.int .i64 p)).setCell ⟨N, 2, none⟩ (.slice a L.length cap)).setCell ⟨N, 3, none⟩ (.string sp)) a L := by
  have o1 := own_set ho hr qjourNeRec 0 (.int .i64 k)
  have b1 := blk_set hr 0 (.int .i64 k)
  have o2 := own_set o1 b1 qjourNeRec 1 (.int .i64 p)
  have b2 := blk_set b1 1 (.int .i64 p)
  have o3 := own_set o2 b2 qjourNeRec 2 (.slice a L.length cap)
  have b3 := blk_set b2 2 (.slice a L.length cap)
  have o4 := own_set o3 b3 qjourNeRec 3 (.string sp)
  have b4 := blk_set b3 3 (.string sp)
  rw [← hN]
  exact ⟨b4, (((hb.setCell (p := ⟨N, 0, none⟩) (Nat.le_refl _) _).setCell (p := ⟨N, 1, none⟩) (Nat.le_refl _) _).setCell (p := ⟨N, 2, none⟩) (Nat.le_refl _) _).setCell (p := ⟨N, 3, none⟩) (Nat.le_refl _) _, own_recs o4⟩
/-- What a round of the document's Read leaves. -/
def Z11 (N : Nat) (w : World) (k : Nat) (p : Int) (M : List R11) (v' : Value) (P : Nat → Prop) (W2 V : World) : Prop := QJ N w k p M v' V ∧ KP P W2 V
theorem z11_next {N : Nat} {w : World} {k : Nat} {p : Int} {M : List R11} {v' : Value} {P : Nat → Prop} {W2 V V2 : World} (h : Z11 N w k p M v' P W2 V) (hP : ∀ j, P j → j < W2.heap.size) (hb : Below V.heap.size V V2) : Z11 N w k p M v' P W2 V2 := ⟨qj_below h.1 hb, kp_grown h.2 hP (below_grown (row := none) hb rfl) (fun j e => by cases e)⟩
theorem z11_drew {N : Nat} {w : World} {k : Nat} {p : Int} {M : List R11} {v' : Value} {P : Nat → Prop} {W2 V : World} (h : Z11 N w k p M v' P W2 V) : Z11 N w k p M v' P W2 V.drew := ⟨qj_drew h.1, h.2⟩
theorem z11_of {N : Nat} {w : World} {k : Nat} {p : Int} {M : List R11} {v' : Value} {P : Nat → Prop} {W2 V : World} (h : Z11 N w k p M v' P W2 V) {b i : Nat} {x : Value} (hb : P b) (hc : W2.cell? ⟨b, i, none⟩ = some x) :
    V.cell? ⟨N + 1, 0, none⟩ = some (.int .i64 k) ∧ V.cell? ⟨N + 1, 1, none⟩ = some (.int .i64 p) ∧ V.cell? ⟨N + 1, 2, none⟩ = some v' ∧ V.cell? ⟨N + 1, 3, none⟩ = some (.string ⟨#[]⟩) ∧ V.cell? ⟨b, i, none⟩ = some x ∧ Z11 N w k p M v' P W2 V :=
  ⟨blk_cell h.1.jour 0 rfl, blk_cell h.1.jour 1 rfl, blk_cell h.1.jour 2 rfl, blk_cell h.1.jour 3 rfl, kp_cell h.2 hb hc, h⟩
theorem z11_recs {N : Nat} {w : World} {k : Nat} {p : Int} {M : List R11} {a : Option Addr} {cap : Nat} {P : Nat → Prop} {W2 V : World} (h : Z11 N w k p M (.slice a M.length cap) P W2 V) : Recs V a M := own_recs h.1.own
def ReadQ (s : List UInt8) (w : World) (e : Ending) (w' : World) : Prop :=
  Below w.heap.size w w' ∧ ∃ a cap, e = .returned (.agg #[.int .i64 (rdJ s).k, .int .i64 (rdJ s).p, .slice a (rdJ s).L.length cap, .string (ba (rdJ s).s)]) ∧ Recs w' a (rdJ s).L
end Go.Proofs.Ytjmciknelkodcaa
