/-
  The statement LogicTurned as a walk where both values are valid: it returns true and changes nothing that was there. Conditions: the strings have at most 2^47 - 4096 bytes; what Binary, Truth, Not and Of return is handed in.
-/
import Derived.Test.YtadbmjmikoggbaaLogTurnM
import Derived.Test.YtadbmjmikoggbaaLogGreat
import Derived.Test.YtadbmjmikoggbaaLogBinLaw
namespace Go.Proofs.Ytadbmjmikoggbaa
open Go.RowKit

/-- The two values in their boxes and the operators of the round. -/
structure TI (w : World) (lb : Nat) (k1 n1 : Int) (s1 : ByteArray) (k2 n2 : Int) (s2 : ByteArray) (wr : World) : Prop where
  x : Blk wr w.heap.size 23 #[.int .i64 k1, .int .i64 n1, .string s1]
  y : Blk wr (w.heap.size + 1) 23 #[.int .i64 k2, .int .i64 n2, .string s2]
  l : Blk wr lb 9 #[.string ⟨#[43]⟩, .string ⟨#[42]⟩, .string ⟨#[61]⟩, .string ⟨#[60, 62]⟩]
  below : Below w.heap.size w wr
section
variable {w : World} {lb : Nat} {k1 n1 : Int} {s1 : ByteArray} {k2 n2 : Int} {s2 : ByteArray} {a b : World}
theorem ti_next (h : TI w lb k1 n1 s1 k2 n2 s2 a) (hb : Below a.heap.size a b) : TI w lb k1 n1 s1 k2 n2 s2 b := ⟨blk_below h.x hb, blk_below h.y hb, blk_below h.l hb, blw_on h.below hb⟩
theorem ti_drew (h : TI w lb k1 n1 s1 k2 n2 s2 a) : TI w lb k1 n1 s1 k2 n2 s2 a.drew := ⟨h.x, h.y, h.l, h.below.drew⟩
theorem ti_alloc (h : TI w lb k1 n1 s1 k2 n2 s2 a) (o : Obj) : TI w lb k1 n1 s1 k2 n2 s2 (a.alloc o) := ti_next h (blw1 _ _)
theorem ti_sets {g : World} (h0 : TI w lb k1 n1 s1 k2 n2 s2 g) (h : TI w lb k1 n1 s1 k2 n2 s2 a) (i : Nat) (v : Value) : TI w lb k1 n1 s1 k2 n2 s2 (a.setCell ⟨g.heap.size, i, none⟩ v) := by
  have l0 := blk_lt h0.x; have l1 := blk_lt h0.y; have l2 := blk_lt h0.l
  exact ⟨blk_other h.x (by omega) _ _, blk_other h.y (by omega) _ _, blk_other h.l (by omega) _ _, blw_set h.below (by omega) _ _⟩
theorem blk_drewA {W W' : World} {t : TypeId} {cs : Array Value} (h : Below (W.alloc (.cells cs t)).drew.heap.size (W.alloc (.cells cs t)).drew W') : Blk W' W.heap.size t cs := blk_below (w := (W.alloc (.cells cs t)).drew) (blk_new W t cs) h
theorem ti_op (h : TI w lb k1 n1 s1 k2 n2 s2 a) {k : Nat} (hk : k < 4) : a.cell? ⟨lb, k, none⟩ = some (.string (opsL k)) := by
  match k, hk with
  | 0, _ => exact blk_cell h.l 0 rfl
  | 1, _ => exact blk_cell h.l 1 rfl
  | 2, _ => exact blk_cell h.l 2 rfl
  | 3, _ => exact blk_cell h.l 3 rfl
/-- What a region that draws reads of them. -/
def TS (w : World) (lb k : Nat) (op : ByteArray) (k1 n1 : Int) (s1 : ByteArray) (k2 n2 : Int) (s2 : ByteArray) (a : World) : Prop :=
  a.cell? ⟨w.heap.size, 0, none⟩ = some (.int .i64 k1) ∧ a.cell? ⟨w.heap.size, 1, none⟩ = some (.int .i64 n1) ∧ a.cell? ⟨w.heap.size, 2, none⟩ = some (.string s1) ∧ a.cell? ⟨w.heap.size + 1, 0, none⟩ = some (.int .i64 k2) ∧ a.cell? ⟨w.heap.size + 1, 1, none⟩ = some (.int .i64 n2) ∧ a.cell? ⟨w.heap.size + 1, 2, none⟩ = some (.string s2) ∧ a.cell? ⟨lb, k, none⟩ = some (.string op) ∧ TI w lb k1 n1 s1 k2 n2 s2 a
theorem ts_of {k : Nat} {op : ByteArray} (h : TI w lb k1 n1 s1 k2 n2 s2 a) (hk : k < 4) (ho : op = opsL k) : a.cell? ⟨w.heap.size, 0, none⟩ = some (.int .i64 k1) ∧ a.cell? ⟨w.heap.size, 1, none⟩ = some (.int .i64 n1) ∧ a.cell? ⟨w.heap.size, 2, none⟩ = some (.string s1) ∧ a.cell? ⟨w.heap.size + 1, 0, none⟩ = some (.int .i64 k2) ∧ a.cell? ⟨w.heap.size + 1, 1, none⟩ = some (.int .i64 n2) ∧ a.cell? ⟨w.heap.size + 1, 2, none⟩ = some (.string s2) ∧ a.cell? ⟨lb, k, none⟩ = some (.string op) ∧ TI w lb k1 n1 s1 k2 n2 s2 a :=
  ⟨blk_cell h.x 0 rfl, blk_cell h.x 1 rfl, blk_cell h.x 2 rfl, blk_cell h.y 0 rfl, blk_cell h.y 1 rfl, blk_cell h.y 2 rfl, ho ▸ ti_op h hk, h⟩
end
/-- The same, with a first answer in its cell. -/
structure TJ (w : World) (lb g : Nat) (r : Out) (k1 n1 : Int) (s1 : ByteArray) (k2 n2 : Int) (s2 : ByteArray) (wr : World) : Prop where
  ti : TI w lb k1 n1 s1 k2 n2 s2 wr
  g : Blk wr g 23 #[.int .i64 r.k, .int .i64 r.n, .string r.s]
section
variable {w : World} {lb g : Nat} {r : Out} {k1 n1 : Int} {s1 : ByteArray} {k2 n2 : Int} {s2 : ByteArray} {a b : World}
theorem tj_next (h : TJ w lb g r k1 n1 s1 k2 n2 s2 a) (hb : Below a.heap.size a b) : TJ w lb g r k1 n1 s1 k2 n2 s2 b := ⟨ti_next h.ti hb, blk_below h.g hb⟩
theorem tj_drew (h : TJ w lb g r k1 n1 s1 k2 n2 s2 a) : TJ w lb g r k1 n1 s1 k2 n2 s2 a.drew := ⟨ti_drew h.ti, h.g⟩
theorem tj_alloc (h : TJ w lb g r k1 n1 s1 k2 n2 s2 a) (o : Obj) : TJ w lb g r k1 n1 s1 k2 n2 s2 (a.alloc o) := tj_next h (blw1 _ _)
theorem tj_sets {c : World} (h0 : TJ w lb g r k1 n1 s1 k2 n2 s2 c) (h : TJ w lb g r k1 n1 s1 k2 n2 s2 a) (i : Nat) (v : Value) : TJ w lb g r k1 n1 s1 k2 n2 s2 (a.setCell ⟨c.heap.size, i, none⟩ v) := by
  have l0 := blk_lt h0.g
  exact ⟨ti_sets h0.ti h.ti i v, blk_other h.g (by omega) _ _⟩
theorem tjs_of {k : Nat} {op : ByteArray} (h : TJ w lb g r k1 n1 s1 k2 n2 s2 a) (hk : k < 4) (ho : op = opsL k) : a.cell? ⟨w.heap.size, 0, none⟩ = some (.int .i64 k1) ∧ a.cell? ⟨w.heap.size, 1, none⟩ = some (.int .i64 n1) ∧ a.cell? ⟨w.heap.size, 2, none⟩ = some (.string s1) ∧ a.cell? ⟨w.heap.size + 1, 0, none⟩ = some (.int .i64 k2) ∧ a.cell? ⟨w.heap.size + 1, 1, none⟩ = some (.int .i64 n2) ∧ a.cell? ⟨w.heap.size + 1, 2, none⟩ = some (.string s2) ∧ a.cell? ⟨lb, k, none⟩ = some (.string op) ∧ TJ w lb g r k1 n1 s1 k2 n2 s2 a := by
  obtain ⟨a1, a2, a3, a4, a5, a6, a7, -⟩ := ts_of h.ti hk ho
  exact ⟨a1, a2, a3, a4, a5, a6, a7, h⟩
end
/-- The three answers in their cells. -/
structure EI (w : World) (p q s : Nat) (rk rn zk zn : Int) (a : World) : Prop where
  p : Blk a p 23 #[.int .i64 rk, .int .i64 rn, .string ⟨#[]⟩]
  q : Blk a q 23 #[.int .i64 rk, .int .i64 rn, .string ⟨#[]⟩]
  s : Blk a s 23 #[.int .i64 zk, .int .i64 zn, .string ⟨#[]⟩]
  below : Below w.heap.size w a
section
variable {w : World} {p q s : Nat} {rk rn zk zn : Int} {a b : World}
theorem ei_next (h : EI w p q s rk rn zk zn a) (hb : Below a.heap.size a b) : EI w p q s rk rn zk zn b := ⟨blk_below h.p hb, blk_below h.q hb, blk_below h.s hb, blw_on h.below hb⟩
theorem ei_drew (h : EI w p q s rk rn zk zn a) : EI w p q s rk rn zk zn a.drew := ⟨h.p, h.q, h.s, h.below.drew⟩
theorem es_of (h : EI w p q s rk rn zk zn a) : a.cell? ⟨p, 0, none⟩ = some (.int .i64 rk) ∧ a.cell? ⟨p, 1, none⟩ = some (.int .i64 rn) ∧ a.cell? ⟨p, 2, none⟩ = some (.string ⟨#[]⟩) ∧ a.cell? ⟨q, 0, none⟩ = some (.int .i64 rk) ∧ a.cell? ⟨q, 1, none⟩ = some (.int .i64 rn) ∧ a.cell? ⟨q, 2, none⟩ = some (.string ⟨#[]⟩) ∧ a.cell? ⟨s, 0, none⟩ = some (.int .i64 zk) ∧ a.cell? ⟨s, 1, none⟩ = some (.int .i64 zn) ∧ a.cell? ⟨s, 2, none⟩ = some (.string ⟨#[]⟩) ∧ EI w p q s rk rn zk zn a :=
  ⟨blk_cell h.p 0 rfl, blk_cell h.p 1 rfl, blk_cell h.p 2 rfl, blk_cell h.q 0 rfl, blk_cell h.q 1 rfl, blk_cell h.q 2 rfl, blk_cell h.s 0 rfl, blk_cell h.s 1 rfl, blk_cell h.s 2 rfl, h⟩
end
theorem blk_drewN {w : World} {g : Nat} {t : TypeId} {cs : Array Value} (h : Blk w g t cs) (q : Nat) : Blk (w.drewN q) g t cs := h
theorem blw_drewN {a w : World} {B : Nat} (h : Below B a w) (q : Nat) : Below B a (w.drewN q) := ⟨h.os, h.tape, h.output, h.size, h.block⟩

set_option maxRecDepth 100000 in
set_option maxHeartbeats 4000000 in
theorem turned_t (k1 n1 : Int) (s1 : ByteArray) (k2 n2 : Int) (s2 : ByteArray) (nc : Bool) (w : World) (hs1 : s1.size ≤ 140737488351232) (hs2 : s2.size ≤ 140737488351232)
    (hg : greatB s1 s2 = false) (hc : 0 = checkZ k1 n1 s1) (hd : 0 = checkZ k2 n2 s2)
    (hops : ∀ i, i < 4 → ∃ r : Out, (∀ W, Calls Try.prog 29 #[.string (opsL i), .agg #[.int .i64 k1, .int .i64 n1, .string s1], .agg #[.int .i64 k2, .int .i64 n2, .string s2], .bool nc] W fun e w' => e = .returned (.tuple #[.agg #[.int .i64 r.k, .int .i64 r.n, .string r.s], .int .i64 r.e]) ∧ Below W.heap.size W w') ∧ (∀ W, Calls Try.prog 29 #[.string (opsL i), .agg #[.int .i64 k2, .int .i64 n2, .string s2], .agg #[.int .i64 k1, .int .i64 n1, .string s1], .bool nc] W fun e w' => e = .returned (.tuple #[.agg #[.int .i64 r.k, .int .i64 r.n, .string r.s], .int .i64 r.e]) ∧ Below W.heap.size W w'))
    (rk rn re zk zn ze tt te nt : Int)
    (hL : ∀ W, Calls Try.prog 29 #[.string ⟨#[60]⟩, .agg #[.int .i64 k1, .int .i64 n1, .string s1], .agg #[.int .i64 k2, .int .i64 n2, .string s2], .bool nc] W fun e w' => e = .returned (.tuple #[.agg #[.int .i64 rk, .int .i64 rn, .string ⟨#[]⟩], .int .i64 re]) ∧ Below W.heap.size W w')
    (hR : ∀ W, Calls Try.prog 29 #[.string ⟨#[62]⟩, .agg #[.int .i64 k2, .int .i64 n2, .string s2], .agg #[.int .i64 k1, .int .i64 n1, .string s1], .bool nc] W fun e w' => e = .returned (.tuple #[.agg #[.int .i64 rk, .int .i64 rn, .string ⟨#[]⟩], .int .i64 re]) ∧ Below W.heap.size W w')
    (hE : ∀ W, Calls Try.prog 29 #[.string ⟨#[62, 61]⟩, .agg #[.int .i64 k1, .int .i64 n1, .string s1], .agg #[.int .i64 k2, .int .i64 n2, .string s2], .bool nc] W fun e w' => e = .returned (.tuple #[.agg #[.int .i64 zk, .int .i64 zn, .string ⟨#[]⟩], .int .i64 ze]) ∧ Below W.heap.size W w')
    (hT : ∀ W, Calls Try.prog 10 #[.agg #[.int .i64 rk, .int .i64 rn, .string ⟨#[]⟩]] W fun e w' => e = .returned (.tuple #[.int .i64 tt, .int .i64 te]) ∧ Below W.heap.size W w')
    (hN : ∀ W, Calls Try.prog 14 #[.int .i64 tt] W fun e w' => e = .returned (.int .i64 nt) ∧ W = w')
    (hO : ∀ W, Calls Try.prog 12 #[.int .i64 nt] W fun e w' => e = .returned (.agg #[.int .i64 zk, .int .i64 zn, .string ⟨#[]⟩]) ∧ Below W.heap.size W w') :
    Calls Try.prog 6 #[.agg #[.int .i64 k1, .int .i64 n1, .string s1], .agg #[.int .i64 k2, .int .i64 n2, .string s2], .bool nc] w fun e w' => e = .returned (.bool true) ∧ Below w.heap.size w w' := by
  have HOPS := Lib.hid hops; have HL := Lib.hid hL; have HR := Lib.hid hR; have HE := Lib.hid hE; have HT := Lib.hid hT; have HN := Lib.hid hN; have HO := Lib.hid hO; clear hops hL hR hE hT hN hO
  have HG := Lib.hid hg; have HC1 := Lib.hid hc; have HC2 := Lib.hid hd; clear hg hc hd
  have HS1 := Lib.hid hs1; have HS2 := Lib.hid hs2; clear hs1 hs2
  obtain ⟨y, hy⟩ : ∃ y, y = andT n1 n2 := ⟨_, rfl⟩
  obtain ⟨x, hx⟩ : ∃ x, x = notT y := ⟨_, rfl⟩
  obtain ⟨u, hu⟩ : ∃ u, u = notT n1 := ⟨_, rfl⟩
  obtain ⟨v, hv⟩ : ∃ v, v = notT n2 := ⟨_, rfl⟩
  obtain ⟨z, hz⟩ : ∃ z, z = orT n1 n2 := ⟨_, rfl⟩
  have q1 : ∀ W, Calls Try.prog 16 #[.int .i64 n1, .int .i64 n2] W fun e w' => e = .returned (.int .i64 y) ∧ w' = W := fun W => (and_any n1 n2 W).mono fun e w' ⟨a, b⟩ => ⟨by rw [a, hy], b.symm⟩
  have q2 : ∀ W, Calls Try.prog 16 #[.int .i64 n2, .int .i64 n1] W fun e w' => e = .returned (.int .i64 y) ∧ w' = W := fun W => (and_any n2 n1 W).mono fun e w' ⟨a, b⟩ => ⟨by rw [a, hy, and_comm6], b.symm⟩
  have q3 : ∀ W, Calls Try.prog 14 #[.int .i64 y] W fun e w' => e = .returned (.int .i64 x) ∧ w' = W := fun W => (not_any y W).mono fun e w' ⟨a, b⟩ => ⟨by rw [a, hx], b.symm⟩
  have q4 : ∀ W, Calls Try.prog 14 #[.int .i64 n1] W fun e w' => e = .returned (.int .i64 u) ∧ w' = W := fun W => (not_any n1 W).mono fun e w' ⟨a, b⟩ => ⟨by rw [a, hu], b.symm⟩
  have q5 : ∀ W, Calls Try.prog 14 #[.int .i64 n2] W fun e w' => e = .returned (.int .i64 v) ∧ w' = W := fun W => (not_any n2 W).mono fun e w' ⟨a, b⟩ => ⟨by rw [a, hv], b.symm⟩
  have q6 : ∀ W, Calls Try.prog 18 #[.int .i64 u, .int .i64 v] W fun e w' => e = .returned (.int .i64 x) ∧ w' = W := fun W => (or_any u v W).mono fun e w' ⟨a, b⟩ => ⟨by rw [a, hu, hv, ← de_morgan, hx, hy], b.symm⟩
  have q7 : ∀ W, Calls Try.prog 18 #[.int .i64 n1, .int .i64 n2] W fun e w' => e = .returned (.int .i64 z) ∧ w' = W := fun W => (or_any n1 n2 W).mono fun e w' ⟨a, b⟩ => ⟨by rw [a, hz], b.symm⟩
  have q8 : ∀ W, Calls Try.prog 18 #[.int .i64 n2, .int .i64 n1] W fun e w' => e = .returned (.int .i64 z) ∧ w' = W := fun W => (or_any n2 n1 W).mono fun e w' ⟨a, b⟩ => ⟨by rw [a, hz, or_comm6], b.symm⟩
  have Q1 := Lib.hid q1; have Q2 := Lib.hid q2; have Q3 := Lib.hid q3; have Q4 := Lib.hid q4; have Q5 := Lib.hid q5; have Q6 := Lib.hid q6; have Q7 := Lib.hid q7; have Q8 := Lib.hid q8
  clear q1 q2 q3 q4 q5 q6 q7 q8 hy hx hu hv hz
  have HW := Lib.hid (Below.refl w.heap.size w)
  have HXx := Lib.hid (blk_new w 23 #[.int .i64 k1, .int .i64 n1, .string s1])
  replace HW := Lib.hid (blw_al HW.out (.cells #[.int .i64 k1, .int .i64 n1, .string s1] 23))
  replace HXx := Lib.hid (blk_alloc HXx.out (.cells #[.int .i64 k2, .int .i64 n2, .string s2] 23))
  have HXy := Lib.hid (show Blk ((w.alloc (.cells #[.int .i64 k1, .int .i64 n1, .string s1] 23)).alloc (.cells #[.int .i64 k2, .int .i64 n2, .string s2] 23)) (w.heap.size + 1) 23 #[.int .i64 k2, .int .i64 n2, .string s2] from blk_at (by simp))
  replace HW := Lib.hid (blw_al HW.out (.cells #[.int .i64 k2, .int .i64 n2, .string s2] 23))
  go_enter Try.func6, Try.ntmps6
  go_wp2_with fail
  refine (works6_any _).mono ?_
  rintro e w0 ⟨rfl, b⟩
  replace HW := Lib.hid (blw_on HW.out b)
  replace HXx := Lib.hid (blk_below HXx.out b)
  replace HXy := Lib.hid (blk_below HXy.out b)
  clear b
  have x0 := blk_cell HXx.out 0 rfl; have x1 := blk_cell HXx.out 1 rfl; have x2 := blk_cell HXx.out 2 rfl
  have y0 := blk_cell HXy.out 0 rfl; have y1 := blk_cell HXy.out 1 rfl; have y2 := blk_cell HXy.out 2 rfl
  go_wp2_with fail
  refine (great2_any _ _ _ k1 n1 s1 k2 n2 s2 _ (blk_new _ _ _) HS1.out HS2.out).mono ?_
  rw [HG.out]
  rintro e w1 ⟨rfl, rfl⟩
  clear x0 x1 x2 y0 y1 y2
  replace HXx := Lib.hid (blk_alloc HXx.out (.cells #[.int .i64 k1, .int .i64 n1, .string s1, .int .i64 k2, .int .i64 n2, .string s2] 23))
  replace HXy := Lib.hid (blk_alloc HXy.out (.cells #[.int .i64 k1, .int .i64 n1, .string s1, .int .i64 k2, .int .i64 n2, .string s2] 23))
  replace HW := Lib.hid (blw_al HW.out (.cells #[.int .i64 k1, .int .i64 n1, .string s1, .int .i64 k2, .int .i64 n2, .string s2] 23))
  have x0 := blk_cell HXx.out 0 rfl; have x1 := blk_cell HXx.out 1 rfl; have x2 := blk_cell HXx.out 2 rfl
  go_wp2_with fail
  refine (qcheck_any k1 n1 s1 _ (by have := HS1.out; omega)).mono ?_
  rw [← HC1.out]
  rintro e w2 ⟨rfl, b⟩
  replace HW := Lib.hid (blw_on HW.out b)
  replace HXx := Lib.hid (blk_below HXx.out b)
  replace HXy := Lib.hid (blk_below HXy.out b)
  clear b x0 x1 x2
  have y0 := blk_cell HXy.out 0 rfl; have y1 := blk_cell HXy.out 1 rfl; have y2 := blk_cell HXy.out 2 rfl
  go_wp2_with fail
  refine (qcheck_any k2 n2 s2 _ (by have := HS2.out; omega)).mono ?_
  rw [← HC2.out]
  rintro e w3 ⟨rfl, b⟩
  replace HW := Lib.hid (blw_on HW.out b)
  replace HXx := Lib.hid (blk_below HXx.out b)
  replace HXy := Lib.hid (blk_below HXy.out b)
  clear b y0 y1 y2
  have x1 := blk_cell HXx.out 1 rfl
  have y1 := blk_cell HXy.out 1 rfl
  have tx : (x != x) = false := by simp
  have ty : (y != y) = false := by simp
  have tz : (z != z) = false := by simp
  go_wp2_with fail
  go_quiet (first
    | (go_at_call 16; with_reducible exact Calls.quiet_of_same (Q1.out _))
    | (go_at_call 16; with_reducible exact Calls.quiet_of_same (Q2.out _))
    | (go_at_call 14; with_reducible exact Calls.quiet_of_same (Q3.out _))
    | (go_at_call 14; with_reducible exact Calls.quiet_of_same (Q4.out _))
    | (go_at_call 14; with_reducible exact Calls.quiet_of_same (Q5.out _))
    | (go_at_call 18; with_reducible exact Calls.quiet_of_same (Q6.out _))
    | (go_at_call 18; with_reducible exact Calls.quiet_of_same (Q7.out _))
    | (go_at_call 18; with_reducible exact Calls.quiet_of_same (Q8.out _)))
  replace HW := Lib.hid (blw_drewN HW.out nq)
  replace HXx := Lib.hid (blk_drewN HXx.out nq)
  replace HXy := Lib.hid (blk_drewN HXy.out nq)
  clear x1 y1 tx ty tz Q1 Q2 Q3 Q4 Q5 Q6 Q7 Q8
  generalize w3.drewN nq = W1 at HW HXx HXy ⊢
  go_wp2_with fail
  have HTI := Lib.hid (show TI w W1.heap.size k1 n1 s1 k2 n2 s2 (W1.alloc (.cells #[.string ⟨#[43]⟩, .string ⟨#[42]⟩, .string ⟨#[61]⟩, .string ⟨#[60, 62]⟩] 9)) from ⟨blk_alloc HXx.out _, blk_alloc HXy.out _, blk_new _ _ _, blw_al HW.out _⟩)
  clear HXx HXy HW
  generalize W1.heap.size = lb at HTI ⊢
  go_loopw [8] (fun i wr => ∃ k : Nat, k ≤ 4 ∧ i = .int .i64 k ∧ Hid (TI w lb k1 n1 s1 k2 n2 s2 wr)) (fun i _ => 4 - (intOf i).toNat)
  case atStart => exact ⟨0, by omega, rfl, HTI⟩
  case round =>
    obtain ⟨k, hk, rfl, ht⟩ := hrel
    clear HTI
    by_cases hlt : k < 4
    · obtain ⟨r, hb1, hb2⟩ := HOPS.out k hlt
      obtain ⟨op, hop⟩ : ∃ op, op = opsL k := ⟨_, rfl⟩
      rw [← hop] at hb1 hb2
      have HB1 := Lib.hid hb1; have HB2 := Lib.hid hb2; have HP := Lib.hid hop
      clear hb1 hb2 hop
      have j1 : (k : Int) < 4 := by omega
      have j0 : (0 : Int) ≤ k := by omega
      go_upto_region 11 with (fail)
      go_region_held3 (fun a => a.cell? ⟨w.heap.size, 0, none⟩ = some (.int .i64 k1) ∧ a.cell? ⟨w.heap.size, 1, none⟩ = some (.int .i64 n1) ∧ a.cell? ⟨w.heap.size, 2, none⟩ = some (.string s1) ∧ a.cell? ⟨w.heap.size + 1, 0, none⟩ = some (.int .i64 k2) ∧ a.cell? ⟨w.heap.size + 1, 1, none⟩ = some (.int .i64 n2) ∧ a.cell? ⟨w.heap.size + 1, 2, none⟩ = some (.string s2) ∧ a.cell? ⟨lb, k, none⟩ = some (.string op) ∧ TI w lb k1 n1 s1 k2 n2 s2 a)
        (first | assumption | exact ts_of ht.out hlt HP.out | exact ts_of (ti_drew ht.out) hlt HP.out | exact ts_of (ti_alloc (ti_drew ht.out) _) hlt HP.out | exact ts_of (ti_next (ti_drew ht.out) (by assumption)) hlt HP.out | exact ts_of (ti_alloc (ti_next (ti_drew ht.out) (by assumption)) _) hlt HP.out | exact ts_of (ti_next (ti_drew (ti_alloc ht.out _)) (by assumption)) hlt HP.out | exact ts_of (ti_sets ht.out (ti_sets ht.out (ti_sets ht.out (ti_next (ti_drew (ti_alloc ht.out _)) (by assumption)) _ _) _ _) _ _) hlt HP.out)
        ((go_at_call 29; refine (HB1.out _).mono ?_; rintro e w2 ⟨rfl, hb⟩; (try (have hz := blk_drewA hb; have z0 := blk_cell hz 0 rfl; have z1 := blk_cell hz 1 rfl; have z2 := blk_cell hz 2 rfl; have z3 := blk_frozen hz 0; have z4 := blk_frozen hz 1; have z5 := blk_frozen hz 2))))
      · rename_i hHeld
        have hT := And.right (And.right (And.right (And.right (And.right (And.right (And.right hHeld))))))
        have hG : Blk (w2.alloc (.cells #[.int .i64 r.k, .int .i64 r.n, .string r.s] 23)) (w2.heap.size) 23 #[.int .i64 r.k, .int .i64 r.n, .string r.s] := blk_new w2 23 _
        clear hHeld hb
        generalize w2.alloc (.cells #[.int .i64 r.k, .int .i64 r.n, .string r.s] 23) = W2 at hT hG ⊢
        generalize w2.heap.size = g at hG ⊢
        have HJ := Lib.hid (show TJ w lb g r k1 n1 s1 k2 n2 s2 W2 from ⟨hT, hG⟩)
        clear hT hG ht HB1
        go_wp2_with fail
        go_region_held3 (fun a => a.cell? ⟨w.heap.size, 0, none⟩ = some (.int .i64 k1) ∧ a.cell? ⟨w.heap.size, 1, none⟩ = some (.int .i64 n1) ∧ a.cell? ⟨w.heap.size, 2, none⟩ = some (.string s1) ∧ a.cell? ⟨w.heap.size + 1, 0, none⟩ = some (.int .i64 k2) ∧ a.cell? ⟨w.heap.size + 1, 1, none⟩ = some (.int .i64 n2) ∧ a.cell? ⟨w.heap.size + 1, 2, none⟩ = some (.string s2) ∧ a.cell? ⟨lb, k, none⟩ = some (.string op) ∧ TJ w lb g r k1 n1 s1 k2 n2 s2 a)
          (first | assumption | exact tjs_of HJ.out hlt HP.out | exact tjs_of (tj_drew HJ.out) hlt HP.out | exact tjs_of (tj_alloc (tj_drew HJ.out) _) hlt HP.out | exact tjs_of (tj_next (tj_drew HJ.out) (by assumption)) hlt HP.out | exact tjs_of (tj_alloc (tj_next (tj_drew HJ.out) (by assumption)) _) hlt HP.out | exact tjs_of (tj_next (tj_drew (tj_alloc HJ.out _)) (by assumption)) hlt HP.out | exact tjs_of (tj_sets HJ.out (tj_sets HJ.out (tj_sets HJ.out (tj_next (tj_drew (tj_alloc HJ.out _)) (by assumption)) _ _) _ _) _ _) hlt HP.out)
          ((go_at_call 29; refine (HB2.out _).mono ?_; rintro e w4 ⟨rfl, hb⟩; (try (have hz := blk_drewA hb; have z0 := blk_cell hz 0 rfl; have z1 := blk_cell hz 1 rfl; have z2 := blk_cell hz 2 rfl; have z3 := blk_frozen hz 0; have z4 := blk_frozen hz 1; have z5 := blk_frozen hz 2))))
        · rename_i hHeld
          have hT := And.right (And.right (And.right (And.right (And.right (And.right (And.right hHeld))))))
          have hG : Blk (w4.alloc (.cells #[.int .i64 r.k, .int .i64 r.n, .string r.s] 23)) (w4.heap.size) 23 #[.int .i64 r.k, .int .i64 r.n, .string r.s] := blk_new w4 23 _
          clear hHeld hb
          generalize w4.alloc (.cells #[.int .i64 r.k, .int .i64 r.n, .string r.s] 23) = W3 at hT hG ⊢
          generalize w4.heap.size = g2 at hG ⊢
          have HJ2 := Lib.hid hT; have HG2 := Lib.hid hG; clear hT hG HJ HB2
          have c0 := blk_cell HJ2.out.g 0 rfl; have c1 := blk_cell HJ2.out.g 1 rfl; have c2 := blk_cell HJ2.out.g 2 rfl
          have d0 := blk_cell HG2.out 0 rfl; have d1 := blk_cell HG2.out 1 rfl; have d2 := blk_cell HG2.out 2 rfl
          have hne := run_neqS r.k r.n r.s; have hgd := guardV; have te : (r.e != r.e) = false := by simp
          go_wp2_with fail
          go_roundw
          case rel => exact ⟨k + 1, by omega, by go_num, Lib.hid HJ2.out.ti⟩
          case measure => simp [intOf]; omega
        · rename_i hHeld
          have hT := And.right (And.right (And.right (And.right (And.right (And.right (And.right hHeld))))))
          have hG : Blk (((w4.setCell ⟨W2.heap.size, 0, none⟩ (.int .i64 r.k)).setCell ⟨W2.heap.size, 1, none⟩ (.int .i64 r.n)).setCell ⟨W2.heap.size, 2, none⟩ (.string r.s)) (W2.heap.size) 23 #[.int .i64 r.k, .int .i64 r.n, .string r.s] := blk_set (blk_set (blk_set hz 0 _) 1 _) 2 _
          clear hHeld hb hz z0 z1 z2 z3 z4 z5
          generalize ((w4.setCell ⟨W2.heap.size, 0, none⟩ (.int .i64 r.k)).setCell ⟨W2.heap.size, 1, none⟩ (.int .i64 r.n)).setCell ⟨W2.heap.size, 2, none⟩ (.string r.s) = W3 at hT hG ⊢
          generalize W2.heap.size = g2 at hG ⊢
          have HJ2 := Lib.hid hT; have HG2 := Lib.hid hG; clear hT hG HJ HB2
          have c0 := blk_cell HJ2.out.g 0 rfl; have c1 := blk_cell HJ2.out.g 1 rfl; have c2 := blk_cell HJ2.out.g 2 rfl
          have d0 := blk_cell HG2.out 0 rfl; have d1 := blk_cell HG2.out 1 rfl; have d2 := blk_cell HG2.out 2 rfl
          have hne := run_neqS r.k r.n r.s; have hgd := guardV; have te : (r.e != r.e) = false := by simp
          go_wp2_with fail
          go_roundw
          case rel => exact ⟨k + 1, by omega, by go_num, Lib.hid HJ2.out.ti⟩
          case measure => simp [intOf]; omega
      · rename_i hHeld
        have hT := And.right (And.right (And.right (And.right (And.right (And.right (And.right hHeld))))))
        have hG : Blk (((w2.setCell ⟨wr.heap.size, 0, none⟩ (.int .i64 r.k)).setCell ⟨wr.heap.size, 1, none⟩ (.int .i64 r.n)).setCell ⟨wr.heap.size, 2, none⟩ (.string r.s)) (wr.heap.size) 23 #[.int .i64 r.k, .int .i64 r.n, .string r.s] := blk_set (blk_set (blk_set hz 0 _) 1 _) 2 _
        clear hHeld hb hz z0 z1 z2 z3 z4 z5
        generalize ((w2.setCell ⟨wr.heap.size, 0, none⟩ (.int .i64 r.k)).setCell ⟨wr.heap.size, 1, none⟩ (.int .i64 r.n)).setCell ⟨wr.heap.size, 2, none⟩ (.string r.s) = W2 at hT hG ⊢
        generalize wr.heap.size = g at hG ⊢
        have HJ := Lib.hid (show TJ w lb g r k1 n1 s1 k2 n2 s2 W2 from ⟨hT, hG⟩)
        clear hT hG ht HB1
        go_wp2_with fail
        go_region_held3 (fun a => a.cell? ⟨w.heap.size, 0, none⟩ = some (.int .i64 k1) ∧ a.cell? ⟨w.heap.size, 1, none⟩ = some (.int .i64 n1) ∧ a.cell? ⟨w.heap.size, 2, none⟩ = some (.string s1) ∧ a.cell? ⟨w.heap.size + 1, 0, none⟩ = some (.int .i64 k2) ∧ a.cell? ⟨w.heap.size + 1, 1, none⟩ = some (.int .i64 n2) ∧ a.cell? ⟨w.heap.size + 1, 2, none⟩ = some (.string s2) ∧ a.cell? ⟨lb, k, none⟩ = some (.string op) ∧ TJ w lb g r k1 n1 s1 k2 n2 s2 a)
          (first | assumption | exact tjs_of HJ.out hlt HP.out | exact tjs_of (tj_drew HJ.out) hlt HP.out | exact tjs_of (tj_alloc (tj_drew HJ.out) _) hlt HP.out | exact tjs_of (tj_next (tj_drew HJ.out) (by assumption)) hlt HP.out | exact tjs_of (tj_alloc (tj_next (tj_drew HJ.out) (by assumption)) _) hlt HP.out | exact tjs_of (tj_next (tj_drew (tj_alloc HJ.out _)) (by assumption)) hlt HP.out | exact tjs_of (tj_sets HJ.out (tj_sets HJ.out (tj_sets HJ.out (tj_next (tj_drew (tj_alloc HJ.out _)) (by assumption)) _ _) _ _) _ _) hlt HP.out)
          ((go_at_call 29; refine (HB2.out _).mono ?_; rintro e w4 ⟨rfl, hb⟩; (try (have hz := blk_drewA hb; have z0 := blk_cell hz 0 rfl; have z1 := blk_cell hz 1 rfl; have z2 := blk_cell hz 2 rfl; have z3 := blk_frozen hz 0; have z4 := blk_frozen hz 1; have z5 := blk_frozen hz 2))))
        · rename_i hHeld
          have hT := And.right (And.right (And.right (And.right (And.right (And.right (And.right hHeld))))))
          have hG : Blk (w4.alloc (.cells #[.int .i64 r.k, .int .i64 r.n, .string r.s] 23)) (w4.heap.size) 23 #[.int .i64 r.k, .int .i64 r.n, .string r.s] := blk_new w4 23 _
          clear hHeld hb
          generalize w4.alloc (.cells #[.int .i64 r.k, .int .i64 r.n, .string r.s] 23) = W3 at hT hG ⊢
          generalize w4.heap.size = g2 at hG ⊢
          have HJ2 := Lib.hid hT; have HG2 := Lib.hid hG; clear hT hG HJ HB2
          have c0 := blk_cell HJ2.out.g 0 rfl; have c1 := blk_cell HJ2.out.g 1 rfl; have c2 := blk_cell HJ2.out.g 2 rfl
          have d0 := blk_cell HG2.out 0 rfl; have d1 := blk_cell HG2.out 1 rfl; have d2 := blk_cell HG2.out 2 rfl
          have hne := run_neqS r.k r.n r.s; have hgd := guardV; have te : (r.e != r.e) = false := by simp
          go_wp2_with fail
          go_roundw
          case rel => exact ⟨k + 1, by omega, by go_num, Lib.hid HJ2.out.ti⟩
          case measure => simp [intOf]; omega
        · rename_i hHeld
          have hT := And.right (And.right (And.right (And.right (And.right (And.right (And.right hHeld))))))
          have hG : Blk (((w4.setCell ⟨W2.heap.size, 0, none⟩ (.int .i64 r.k)).setCell ⟨W2.heap.size, 1, none⟩ (.int .i64 r.n)).setCell ⟨W2.heap.size, 2, none⟩ (.string r.s)) (W2.heap.size) 23 #[.int .i64 r.k, .int .i64 r.n, .string r.s] := blk_set (blk_set (blk_set hz 0 _) 1 _) 2 _
          clear hHeld hb hz z0 z1 z2 z3 z4 z5
          generalize ((w4.setCell ⟨W2.heap.size, 0, none⟩ (.int .i64 r.k)).setCell ⟨W2.heap.size, 1, none⟩ (.int .i64 r.n)).setCell ⟨W2.heap.size, 2, none⟩ (.string r.s) = W3 at hT hG ⊢
          generalize W2.heap.size = g2 at hG ⊢
          have HJ2 := Lib.hid hT; have HG2 := Lib.hid hG; clear hT hG HJ HB2
          have c0 := blk_cell HJ2.out.g 0 rfl; have c1 := blk_cell HJ2.out.g 1 rfl; have c2 := blk_cell HJ2.out.g 2 rfl
          have d0 := blk_cell HG2.out 0 rfl; have d1 := blk_cell HG2.out 1 rfl; have d2 := blk_cell HG2.out 2 rfl
          have hne := run_neqS r.k r.n r.s; have hgd := guardV; have te : (r.e != r.e) = false := by simp
          go_wp2_with fail
          go_roundw
          case rel => exact ⟨k + 1, by omega, by go_num, Lib.hid HJ2.out.ti⟩
          case measure => simp [intOf]; omega
    · have HW := Lib.hid ht.out.below; have HXx := Lib.hid ht.out.x; have HXy := Lib.hid ht.out.y
      clear ht HOPS
      have x0 := blk_cell HXx.out 0 rfl
      have x1 := blk_cell HXx.out 1 rfl
      have x2 := blk_cell HXx.out 2 rfl
      have y0 := blk_cell HXy.out 0 rfl
      have y1 := blk_cell HXy.out 1 rfl
      have y2 := blk_cell HXy.out 2 rfl
      go_wp2_with fail
      refine (HL.out _).mono ?_
      rintro e' w11 ⟨rfl, b⟩
      replace HW := Lib.hid (blw_on HW.out b)
      replace HXx := Lib.hid (blk_below HXx.out b)
      replace HXy := Lib.hid (blk_below HXy.out b)
      clear x0 x1 x2 y0 y1 y2
      clear b
      replace HXx := Lib.hid (blk_alloc HXx.out (.cells #[.int .i64 rk, .int .i64 rn, .string ⟨#[]⟩] 23))
      replace HXy := Lib.hid (blk_alloc HXy.out (.cells #[.int .i64 rk, .int .i64 rn, .string ⟨#[]⟩] 23))
      have HXp := Lib.hid (blk_new w11 23 #[.int .i64 rk, .int .i64 rn, .string ⟨#[]⟩])
      replace HW := Lib.hid (blw_al HW.out (.cells #[.int .i64 rk, .int .i64 rn, .string ⟨#[]⟩] 23))
      have x0 := blk_cell HXx.out 0 rfl
      have x1 := blk_cell HXx.out 1 rfl
      have x2 := blk_cell HXx.out 2 rfl
      have y0 := blk_cell HXy.out 0 rfl
      have y1 := blk_cell HXy.out 1 rfl
      have y2 := blk_cell HXy.out 2 rfl
      go_wp2_with fail
      refine (HR.out _).mono ?_
      rintro e' w12 ⟨rfl, b⟩
      replace HW := Lib.hid (blw_on HW.out b)
      replace HXx := Lib.hid (blk_below HXx.out b)
      replace HXy := Lib.hid (blk_below HXy.out b)
      replace HXp := Lib.hid (blk_below HXp.out b)
      clear x0 x1 x2 y0 y1 y2
      clear b
      replace HXx := Lib.hid (blk_alloc HXx.out (.cells #[.int .i64 rk, .int .i64 rn, .string ⟨#[]⟩] 23))
      replace HXy := Lib.hid (blk_alloc HXy.out (.cells #[.int .i64 rk, .int .i64 rn, .string ⟨#[]⟩] 23))
      replace HXp := Lib.hid (blk_alloc HXp.out (.cells #[.int .i64 rk, .int .i64 rn, .string ⟨#[]⟩] 23))
      have HXq := Lib.hid (blk_new w12 23 #[.int .i64 rk, .int .i64 rn, .string ⟨#[]⟩])
      replace HW := Lib.hid (blw_al HW.out (.cells #[.int .i64 rk, .int .i64 rn, .string ⟨#[]⟩] 23))
      have x0 := blk_cell HXx.out 0 rfl
      have x1 := blk_cell HXx.out 1 rfl
      have x2 := blk_cell HXx.out 2 rfl
      have y0 := blk_cell HXy.out 0 rfl
      have y1 := blk_cell HXy.out 1 rfl
      have y2 := blk_cell HXy.out 2 rfl
      go_wp2_with fail
      refine (HE.out _).mono ?_
      rintro e' w13 ⟨rfl, b⟩
      replace HW := Lib.hid (blw_on HW.out b)
      replace HXx := Lib.hid (blk_below HXx.out b)
      replace HXy := Lib.hid (blk_below HXy.out b)
      replace HXp := Lib.hid (blk_below HXp.out b)
      replace HXq := Lib.hid (blk_below HXq.out b)
      clear x0 x1 x2 y0 y1 y2
      clear b
      replace HXx := Lib.hid (blk_alloc HXx.out (.cells #[.int .i64 zk, .int .i64 zn, .string ⟨#[]⟩] 23))
      replace HXy := Lib.hid (blk_alloc HXy.out (.cells #[.int .i64 zk, .int .i64 zn, .string ⟨#[]⟩] 23))
      replace HXp := Lib.hid (blk_alloc HXp.out (.cells #[.int .i64 zk, .int .i64 zn, .string ⟨#[]⟩] 23))
      replace HXq := Lib.hid (blk_alloc HXq.out (.cells #[.int .i64 zk, .int .i64 zn, .string ⟨#[]⟩] 23))
      have HXs := Lib.hid (blk_new w13 23 #[.int .i64 zk, .int .i64 zn, .string ⟨#[]⟩])
      replace HW := Lib.hid (blw_al HW.out (.cells #[.int .i64 zk, .int .i64 zn, .string ⟨#[]⟩] 23))
      clear HXx
      clear HXy
      have p0 := blk_cell HXp.out 0 rfl
      have p1 := blk_cell HXp.out 1 rfl
      have p2 := blk_cell HXp.out 2 rfl
      go_wp2_with fail
      refine (HT.out _).mono ?_
      rintro e' w14 ⟨rfl, b⟩
      replace HW := Lib.hid (blw_on HW.out b)
      replace HXp := Lib.hid (blk_below HXp.out b)
      replace HXq := Lib.hid (blk_below HXq.out b)
      replace HXs := Lib.hid (blk_below HXs.out b)
      clear p0 p1 p2
      clear b
      have HEI := Lib.hid (show EI w w11.heap.size w12.heap.size w13.heap.size rk rn zk zn w14 from ⟨HXp.out, HXq.out, HXs.out, HW.out⟩)
      clear HXp HXq HXs HW
      have heqr := run_eqlS rk rn ⟨#[]⟩; have heqz := run_eqlS zk zn ⟨#[]⟩; have hgd := guardV
      go_wp2_with fail
      generalize w11.heap.size = p at HEI ⊢
      generalize w12.heap.size = q at HEI ⊢
      generalize w13.heap.size = s at HEI ⊢
      go_region_held3 (fun a => a.cell? ⟨p, 0, none⟩ = some (.int .i64 rk) ∧ a.cell? ⟨p, 1, none⟩ = some (.int .i64 rn) ∧ a.cell? ⟨p, 2, none⟩ = some (.string ⟨#[]⟩) ∧ a.cell? ⟨q, 0, none⟩ = some (.int .i64 rk) ∧ a.cell? ⟨q, 1, none⟩ = some (.int .i64 rn) ∧ a.cell? ⟨q, 2, none⟩ = some (.string ⟨#[]⟩) ∧ a.cell? ⟨s, 0, none⟩ = some (.int .i64 zk) ∧ a.cell? ⟨s, 1, none⟩ = some (.int .i64 zn) ∧ a.cell? ⟨s, 2, none⟩ = some (.string ⟨#[]⟩) ∧ EI w p q s rk rn zk zn a)
        (first | assumption | exact es_of HEI.out | exact es_of (ei_drew HEI.out) | exact es_of (ei_next (ei_drew HEI.out) (by assumption)) | exact es_of (ei_next HEI.out (by assumption)))
        (first | (go_at_call 14; refine (HN.out _).mono ?_; rintro e w' ⟨rfl, rfl⟩) | (go_at_call 12; refine (HO.out _).mono ?_; rintro e w8 ⟨rfl, hb⟩))
      all_goals go_wp2_with fail
      all_goals go_ret
      all_goals exact ⟨rfl, EI.below (And.right (And.right (And.right (And.right (And.right (And.right (And.right (And.right (And.right (by assumption))))))))))⟩
end Go.Proofs.Ytadbmjmikoggbaa
