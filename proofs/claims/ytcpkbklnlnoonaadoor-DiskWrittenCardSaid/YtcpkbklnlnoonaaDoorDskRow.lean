/-
  Layer 7, the row of pending changes: one entry read, an append in place where there is room, the tail cleared; the invariant where the row alone has turned. Conditions: the sizes are those that the invariant holds.
-/
import Derived.Test.YtcpkbklnlnoonaaDoorDskCont
import Derived.Test.YtcpkbklnlnoonaaDoorDskSel
import Derived.LaidEqlPtr
namespace Go.Proofs.YtcpkbklnlnoonaaDoor
open Go.RowKit
variable {L : Loc} {ρ ρ' : Nat → Option Role} {n : Nat} {S : DS} {w w' : World}

theorem rows_len (F : Nat → Nat) (l : List Chg) : (l.flatMap (Chg.cells F)).length = l.length * 5 := by
  induction l with
  | nil => rfl
  | cons c l ih => rw [List.flatMap_cons, List.length_append, ih, cells_len, List.length_cons]; omega
theorem rows_take (F : Nat → Nat) (l : List Chg) (k : Nat) : (l.take k).flatMap (Chg.cells F) = (l.flatMap (Chg.cells F)).take (k * 5) := by
  induction l generalizing k with
  | nil => simp
  | cons c l ih =>
    cases k with
    | zero => simp
    | succ k =>
      rw [List.take_succ_cons, List.flatMap_cons, List.flatMap_cons, ih, show (k + 1) * 5 = (c.cells F).length + k * 5 by rw [cells_len]; omega, List.take_length_add_append]
theorem rows_drop (F : Nat → Nat) (l : List Chg) (k : Nat) : (l.drop k).flatMap (Chg.cells F) = (l.flatMap (Chg.cells F)).drop (k * 5) := by
  induction l generalizing k with
  | nil => simp
  | cons c l ih =>
    cases k with
    | zero => simp
    | succ k =>
      rw [List.drop_succ_cons, List.flatMap_cons, ih, show (k + 1) * 5 = (c.cells F).length + k * 5 by rw [cells_len]; omega, List.drop_length_add_append]
theorem rows_at (F : Nat → Nat) (l : List Chg) (i j : Nat) (hi : i < l.length) (hj : j < 5) : (l.flatMap (Chg.cells F))[i * 5 + j]? = (l[i].cells F)[j]? := by
  have h := rows_drop F l i
  rw [← List.getElem?_drop, ← h, List.drop_eq_getElem_cons hi, List.flatMap_cons, List.getElem?_append_left (by rw [cells_len]; exact hj)]

/-- The row of pending changes, by its block. -/
structure PRow (w : World) (g cap : Nat) (F : Nat → Nat) (l : List Chg) (cur : Array Value) : Prop where
  blk : w.heap[g]? = some (.cells cur 52 (0, 0))
  len : l.length ≤ cap
  max : cap ≤ maxLen
  size : cur.size = cap * 5
  take : cur.toList.take (l.length * 5) = l.flatMap (Chg.cells F)
theorem prow_of {v : Value} {F : Nat → Nat} {l : List Chg} (h : w.ownsRow 0 52 5 v l.length (l.flatMap (Chg.cells F))) : (v = .slice none 0 0 ∧ l = []) ∨ ∃ g cap cur, v = .slice (some ⟨g, 0, none⟩) l.length cap ∧ PRow w g cap F l cur := by
  rcases h.2 with ⟨rfl, h0⟩ | ⟨g, cap, cur, rfl, _, hg, h1, h2, h3, h4⟩
  · exact .inl ⟨rfl, List.eq_nil_of_length_eq_zero h0⟩
  · exact .inr ⟨g, cap, cur, rfl, hg, h1, h2, h3, h4⟩
theorem prow_back {g cap : Nat} {F : Nat → Nat} {l : List Chg} {cur : Array Value} (h : PRow w g cap F l cur) : w.ownsRow 0 52 5 (.slice (some ⟨g, 0, none⟩) l.length cap) l.length (l.flatMap (Chg.cells F)) :=
  ⟨rows_len F l, .inr ⟨g, cap, cur, rfl, Nat.zero_le _, h.blk, h.len, h.max, h.size, h.take⟩⟩
theorem prow_cell {g cap : Nat} {F : Nat → Nat} {l : List Chg} {cur : Array Value} (h : PRow w g cap F l cur) (i j : Nat) (hi : i < l.length) (hj : j < 5) {v : Value} (hv : (l[i].cells F)[j]? = some v) : w.cell? ⟨g, i * 5 + j, none⟩ = some v := by
  rw [cell_of_row w g (i * 5 + j) cur 52 (0, 0) h.blk]
  have e := rows_at F l i j hi hj
  rw [hv, ← h.take, List.getElem?_take_of_lt (by omega)] at e
  simpa using e
/-- A shorter part of the row. -/
theorem prow_take {g cap : Nat} {F : Nat → Nat} {l : List Chg} {cur : Array Value} (h : PRow w g cap F l cur) (k : Nat) (hk : k ≤ l.length) : PRow w g cap F (l.take k) cur := by
  have e : (l.take k).length = k := by rw [List.length_take]; omega
  refine ⟨h.blk, by rw [e]; exact Nat.le_trans hk h.len, h.max, h.size, ?_⟩
  rw [e, rows_take, ← h.take, List.take_take]
  congr 1
  omega
/-- An entry written at place k of the row. -/
theorem prow_put {g cap : Nat} {F : Nat → Nat} {l : List Chg} {cur : Array Value} (h : PRow w g cap F l cur) (k : Nat) (hk : k < l.length) (c : Chg) :
    PRow (w.setRow g (cur.toList.take (k * 5) ++ c.cells F ++ cur.toList.drop (k * 5 + (c.cells F).length)).toArray) g cap F (l.take k ++ c :: l.drop (k + 1)) (cur.toList.take (k * 5) ++ c.cells F ++ cur.toList.drop (k * 5 + (c.cells F).length)).toArray := by
  have hl : (l.take k ++ c :: l.drop (k + 1)).length = l.length := by simp; omega
  have hc := h.len
  have hz := h.size
  have hk5 : k * 5 + 5 ≤ l.length * 5 := by omega
  have hcz : l.length * 5 ≤ cap * 5 := Nat.mul_le_mul_right _ hc
  refine ⟨setRow_heap w g cur _ 52 _ h.blk, by rw [hl]; exact hc, h.max, ?_, ?_⟩
  · simp only [List.size_toArray, List.length_append, List.length_take, List.length_drop, Array.length_toList, cells_len]
    omega
  · rw [hl]
    have ht := h.take
    rw [List.flatMap_append, List.flatMap_cons, rows_take, rows_drop, ← ht, List.take_take, List.append_assoc, List.take_append, List.take_append]
    simp only [List.length_take, Array.length_toList, cells_len]
    rw [List.take_take, show min (l.length * 5) (k * 5) = k * 5 by omega, show min (k * 5) (l.length * 5) = k * 5 by omega, show min (k * 5) cur.size = k * 5 by omega, List.take_of_length_le (l := c.cells F) (by rw [cells_len]; omega), List.drop_take, show (k + 1) * 5 = k * 5 + 5 by omega]
    congr 3
theorem prow_room {P : Program} {t ty : TypeId} {i : TypeInfo} (ht : P.underlying t = some (.slice 52)) (hi : P.info? 52 = some i) (hz : i.size = 5) {g cap : Nat} {F : Nat → Nat} {l : List Chg} {cur : Array Value} (h : PRow w g cap F l cur) (k : Nat) (hk : k < l.length) (c : Chg)
    (a : Nat) (ha : Blk w a 52 (c.cells F).toArray) :
    (Builtin.append_ #[t, t] ty #[.slice (some ⟨g, 0, none⟩) k cap, .slice (some ⟨a, 0, none⟩) 1 1]).run P w = .ok (.slice (some ⟨g, 0, none⟩) (k + 1) cap) (w.setRow g (cur.toList.take (k * 5) ++ c.cells F ++ cur.toList.drop (k * 5 + (c.cells F).length)).toArray) := by
  have hc := h.len
  have hsz := h.size
  have := run_append_room (P := P) w t ty 52 i ht hi g k cap cur h.blk ⟨a, 0, none⟩ 1 1 (c.cells F) (by rw [cells_len, hz]) (fun j u hj => by
    have := blk_cell ha j (v := u) (by simpa using hj)
    rw [Addr.add_lit]; simpa using this) (cells_one _ _) (by omega) (by rw [hz, cells_len, hsz]; omega)
  rw [hz] at this
  exact this
theorem wpList_append_is {P : Program} {w w' : World} {ops : Array Oper} {rest : List Oper} {o : Oper} {a : Act} {Q : Exit → Act → World → Prop} (hgd : o.guard = none) (s x : Operand) (t u : TypeId)
    (ho : o.op = .call { callee := .builtin .append, args := #[s, x], argTypes := #[t, u] }) {vs vx v : Value} (hs : a.eval s = vs) (hx : a.eval x = vx)
    (hrun : (Builtin.append_ #[t, u] o.type #[vs, vx]).run P w = .ok v w') (h : wpList P ops Q rest (a.put o.dst v) w') : wpList P ops Q (o :: rest) a w := by
  refine wpList_plain hgd fun K hK => ?_
  unfold Oper.wp
  simp [execOp, ho, resolve, invoke, builtin, hs, hx, hrun, Result.andThen]
  exact hK _ _ h
/-- clear of the tail of the row. -/
theorem prow_clear {P : Program} {t ty : TypeId} (ht : P.underlying t = some (.slice 52)) {z : Value} (hv : ∀ w, (zeroValue 52).run P w = .ok z w) (hz5 : z.cells.size = 5) (hz1 : ∀ u ∈ z.cells.toList, u.oneCell' = true) {g cap : Nat} {F : Nat → Nat} {l : List Chg} {cur : Array Value} (h : PRow w g cap F l cur) (k m c : Nat) (hk : k + m ≤ l.length) (hm : 0 < m) :
    ∃ cur', (Builtin.clear_ #[t] ty #[.slice (some ⟨g, k * 5, none⟩) m c]).run P w = .ok (.tuple #[]) (w.setRow g cur') ∧ PRow (w.setRow g cur') g cap F (l.take k) cur' := by
  obtain ⟨zs, hzs⟩ : ∃ zs, zs = (Builtin.zeroCells z.cells m).toList := ⟨_, rfl⟩
  have hzl : zs.length = m * 5 := by rw [hzs, Array.length_toList, size_zeroCells, hz5]
  have hz1' : ∀ u ∈ zs, u.oneCell' = true := by
    intro u hu
    rw [hzs] at hu
    simp only [Builtin.zeroCells, Array.mem_toList_iff, Array.mem_map, Array.mem_range] at hu
    obtain ⟨q, -, rfl⟩ := hu
    have hq : q % z.cells.size < z.cells.size := Nat.mod_lt _ (by omega)
    refine hz1 _ ?_
    rw [getElem!_pos z.cells _ hq]
    simp
  have hc := h.len
  have hsz := h.size
  have hfit : k * 5 + 0 + zs.length ≤ cur.size := by rw [hzl, hsz]; omega
  have hst := run_storeCells_at P g (k * 5) 52 zs 0 cur w h.blk hfit hz1'
  simp only [Nat.add_zero] at hst
  refine ⟨(cur.toList.take (k * 5) ++ zs ++ cur.toList.drop (k * 5 + zs.length)).toArray, ?_, ?_⟩
  · simp only [Builtin.clear_]
    obtain ⟨m', rfl⟩ : ∃ m', m = m' + 1 := ⟨m - 1, by omega⟩
    simp [run_underlying ht, hv, ← hzs, hst]
  · have hkl : k ≤ l.length := by omega
    have e : (l.take k).length = k := by rw [List.length_take]; omega
    refine ⟨setRow_heap w g cur _ 52 _ h.blk, by rw [e]; omega, h.max, ?_, ?_⟩
    · simp only [List.size_toArray, List.length_append, List.length_take, List.length_drop, Array.length_toList, hzl]
      omega
    · rw [e, rows_take, ← h.take, List.take_take, List.append_assoc, List.take_append]
      simp only [List.length_take, Array.length_toList]
      rw [List.take_take, show min (k * 5) (k * 5) = k * 5 by omega, show min (k * 5) (l.length * 5) = k * 5 by omega, show k * 5 - min (k * 5) cur.size = 0 by omega, List.take_zero, List.append_nil]

/-- The row alone has turned. -/
theorem inv_row (h : Inv L ρ n S w) (l : List Chg) (hg : w.grownBy w' L.pv.ownBlock) (hb : w'.ownsRow 0 52 5 L.pv l.length (l.flatMap (Chg.cells L.F))) (hok : ∀ c, c ∈ l → c.Ok S.nf) (hl : l.length ≤ n) :
    Inv L ρ n { S with pend := l } w' ∧ Step L ρ w L ρ w' := by
  have hkr : ∀ k r, ρ k = some r → r ≠ .pend → w'.heap[k]? = w.heap[k]? := fun k r hr hne => hg.block k (h.lt (by rw [hr]; simp)) (fun e => by have := h.pro k e.symm; rw [hr] at this; cases this; exact hne rfl)
  refine ⟨?_, ⟨hg.os, hg.tape, hg.output, hg.size, fun k hk hr => hg.block k hk (fun e => by have := h.pro k e.symm; rw [hr] at this; cases this), fun _ _ => rfl, rfl⟩⟩
  exact {
    hb := h.hb
    blk := (hkr _ _ h.hb (by simp)).trans h.blk
    mp := fun t => mapI_keep (h.mp t) (fun g hg' => hkr g _ hg' (by simp)) (fun _ _ h => h)
    flt := fltI_keep h.flt (fun g hg' => hkr g _ hg' (by simp)) (fun _ _ h => h)
    pnd := hb
    pro := h.pro
    fro := h.fro
    fil := fun j hj => (hkr _ _ (h.fro j hj) (by simp)).trans (h.fil j hj)
    con := fun t j hj => row_keep (h.con t j hj) (fun g hg' => hkr g _ (h.cro t j g hj hg') (by simp))
    cro := h.cro
    clen := h.clen
    dok := h.dok
    pok := hok
    old := fun k hk => h.old k (Nat.le_trans hg.size hk)
    room := h.room
    bnd := ⟨hl, h.bnd.2.1, h.bnd.2.2.1, h.bnd.2.2.2⟩ }
theorem setRow_grown' (w : World) (g : Nat) (cs : Array Value) : w.grownBy (w.setRow g cs) (some g) := ⟨rfl, rfl, rfl, by simp, fun k _ hk => setRow_other w g k cs (fun e => hk (by rw [e]))⟩
end Go.Proofs.YtcpkbklnlnoonaaDoor
