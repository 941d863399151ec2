/-
  Layer 12, the document's cache in memory: its block, and one slice of pages, a row of its own; how they are carried; parts of a row appended to another. Condition: none (definitions, and how they are carried).
-/
import Derived.Test.YtkpgekfejfbpjaaCchMath
import Derived.Deep.AppendLies
import Derived.Deep.AppendSrc
import Derived.Laws.OwnMore
namespace Go.Proofs.Ytkpgekfejfbpjaa
open Go.RowKit
variable {w w' : World}

theorem rowk {base : Nat} {e : TypeId} {size : Nat} {v : Value} {k : Nat} {xs : List Value} (h : w.ownsRow base e size v k xs) (hk : ∀ g, v.ownBlock = some g → w'.heap[g]? = w.heap[g]?) : w'.ownsRow base e size v k xs := by
  refine ⟨h.1, ?_⟩
  rcases h.2 with h1 | ⟨g, cap, cur, rfl, hb, hg, rest⟩
  · exact .inl h1
  · exact .inr ⟨g, cap, cur, rfl, hb, (hk g rfl).trans hg, rest⟩
theorem row_low {base : Nat} {e : TypeId} {size : Nat} {v : Value} {k : Nat} {xs : List Value} (h : w.ownsRow base e size v k xs) : w.ownsRow 0 e size v k xs := by
  refine ⟨h.1, ?_⟩
  rcases h.2 with h1 | ⟨g, cap, cur, rfl, hb, rest⟩
  · exact .inl h1
  · exact .inr ⟨g, cap, cur, rfl, Nat.zero_le _, rest⟩
theorem flatLen {α : Type} (f : α → List Value) (k : Nat) (hf : ∀ x, (f x).length = k) (l : List α) : (l.flatMap f).length = l.length * k := by
  induction l with
  | nil => simp
  | cons x l ih => rw [List.flatMap_cons, List.length_append, ih, hf, List.length_cons, Nat.add_mul]; omega
theorem flatAt {α : Type} (f : α → List Value) (k : Nat) (hf : ∀ x, (f x).length = k) : ∀ (l : List α) (i j : Nat) (hi : i < l.length), j < k → (l.flatMap f)[i * k + j]? = (f l[i])[j]?
  | [], i, j, hi, _ => absurd hi (Nat.not_lt_zero _)
  | x :: l, 0, j, hi, hj => by rw [List.flatMap_cons, Nat.zero_mul, Nat.zero_add, List.getElem?_append_left (by rw [hf]; exact hj)]; rfl
  | x :: l, i + 1, j, hi, hj => by
    have e : (i + 1) * k + j = k + (i * k + j) := by rw [Nat.add_mul]; omega
    rw [List.flatMap_cons, List.getElem?_append_right (by rw [hf]; omega), hf, e, Nat.add_sub_cancel_left, flatAt f k hf l i j (by simpa using hi) hj]
    rfl

/-- A page, as the document lays it. -/
def pgC (p : QP) : List Value := [.int .i64 p.n, .string p.s, .bool p.d, .int .i64 p.u]
theorem pgC_len (p : QP) : (pgC p).length = 4 := rfl
theorem pgC_one (l : List QP) : ∀ u ∈ l.flatMap pgC, u.oneCell' = true := fun u hu => by
  obtain ⟨p, -, hu⟩ := List.mem_flatMap.1 hu
  simp only [pgC, List.mem_cons, List.not_mem_nil, or_false] at hu
  rcases hu with rfl | rfl | rfl | rfl <;> rfl
theorem infoP : ∃ i z, Try.prog.info? 59 = some i ∧ i.zero = some z ∧ i.size = 4 ∧ i.bytes = 40 ∧ z.cells.size = 4 := by
  have h : (Try.prog.info? 59).map (fun i => (i.zero.map (·.cells.size), i.size, i.bytes)) = some (some 4, 4, 40) := by kernel_rfl
  obtain ⟨i, hi, hz⟩ := Option.map_eq_some_iff.1 h
  simp only [Prod.mk.injEq] at hz
  obtain ⟨h1, h2, h3⟩ := hz
  obtain ⟨z, h4, h5⟩ := Option.map_eq_some_iff.1 h1
  exact ⟨i, z, hi, h4, h2, h3, h5⟩

abbrev PRow (w : World) (base : Nat) (v : Value) (l : List QP) : Prop := w.ownsRow base 59 4 v l.length (l.flatMap pgC)
structure QInv (q : Nat) (v : Value) (R : QS) (w : World) : Prop where
  blk : Blk w q 38 #[v, .int .i64 R.uses, .int .i64 R.room]
  row : PRow w 0 v R.L
  ne : v.ownBlock ≠ some q
/-- The blocks of the document's cache. -/
def QB (q : Nat) (v : Value) (g : Nat) : Prop := g = q ∨ v.ownBlock = some g
/-- What a call may turn: the cache's own blocks, and new ones. -/
structure QStep (q : Nat) (v : Value) (w : World) (v' : Value) (w' : World) : Prop where
  os : w'.os = w.os
  tape : w'.tape = w.tape
  output : w'.output = w.output
  size : w.heap.size ≤ w'.heap.size
  blk : ∀ k, k < w.heap.size → ¬ QB q v k → w'.heap[k]? = w.heap[k]?
  new : ∀ g, QB q v' g → QB q v g ∨ w.heap.size ≤ g
variable {q : Nat} {v v' v'' : Value} {R R' : QS} {w'' : World}
theorem QStep.refl (q : Nat) (v : Value) (w : World) : QStep q v w v w := ⟨rfl, rfl, rfl, Nat.le_refl _, fun _ _ _ => rfl, fun _ h => .inl h⟩
theorem QStep.trans (h : QStep q v w v' w') (k : QStep q v' w' v'' w'') : QStep q v w v'' w'' :=
  ⟨k.os.trans h.os, k.tape.trans h.tape, k.output.trans h.output, Nat.le_trans h.size k.size,
   fun i hi hne => (k.blk i (Nat.lt_of_lt_of_le hi h.size) (fun hq => by
    rcases h.new i hq with h1 | h1
    · exact hne h1
    · omega)).trans (h.blk i hi hne),
   fun g hg => by
    rcases k.new g hg with h1 | h1
    · exact h.new g h1
    · exact .inr (Nat.le_trans h.size h1)⟩
theorem QStep.below (h : Below w.heap.size w w') : QStep q v w v w' := ⟨h.os, h.tape, h.output, h.size, fun k hk _ => h.block k hk, fun _ h => .inl h⟩
theorem QInv.heap (h : QInv q v R w) (hk : ∀ g, QB q v g → w'.heap[g]? = w.heap[g]?) : QInv q v R w' :=
  ⟨(hk _ (.inl rfl)).trans h.blk, rowk h.row (fun g hg => hk g (.inr hg)), h.ne⟩
theorem QInv.lt (h : QInv q v R w) {g : Nat} (hg : QB q v g) : g < w.heap.size := by
  rcases hg with rfl | hg
  · exact blk_lt h.blk
  · exact (h.row.lt g hg).2
theorem QInv.below (h : QInv q v R w) (hb : Below w.heap.size w w') : QInv q v R w' := h.heap (fun g hg => hb.block g (h.lt hg))
theorem QInv.drew (h : QInv q v R w) : QInv q v R w.drew := h.heap (fun _ _ => rfl)
theorem QInv.drewN (h : QInv q v R w) (n : Nat) : QInv q v R (w.drewN n) := h.heap (fun _ _ => rfl)
theorem q_cells (h : QInv q v R w) : w.cell? ⟨q, 0, none⟩ = some v ∧ w.cell? ⟨q, 1, none⟩ = some (.int .i64 R.uses) ∧ w.cell? ⟨q, 2, none⟩ = some (.int .i64 R.room) :=
  ⟨blk_cell h.blk 0 rfl, blk_cell h.blk 1 rfl, blk_cell h.blk 2 rfl⟩
/-- The slice stored anew: a row made since. -/
theorem q_put (h : QInv q v R w) {v1 : Value} {l : List QP} (hg : Below w.heap.size w w') (hrow : PRow w' w.heap.size v1 l) : QInv q v1 { R with L := l } (w'.setCell ⟨q, 0, none⟩ v1) ∧ QStep q v w v1 (w'.setCell ⟨q, 0, none⟩ v1) := by
  have hlb := blk_lt h.blk
  have hnew : ∀ g, v1.ownBlock = some g → w.heap.size ≤ g := fun g hg' => (hrow.lt g hg').1
  have hk : ∀ k, k ≠ q → (w'.setCell ⟨q, 0, none⟩ v1).heap[k]? = w'.heap[k]? := keep_set _ _ _ _
  refine ⟨⟨?_, ?_, ?_⟩, ⟨hg.os, hg.tape, hg.output, by rw [size_set]; exact hg.size, fun k hk' hne => (hk k (fun e => hne (.inl e))).trans (hg.block k hk'), fun g hg' => ?_⟩⟩
  · exact blk_set (show Blk w' q 38 _ from (hg.block _ hlb).trans h.blk) 0 v1
  · exact rowk (row_low hrow) (fun g hg' => hk g (fun e => by have := hnew g hg'; omega))
  · intro e; have := hnew _ e; omega
  · rcases hg' with e | hg'
    · exact .inl (.inl e)
    · exact .inr (hnew g hg')
/-- The number of uses stored anew. -/
theorem q_use (h : QInv q v R w) (n : Nat) : QInv q v { R with uses := n } (w.setCell ⟨q, 1, none⟩ (.int .i64 n)) ∧ QStep q v w v (w.setCell ⟨q, 1, none⟩ (.int .i64 n)) := by
  have hk : ∀ k, k ≠ q → (w.setCell ⟨q, 1, none⟩ (.int .i64 n)).heap[k]? = w.heap[k]? := keep_set _ _ _ _
  refine ⟨⟨blk_set h.blk 1 _, rowk h.row (fun g hg' => hk g (fun e => h.ne (e ▸ hg'))), h.ne⟩, ⟨rfl, rfl, rfl, by rw [size_set]; exact Nat.le_refl _, fun k _ hne => hk k (fun e => hne (.inl e)), fun g hg => .inl hg⟩⟩

/-! ### the row -/
theorem row_form {base : Nat} {e : TypeId} {size : Nat} {k : Nat} {xs : List Value} (h : w.ownsRow base e size v k xs) : ∃ a cap, v = .slice a k cap ∧ k ≤ cap ∧ (k = 0 ∧ a = none ∨ ∃ g, a = some ⟨g, 0, none⟩ ∧ base ≤ g ∧ g < w.heap.size ∧ (∀ j u, xs[j]? = some u → w.cell? ⟨g, j, none⟩ = some u) ∧ ∀ j, w.frozen? ⟨g, j, none⟩ = false) := by
  rcases h.2 with ⟨rfl, rfl⟩ | ⟨g, cap, cur, rfl, hb, hg, hn, -⟩
  · exact ⟨none, 0, rfl, Nat.le_refl _, .inl ⟨rfl, rfl⟩⟩
  · refine ⟨some ⟨g, 0, none⟩, cap, rfl, hn, .inr ⟨g, rfl, hb, (Array.getElem?_eq_some_iff.1 hg).1, fun j u hu => ?_, fun j => blk_frozen hg j⟩⟩
    have := h.cells (g := g) rfl j u hu
    rwa [Addr.add_lit, Nat.zero_add] at this
theorem pg_cells {base : Nat} {l : List QP} (h : PRow w base v l) : ∃ a cap, v = .slice a l.length cap ∧ ∀ k (hk : k < l.length), ∃ g, a = some ⟨g, 0, none⟩ ∧ v.ownBlock = some g ∧ g < w.heap.size ∧
    w.cell? ⟨g, k * 4, none⟩ = some (.int .i64 l[k].n) ∧ w.cell? ⟨g, k * 4 + 1, none⟩ = some (.string l[k].s) ∧ w.cell? ⟨g, k * 4 + 2, none⟩ = some (.bool l[k].d) ∧ w.cell? ⟨g, k * 4 + 3, none⟩ = some (.int .i64 l[k].u) ∧ ∀ j, w.frozen? ⟨g, j, none⟩ = false := by
  obtain ⟨a, cap, rfl, -, hc⟩ := row_form h
  refine ⟨a, cap, rfl, fun k hk => ?_⟩
  rcases hc with ⟨h0, -⟩ | ⟨g, rfl, -, hg, hc, hf⟩
  · omega
  · refine ⟨g, rfl, rfl, hg, ?_, hc (k * 4 + 1) _ (by rw [flatAt pgC 4 pgC_len l k 1 hk (by decide)]; rfl), hc (k * 4 + 2) _ (by rw [flatAt pgC 4 pgC_len l k 2 hk (by decide)]; rfl), hc (k * 4 + 3) _ (by rw [flatAt pgC 4 pgC_len l k 3 hk (by decide)]; rfl), hf⟩
    have := hc (k * 4 + 0) _ (by rw [flatAt pgC 4 pgC_len l k 0 hk (by decide)]; rfl)
    rwa [Nat.add_zero] at this
/-- A part of a row, as a slice. -/
def PartOf (w : World) (size : Nat) (x : Value) (m : Nat) (news : List Value) : Prop :=
  ∃ a c, x = .slice a m c ∧ news.length = m * size ∧ (a = none → m = 0) ∧ ∀ ad, a = some ad → ∀ j u, news[j]? = some u → w.cell? (ad.add j) = some u
theorem PartOf.below {size : Nat} {x : Value} {m : Nat} {news : List Value} (h : PartOf w size x m news) (hb : Below w.heap.size w w') : PartOf w' size x m news := by
  obtain ⟨a, c, h1, h2, h3, h4⟩ := h
  refine ⟨a, c, h1, h2, h3, fun ad e j u hu => ?_⟩
  have h5 := h4 ad e j u hu
  exact (World.cell?_of_block (hb.block _ (World.block_lt_of_cell? w _ h5))).trans h5
theorem part_of {base : Nat} {e : TypeId} {size : Nat} {k : Nat} {xs : List Value} (h : w.ownsRow base e size v k xs) : ∃ a cap, v = .slice a k cap ∧ k ≤ cap ∧ ∀ l h, l ≤ h → h ≤ k → PartOf w size (sliced a l h cap size) (h - l) ((xs.drop (l * size)).take ((h - l) * size)) := by
  have hlen := h.1
  obtain ⟨a, cap, rfl, hcap, hc⟩ := row_form h
  refine ⟨a, cap, rfl, hcap, fun l hh h1 h2 => ?_⟩
  have hle : l * size + (hh - l) * size ≤ k * size := by
    rw [← Nat.add_mul]
    exact Nat.mul_le_mul_right _ (by omega)
  have hml : ((xs.drop (l * size)).take ((hh - l) * size)).length = (hh - l) * size := by
    rw [List.length_take, List.length_drop]
    omega
  unfold sliced
  rcases hc with ⟨rfl, rfl⟩ | ⟨g, rfl, -, hg, hc, -⟩
  · refine ⟨none, cap - l, by split <;> rfl, hml, fun _ => by omega, fun ad e => (by cases e)⟩
  · by_cases hm : hh - l = 0
    · refine ⟨_, _, rfl, hml, fun _ => hm, fun ad e j u hu => ?_⟩
      rw [hm, Nat.zero_mul, List.take_zero] at hu
      simp at hu
    · have hcl : ¬ cap = l := by omega
      rw [if_neg hcl]
      refine ⟨some ((⟨g, 0, none⟩ : Addr).add (l * size)), cap - l, rfl, hml, fun e => (by cases e), fun ad e j u hu => ?_⟩
      injection e with e
      subst e
      have hj : j < (hh - l) * size := by
        have := (List.getElem?_eq_some_iff.1 hu).1
        rw [hml] at this
        exact this
      rw [List.getElem?_take, if_pos hj, List.getElem?_drop] at hu
      have := hc _ _ hu
      simp only [Addr.add_lit, Nat.zero_add]
      exact this
/-- A part of a row appended to a row of one's own. -/
theorem run_append_part {P : Program} (w : World) (base : Nat) (t ty e : TypeId) (i : TypeInfo) (z : Value) (size bytes : Nat) (ht : P.underlying t = some (.slice e)) (hi : P.info? e = some i) (hz : i.zero = some z)
    (hsize : i.size = size) (hby : i.bytes = bytes) (hzs : z.cells.size = size) (hsz : 0 < size)
    (v : Value) (n : Nat) (xs : List Value) (hown : w.ownsRow base e size v n xs) (x : Value) (m : Nat) (news : List Value) (hx : PartOf w size x m news) (h1 : ∀ u ∈ news, u.oneCell' = true)
    (h63 : n + m ≤ maxLen) (hbytes : (n + m) * bytes ≤ 140737488355328) (hbase : base ≤ w.heap.size) :
    ∃ v' w', (Builtin.append_ #[t, t] ty #[v, x]).run P w = .ok v' w' ∧ w'.ownsRow base e size v' (n + m) (xs ++ news) ∧ w.grownBy w' v.ownBlock := by
  obtain ⟨a, c, rfl, hl, h0, hc⟩ := hx
  cases a with
  | none =>
    have hm := h0 rfl
    subst hm
    have hn : news = [] := List.eq_nil_of_length_eq_zero (by simpa using hl)
    subst hn
    rw [List.append_nil, Nat.add_zero]
    refine ⟨v, w, ?_, hown, ⟨rfl, rfl, rfl, Nat.le_refl _, fun _ _ _ => rfl⟩⟩
    rcases hown.2 with ⟨rfl, rfl⟩ | ⟨g, cap, cur, rfl, hbg, hg, hnc, hcm, hcs, htake⟩
    · simp [Builtin.append_, run_underlying ht, sizeOf, typeInfo, hi, Builtin.lenOf, Builtin.firstCells]
    · have := run_append_room_src (P := P) w t t ty e i ht hi g 0 n cap (.slice none 0 c) 0 [] (Src.ofNil w ht c) (by omega) (by simp) (by simp)
      rw [this]
      simp [World.setCells]
  | some ad =>
    obtain ⟨v', w', hr, h2, h3, -⟩ := run_append_own (P := P) w base t ty e i z size bytes ht hi hz hsize hby hzs hsz v n xs hown ad m c news hl (hc ad rfl) h1 h63 hbytes hbase
    exact ⟨v', w', hr, h2, h3⟩
theorem wp_append_part {P : Program} (w : World) {o : Oper} {a : Act} {K : Act → World → Prop} {Q : Exit → Act → World → Prop} (s x : Operand) (t : TypeId)
    (ho : o.op = .call { callee := .builtin .append, args := #[s, x], argTypes := #[t, t] })
    (base : Nat) (e : TypeId) (i : TypeInfo) (z : Value) (size bytes : Nat) (ht : P.underlying t = some (.slice e)) (hi : P.info? e = some i) (hz : i.zero = some z)
    (hsize : i.size = size) (hby : i.bytes = bytes) (hzs : z.cells.size = size) (hsz : 0 < size)
    (v : Value) (n : Nat) (xs : List Value) (hs : a.eval s = v) (hown : w.ownsRow base e size v n xs)
    (vx : Value) (m : Nat) (news : List Value) (hx : a.eval x = vx) (hxo : PartOf w size vx m news) (h1 : ∀ u ∈ news, u.oneCell' = true)
    (h63 : n + m ≤ maxLen) (hbytes : (n + m) * bytes ≤ 140737488355328) (hbase : base ≤ w.heap.size)
    (h : ∀ v' w', w'.ownsRow base e size v' (n + m) (xs ++ news) → w.grownBy w' v.ownBlock → K (a.put o.dst v') w') : o.wp P a w K Q := by
  obtain ⟨v', w', hr, h2, h3⟩ := run_append_part (P := P) w base t o.type e i z size bytes ht hi hz hsize hby hzs hsz v n xs hown vx m news hxo h1 h63 hbytes hbase
  unfold Oper.wp execOp
  simp only [ho, resolve, invoke, builtin, Sem.run_bind, Sem.run_pure, Result.andThen_ok, List.map_toArray, List.map_cons, List.map_nil, hs, hx, hr]
  exact h v' w' h2 h3
theorem wpList_append_part {P : Program} (w : World) {ops : Array Oper} {rest : List Oper} {o : Oper} {a : Act} {Q : Exit → Act → World → Prop} (hgd : o.guard = none) (s x : Operand) (t : TypeId)
    (ho : o.op = .call { callee := .builtin .append, args := #[s, x], argTypes := #[t, t] })
    (base : Nat) (e : TypeId) (i : TypeInfo) (z : Value) (size bytes : Nat) (ht : P.underlying t = some (.slice e)) (hi : P.info? e = some i) (hz : i.zero = some z)
    (hsize : i.size = size) (hby : i.bytes = bytes) (hzs : z.cells.size = size) (hsz : 0 < size)
    (v : Value) (n : Nat) (xs : List Value) (hs : a.eval s = v) (hown : w.ownsRow base e size v n xs)
    (vx : Value) (m : Nat) (news : List Value) (hx : a.eval x = vx) (hxo : PartOf w size vx m news) (h1 : ∀ u ∈ news, u.oneCell' = true)
    (h63 : n + m ≤ maxLen) (hbytes : (n + m) * bytes ≤ 140737488355328) (hbase : base ≤ w.heap.size)
    (h : ∀ v' w', w'.ownsRow base e size v' (n + m) (xs ++ news) → w.grownBy w' v.ownBlock → wpList P ops Q rest (a.put o.dst v') w') : wpList P ops Q (o :: rest) a w :=
  wpList_plain hgd fun _ hK => wp_append_part w s x t ho base e i z size bytes ht hi hz hsize hby hzs hsz v n xs hs hown vx m news hx hxo h1 h63 hbytes hbase fun v' w' h2 h3 => hK _ _ (h v' w' h2 h3)
theorem step_append_part {P : Program} (w : World) {ops : Array Oper} {o : Oper} {a : Act} {K : Act → World → Prop} {Q : Exit → Act → World → Prop} {E : Prop} (hgd : o.guard = none) (s x : Operand) (t : TypeId)
    (ho : o.op = .call { callee := .builtin .append, args := #[s, x], argTypes := #[t, t] })
    (base : Nat) (e : TypeId) (i : TypeInfo) (z : Value) (size bytes : Nat) (ht : P.underlying t = some (.slice e)) (hi : P.info? e = some i) (hz : i.zero = some z)
    (hsize : i.size = size) (hby : i.bytes = bytes) (hzs : z.cells.size = size) (hsz : 0 < size)
    (v : Value) (n : Nat) (xs : List Value) (hs : a.eval s = v) (hown : w.ownsRow base e size v n xs)
    (vx : Value) (m : Nat) (news : List Value) (hx : a.eval x = vx) (hxo : PartOf w size vx m news) (h1 : ∀ u ∈ news, u.oneCell' = true)
    (h63 : n + m ≤ maxLen) (hbytes : (n + m) * bytes ≤ 140737488355328) (hbase : base ≤ w.heap.size)
    (h : ∀ v' w', w'.ownsRow base e size v' (n + m) (xs ++ news) → w.grownBy w' v.ownBlock → K (a.put o.dst v') w') :
    if Region.wanted o (yielded ops a.tmps) = true then Oper.wp P o a w K Q else E := by
  have hw : Region.wanted o (yielded ops a.tmps) = true := by simp [Region.wanted, hgd]
  rw [if_pos hw]
  exact wp_append_part w s x t ho base e i z size bytes ht hi hz hsize hby hzs hsz v n xs hs hown vx m news hx hxo h1 h63 hbytes hbase h
/-- Rows of pages, their parts. -/
theorem flat_part (l : List QP) (a b : Nat) : ((l.flatMap pgC).drop (a * 4)).take (b * 4) = ((l.drop a).take b).flatMap pgC := by
  have hd : ∀ (l : List QP) a, (l.flatMap pgC).drop (a * 4) = (l.drop a).flatMap pgC := fun l => by
    induction l with
    | nil => intro a; simp
    | cons p l ih =>
      intro a
      cases a with
      | zero => simp
      | succ a =>
        rw [List.flatMap_cons, List.drop_succ_cons, ← ih, show (a + 1) * 4 = (pgC p).length + a * 4 by rw [pgC_len]; omega, ← List.drop_drop, List.drop_left]
  have ht : ∀ (l : List QP) b, (l.flatMap pgC).take (b * 4) = (l.take b).flatMap pgC := fun l => by
    induction l with
    | nil => intro b; simp
    | cons p l ih =>
      intro b
      cases b with
      | zero => simp
      | succ b =>
        rw [List.flatMap_cons, List.take_succ_cons, List.flatMap_cons, ← ih, show (b + 1) * 4 = (pgC p).length + b * 4 by rw [pgC_len]; omega, List.take_length_add_append]
  rw [hd, ht]
/-- An empty row that is not nil. -/
theorem row_empty (w : World) (e : TypeId) (size : Nat) : (w.alloc (.cells #[] e)).ownsRow w.heap.size e size (.slice (some ⟨w.heap.size, 0, none⟩) 0 0) 0 [] :=
  ⟨by simp, .inr ⟨w.heap.size, 0, #[], rfl, Nat.le_refl _, heap_alloc_new _ _, Nat.le_refl _, Nat.zero_le _, by simp, by simp⟩⟩
end Go.Proofs.Ytkpgekfejfbpjaa
