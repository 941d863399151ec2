/-
  Layer 7, the document's side: dir, a directory with a change. Condition: the directory is a row of entries, of at most a hundred thousand.
-/
import Derived.Handy
import Derived.Deep.Cut
import Derived.BigQuiet
import Derived.Test.YtkfncnpeockiaaaGreatDoorMg14
namespace Go.Proofs.YtkfncnpeockiaaaGreatDoor
open Go.RowKit
variable {w w' : World}

theorem less_before : ∀ (a b : List UInt8), Op.bytesLess a b = bytesBefore a b
  | [], [] => rfl
  | [], _ :: _ => rfl
  | _ :: _, [] => rfl
  | x :: a, y :: b => by simp [Op.bytesLess, bytesBefore, less_before a b]
theorem before_not (a b : List UInt8) : (!(Op.bytesLess a b || a == b)) = bytesBefore b a := by
  rw [less_before]
  by_cases e : a = b
  · subst e; simp [WideAt.bytes_irrefl]
  · rcases WideAt.bytes_total a b e with h | h
    · have : bytesBefore b a = false := by
        cases hb : bytesBefore b a with
        | false => rfl
        | true => have := WideShapes.bytes_trans a b a h hb; rw [WideAt.bytes_irrefl] at this; cases this
      rw [h, this]; rfl
    · have : bytesBefore a b = false := by
        cases hb : bytesBefore a b with
        | false => rfl
        | true => have := WideShapes.bytes_trans b a b h hb; rw [WideAt.bytes_irrefl] at this; cases this
      rw [h, this]; simpa using e
def dirStep (x : List UInt8 × Nat) (s : Bool × List (List UInt8 × Nat)) (q : List UInt8 × Nat) : Bool × List (List UInt8 × Nat) :=
  if (s.1 && bytesBefore x.1 q.1) = true then (false, s.2 ++ [x, q]) else if q.1 = x.1 then s else (s.1, s.2 ++ [q])
def dirFin (x : List UInt8 × Nat) (s : Bool × List (List UInt8 × Nat)) : List (List UInt8 × Nat) := if s.1 = true then s.2 ++ [x] else s.2
theorem dir_del (x : List UInt8 × Nat) : ∀ (l out : List (List UInt8 × Nat)), dirFin x (l.foldl (dirStep x) (false, out)) = out ++ delL l x.1
  | [], out => by simp [dirFin, delL]
  | q :: l, out => by
    by_cases e : q.1 = x.1
    · have : dirStep x (false, out) q = (false, out) := by simp [dirStep, e]
      rw [List.foldl_cons, this, dir_del x l out]
      simp [delL, e]
    · have : dirStep x (false, out) q = (false, out ++ [q]) := by simp [dirStep, e]
      rw [List.foldl_cons, this, dir_del x l (out ++ [q])]
      simp [delL, e]
theorem dir_put (x : List UInt8 × Nat) : ∀ (l out : List (List UInt8 × Nat)), dirFin x (l.foldl (dirStep x) (true, out)) = out ++ insL x (delL l x.1)
  | [], out => by simp [dirFin, delL, insL]
  | q :: l, out => by
    by_cases hb : bytesBefore x.1 q.1 = true
    · have e : ¬ q.1 = x.1 := fun e => by rw [e, WideAt.bytes_irrefl] at hb; cases hb
      have h1 : dirStep x (true, out) q = (false, out ++ [x, q]) := by simp [dirStep, hb]
      have h2 : delL (q :: l) x.1 = q :: delL l x.1 := by simp [delL, e]
      rw [List.foldl_cons, h1, dir_del x l (out ++ [x, q]), h2, insL, if_pos hb]
      simp
    · have hb' : bytesBefore x.1 q.1 = false := by simpa using hb
      by_cases e : q.1 = x.1
      · have h1 : dirStep x (true, out) q = (true, out) := by simp [dirStep, e, WideAt.bytes_irrefl]
        have h2 : delL (q :: l) x.1 = delL l x.1 := by simp [delL, e]
        rw [List.foldl_cons, h1, dir_put x l out, h2]
      · have h1 : dirStep x (true, out) q = (true, out ++ [q]) := by simp [dirStep, hb', e]
        have h2 : delL (q :: l) x.1 = q :: delL l x.1 := by simp [delL, e]
        rw [List.foldl_cons, h1, dir_put x l (out ++ [q]), h2, insL, if_neg hb]
        simp
/-- The directory behind a change, as the loop builds it. -/
def dirX (put : Bool) (x : List UInt8 × Nat) (l : List (List UInt8 × Nat)) : List (List UInt8 × Nat) := dirFin x (l.foldl (dirStep x) (put, []))
theorem dirX_is (x : List UInt8 × Nat) (l : List (List UInt8 × Nat)) : dirX true x l = putL l x.1 x.2 ∧ dirX false x l = delL l x.1 := by
  unfold dirX putL
  rw [dir_put, dir_del]
  exact ⟨rfl, rfl⟩
theorem dir_len (x : List UInt8 × Nat) : ∀ (l : List (List UInt8 × Nat)) (s : Bool × List (List UInt8 × Nat)), (l.foldl (dirStep x) s).2.length ≤ s.2.length + 2 * l.length
  | [], s => by simp
  | q :: l, s => by
    have h1 : (dirStep x s q).2.length ≤ s.2.length + 2 := by
      unfold dirStep
      split
      · simp
      · split
        · omega
        · simp
    have := dir_len x l (dirStep x s q)
    rw [List.foldl_cons, List.length_cons]
    omega
theorem gtr_run (a b : List UInt8) (w : World) : (binOp .gtr 9 (.string (bz a)) (.string (bz b))).run Tryz.prog w = .ok (.bool (bytesBefore b a)) w := by
  rw [← before_not a b]
  simp [binOp, Op.stringOp, ByteArray.toList_eq, bz_list]
theorem infoQE : ∃ i, Tryz.prog.info? 104 = some i ∧ i.zero = some (.agg #[.string ⟨#[]⟩, .int .i64 0]) ∧ i.size = 2 ∧ i.bytes = 24 := by
  obtain ⟨i, hi, hz⟩ := Option.map_eq_some_iff.1 (show (Tryz.prog.info? 104).map (fun i => (i.zero, i.size, i.bytes)) = some (some (.agg #[.string ⟨#[]⟩, .int .i64 0]), 2, 24) by kernel_rfl)
  simp only [Prod.mk.injEq] at hz
  exact ⟨i, hi, hz⟩
theorem news2 (W : World) (p : List UInt8 × Nat) (t : TypeId) : ∀ j u, (entC p)[j]? = some u → (W.alloc (.cells #[.string (bz p.1), .int .i64 p.2] t)).cell? ((⟨W.heap.size, 0, none⟩ : Addr).add j) = some u := by
  intro j u hj
  have h := blk_new W t #[.string (bz p.1), .int .i64 p.2]
  rw [Addr.add_lit, Nat.zero_add]
  match j, hj with
  | 0, hj => simp [entC] at hj; subst hj; exact blk_cell h 0 rfl
  | 1, hj => simp [entC] at hj; subst hj; exact blk_cell h 1 rfl
theorem one2 (p : List UInt8 × Nat) : ∀ u ∈ entC p, u.oneCell' = true := by
  intro u hu
  simp [entC] at hu
  rcases hu with rfl | rfl <;> rfl
theorem row_below {w w' : World} {base : Nat} {e : TypeId} {size : Nat} {v : Value} {n : Nat} {xs : List Value} (h : w.ownsRow base e size v n xs) (hb : Below w.heap.size w w') : w'.ownsRow base e size v n xs :=
  h.kept (row := none) ⟨hb.os, hb.tape, hb.output, hb.size, fun k hk _ => hb.block k hk⟩ (Classical.em _)
theorem below_row {w W W' : World} {e : TypeId} {size : Nat} {v : Value} {n : Nat} {xs : List Value} (h : Below w.heap.size w W) (ho : W.ownsRow w.heap.size e size v n xs) (hg : W.grownBy W' v.ownBlock) : Below w.heap.size w W' :=
  h.grown hg h.size (fun k e => (ho.lt k e).1)

theorem row_drewA {wr : World} {base : Nat} {e : TypeId} {size : Nat} {v : Value} {n : Nat} {xs : List Value} (h : wr.ownsRow base e size v n xs) (q : Nat) (o : Obj) : ((wr.drewN q).alloc o).ownsRow base e size v n xs :=
  row_below h (((Same.refl wr).drewN q).below.alloc (Nat.le_refl _) o)
theorem row_drew1 {wr : World} {base : Nat} {e : TypeId} {size : Nat} {v : Value} {n : Nat} {xs : List Value} (h : wr.ownsRow base e size v n xs) (q : Nat) : (wr.drewN q).ownsRow base e size v n xs :=
  row_below h ((Same.refl wr).drewN q).below
theorem below_drewA {w wr : World} (h : Below w.heap.size w wr) (q : Nat) (o : Obj) : Below w.heap.size w ((wr.drewN q).alloc o) :=
  h.trans ((((Same.refl wr).drewN q).below.alloc (Nat.le_refl _) o).mono h.size)
theorem below_drewX {w wr : World} (h : Below w.heap.size w wr) (q : Nat) : Below w.heap.size w (wr.drewN q) := h.trans (((Same.refl wr).drewN q).below.mono h.size)
theorem blk_kept {w w' : World} {base g : Nat} {v : Value} {e : TypeId} {size n : Nat} {xs : List Value} {t : TypeId} {cs : Array Value} (hg : w.grownBy w' v.ownBlock) (ho : w.ownsRow base e size v n xs) (hb : Blk w g t cs) (hlt : g < base) : Blk w' g t cs :=
  (hg.block g (blk_lt hb) (fun e => by have := (ho.lt g e.symm).1; omega)).trans hb

theorem dir_frame {w wr w3 : World} {q : Nat} {o : Obj} {e : TypeId} {size : Nat} {v : Value} {n : Nat} {xs : List Value} {t : TypeId} {cs : Array Value} (hB : Below w.heap.size w wr) (hX : Blk wr w.heap.size t cs) (hO : wr.ownsRow (w.heap.size + 1) e size v n xs)
    (hg : ((wr.drewN q).alloc o).grownBy w3 v.ownBlock) : Below w.heap.size w w3 ∧ Blk w3 w.heap.size t cs := by
  have hO' := row_drewA hO q o
  refine ⟨(below_drewA hB q o).grown hg (below_drewA hB q o).size (fun k e => Nat.le_of_succ_le (hO'.lt k e).1), ?_⟩
  have h1 : Blk ((wr.drewN q).alloc o) w.heap.size t cs := (heap_alloc_old (wr.drewN q) o (blk_lt (show Blk (wr.drewN q) w.heap.size t cs from hX))).trans hX
  exact (hg.block _ (blk_lt h1) (fun e => by have := (hO'.lt _ e.symm).1; omega)).trans h1
theorem row_base {w : World} {base b : Nat} {e : TypeId} {size : Nat} {v : Value} {n : Nat} {xs : List Value} (h : w.ownsRow base e size v n xs) (hb : b ≤ base) : w.ownsRow b e size v n xs := by
  refine ⟨h.1, ?_⟩
  rcases h.2 with h | ⟨g, cap, cur, hv, hg, rest⟩
  · exact .inl h
  · exact .inr ⟨g, cap, cur, hv, Nat.le_trans hb hg, rest⟩
theorem base_ok {w wr : World} {t : TypeId} {cs : Array Value} (hX : Blk wr w.heap.size t cs) (q : Nat) (o : Obj) : w.heap.size + 1 ≤ ((wr.drewN q).alloc o).heap.size := by
  have h1 := blk_lt hX
  have : ((wr.drewN q).alloc o).heap.size = wr.heap.size + 1 := by simp
  omega
theorem base_ok1 {w wr : World} {t : TypeId} {cs : Array Value} (hX : Blk wr w.heap.size t cs) (q q' : Nat) (o : Obj) : w.heap.size + 1 ≤ (((wr.drewN q).drewN q').alloc o).heap.size := base_ok (wr := wr.drewN q) hX q' o
theorem dir_frame1 {w wr w3 : World} {q q' : Nat} {o : Obj} {e : TypeId} {size : Nat} {v : Value} {n : Nat} {xs : List Value} {t : TypeId} {cs : Array Value} (hB : Below w.heap.size w wr) (hX : Blk wr w.heap.size t cs) (hO : wr.ownsRow (w.heap.size + 1) e size v n xs)
    (hg : (((wr.drewN q).drewN q').alloc o).grownBy w3 v.ownBlock) : Below w.heap.size w w3 ∧ Blk w3 w.heap.size t cs := dir_frame (wr := wr.drewN q) (below_drewX hB q) hX (row_drew1 hO q) hg
theorem dir_cell {w wr w3 : World} {a : Addr} {u : Value} (h3 : Below w.heap.size w w3) (hB : Below w.heap.size w wr) (ha : a.block < w.heap.size) (hc : wr.cell? a = some u) : w3.cell? a = some u :=
  (h3.cell (p := a) ha).trans ((hB.cell (p := a) ha).symm.trans hc)
set_option maxRecDepth 100000 in
set_option maxHeartbeats 4000000 in
theorem qdirX_any {v : Value} {l : List (List UInt8 × Nat)} (h : w.ownsRow 0 104 2 v l.length (l.flatMap entC)) (hl : l.length ≤ 100000) (kd : Int) (put : Bool) (hkd : (kd == 1) = put) (nm : List UInt8) (i : Nat) (o : Int) (d : ByteArray) :
    Calls Tryz.prog 67 #[v, .agg #[.int .i64 kd, .string (bz nm), .int .i64 i, .int .i64 o, .string d]] w fun e w' => ∃ v', e = .returned v' ∧ w'.ownsRow w.heap.size 104 2 v' (dirX put (nm, i) l).length ((dirX put (nm, i) l).flatMap entC) ∧ Below w.heap.size w w' := by
  obtain ⟨a, cap, rfl, hc⟩ := ent_cells h
  obtain ⟨i1, hi1, hz1, hs1, hb1⟩ := infoQE
  have HC := Lib.hid hc
  have HB0 := Lib.hid (show Below w.heap.size w (w.alloc (.cells #[.int .i64 kd, .string (bz nm), .int .i64 i, .int .i64 o, .string d] 99)) from (Below.refl _ _).alloc (Nat.le_refl _) _)
  have HX := Lib.hid (blk_new w 99 #[.int .i64 kd, .string (bz nm), .int .i64 i, .int .i64 o, .string d])
  clear h hc
  go_enter Tryz.func67, Tryz.ntmps67
  go_wp2
  go_loopw [5, 6, 7] (fun t5 t6 t7 wr => ∃ k : Nat, k ≤ l.length ∧ t7 = .int .i64 k ∧ t6 = .bool ((l.take k).foldl (dirStep (nm, i)) (put, [])).1 ∧
      Hid (wr.ownsRow (w.heap.size + 1) 104 2 t5 ((l.take k).foldl (dirStep (nm, i)) (put, [])).2.length (((l.take k).foldl (dirStep (nm, i)) (put, [])).2.flatMap entC)) ∧ Hid (Below w.heap.size w wr) ∧ Hid (Blk wr w.heap.size 99 #[.int .i64 kd, .string (bz nm), .int .i64 i, .int .i64 o, .string d])) (fun _ _ t7 _ => l.length - (intOf t7).toNat)
  case atStart => exact ⟨0, Nat.zero_le _, rfl, rfl, Lib.hid (World.ownsRow_nil _ _ _ _), HB0, HX⟩
  case round =>
    obtain ⟨k, hk, rfl, rfl, hO, hB, hX⟩ := hrel
    clear HB0 HX
    have x1 := blk_cell hX.out 1 (v := .string (bz nm)) rfl
    have x2 := blk_cell hX.out 2 (v := .int .i64 i) rfl
    by_cases hlt : k < l.length
    · obtain ⟨g, rfl, -, hg, c0, c1⟩ := HC.out k hlt
      have d0 := (hB.out.cell (p := ⟨g, k * 2, none⟩) hg).trans c0
      have d1 := (hB.out.cell (p := ⟨g, k * 2 + 1, none⟩) hg).trans c1
      clear c0 c1
      have hkI : (k : Int) < l.length := by omega
      have s0 : ¬ (k : Int) < 0 := by omega
      have hst : (l.take (k + 1)).foldl (dirStep (nm, i)) (put, []) = dirStep (nm, i) ((l.take k).foldl (dirStep (nm, i)) (put, [])) l[k] := by
        rw [take_snoc _ _ hlt, List.foldl_append]; rfl
      have hln := dir_len (nm, i) (l.take k) (put, [])
      have htk : (l.take k).length = k := by rw [List.length_take]; omega
      rw [htk] at hln
      have HL := Lib.hid (show ((l.take k).foldl (dirStep (nm, i)) (put, [])).2.length ≤ 2 * 100000 by simp only [List.length_nil] at hln; omega)
      have HST := Lib.hid hst
      clear hst hln htk
      generalize (l.take k).foldl (dirStep (nm, i)) (put, []) = st at *
      obtain ⟨pb, out⟩ := st
      simp only at hO HL HST ⊢
      have hgt := fun W => gtr_run l[k].1 nm W
      have hne : bytesBefore nm l[k].1 = true → ¬ l[k].1 = nm := fun h e => by rw [e, WideAt.bytes_irrefl] at h; cases h
      have e1 : ((bz l[k].1).toList == (bz nm).toList) = decide (l[k].1 = nm) := by
        rw [ByteArray.toList_eq, ByteArray.toList_eq, bz_list, bz_list, Bool.eq_iff_iff, beq_iff_eq, decide_eq_true_iff]
      cases hbv : bytesBefore nm l[k].1 with
      | true =>
        have hne := hne hbv
        rw [hbv] at hgt
        rw [decide_eq_false hne] at e1
        cases pb with
        | true =>
          have HS2 := Lib.hid (show (l.take (k + 1)).foldl (dirStep (nm, i)) (put, []) = (false, out ++ [(nm, i), l[k]]) by rw [HST.out, dirStep, if_pos (by simp [hbv])])
          clear hne hbv HST
          have hl2 := HL.out
          obtain ⟨qn, hqn⟩ : ∃ qn, l[k] = qn := ⟨_, rfl⟩
          rw [hqn] at hgt e1 d0 d1
          try rw [hqn] at HS2
          clear hqn
          go_upto_region 6 with (fail)
          go_quiet (fail)
          go_upto_region 9 with (first | (at_builtin; refine wpList_append_own _ rfl _ _ 60 rfl (w.heap.size + 1) 104 i1 _ 2 24 Tryz.underlying60 hi1 hz1 hs1 hb1 rfl (by decide) _ _ _ rfl (row_drewA hO.out _ _) _ 1 1 (entC (nm, i)) rfl rfl (news2 _ (nm, i) _) (one2 (nm, i)) (by unfold maxLen; omega) (by omega) (base_ok hX.out _ _) ?_; intro v3 w3 hown3 hgrow3 hnil3))
          have HO3 := Lib.hid hown3
          have HF3 := Lib.hid (dir_frame hB.out hX.out hO.out hgrow3)
          have HB3 := Lib.hid HF3.out.1
          have HX3 := Lib.hid HF3.out.2
          replace d0 := dir_cell HB3.out hB.out hg d0
          replace d1 := dir_cell HB3.out hB.out hg d1
          replace x1 := blk_cell HX3.out 1 (v := .string (bz nm)) rfl
          replace x2 := blk_cell HX3.out 2 (v := .int .i64 i) rfl
          clear hown3 hgrow3 hnil3 HF3
          go_quiet (fail)
          go_wp2_with (first | (at_builtin; refine wpList_append_own _ rfl _ _ 60 rfl (w.heap.size + 1) 104 i1 _ 2 24 Tryz.underlying60 hi1 hz1 hs1 hb1 rfl (by decide) _ _ _ rfl (row_drewA HO3.out _ _) _ 1 1 (entC qn) rfl rfl (news2 _ qn _) (one2 qn) (by unfold maxLen; omega) (by omega) (base_ok HX3.out _ _) ?_; intro v4 w4 hown4 hgrow4 hnil4))
          have HF4 := Lib.hid (dir_frame HB3.out HX3.out HO3.out hgrow4)
          have HO4 := Lib.hid hown4
          clear hown4 hgrow4 hnil4
          go_roundw
          case rel => exact ⟨k + 1, by omega, by go_num, by rw [HS2.out], Lib.hid (by rw [HS2.out]; exact (by simpa using HO4.out)), Lib.hid HF4.out.1, Lib.hid HF4.out.2⟩
          case measure => simp [intOf]; omega
        | false =>
          have HS2 := Lib.hid (show (l.take (k + 1)).foldl (dirStep (nm, i)) (put, []) = (false, out ++ [l[k]]) by rw [HST.out, dirStep, if_neg (by simp), if_neg hne])
          clear hne hbv HST
          have hl2 := HL.out
          obtain ⟨qn, hqn⟩ : ∃ qn, l[k] = qn := ⟨_, rfl⟩
          rw [hqn] at hgt e1 d0 d1
          try rw [hqn] at HS2
          clear hqn
          go_upto_region 6 with (fail)
          go_quiet (fail)
          go_upto_region 9 with (fail)
          go_quiet (fail)
          go_wp2_with (first | (at_builtin; refine wpList_append_own _ rfl _ _ 60 rfl (w.heap.size + 1) 104 i1 _ 2 24 Tryz.underlying60 hi1 hz1 hs1 hb1 rfl (by decide) _ _ _ rfl (row_drewA hO.out _ _) _ 1 1 (entC qn) rfl rfl (news2 _ qn _) (one2 qn) (by unfold maxLen; omega) (by omega) (base_ok hX.out _ _) ?_; intro v4 w4 hown4 hgrow4 hnil4))
          have HF4 := Lib.hid (dir_frame hB.out hX.out hO.out hgrow4)
          have HO4 := Lib.hid hown4
          clear hown4 hgrow4 hnil4
          go_roundw
          case rel => exact ⟨k + 1, by omega, by go_num, by rw [HS2.out], Lib.hid (by rw [HS2.out]; exact (by simpa using HO4.out)), Lib.hid HF4.out.1, Lib.hid HF4.out.2⟩
          case measure => simp [intOf]; omega
      | false =>
        rw [hbv] at hgt
        by_cases he : l[k].1 = nm
        · rw [decide_eq_true he] at e1
          have HS2 := Lib.hid (show (l.take (k + 1)).foldl (dirStep (nm, i)) (put, []) = (pb, out) by rw [HST.out, dirStep, if_neg (by simp [hbv]), if_pos he])
          clear hne hbv he HST
          have hl2 := HL.out
          obtain ⟨qn, hqn⟩ : ∃ qn, l[k] = qn := ⟨_, rfl⟩
          rw [hqn] at hgt e1 d0 d1
          try rw [hqn] at HS2
          clear hqn
          cases pb
          all_goals go_upto_region 6 with (fail)
          all_goals go_quiet (fail)
          all_goals go_upto_region 9 with (fail)
          all_goals go_quiet (fail)
          all_goals go_wp2
          all_goals go_roundw
          case rel => exact ⟨k + 1, by omega, by go_num, by rw [HS2.out], Lib.hid (by rw [HS2.out]; first | exact row_drew1 hO.out _ | exact row_drew1 (row_drew1 hO.out _) _), Lib.hid (by first | exact below_drewX hB.out _ | exact below_drewX (below_drewX hB.out _) _), Lib.hid hX.out⟩
          case measure => simp [intOf]; omega
          case rel => exact ⟨k + 1, by omega, by go_num, by rw [HS2.out], Lib.hid (by rw [HS2.out]; first | exact row_drew1 hO.out _ | exact row_drew1 (row_drew1 hO.out _) _), Lib.hid (by first | exact below_drewX hB.out _ | exact below_drewX (below_drewX hB.out _) _), Lib.hid hX.out⟩
          case measure => simp [intOf]; omega
        · rw [decide_eq_false he] at e1
          have HS2 := Lib.hid (show (l.take (k + 1)).foldl (dirStep (nm, i)) (put, []) = (pb, out ++ [l[k]]) by rw [HST.out, dirStep, if_neg (by simp [hbv]), if_neg he])
          clear hne hbv he HST
          have hl2 := HL.out
          obtain ⟨qn, hqn⟩ : ∃ qn, l[k] = qn := ⟨_, rfl⟩
          rw [hqn] at hgt e1 d0 d1
          try rw [hqn] at HS2
          clear hqn
          cases pb
          all_goals go_upto_region 6 with (fail)
          all_goals go_quiet (fail)
          all_goals go_upto_region 9 with (fail)
          all_goals go_quiet (fail)
          all_goals go_wp2_with (first | (at_builtin; refine wpList_append_own _ rfl _ _ 60 rfl (w.heap.size + 1) 104 i1 _ 2 24 Tryz.underlying60 hi1 hz1 hs1 hb1 rfl (by decide) _ _ _ rfl (row_drewA hO.out _ _) _ 1 1 (entC qn) rfl rfl (news2 _ qn _) (one2 qn) (by unfold maxLen; omega) (by omega) (base_ok hX.out _ _) ?_; intro v4 w4 hown4 hgrow4 hnil4))
          all_goals have HF4 := Lib.hid (dir_frame hB.out hX.out hO.out hgrow4)
          all_goals have HO4 := Lib.hid hown4
          all_goals clear hown4 hgrow4 hnil4
          all_goals go_roundw
          case rel => exact ⟨k + 1, by omega, by go_num, by rw [HS2.out], Lib.hid (by rw [HS2.out]; exact (by simpa using HO4.out)), Lib.hid HF4.out.1, Lib.hid HF4.out.2⟩
          case measure => simp [intOf]; omega
          case rel => exact ⟨k + 1, by omega, by go_num, by rw [HS2.out], Lib.hid (by rw [HS2.out]; exact (by simpa using HO4.out)), Lib.hid HF4.out.1, Lib.hid HF4.out.2⟩
          case measure => simp [intOf]; omega
    · have hkI : ¬ (k : Int) < l.length := by omega
      have htk : l.take k = l := List.take_of_length_le (by omega)
      rw [htk] at hO ⊢
      have hln := dir_len (nm, i) l (put, [])
      have HL := Lib.hid (show (l.foldl (dirStep (nm, i)) (put, [])).2.length ≤ 2 * 100000 by simp only [List.length_nil] at hln; omega)
      have HD := Lib.hid (show dirX put (nm, i) l = dirFin (nm, i) (l.foldl (dirStep (nm, i)) (put, [])) from rfl)
      clear hln htk
      generalize l.foldl (dirStep (nm, i)) (put, []) = st at *
      obtain ⟨pb, out⟩ := st
      simp only at hO HL ⊢
      have hl2 := HL.out
      cases pb
      · go_wp2
        go_ret
        rw [HD.out]
        exact ⟨_, rfl, row_base hO.out (Nat.le_succ _), hB.out⟩
      · go_wp2_with (first | (at_builtin; refine wpList_append_own _ rfl _ _ 60 rfl (w.heap.size + 1) 104 i1 _ 2 24 Tryz.underlying60 hi1 hz1 hs1 hb1 rfl (by decide) _ _ _ rfl (hO.out.alloc _) _ 1 1 (entC (nm, i)) rfl rfl (news2 _ (nm, i) _) (one2 (nm, i)) (by unfold maxLen; omega) (by omega) (by have h1 := blk_lt hX.out; simp; omega) ?_; intro v4 w4 hown4 hgrow4 hnil4))
        go_ret
        rw [HD.out]
        exact ⟨_, rfl, row_base (by simpa [dirFin] using hown4) (Nat.le_succ _), (hB.out.alloc hB.out.size _).grown hgrow4 (hB.out.alloc hB.out.size _).size (fun k e => Nat.le_of_succ_le (hO.out.lt k e).1)⟩
/-- A change of the directory. -/
theorem qdir_any {v : Value} {l : List (List UInt8 × Nat)} (h : w.ownsRow 0 104 2 v l.length (l.flatMap entC)) (hl : l.length ≤ 100000) (c : Chg) (hc : ofDir c = true) :
    Calls Tryz.prog 67 #[v, .agg c.qc.toArray] w fun e w' => ∃ v', e = .returned v' ∧ w'.ownsRow w.heap.size 104 2 v' (qDir l c).length ((qDir l c).flatMap entC) ∧ Below w.heap.size w w' := by
  cases c with
  | create nm i =>
    have := qdirX_any h hl 1 true rfl nm i 0 (bz [])
    rw [(dirX_is (nm, i) l).1] at this
    exact this
  | remove nm =>
    have := qdirX_any h hl 2 false rfl nm 0 0 (bz [])
    rw [(dirX_is (nm, 0) l).2] at this
    exact this
  | write _ _ _ => cases hc
  | trunc _ _ => cases hc
end Go.Proofs.YtkfncnpeockiaaaGreatDoor
