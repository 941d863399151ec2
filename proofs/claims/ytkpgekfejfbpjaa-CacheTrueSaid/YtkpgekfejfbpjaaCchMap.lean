/-
  Layer 12: the cache's map: looked up, stored into, deleted from, counted; find. Condition: the number is an int, the map has at most a million elements.
-/
import Derived.Test.YtkpgekfejfbpjaaCchInv
namespace Go.Proofs.Ytkpgekfejfbpjaa
open Go.RowKit
variable {L : CL} {ρ ρ' : Nat → Option CRole} {S : CS} {w w' : World}

theorem lawInt : Maps.Keyed Try.prog 3 := Maps.int_keyed (q := .i64) (by kernel_rfl)
theorem underM : Try.prog.underlying 44 = some (.map 3 46) := by kernel_rfl
theorem zeroM (w : World) : (zeroValue 46).run Try.prog w = .ok (.pointer none) w := by kernel_rfl
abbrev IsI (k : Int) : Prop := -9223372036854775808 ≤ k ∧ k ≤ 9223372036854775807
theorem keyInt {k : Int} (h : IsI k) : keyOf Try.prog 3 (.int .i64 k) = some (.int .i64 k) := Maps.keyOf_int_mk (by kernel_rfl) (WalkArith.wf_i64 h)
theorem elR_ptr (o : Option Nat) : elR (ptr o) = some (match o with | none => .nil | some i => .lit (.int .i64 i), []) := by cases o <;> rfl
theorem elR_inv {v : Value} {o : Option Nat} {y : List MemPlace} (h : elR v = some ((match o with | none => .nil | some i => .lit (.int .i64 i)), y)) : v = ptr o := by
  unfold elR at h
  split at h <;> simp at h
  · cases o
    · rfl
    · simp at h
  · cases o
    · simp at h
    · rename_i g i
      simp at h
      obtain ⟨e, _⟩ := h
      have e' := Int.ofNat.inj e
      rw [e']
      rfl
theorem map_look {m : Nat} {l : List (Int × Nat)} {n : Nat} (hown : w.ownsMap Try.prog 3 elR m n (keyD l)) {k : Int} (hk : IsI k) :
    (Instr.lookup 44 (.map (some m)) (.int .i64 k) false).run Try.prog w = .ok (ptr (findK l k)) w := by
  obtain ⟨v, ps, hrun, hR⟩ := hown.lookup lawInt underM (zeroM w) (zd := .nil) (zp := []) rfl (keyInt hk)
  rw [keyD_at] at hR
  rw [hrun, elR_inv hR]
theorem map_len {m : Nat} {l : List (Int × Nat)} {n : Nat} (hown : w.ownsMap Try.prog 3 elR m n (keyD l)) (ty : TypeId) :
    (Builtin.len_ #[44] ty #[.map (some m)]).run Try.prog w = .ok (.int .i64 l.length) w := by
  rw [hown.len underM ty, keyD_size]
theorem own_size {m n : Nat} {l : List (Int × Nat)} (hown : w.ownsMap Try.prog 3 elR m n (keyD l)) : w.ownsMap Try.prog 3 elR m l.length (keyD l) := by
  obtain ⟨es, clock, hb, F', hs, hD⟩ := hown
  refine ⟨es, clock, hb, F', ?_, hD⟩
  have e1 := congrArg Maps.size hD
  rw [keyD_size] at e1
  simp [Maps.size, length_sorted] at e1
  omega

/-- Only the map's block has turned. -/
structure MapQ (m : Nat) (w w' : World) : Prop where
  os : w'.os = w.os
  tape : w'.tape = w.tape
  output : w'.output = w.output
  size : w'.heap.size = w.heap.size
  blk : ∀ k, k ≠ m → w'.heap[k]? = w.heap[k]?
theorem mapQ_of {m : Nat} (h : w.mapTurned w' m) : MapQ m w w' := by
  have hgr := h.grown
  have hzz : w'.heap.size = w.heap.size := by obtain ⟨es, clock, es', clock', _, rfl⟩ := h; exact Array.size_setIfInBounds
  refine ⟨hgr.os, hgr.tape, hgr.output, hzz, fun k hk => ?_⟩
  rcases Nat.lt_or_ge k w.heap.size with hk' | hk'
  · exact hgr.block k hk' (fun e => by cases e; exact hk rfl)
  · rw [Array.getElem?_eq_none hk', Array.getElem?_eq_none (by rw [hzz]; exact hk')]
theorem map_drop {m : Nat} {l : List (Int × Nat)} {n : Nat} (hown : w.ownsMap Try.prog 3 elR m n (keyD l)) {k : Int} (hk : IsI k) (ty : TypeId) :
    ∃ w', (Builtin.delete_ #[44, 3] ty #[.map (some m), .int .i64 k]).run Try.prog w = .ok (.tuple #[]) w' ∧ w'.ownsMap Try.prog 3 elR m (delK l k).length (keyD (delK l k)) ∧ MapQ m w w' := by
  obtain ⟨w', hrun, hown', hturn⟩ := hown.drop lawInt underM (keyInt hk) ty
  rw [keyD_del] at hown'
  exact ⟨w', hrun, own_size hown', mapQ_of hturn⟩
theorem map_store {m : Nat} {l : List (Int × Nat)} {n : Nat} (hown : w.ownsMap Try.prog 3 elR m n (keyD l)) (hn : n ≤ 1000000) {k : Int} (hk : IsI k) (e : Nat) :
    ∃ w', (Instr.mapUpdate 44 (.map (some m)) (.int .i64 k) (.pointer (some ⟨e, 0, none⟩))).run Try.prog w = .ok () w' ∧ w'.ownsMap Try.prog 3 elR m (putK l k e).length (keyD (putK l k e)) ∧ MapQ m w w' := by
  obtain ⟨w', hrun, hown', hturn⟩ := hown.store lawInt underM (by unfold maxLen; omega) (keyInt hk) (val := .pointer (some ⟨e, 0, none⟩)) (d := .lit (.int .i64 e)) (ps := []) rfl
  rw [keyD_put] at hown'
  exact ⟨w', hrun, own_size hown', mapQ_of hturn⟩
/-- The map alone has turned: the cache with the map's new keys. -/
theorem CInv.mapped (h : CInv L ρ S w) {K : List (Int × Nat)} (hq : MapQ L.m w w') (hown : w'.ownsMap Try.prog 3 elR L.m K.length (keyD K)) : CInv L ρ { S with keys := K } w' where
  hc := h.hc
  hm := h.hm
  hl := h.hl
  blk := (hq.blk _ (h.ll_ne true).2.2.1).trans h.blk
  map := hown
  lst s := (hq.blk _ (h.ll_ne s).2.1).trans (h.lst s)
  ele s a e b he := ⟨(h.ele s a e b he).1, (hq.blk _ (h.cl_ne (s := s) (h.ele s a e b he).1).2.2).trans (h.ele s a e b he).2⟩
  fre e he := ⟨(h.fre e he).1, (hq.blk _ (h.cl_ne (s := true) (h.fre e he).1).2.2).trans (h.fre e he).2⟩
  nd := h.nd
  ap := h.ap
  nf := h.nf
  old k hk := h.old k (by rw [← hq.size]; exact hk)
theorem CStep.mapped (h : CInv L ρ S w) (hq : MapQ L.m w w') : CStep ρ w ρ w' :=
  ⟨hq.os, hq.tape, hq.output, Nat.le_of_eq hq.size.symm, fun k _ hk => hq.blk k (fun e => by subst e; rw [h.hm] at hk; cases hk), fun _ _ => rfl⟩

theorem find_nil (k : Int) (w : World) : Calls Try.prog 22 #[.pointer none, .int .i64 k] w fun e w' => e = .returned (.pointer none) ∧ w' = w := by
  go_enter Try.func22, Try.ntmps22
  go_wp2
  go_ret
  exact ⟨rfl, rfl⟩
theorem find_any (h : CInv L ρ S w) {k : Int} (hk : IsI k) : Calls Try.prog 22 #[.pointer (some ⟨L.c, 0, none⟩), .int .i64 k] w fun e w' => e = .returned (ptr (findK S.keys k)) ∧ w' = w := by
  have hl := map_look h.map hk
  have c1 := blk_cell h.blk 1 rfl
  obtain ⟨o, ho⟩ : ∃ o, o = ptr (findK S.keys k) := ⟨_, rfl⟩
  rw [← ho] at hl ⊢
  clear h ho
  obtain ⟨c, m, lb⟩ := L
  simp only at hl c1 ⊢
  go_enter Try.func22, Try.ntmps22
  go_wp2
  go_ret
  exact ⟨rfl, rfl⟩
theorem len_nil (w : World) : Calls Try.prog 17 #[.pointer none] w fun e w' => e = .returned (.int .i64 0) ∧ w' = w := by
  go_enter Try.func17, Try.ntmps17
  go_wp2
  go_ret
  exact ⟨rfl, rfl⟩
theorem len_any (h : CInv L ρ S w) : Calls Try.prog 17 #[.pointer (some ⟨L.c, 0, none⟩)] w fun e w' => e = .returned (.int .i64 S.keys.length) ∧ w' = w := by
  have hl := fun ty => map_len h.map ty
  have c1 := blk_cell h.blk 1 rfl
  generalize S.keys.length = z at hl ⊢
  clear h
  obtain ⟨c, m, lb⟩ := L
  simp only at hl c1 ⊢
  go_enter Try.func17, Try.ntmps17
  go_wp2
  go_ret
  exact ⟨rfl, rfl⟩
theorem el_cells {e : Nat} {p : Pg} {a b : Option Nat} (h : Blk w e 56 (elC p a b)) : w.cell? ⟨e, 0, none⟩ = some (.int .i64 p.n) ∧ w.cell? ⟨e, 1, none⟩ = some (.string p.s) ∧ w.cell? ⟨e, 2, none⟩ = some (.bool p.d) ∧ w.cell? ⟨e, 3, none⟩ = some (ptr a) ∧ w.cell? ⟨e, 4, none⟩ = some (ptr b) :=
  ⟨blk_cell h 0 rfl, blk_cell h 1 rfl, blk_cell h 2 rfl, blk_cell h 3 rfl, blk_cell h 4 rfl⟩
theorem li_cells {g : Nat} {l : List Nat} (h : Blk w g 48 (liC l)) : w.cell? ⟨g, 0, none⟩ = some (ptr l.head?) ∧ w.cell? ⟨g, 1, none⟩ = some (ptr l.getLast?) ∧ w.cell? ⟨g, 2, none⟩ = some (.int .i64 l.length) :=
  ⟨blk_cell h 0 rfl, blk_cell h 1 rfl, blk_cell h 2 rfl⟩
theorem ca_cells {m : Nat} {c a b : Nat} {r : Int} (h : Blk w c 50 #[.int .i64 r, .map (some m), ptr (some a), ptr (some b)]) : w.cell? ⟨c, 0, none⟩ = some (.int .i64 r) ∧ w.cell? ⟨c, 1, none⟩ = some (.map (some m)) ∧ w.cell? ⟨c, 2, none⟩ = some (ptr (some a)) ∧ w.cell? ⟨c, 3, none⟩ = some (ptr (some b)) :=
  ⟨blk_cell h 0 rfl, blk_cell h 1 rfl, blk_cell h 2 rfl, blk_cell h 3 rfl⟩
theorem listOf_any (h : CInv L ρ S w) (e : Nat) {a b : Option Nat} (he : Blk w e 56 (elC (S.pg e) a b)) : Calls Try.prog 29 #[.pointer (some ⟨L.c, 0, none⟩), .pointer (some ⟨e, 0, none⟩)] w fun ev w' => ev = .returned (ptr (some (L.lb (S.pg e).d))) ∧ w' = w := by
  obtain ⟨-, -, c2, c3⟩ := ca_cells h.blk
  obtain ⟨-, -, d2, -, -⟩ := el_cells he
  clear h he
  generalize (S.pg e).d = d at d2 ⊢
  obtain ⟨c, m, lb⟩ := L
  simp only [ptr, Option.map_some] at c2 c3 ⊢
  cases d
  · go_enter Try.func29, Try.ntmps29
    go_wp2
    go_ret
    exact ⟨rfl, rfl⟩
  · go_enter Try.func29, Try.ntmps29
    go_wp2
    go_ret
    exact ⟨rfl, rfl⟩
end Go.Proofs.Ytkpgekfejfbpjaa
