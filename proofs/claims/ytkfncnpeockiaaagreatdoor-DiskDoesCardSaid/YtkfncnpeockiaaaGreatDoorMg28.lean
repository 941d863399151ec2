/-
  Layer 7: the other kinds of step (Read, DirSync, Faults, CrashAt, Restart, none), walked. Condition: the sizes that each contract asks.
  Layer 7: the kinds of step Faults and Restart, walked, and the helper do whatever the step. Condition: the sizes that each contract asks.
  Layer 7: the kind of step Restart, walked, and the helper do whatever the step: both disks answer the same and stay alike. Condition: the sizes that great lets pass.
  Layer 7: the paths of a directory are in order, and stay so (mathematics only).
  Layer 7: the paths of a directory are paths, and stay so (mathematics only).
-/
import Derived.Test.YtkfncnpeockiaaaGreatDoorMg27
import Derived.Test.YtkfncnpeockiaaaGreatDoorMg13
import Derived.Test.YtkfncnpeockiaaaGreatDoorMg26
namespace Go.Proofs.YtkfncnpeockiaaaGreatDoor
open Go.RowKit
variable {X : Nat → Obj → Prop} {w0 v v' : World} {b q n k : Nat} {S : DS} {R : RS}

set_option maxHeartbeats 4000000 in
set_option maxRecDepth 100000 in
theorem do2_any (h : JM X w0 b q n S R v) (hA : JA k S R) (hk : k ≤ 500) (nm : ByteArray) (hnz : nm.size ≤ 5000) (N : Int) (n1 : -9223372036854775808 ≤ N) (n2 : N ≤ 9223372036854775807) (M : Int) (m1 : -9223372036854775808 ≤ M) (m2 : M ≤ 9223372036854775807) (dt : ByteArray) (ca : Option Addr) (cl cc : Nat) (hn : n ≤ 80000) :
    Calls Tryz.prog 10 #[.pointer (some ⟨b, 0, none⟩), .pointer (some ⟨q, 0, none⟩), .agg (opC 2 nm N M dt ca cl cc)] v (DoQ X w0 b q (n + 504) (readG S nm.data.toList N M).2 (qread nm.data.toList N M R).2) := by
  have hbd := bk_bd hA.bk (by omega)
  have hs := (sim_read hA.sim nm.data.toList N M).1
  obtain ⟨x, hx⟩ : ∃ x, x = (readG S nm.data.toList N M).1 := ⟨_, rfl⟩
  rw [← hx] at hs
  have KD : ∀ (Y : Nat → Obj → Prop) (v1 : World), JM Y w0 b q n S R v1 → Calls Tryz.prog 20 #[.pointer (some ⟨b, 0, none⟩), .string nm, .int .i64 N, .int .i64 M] v1 fun e v2 => e = .returned (.tuple #[.string (bz x.1), .int .i64 x.2]) ∧ ∃ m, m ≤ n + 504 ∧ JM Y w0 b q m (readG S nm.data.toList N M).2 R v2 := fun Y v1 h => by
    refine (jm_read h nm (by omega) N M n2 m2 (by omega)).mono fun e v2 hq => ?_
    obtain ⟨m, he, hJ, hm⟩ := hq
    rw [← hx] at he
    exact ⟨he, m, by omega, hJ⟩
  have KQ : ∀ (Y : Nat → Obj → Prop) (n' : Nat) (S' : DS) (v1 : World), JM Y w0 b q n' S' R v1 → Calls Tryz.prog 29 #[.pointer (some ⟨q, 0, none⟩), .string nm, .int .i64 N, .int .i64 M] v1 fun e v2 => e = .returned (.tuple #[.string (bz x.1), .int .i64 x.2]) ∧ JM Y w0 b q n' S' (qread nm.data.toList N M R).2 v2 := fun Y n' S' v1 h => by
    refine (jq_read h nm N M n1 n2 m1 m2 hbd).mono fun e v2 hq => ?_
    obtain ⟨he, hJ⟩ := hq
    rw [← hs] at he
    exact ⟨he, hJ⟩
  generalize (readG S nm.data.toList N M).2 = S1 at KD ⊢
  generalize (qread nm.data.toList N M R).2 = R1 at KQ ⊢
  obtain ⟨xs, xe⟩ := x
  simp only at KD KQ
  generalize bz xs = xb at KD KQ
  have HJ := Lib.hid (jm_add h (opB 2 nm N M dt ca cl cc))
  obtain ⟨Y, hY⟩ : ∃ Y : Nat → Obj → Prop, Y = fun g o => X g o ∨ (g = v.heap.size ∧ o = opB 2 nm N M dt ca cl cc) := ⟨_, rfl⟩
  rw [← hY] at HJ
  have HX := Lib.hid (show ∀ g o, X g o → Y g o from fun g o hg => by rw [hY]; exact .inl hg)
  have hxb' : Y v.heap.size (opB 2 nm N M dt ca cl cc) := by rw [hY]; exact .inr ⟨rfl, rfl⟩
  have c0 := blk_cell (jm_x HJ.out hxb') 0 rfl; have c1 := blk_cell (jm_x HJ.out hxb') 1 rfl; have c2 := blk_cell (jm_x HJ.out hxb') 2 rfl; have c3 := blk_cell (jm_x HJ.out hxb') 3 rfl
  have HXB := Lib.hid hxb'
  clear h hA hbd hs hx hY hxb'
  go_enter Tryz.func10, Tryz.ntmps10
  go_wp2_with (first
    | (go_at_call 20; refine (KD Y _ HJ.out).mono ?_; rintro e w2 ⟨rfl, m, hm, hD⟩; have d1 := blk_cell (jm_x hD HXB.out) 1 rfl; have d2 := blk_cell (jm_x hD HXB.out) 2 rfl; have d3 := blk_cell (jm_x hD HXB.out) 3 rfl)
    | (go_at_call 29; refine (KQ Y m S1 _ hD).mono ?_; rintro e w3 ⟨rfl, hF⟩))
  go_ret
  exact ⟨rfl, m, hm, jm_drop hF HX.out⟩
set_option maxHeartbeats 4000000 in
set_option maxRecDepth 100000 in
theorem do6_any (h : JM X w0 b q n S R v) (hA : JA k S R) (hk : k ≤ 500) (nm : ByteArray) (N M : Int) (dt : ByteArray) (ca : Option Addr) (cl cc : Nat) (hn : n ≤ 80000) :
    Calls Tryz.prog 10 #[.pointer (some ⟨b, 0, none⟩), .pointer (some ⟨q, 0, none⟩), .agg (opC 6 nm N M dt ca cl cc)] v (DoQ X w0 b q (n + 504) (dirsyncG S).2 (qcall qdirIn R).2) := by
  have hbd := bk_bd hA.bk (by omega)
  have hsw := hA.bk.sw
  have hpd : S.pend.length ≤ 500 := Nat.le_trans (ja_pend hA) hk
  have hs := (sim_dirsync hA.sim).1
  obtain ⟨x, hx⟩ : ∃ x, x = (dirsyncG S).1 := ⟨_, rfl⟩
  rw [← hx] at hs
  have KD : ∀ (Y : Nat → Obj → Prop) (v1 : World), JM Y w0 b q n S R v1 → Calls Tryz.prog 15 #[.pointer (some ⟨b, 0, none⟩)] v1 fun e v2 => e = .returned (.int .i64 x) ∧ ∃ m, m ≤ n + 504 ∧ JM Y w0 b q m (dirsyncG S).2 R v2 := fun Y v1 h => by
    refine (jm_dirsync h (by omega)).mono fun e v2 hq => ?_
    obtain ⟨m, he, hJ, hm⟩ := hq
    rw [← hx] at he
    exact ⟨he, m, by omega, hJ⟩
  have KQ : ∀ (Y : Nat → Obj → Prop) (n' : Nat) (S' : DS) (v1 : World), JM Y w0 b q n' S' R v1 → Calls Tryz.prog 33 #[.pointer (some ⟨q, 0, none⟩)] v1 fun e v2 => e = .returned (.int .i64 x) ∧ JM Y w0 b q n' S' (qcall qdirIn R).2 v2 := fun Y n' S' v1 h => by
    refine (jq_dirsync h hbd (by omega)).mono fun e v2 hq => ?_
    obtain ⟨he, hJ⟩ := hq
    rw [← hs] at he
    exact ⟨he, hJ⟩
  generalize (dirsyncG S).2 = S1 at KD ⊢
  generalize (qcall qdirIn R).2 = R1 at KQ ⊢
  have HJ := Lib.hid (jm_below h ((Below.refl _ v).alloc (Nat.le_refl _) (opB 6 nm N M dt ca cl cc)))
  have c0 : (v.alloc (opB 6 nm N M dt ca cl cc)).cell? ⟨v.heap.size, 0, none⟩ = some (.int .i64 6) := blk_cell (t := 32) (cs := opC 6 nm N M dt ca cl cc) (heap_alloc_new v _) 0 rfl
  clear h hA hbd hs hx hsw hpd
  go_enter Tryz.func10, Tryz.ntmps10
  go_wp2_with (first
    | (go_at_call 15; refine (KD X _ HJ.out).mono ?_; rintro e w2 ⟨rfl, m, hm, hD⟩)
    | (go_at_call 33; refine (KQ X m S1 _ hD).mono ?_; rintro e w3 ⟨rfl, hF⟩))
  go_ret
  exact ⟨rfl, m, hm, hF⟩
set_option maxHeartbeats 4000000 in
set_option maxRecDepth 100000 in
theorem do8_any (h : JM X w0 b q n S R v) (nm : ByteArray) (N M : Int) (dt : ByteArray) (ca : Option Addr) (cl cc : Nat) :
    Calls Tryz.prog 10 #[.pointer (some ⟨b, 0, none⟩), .pointer (some ⟨q, 0, none⟩), .agg (opC 8 nm N M dt ca cl cc)] v (DoQ X w0 b q (n + 504) { S with crash := N } (qcrash N R)) := by
  have HJ := Lib.hid (jm_add h (opB 8 nm N M dt ca cl cc))
  obtain ⟨Y, hY⟩ : ∃ Y : Nat → Obj → Prop, Y = fun g o => X g o ∨ (g = v.heap.size ∧ o = opB 8 nm N M dt ca cl cc) := ⟨_, rfl⟩
  rw [← hY] at HJ
  have HX := Lib.hid (show ∀ g o, X g o → Y g o from fun g o hg => by rw [hY]; exact .inl hg)
  have hxb' : Y v.heap.size (opB 8 nm N M dt ca cl cc) := by rw [hY]; exact .inr ⟨rfl, rfl⟩
  have c0 := blk_cell (jm_x HJ.out hxb') 0 rfl; have c2 := blk_cell (jm_x HJ.out hxb') 2 rfl
  have HXB := Lib.hid hxb'
  clear h hY hxb'
  go_enter Tryz.func10, Tryz.ntmps10
  go_wp2_with (first
    | (go_at_call 13; refine (jm_crash HJ.out N).mono ?_; rintro e w2 ⟨rfl, hD⟩; have d2 := blk_cell (jm_x hD HXB.out) 2 rfl)
    | (go_at_call 34; refine (jq_crash hD N).mono ?_; rintro e w3 ⟨rfl, hF⟩))
  go_ret
  exact ⟨rfl, n, by omega, jm_drop hF HX.out⟩
set_option maxHeartbeats 4000000 in
set_option maxRecDepth 100000 in
theorem doX_any (h : JM X w0 b q n S R v) (kd : Int) (hkd : kd < 0 ∨ 9 < kd) (nm : ByteArray) (N M : Int) (dt : ByteArray) (ca : Option Addr) (cl cc : Nat) :
    Calls Tryz.prog 10 #[.pointer (some ⟨b, 0, none⟩), .pointer (some ⟨q, 0, none⟩), .agg (opC kd nm N M dt ca cl cc)] v (DoQ X w0 b q (n + 504) S R) := by
  have HJ := Lib.hid (jm_below h ((Below.refl _ v).alloc (Nat.le_refl _) (opB kd nm N M dt ca cl cc)))
  have c0 : (v.alloc (opB kd nm N M dt ca cl cc)).cell? ⟨v.heap.size, 0, none⟩ = some (.int .i64 kd) := blk_cell (t := 32) (cs := opC kd nm N M dt ca cl cc) (heap_alloc_new v _) 0 rfl
  have t0 : (kd == 0) = false := beq_eq_false_iff_ne.2 (by omega)
  have t1 : (kd == 1) = false := beq_eq_false_iff_ne.2 (by omega)
  have t2 : (kd == 2) = false := beq_eq_false_iff_ne.2 (by omega)
  have t3 : (kd == 3) = false := beq_eq_false_iff_ne.2 (by omega)
  have t4 : (kd == 4) = false := beq_eq_false_iff_ne.2 (by omega)
  have t5 : (kd == 5) = false := beq_eq_false_iff_ne.2 (by omega)
  have t6 : (kd == 6) = false := beq_eq_false_iff_ne.2 (by omega)
  have t7 : (kd == 7) = false := beq_eq_false_iff_ne.2 (by omega)
  have t8 : (kd == 8) = false := beq_eq_false_iff_ne.2 (by omega)
  have t9 : (kd == 9) = false := beq_eq_false_iff_ne.2 (by omega)
  clear h hkd
  go_enter Tryz.func10, Tryz.ntmps10
  go_wp2
  go_ret
  exact ⟨rfl, n, by omega, HJ.out⟩
end Go.Proofs.YtkfncnpeockiaaaGreatDoor

namespace Go.Proofs.YtkfncnpeockiaaaGreatDoor
open Go.RowKit
variable {X : Nat → Obj → Prop} {w0 v v' : World} {b q n k : Nat} {S : DS} {R : RS}

set_option maxHeartbeats 4000000 in
set_option maxRecDepth 100000 in
theorem do7_any (h : JM X w0 b q n S R v) (nm : ByteArray) (N : Int) (n1 : -9223372036854775808 ≤ N) (n2 : N ≤ 9223372036854775807) (M : Int) (m1 : -9223372036854775808 ≤ M) (m2 : M ≤ 9223372036854775807) (dt : ByteArray) (ca : Option Addr) (cl cc : Nat) :
    Calls Tryz.prog 10 #[.pointer (some ⟨b, 0, none⟩), .pointer (some ⟨q, 0, none⟩), .agg (opC 7 nm N M dt ca cl cc)] v (DoQ X w0 b q (n + 504) (faultsS S N M) { R with tells := [(N, M), (N, 30)] }) := by
  have HJ1 := jm_add h (opB 7 nm N M dt ca cl cc)
  obtain ⟨Y, hY⟩ : ∃ Y : Nat → Obj → Prop, Y = fun g o => X g o ∨ (g = v.heap.size ∧ o = opB 7 nm N M dt ca cl cc) := ⟨_, rfl⟩
  rw [← hY] at HJ1
  have hxb1 : Y v.heap.size (opB 7 nm N M dt ca cl cc) := by rw [hY]; exact .inr ⟨rfl, rfl⟩
  have c0 := blk_cell (jm_x HJ1 hxb1) 0 rfl; have c2 := blk_cell (jm_x HJ1 hxb1) 2 rfl; have c3 := blk_cell (jm_x HJ1 hxb1) 3 rfl
  have HJ := Lib.hid (jm_add HJ1 (.cells #[.int .i64 N, .int .i64 M, .int .i64 N, .int .i64 30] 66 (0, 0)))
  obtain ⟨Z, hZ⟩ : ∃ Z : Nat → Obj → Prop, Z = fun g o => Y g o ∨ (g = (v.alloc (opB 7 nm N M dt ca cl cc)).heap.size ∧ o = .cells #[.int .i64 N, .int .i64 M, .int .i64 N, .int .i64 30] 66 (0, 0)) := ⟨_, rfl⟩
  rw [← hZ] at HJ
  have HX := Lib.hid (show ∀ g o, X g o → Z g o from fun g o hg => by rw [hZ, hY]; exact .inl (.inl hg))
  have HXB := Lib.hid (show Z v.heap.size (opB 7 nm N M dt ca cl cc) by rw [hZ]; exact .inl hxb1)
  have HXF := Lib.hid (show Z (v.heap.size + 1) (.cells #[.int .i64 N, .int .i64 M, .int .i64 N, .int .i64 30] 66 (0, 0)) by rw [hZ]; exact .inr ⟨by simp, rfl⟩)
  clear h hY hxb1 hZ HJ1
  go_enter Tryz.func10, Tryz.ntmps10
  go_wp2_with (first
    | (go_at_call 12; refine (jm_faults2 HJ.out (v.heap.size + 1) 66 N M HXF.out n1 n2 m1 m2).mono ?_; rintro e w2 ⟨rfl, hD⟩; have d2 := blk_cell (jm_x hD HXB.out) 2 rfl; have d3 := blk_cell (jm_x hD HXB.out) 3 rfl
       obtain ⟨⟨y7, z7⟩, z8, -, -⟩ := jq_seven (jm_below hD ((Below.refl _ w2).alloc (Nat.le_refl _) (.cells #[.int .i64 N, .int .i64 M, .int .i64 N, .int .i64 30] 68)))
       have HT := Lib.hid (jq_tells hD N M)))
  go_ret
  exact ⟨rfl, n, by omega, jm_drop HT.out HX.out⟩

theorem jm_addx (h : JM X w0 b q n S R v) (hb : Below v.heap.size v v') (g : Nat) (ob : Obj) (hg : v.heap.size ≤ g) (ho : v'.heap[g]? = some ob) : JM (fun k o => X k o ∨ (k = g ∧ o = ob)) w0 b q n S R v' := by
  have h' := jm_below h hb
  obtain ⟨L, ρ, Q, e1, e2, hI, hQ, hr, ha, hX⟩ := h.ex
  refine ⟨⟨L, ρ, Q, e1, e2, hI.below hb, hQ.below hb, hr, ha, fun k o hk => ?_⟩, h'.below, h'.glob, h'.pos⟩
  rcases hk with hk | ⟨rfl, rfl⟩
  · obtain ⟨h1, h2, h3⟩ := hX k o hk
    exact ⟨(hb.block k (Array.getElem?_eq_some_iff.1 h1).1).trans h1, h2, h3⟩
  · exact ⟨ho, hI.old _ hg, fun hq => by have := hQ.lt hq; omega⟩
theorem infoI : (Tryz.prog.info? 3).map (fun i => (i.zero, i.size, i.bytes)) = some (some (.int .i64 0), 1, 8) := by kernel_rfl
theorem wp_append_so {P : Program} (w : World) {o : Oper} {a : Act} {K : Act → World → Prop} {Q : Exit → Act → World → Prop} (s x : Operand) (t : TypeId)
    (ho : o.op = .call { callee := .builtin .append, args := #[s, x], argTypes := #[t, t] }) (v vx v' : Value) (w' : World) (hs : a.eval s = v) (hx : a.eval x = vx)
    (hr : (Builtin.append_ #[t, t] o.type #[v, vx]).run P w = .ok v' w') (h : K (a.put o.dst v') w') : o.wp P a w K Q := by
  unfold Oper.wp execOp
  simp only [ho, resolve, invoke, builtin, Sem.run_bind, Sem.run_pure, Result.andThen_ok, List.map_toArray, List.map_cons, List.map_nil, hs, hx, hr]
  exact h
theorem wpList_append_so {P : Program} (w : World) {ops : Array Oper} {rest : List Oper} {o : Oper} {a : Act} {Q : Exit → Act → World → Prop} (hgd : o.guard = none) (s x : Operand) (t : TypeId)
    (ho : o.op = .call { callee := .builtin .append, args := #[s, x], argTypes := #[t, t] }) (v vx v' : Value) (w' : World) (hs : a.eval s = v) (hx : a.eval x = vx)
    (hr : (Builtin.append_ #[t, t] o.type #[v, vx]).run P w = .ok v' w') (h : wpList P ops Q rest (a.put o.dst v') w') : wpList P ops Q (o :: rest) a w :=
  wpList_plain hgd fun _ hK => wp_append_so w s x t ho v vx v' w' hs hx hr (hK _ _ h)
def intC (x : Int) : Value := .int .i64 x
set_option maxRecDepth 100000 in
/-- 'append([]int{}, l...)': a slice of its own with the same numbers. -/
theorem app_ints (W : World) (ty : TypeId) (a : Option Addr) (cap : Nat) (l : List Int) (hl : l.length ≤ 5000) (ha : Ints W a l) :
    ∃ v' w' a' cap', (Builtin.append_ #[30, 30] ty #[.slice (some ⟨W.heap.size, 0, none⟩) 0 0, .slice a l.length cap]).run Tryz.prog (W.alloc (.cells #[] 3)) = .ok v' w' ∧ v' = .slice a' l.length cap' ∧ Below W.heap.size W w' ∧
      (l.length = 0 ∨ ∃ g ob, a' = some ⟨g, 0, none⟩ ∧ W.heap.size ≤ g ∧ w'.heap[g]? = some ob ∧ ∀ j (hj : j < l.length), w'.cell? ⟨g, 0 + j, none⟩ = some (.int .i64 l[j])) := by
  obtain ⟨i1, hi1, hz⟩ := Option.map_eq_some_iff.1 infoI
  simp only [Prod.mk.injEq] at hz
  obtain ⟨hz1, hs1, hb1⟩ := hz
  have hbl : Below W.heap.size W (W.alloc (.cells #[] 3)) := (Below.refl _ W).alloc (Nat.le_refl _) _
  by_cases h0 : l.length = 0
  · have hL : l = [] := List.eq_nil_of_length_eq_zero h0
    subst hL
    have key : ∀ x, Src Tryz.prog i1.size 30 x 0 [] (W.alloc (.cells #[] 3)) → (Builtin.append_ #[30, 30] ty #[.slice (some ⟨W.heap.size, 0, none⟩) 0 0, x]).run Tryz.prog (W.alloc (.cells #[] 3)) = .ok (.slice (some ⟨W.heap.size, 0, none⟩) 0 0) (W.alloc (.cells #[] 3)) := fun x hx => by
      rw [run_append_room_src (P := Tryz.prog) (W.alloc (.cells #[] 3)) 30 30 ty 3 i1 Tryz.underlying30 hi1 W.heap.size 0 0 0 x 0 [] hx (by omega) (by simp) (by simp)]
      simp [World.setCells]
    refine ⟨_, _, some ⟨W.heap.size, 0, none⟩, 0, key _ ?_, rfl, hbl, .inl rfl⟩
    cases a with
    | none => exact Src.ofNil _ Tryz.underlying30 cap
    | some ad => exact Src.ofSlice _ Tryz.underlying30 ad 0 cap [] (by simp) (by simp) (by simp)
  · obtain ⟨b, off, rfl, hbw, -⟩ := ha 0 (by omega)
    have hcell : ∀ j u, (l.map intC)[j]? = some u → (W.alloc (.cells #[] 3)).cell? ((⟨b, off, none⟩ : Addr).add j) = some u := fun j u hu => by
      have hj : j < l.length := by
        have := (List.getElem?_eq_some_iff.1 hu).1
        rw [List.length_map] at this; exact this
      rw [List.getElem?_map, List.getElem?_eq_getElem hj] at hu
      obtain ⟨b', off', e, -, c⟩ := ha j hj
      injection e with e
      injection e with e1 e2
      subst e1 e2
      rw [Addr.add_lit, hbl.cell hbw, c]
      exact hu
    obtain ⟨v', w', hr, h2, h3, -⟩ := run_append_own_at (P := Tryz.prog) (W.alloc (.cells #[] 3)) W.heap.size 30 ty 3 i1 (.int .i64 0) 1 8 Tryz.underlying30 hi1 hz1 hs1 hb1 rfl (by decide) _ 0 [] (row_none W 3 1) ⟨b, off, none⟩ l.length cap (l.map intC) (by simp) hcell (by
      intro u hu
      obtain ⟨p, -, rfl⟩ := List.mem_map.1 hu
      rfl) (by unfold maxLen; omega) (by omega) (by simp)
    rw [List.nil_append, Nat.zero_add] at h2
    have hB : Below W.heap.size W w' := by
      refine ⟨h3.os, h3.tape, h3.output, Nat.le_trans (by simp) h3.size, fun k hk => ?_⟩
      rw [h3.block k (by simp; omega) (fun e => by simp [Value.ownBlock] at e; omega)]
      exact hbl.block k hk
    rcases h2.2 with ⟨rfl, e⟩ | ⟨g, c, cur, rfl, hbg, hg, -⟩
    · exact absurd e h0
    · refine ⟨_, _, some ⟨g, 0, none⟩, c, hr, rfl, hB, .inr ⟨g, _, rfl, hbg, hg, fun j hj => ?_⟩⟩
      have := h2.cells (g := g) rfl j (intC l[j]) (by rw [List.getElem?_map, List.getElem?_eq_getElem hj]; rfl)
      rw [Addr.add_lit] at this
      exact this
end Go.Proofs.YtkfncnpeockiaaaGreatDoor

namespace Go.Proofs.YtkfncnpeockiaaaGreatDoor
open Go.RowKit
variable {X : Nat → Obj → Prop} {w0 v v' : World} {b q n k : Nat} {S : DS} {R : RS}

theorem apart_app (h : JM X w0 b q n S R v) {a' : Option Addr} {l : List Int} (hb : Below v.heap.size v v')
    (hc : l.length = 0 ∨ ∃ g ob, a' = some ⟨g, 0, none⟩ ∧ v.heap.size ≤ g ∧ v'.heap[g]? = some ob ∧ ∀ j (hj : j < l.length), v'.cell? ⟨g, 0 + j, none⟩ = some (.int .i64 l[j])) :
    ∃ Z : Nat → Obj → Prop, (∀ g o, X g o → Z g o) ∧ JM Z w0 b q n S R v' ∧ Apart Z w0 v' a' l := by
  rcases hc with h0 | ⟨g, ob, e, hg, ho, hc⟩
  · exact ⟨X, fun _ _ h => h, jm_below h hb, fun k hk => by omega⟩
  · exact ⟨_, fun _ _ h => .inl h, jm_addx h hb g ob hg ho, fun k hk => ⟨g, 0, e, .inr ⟨ob, .inr ⟨rfl, rfl⟩⟩, hc k hk⟩⟩
set_option maxHeartbeats 4000000 in
set_option maxRecDepth 100000 in
theorem do9_any (h : JM X w0 b q n S R v) (hA : JA k S R) (hk : k ≤ 500) (nm : ByteArray) (N M : Int) (dt : ByteArray) (ca : Option Addr) (l : List Int) (cc : Nat) (hl : l.length ≤ 5000) (hI : Ints w0 ca l) (hn : n ≤ 80000) :
    Calls Tryz.prog 10 #[.pointer (some ⟨b, 0, none⟩), .pointer (some ⟨q, 0, none⟩), .agg (opC 9 nm N M dt ca l.length cc)] v (DoQ X w0 b q (n + 504) (restartS (uOf l) S) (qrestart (uOf l) R)) := by
  have hpd : S.pend.length ≤ 500 := Nat.le_trans (ja_pend hA) hk
  have HJ := Lib.hid (jm_add h (opB 9 nm N M dt ca l.length cc))
  obtain ⟨Y, hY⟩ : ∃ Y : Nat → Obj → Prop, Y = fun g o => X g o ∨ (g = v.heap.size ∧ o = opB 9 nm N M dt ca l.length cc) := ⟨_, rfl⟩
  rw [← hY] at HJ
  have HX := Lib.hid (show ∀ g o, X g o → Y g o from fun g o hg => by rw [hY]; exact .inl hg)
  have hxb' : Y v.heap.size (opB 9 nm N M dt ca l.length cc) := by rw [hY]; exact .inr ⟨rfl, rfl⟩
  have c0 := blk_cell (jm_x HJ.out hxb') 0 rfl; have c5 := blk_cell (jm_x HJ.out hxb') 5 rfl
  have HXB := Lib.hid hxb'
  have HI := Lib.hid hI
  have HAP := Lib.hid (app_ints (v.alloc (opB 9 nm N M dt ca l.length cc)) 30 ca cc l hl (ints_below hI HJ.out.below))
  have e9 : ((v.alloc (opB 9 nm N M dt ca l.length cc)).alloc (.cells #[] 3)).cell? ⟨v.heap.size, 5, none⟩ = some (.slice ca l.length cc) := cell_alloc c5 _
  have HAR := Lib.hid (fun (Z : Nat → Obj → Prop) (v1 : World) (hz : JM Z w0 b q n S R v1) a' cap' (ap : Apart Z w0 v1 a' l) => jm_restart hz a' cap' l ap (by omega) hA.keys)
  have HQR := Lib.hid (fun (Z : Nat → Obj → Prop) (S' : DS) (m : Nat) (v1 : World) (hz : JM Z w0 b q m S' R v1) => jq_restart hz ca cc l (fun k hk => by
    obtain ⟨g, o, e, hg, hc⟩ := hI k hk
    exact ⟨g, o, e, .inl hg, by rw [hz.below.cell hg]; exact hc⟩) hA.bk (by omega))
  clear h hY hxb' hI hA
  go_enter Tryz.func10, Tryz.ntmps10
  go_upto_region 26 with (fail)
  revert HJ HXB HAP e9
  generalize v.alloc (Obj.cells #[.int .i64 9, .string nm, .int .i64 N, .int .i64 M, .string dt, .slice ca l.length cc] 32) = W
  generalize v.heap.size = bx
  intro HJ HXB HAP e9
  have hxw := blk_cell (jm_x HJ.out HXB.out) 5 rfl
  go_wp2_with (first
    | (at_builtin; obtain ⟨vv, w1, a', cap', hr, rfl, hb', hc'⟩ := HAP.out; refine wpList_append_so _ rfl _ _ 30 rfl _ _ _ _ rfl rfl hr ?_; clear hr; obtain ⟨Z, hZX, hZ, hZA⟩ := apart_app HJ.out hb' hc'; have HZX := Lib.hid hZX; clear hb' hc' hZX)
    | (go_at_call 17; refine (HAR.out Z _ hZ _ _ hZA).mono ?_; rintro e w2 ⟨rfl, hD⟩; have d5 := blk_cell (jm_x hD (HZX.out _ _ HXB.out)) 5 rfl)
    | (go_at_call 35; refine (HQR.out Z _ _ _ hD).mono ?_; rintro e w3 ⟨rfl, hF⟩))
  go_ret
  exact ⟨rfl, n + S.pend.length, by omega, jm_drop hF (fun g o hg => HZX.out g o (HX.out g o hg))⟩

/-- The helper do, whatever the step. -/
theorem ddo_any (h : JM X w0 b q n S R v) (hA : JA k S R) (hk : k ≤ 500) (o : OpL) (hO : OpOk o) (hG : OpG o) (hI : Ints w0 o.cha o.ch) (hn : n ≤ 80000) :
    Calls Tryz.prog 10 #[.pointer (some ⟨b, 0, none⟩), .pointer (some ⟨q, 0, none⟩), .agg (opC o.kind o.name o.n o.m o.data o.cha o.ch.length o.chc)] v (DoQ X w0 b q (n + 504) (stepS o S) (stepR o R)) := by
  obtain ⟨kd, nm, N, M, dt, ch, ca, cc⟩ := o
  have g1 := hG.nm; have g2 := hG.d; have g3 := hG.c; have g4 := hG.n
  have o1 := hO.n1; have o2 := hO.n2; have o3 := hO.m1; have o4 := hO.m2
  simp only at g1 g2 g3 g4 o1 o2 o3 o4 hI
  unfold stepS stepR
  simp only
  by_cases e0 : kd = 0
  · subst e0; exact do0_any h hA hk nm g1 N o1 o2 g4 M o3 o4 dt g2 ca _ cc hn
  rw [if_neg e0, if_neg e0]
  by_cases e1 : kd = 1
  · subst e1; exact do1_any h hA hk nm g1 N o1 o2 g4 M o3 o4 dt g2 ca _ cc hn
  rw [if_neg e1, if_neg e1]
  by_cases e2 : kd = 2
  · subst e2; exact do2_any h hA hk nm g1 N o1 o2 M o3 o4 dt ca _ cc hn
  rw [if_neg e2, if_neg e2]
  by_cases e3 : kd = 3
  · subst e3; exact do3_any h hA hk nm g1 N o1 o2 g4 M o3 o4 dt g2 ca _ cc hn
  rw [if_neg e3, if_neg e3]
  by_cases e4 : kd = 4
  · subst e4; exact do4_any h hA hk nm g1 N o1 o2 g4 M o3 o4 dt g2 ca _ cc hn
  rw [if_neg e4, if_neg e4]
  by_cases e5 : kd = 5
  · subst e5; exact do5_any h hA hk nm g1 N o1 o2 g4 M o3 o4 dt g2 ca _ cc hn
  rw [if_neg e5, if_neg e5]
  by_cases e6 : kd = 6
  · subst e6; exact do6_any h hA hk nm N M dt ca _ cc hn
  rw [if_neg e6, if_neg e6]
  by_cases e7 : kd = 7
  · subst e7; exact do7_any h nm N o1 o2 M o3 o4 dt ca _ cc
  rw [if_neg e7, if_neg e7]
  by_cases e8 : kd = 8
  · subst e8; exact do8_any h nm N M dt ca _ cc
  rw [if_neg e8, if_neg e8]
  by_cases e9 : kd = 9
  · subst e9; exact do9_any h hA hk nm N M dt ca ch cc g3 hI hn
  rw [if_neg e9, if_neg e9]
  exact doX_any h kd (by omega) nm N M dt ca _ cc
end Go.Proofs.YtkfncnpeockiaaaGreatDoor

namespace Go.Proofs.YtkfncnpeockiaaaGreatDoor
open Go.RowKit

theorem before_lt : ∀ (a b : List UInt8), bytesBefore a b = true ↔ a < b
  | [], [] => by simp [bytesBefore]
  | _ :: _, [] => by simp [bytesBefore]
  | [], b :: t => by simp [bytesBefore]
  | a :: s, b :: t => by
    have ih := before_lt s t
    rw [List.cons_lt_cons_iff]
    unfold bytesBefore
    by_cases h1 : a < b
    · simp [h1]
    · by_cases h2 : a = b
      · subst h2; simp [ih]
      · simp [h1, h2]
theorem before_no {a b : List UInt8} (h : ¬ bytesBefore a b = true) : b ≤ a := by
  rw [before_lt] at h
  exact List.not_lt.1 h
theorem before_le {a b : List UInt8} (h : bytesBefore a b = true) : a ≤ b := by
  rw [before_lt] at h
  exact List.le_of_lt h
def Srt (l : List (List UInt8 × Nat)) : Prop := l.Pairwise (fun p q => p.1 ≤ q.1)
theorem sorts_del {l : List (List UInt8 × Nat)} (h : Srt l) (p : List UInt8) : Srt (delL l p) := List.Pairwise.sublist List.filter_sublist h
theorem sorts_ins {l : List (List UInt8 × Nat)} (h : Srt l) (x : List UInt8 × Nat) : Srt (insL x l) := by
  induction l with
  | nil => exact List.pairwise_singleton _ _
  | cons y r ih =>
    unfold Srt at h ih
    rw [List.pairwise_cons] at h
    unfold insL
    split
    · rename_i hb
      refine List.pairwise_cons.2 ⟨fun q hq => ?_, List.pairwise_cons.2 h⟩
      rcases List.mem_cons.1 hq with rfl | hq
      · exact before_le hb
      · exact List.le_trans (before_le hb) (h.1 q hq)
    · rename_i hb
      refine List.pairwise_cons.2 ⟨fun q hq => ?_, ih h.2⟩
      rcases List.mem_cons.1 ((insL_perm x r).mem_iff.1 hq) with rfl | hq
      · exact before_no hb
      · exact h.1 q hq
theorem sorts_put {l : List (List UInt8 × Nat)} (h : Srt l) (p : List UInt8) (i : Nat) : Srt (putL l p i) := sorts_ins (sorts_del h p) _
def SortS (S : DS) : Prop := ∀ s, Srt (S.dirs s)
theorem sorts_apply {S : DS} (h : SortS S) (s : Bool) (c : Chg) : SortS (applyS s c S) := by
  cases c with
  | create nm i =>
    intro t
    show Srt (upd S.dirs s (putL (S.dirs s) nm i) t)
    unfold upd
    split
    · exact sorts_put (h s) nm i
    · exact h t
  | remove nm =>
    intro t
    show Srt (upd S.dirs s (delL (S.dirs s) nm) t)
    unfold upd
    split
    · exact sorts_del (h s) nm
    · exact h t
  | write _ _ _ => exact h
  | trunc _ _ => exact h
theorem sorts_perf {S : DS} (h : SortS S) (c : Chg) : SortS (perfS c S) := fun t => sorts_apply h false c t
theorem sorts_beg {S : DS} (h : SortS S) : SortS (begS S) := h
theorem sorts_cnt {S : DS} (h : SortS S) : SortS (cntS S) := h
theorem sorts_fold {p : Chg → Bool} : ∀ (l : List Chg) {S : DS}, SortS S → SortS (foldP p S l)
  | [], _, h => h
  | c :: r, S, h => by
    have h1 : SortS (stepP p S c) := by
      unfold stepP
      split
      · exact sorts_apply h true c
      · exact h
    exact sorts_fold r h1
theorem sorts_settle {S : DS} (h : SortS S) (p : Chg → Bool) : SortS (settleS p S) := fun t => sorts_fold S.pend h t
theorem sorts_off {S : DS} (h : SortS S) {r : Int × DS} (ho : offS S = some r) : SortS r.2 := by
  rcases offS_cases ho with ⟨_, rfl⟩ | ⟨_, _, rfl⟩
  · exact h
  · exact h
theorem sorts_new {S : DS} (h : SortS S) : SortS (newFile S) := h
theorem sorts_createIn {S : DS} (h : SortS S) (p : List UInt8) : SortS (createIn S p).2 := by
  unfold createIn
  split
  · exact h
  · split
    · exact h
    · split
      · exact h
      · exact sorts_perf (sorts_new h) _
theorem sorts_create {S : DS} (h : SortS S) (p : List UInt8) : SortS (createG S p).2 := by
  unfold createG
  cases ho : offS S with
  | some r => exact sorts_off h ho
  | none => exact sorts_createIn (sorts_beg h) p
theorem sorts_delete {S : DS} (h : SortS S) (p : List UInt8) : SortS (deleteG S p).2 := by
  unfold deleteG
  cases ho : offS S with
  | some r => exact sorts_off h ho
  | none =>
    show SortS (deleteZ S p).2
    unfold deleteZ
    split
    · exact sorts_beg h
    · exact sorts_perf (sorts_beg h) _
theorem sorts_writeIn {S : DS} (h : SortS S) (i : Nat) (o : Int) (d : List UInt8) : SortS (writeIn S i o d).2 := by
  unfold writeIn
  split
  · exact h
  · split
    · exact h
    · split
      · exact h
      · exact sorts_perf h _
theorem sorts_write {S : DS} (h : SortS S) (p : List UInt8) (o : Int) (d : List UInt8) : SortS (writeG S p o d).2 := by
  unfold writeG
  cases ho : offS S with
  | some r => exact sorts_off h ho
  | none =>
    show SortS (writeZ S p o d).2
    unfold writeZ
    split
    · exact sorts_beg h
    · exact sorts_writeIn (sorts_beg h) _ _ _
theorem sorts_truncIn {S : DS} (h : SortS S) (i : Nat) (z : Int) : SortS (truncIn S i z).2 := by
  unfold truncIn
  split
  · exact h
  · split
    · exact h
    · exact sorts_perf h _
theorem sorts_trunc {S : DS} (h : SortS S) (p : List UInt8) (z : Int) : SortS (truncG S p z).2 := by
  unfold truncG
  cases ho : offS S with
  | some r => exact sorts_off h ho
  | none =>
    show SortS (truncZ S p z).2
    unfold truncZ
    split
    · exact sorts_beg h
    · exact sorts_truncIn (sorts_beg h) _ _
theorem sorts_sync {S : DS} (h : SortS S) (p : List UInt8) : SortS (syncG S p).2 := by
  unfold syncG
  cases ho : offS S with
  | some r => exact sorts_off h ho
  | none =>
    show SortS (syncZ S p).2
    unfold syncZ
    split
    · exact sorts_beg h
    · unfold syncIn
      split
      · exact sorts_beg h
      · exact sorts_settle (sorts_beg h) _
theorem sorts_dirsync {S : DS} (h : SortS S) : SortS (dirsyncG S).2 := by
  unfold dirsyncG
  cases ho : offS S with
  | some r => exact sorts_off h ho
  | none =>
    show SortS (dirsyncIn (begS S))
    unfold dirsyncIn
    split
    · exact sorts_beg h
    · exact sorts_settle (sorts_beg h) _
theorem sorts_read {S : DS} (h : SortS S) (p : List UInt8) (o m : Int) : SortS (readG S p o m).2 := by
  unfold readG
  cases ho : offS S with
  | some r => exact sorts_off h ho
  | none =>
    show SortS (readZ S p o m).2
    unfold readZ
    split
    · exact sorts_beg h
    · split
      · exact sorts_beg h
      · split
        · exact sorts_beg h
        · exact sorts_beg h
theorem sorts_surv {S : DS} (h : SortS S) (c : Chg) (u : Nat) : SortS (survS c u S) := by
  unfold survS
  split
  · exact h
  · exact sorts_apply h true _
theorem sorts_survF {S : DS} (h : SortS S) (u : Nat → Nat) (l : List Chg) : ∀ k, SortS (survF u l S k)
  | 0 => h
  | k + 1 => by
    unfold survF
    split
    · exact sorts_surv (sorts_survF h u l k) _ _
    · exact sorts_survF h u l k
theorem sorts_restart {S : DS} (h : SortS S) (u : Nat → Nat) : SortS (restartS u S) := by
  have hk := sorts_survF h u S.pend S.pend.length
  intro s
  show Srt (upd (survF u S.pend S S.pend.length).dirs false ((survF u S.pend S S.pend.length).dirs true) s)
  unfold upd
  split
  · exact hk true
  · exact hk s


theorem sorts_step {S : DS} (h : SortS S) (o : OpL) : SortS (stepS o S) := by
  unfold stepS
  repeat' split
  · exact sorts_create h _
  · exact sorts_delete h _
  · exact sorts_read h _ _ _
  · exact sorts_write h _ _ _
  · exact sorts_trunc h _ _
  · exact sorts_sync h _
  · exact sorts_dirsync h
  · exact h
  · exact h
  · exact sorts_restart h _
  · exact h
end Go.Proofs.YtkfncnpeockiaaaGreatDoor

namespace Go.Proofs.YtkfncnpeockiaaaGreatDoor
open Go.RowKit

def PthC (c : Chg) : Prop := ∀ nm i, c = .create nm i → pathB nm = true
structure PathS (S : DS) : Prop where
  d : ∀ s p, p ∈ S.dirs s → pathB p.1 = true
  p : ∀ c, c ∈ S.pend → PthC c
theorem kept_mem {p : Chg → Bool} {l : List Chg} {c : Chg} (h : c ∈ keptL p l) : c ∈ l := (List.mem_filter.1 h).1
theorem survC_path {c c' : Chg} {u : Nat} (h : PthC c) (hc : survC c u = some c') : PthC c' := by
  unfold survC at hc
  split at hc
  · cases hc
  · split at hc
    · injection hc with hc
      subst hc
      intro nm i e
      cases c with
      | create nm' i' => exact h nm i e
      | remove _ => cases e
      | write _ _ _ => cases e
      | trunc _ _ => cases e
    · injection hc with hc
      subst hc
      exact h
theorem paths_apply {S : DS} (h : PathS S) (s : Bool) (c : Chg) (hc : PthC c) : PathS (applyS s c S) := by
  cases c with
  | create nm i =>
    refine ⟨fun t p hp => ?_, h.p⟩
    have hp' : p ∈ upd S.dirs s (putL (S.dirs s) nm i) t := hp
    unfold upd at hp'
    split at hp'
    · rcases putL_mem hp' with rfl | hp'
      · exact hc nm i rfl
      · exact h.d s p hp'
    · exact h.d t p hp'
  | remove nm =>
    refine ⟨fun t p hp => ?_, h.p⟩
    have hp' : p ∈ upd S.dirs s (delL (S.dirs s) nm) t := hp
    unfold upd at hp'
    split at hp'
    · exact h.d s p (List.mem_filter.1 hp').1
    · exact h.d t p hp'
  | write _ _ _ => exact ⟨h.d, h.p⟩
  | trunc _ _ => exact ⟨h.d, h.p⟩
theorem paths_perf {S : DS} (h : PathS S) (c : Chg) (hc : PthC c) : PathS (perfS c S) :=
  ⟨fun t p hp => (paths_apply h false c hc).d t p hp, fun x hx => by
    rcases List.mem_append.1 hx with hx | hx
    · exact h.p x hx
    · rw [List.mem_singleton.1 hx]; exact hc⟩
theorem paths_beg {S : DS} (h : PathS S) : PathS (begS S) := ⟨h.d, h.p⟩
theorem paths_cnt {S : DS} (h : PathS S) : PathS (cntS S) := ⟨h.d, h.p⟩
theorem paths_fold {p : Chg → Bool} : ∀ (l : List Chg) {S : DS}, (∀ c, c ∈ l → PthC c) → PathS S → PathS (foldP p S l)
  | [], _, _, h => h
  | c :: r, S, hl, h => by
    have h1 : PathS (stepP p S c) := by
      unfold stepP
      split
      · exact paths_apply h true c (hl c (List.mem_cons_self ..))
      · exact h
    exact paths_fold r (fun x hx => hl x (List.mem_cons_of_mem _ hx)) h1
theorem paths_settle {S : DS} (h : PathS S) (p : Chg → Bool) : PathS (settleS p S) :=
  ⟨fun t x hx => (paths_fold S.pend h.p h).d t x hx, fun c hc => h.p c (kept_mem hc)⟩
theorem paths_off {S : DS} (h : PathS S) {r : Int × DS} (ho : offS S = some r) : PathS r.2 := by
  rcases offS_cases ho with ⟨_, rfl⟩ | ⟨_, _, rfl⟩
  · exact h
  · exact ⟨h.d, h.p⟩
theorem paths_new {S : DS} (h : PathS S) : PathS (newFile S) := ⟨h.d, h.p⟩
theorem paths_createIn {S : DS} (h : PathS S) (p : List UInt8) : PathS (createIn S p).2 := by
  unfold createIn
  by_cases hp : pathB p = false
  · rw [if_pos hp]; exact h
  · rw [if_neg hp]
    split
    · exact h
    · split
      · exact h
      · exact paths_perf (paths_new h) _ (fun nm i e => by cases e; simpa using hp)
theorem paths_create {S : DS} (h : PathS S) (p : List UInt8) : PathS (createG S p).2 := by
  unfold createG
  cases ho : offS S with
  | some r => exact paths_off h ho
  | none => exact paths_createIn (paths_beg h) p
theorem paths_delete {S : DS} (h : PathS S) (p : List UInt8) : PathS (deleteG S p).2 := by
  unfold deleteG
  cases ho : offS S with
  | some r => exact paths_off h ho
  | none =>
    show PathS (deleteZ S p).2
    unfold deleteZ
    split
    · exact paths_beg h
    · exact paths_perf (paths_beg h) _ (fun nm i e => by cases e)
theorem paths_writeIn {S : DS} (h : PathS S) (i : Nat) (o : Int) (d : List UInt8) : PathS (writeIn S i o d).2 := by
  unfold writeIn
  split
  · exact h
  · split
    · exact h
    · split
      · exact h
      · exact paths_perf h _ (fun nm i e => by cases e)
theorem paths_write {S : DS} (h : PathS S) (p : List UInt8) (o : Int) (d : List UInt8) : PathS (writeG S p o d).2 := by
  unfold writeG
  cases ho : offS S with
  | some r => exact paths_off h ho
  | none =>
    show PathS (writeZ S p o d).2
    unfold writeZ
    split
    · exact paths_beg h
    · exact paths_writeIn (paths_beg h) _ _ _
theorem paths_truncIn {S : DS} (h : PathS S) (i : Nat) (z : Int) : PathS (truncIn S i z).2 := by
  unfold truncIn
  split
  · exact h
  · split
    · exact h
    · exact paths_perf h _ (fun nm i e => by cases e)
theorem paths_trunc {S : DS} (h : PathS S) (p : List UInt8) (z : Int) : PathS (truncG S p z).2 := by
  unfold truncG
  cases ho : offS S with
  | some r => exact paths_off h ho
  | none =>
    show PathS (truncZ S p z).2
    unfold truncZ
    split
    · exact paths_beg h
    · exact paths_truncIn (paths_beg h) _ _
theorem paths_sync {S : DS} (h : PathS S) (p : List UInt8) : PathS (syncG S p).2 := by
  unfold syncG
  cases ho : offS S with
  | some r => exact paths_off h ho
  | none =>
    show PathS (syncZ S p).2
    unfold syncZ
    split
    · exact paths_beg h
    · unfold syncIn
      split
      · exact paths_beg h
      · exact paths_settle (paths_beg h) _
theorem paths_dirsync {S : DS} (h : PathS S) : PathS (dirsyncG S).2 := by
  unfold dirsyncG
  cases ho : offS S with
  | some r => exact paths_off h ho
  | none =>
    show PathS (dirsyncIn (begS S))
    unfold dirsyncIn
    split
    · exact paths_beg h
    · exact paths_settle (paths_beg h) _
theorem paths_read {S : DS} (h : PathS S) (p : List UInt8) (o m : Int) : PathS (readG S p o m).2 := by
  unfold readG
  cases ho : offS S with
  | some r => exact paths_off h ho
  | none =>
    show PathS (readZ S p o m).2
    unfold readZ
    split
    · exact paths_beg h
    · split
      · exact paths_beg h
      · split
        · exact paths_beg h
        · exact paths_beg h

theorem paths_surv {S : DS} (h : PathS S) (c : Chg) (u : Nat) (hc : PthC c) : PathS (survS c u S) := by
  unfold survS
  split
  · exact h
  · rename_i c' hc'
    exact paths_apply h true c' (survC_path hc hc')
theorem paths_survF {S : DS} (h : PathS S) (u : Nat → Nat) (l : List Chg) (hl : ∀ c, c ∈ l → PthC c) : ∀ k, PathS (survF u l S k)
  | 0 => h
  | k + 1 => by
    unfold survF
    split
    · rename_i hk
      exact paths_surv (paths_survF h u l hl k) _ _ (hl _ (List.mem_of_getElem? hk))
    · exact paths_survF h u l hl k
theorem paths_restart {S : DS} (h : PathS S) (u : Nat → Nat) : PathS (restartS u S) := by
  have hk := paths_survF h u S.pend h.p S.pend.length
  refine ⟨fun s p hp => ?_, fun c hc => by cases hc⟩
  have hp' : p ∈ upd (survF u S.pend S S.pend.length).dirs false ((survF u S.pend S S.pend.length).dirs true) s := hp
  unfold upd at hp'
  split at hp'
  · exact hk.d true p hp'
  · exact hk.d s p hp'
theorem paths_step {S : DS} (h : PathS S) (o : OpL) : PathS (stepS o S) := by
  unfold stepS
  repeat' split
  · exact paths_create h _
  · exact paths_delete h _
  · exact paths_read h _ _ _
  · exact paths_write h _ _ _
  · exact paths_trunc h _ _
  · exact paths_sync h _
  · exact paths_dirsync h
  · exact ⟨h.d, h.p⟩
  · exact ⟨h.d, h.p⟩
  · exact paths_restart h _
  · exact h
end Go.Proofs.YtkfncnpeockiaaaGreatDoor
