/-
  Layer 7: one step of DiskSure, where the document's disk need not be alike: whatever the helper do answers, both disks stand behind it as the step says. Condition: the sizes that each contract asks.
-/
import Derived.Test.YtkfncnpeockiaaaGreatDoorMg28
namespace Go.Proofs.YtkfncnpeockiaaaGreatDoor
open Go.RowKit
variable {X : Nat → Obj → Prop} {w0 v v' : World} {b q n k : Nat} {S : DS} {R R' : RS}

def DoL (X : Nat → Obj → Prop) (w0 : World) (b q N : Nat) (S : DS) (R : RS) (e : Ending) (v' : World) : Prop := ∃ bb : Bool, e = .returned (.bool bb) ∧ ∃ m, m ≤ N ∧ JM X w0 b q m S R v'
theorem doL_of {N : Nat} {e : Ending} (h : DoQ X w0 b q N S R e v') : DoL X w0 b q N S R e v' := ⟨true, h.1, h.2⟩
set_option maxHeartbeats 4000000 in
set_option maxRecDepth 100000 in
theorem doL0_any (h : JM X w0 b q n S R v) (hA : JA k S R') (hB : QBk k R) (hk : k ≤ 500) (nm : ByteArray) (hnz : nm.size ≤ 5000) (N : Int) (_n1 : -9223372036854775808 ≤ N) (_n2 : N ≤ 9223372036854775807) (_hN : N ≤ 20000 ∨ 4000000 < N) (M : Int) (_m1 : -9223372036854775808 ≤ M) (_m2 : M ≤ 9223372036854775807) (dt : ByteArray) (_hdz : dt.size ≤ 5000) (ca : Option Addr) (cl cc : Nat) (hn : n ≤ 80000) :
    Calls Tryz.prog 10 #[.pointer (some ⟨b, 0, none⟩), .pointer (some ⟨q, 0, none⟩), .agg (opC 0 nm N M dt ca cl cc)] v (DoL X w0 b q (n + 504) ((createG S nm.data.toList).2) ((qcall (qcreIn nm.data.toList) R).2)) := by
  have hbd := bk_bd hB (by omega)
  have hpd : S.pend.length ≤ 500 := Nat.le_trans (ja_pend hA) hk
  have hl : nm.data.toList.length = nm.size := by simp
  have hl2 : dt.data.toList.length = dt.size := by simp
  obtain ⟨x, hx⟩ : ∃ x, x = (createG S nm.data.toList).1 := ⟨_, rfl⟩
  obtain ⟨y, hy⟩ : ∃ y, y = (qcall (qcreIn nm.data.toList) R).1 := ⟨_, rfl⟩
  have KD : ∀ (Y : Nat → Obj → Prop) (R' : RS) (v1 : World), JM Y w0 b q n S R' v1 → Calls Tryz.prog 22 #[.pointer (some ⟨b, 0, none⟩), .string nm] v1 fun e v2 => e = .returned (.int .i64 x) ∧ ∃ m, m ≤ n + 504 ∧ JM Y w0 b q m (createG S nm.data.toList).2 R' v2 := fun Y R' v1 h => by
    refine (jm_create h nm (by omega) (by omega)).mono fun e v2 hq => ?_
    obtain ⟨m, he, hJ, hm⟩ := hq
    rw [← hx] at he
    exact ⟨he, m, by omega, hJ⟩
  have KQ : ∀ (Y : Nat → Obj → Prop) (n' : Nat) (S' : DS) (v1 : World), JM Y w0 b q n' S' R v1 → Calls Tryz.prog 27 #[.pointer (some ⟨q, 0, none⟩), .string nm] v1 fun e v2 => e = .returned (.int .i64 y) ∧ JM Y w0 b q n' S' (qcall (qcreIn nm.data.toList) R).2 v2 := fun Y n' S' v1 h => by
    refine (jq_create h nm (by omega) hbd).mono fun e v2 hq => ?_
    obtain ⟨he, hJ⟩ := hq
    rw [← hy] at he
    exact ⟨he, hJ⟩
  generalize (createG S nm.data.toList).2 = S1 at KD ⊢
  generalize (qcall (qcreIn nm.data.toList) R).2 = R1 at KQ ⊢
  have HJ := Lib.hid (jm_add h (opB 0 nm N M dt ca cl cc))
  obtain ⟨Y, hY⟩ : ∃ Y : Nat → Obj → Prop, Y = fun g o => X g o ∨ (g = v.heap.size ∧ o = opB 0 nm N M dt ca cl cc) := ⟨_, rfl⟩
  rw [← hY] at HJ
  have HX := Lib.hid (show ∀ g o, X g o → Y g o from fun g o hg => by rw [hY]; exact .inl hg)
  have hxb' : Y v.heap.size (opB 0 nm N M dt ca cl cc) := by rw [hY]; exact .inr ⟨rfl, rfl⟩
  have c0 := blk_cell (jm_x HJ.out hxb') 0 rfl
  have HXB := Lib.hid hxb'
  clear h hA hB hbd hl hl2 hy hx hY hxb'
  go_enter Tryz.func10, Tryz.ntmps10
  go_upto_region 3 with (fail)
  revert HJ HXB
  generalize v.alloc (Obj.cells #[.int .i64 0, .string nm, .int .i64 N, .int .i64 M, .string dt, .slice ca cl cc] 32) = W
  generalize v.heap.size = bx
  intro HJ HXB
  have hxb := HXB.out
  have hJ0 := HJ.out
  have hJd := jm_drew hJ0
  have c1 := blk_cell (jm_x hJd hxb) 1 rfl
  go_region_held3 (fun v => v.cell? ⟨bx, 1, none⟩ = some (.string nm))
    (first | assumption | exact blk_cell (jm_x hF hxb) 1 rfl | exact blk_cell (jm_x hD1 hxb) 1 rfl | exact blk_cell (jm_x hQ1 hxb) 1 rfl | exact blk_cell (jm_x hJd hxb) 1 rfl)
    (first
      | (go_at_call 22; first | (refine (KD Y R1 _ hQ1).mono ?_; rintro e w2 ⟨rfl, m, hm, hF⟩) | (refine (KD Y R _ hJd).mono ?_; rintro e w2 ⟨rfl, m, hm, hD1⟩); skip)
      | (go_at_call 27; first | (refine (KQ Y m S1 _ hD1).mono ?_; rintro e w3 ⟨rfl, hF⟩) | (refine (KQ Y n S _ hJd).mono ?_; rintro e w3 ⟨rfl, hQ1⟩)))
  all_goals go_wp2
  all_goals go_ret
  all_goals exact ⟨_, rfl, m, hm, jm_drop hF HX.out⟩
set_option maxHeartbeats 4000000 in
set_option maxRecDepth 100000 in
theorem doL1_any (h : JM X w0 b q n S R v) (hA : JA k S R') (hB : QBk k R) (hk : k ≤ 500) (nm : ByteArray) (hnz : nm.size ≤ 5000) (N : Int) (_n1 : -9223372036854775808 ≤ N) (_n2 : N ≤ 9223372036854775807) (_hN : N ≤ 20000 ∨ 4000000 < N) (M : Int) (_m1 : -9223372036854775808 ≤ M) (_m2 : M ≤ 9223372036854775807) (dt : ByteArray) (_hdz : dt.size ≤ 5000) (ca : Option Addr) (cl cc : Nat) (hn : n ≤ 80000) :
    Calls Tryz.prog 10 #[.pointer (some ⟨b, 0, none⟩), .pointer (some ⟨q, 0, none⟩), .agg (opC 1 nm N M dt ca cl cc)] v (DoL X w0 b q (n + 504) ((deleteG S nm.data.toList).2) ((qcall (qdelIn nm.data.toList) R).2)) := by
  have hbd := bk_bd hB (by omega)
  have hpd : S.pend.length ≤ 500 := Nat.le_trans (ja_pend hA) hk
  have hl : nm.data.toList.length = nm.size := by simp
  have hl2 : dt.data.toList.length = dt.size := by simp
  obtain ⟨x, hx⟩ : ∃ x, x = (deleteG S nm.data.toList).1 := ⟨_, rfl⟩
  obtain ⟨y, hy⟩ : ∃ y, y = (qcall (qdelIn nm.data.toList) R).1 := ⟨_, rfl⟩
  have KD : ∀ (Y : Nat → Obj → Prop) (R' : RS) (v1 : World), JM Y w0 b q n S R' v1 → Calls Tryz.prog 23 #[.pointer (some ⟨b, 0, none⟩), .string nm] v1 fun e v2 => e = .returned (.int .i64 x) ∧ ∃ m, m ≤ n + 504 ∧ JM Y w0 b q m (deleteG S nm.data.toList).2 R' v2 := fun Y R' v1 h => by
    refine (jm_delete h nm (by omega) (by omega)).mono fun e v2 hq => ?_
    obtain ⟨m, he, hJ, hm⟩ := hq
    rw [← hx] at he
    exact ⟨he, m, by omega, hJ⟩
  have KQ : ∀ (Y : Nat → Obj → Prop) (n' : Nat) (S' : DS) (v1 : World), JM Y w0 b q n' S' R v1 → Calls Tryz.prog 28 #[.pointer (some ⟨q, 0, none⟩), .string nm] v1 fun e v2 => e = .returned (.int .i64 y) ∧ JM Y w0 b q n' S' (qcall (qdelIn nm.data.toList) R).2 v2 := fun Y n' S' v1 h => by
    refine (jq_delete h nm (by omega) hbd).mono fun e v2 hq => ?_
    obtain ⟨he, hJ⟩ := hq
    rw [← hy] at he
    exact ⟨he, hJ⟩
  generalize (deleteG S nm.data.toList).2 = S1 at KD ⊢
  generalize (qcall (qdelIn nm.data.toList) R).2 = R1 at KQ ⊢
  have HJ := Lib.hid (jm_add h (opB 1 nm N M dt ca cl cc))
  obtain ⟨Y, hY⟩ : ∃ Y : Nat → Obj → Prop, Y = fun g o => X g o ∨ (g = v.heap.size ∧ o = opB 1 nm N M dt ca cl cc) := ⟨_, rfl⟩
  rw [← hY] at HJ
  have HX := Lib.hid (show ∀ g o, X g o → Y g o from fun g o hg => by rw [hY]; exact .inl hg)
  have hxb' : Y v.heap.size (opB 1 nm N M dt ca cl cc) := by rw [hY]; exact .inr ⟨rfl, rfl⟩
  have c0 := blk_cell (jm_x HJ.out hxb') 0 rfl
  have HXB := Lib.hid hxb'
  clear h hA hB hbd hl hl2 hy hx hY hxb'
  go_enter Tryz.func10, Tryz.ntmps10
  go_upto_region 5 with (fail)
  revert HJ HXB
  generalize v.alloc (Obj.cells #[.int .i64 1, .string nm, .int .i64 N, .int .i64 M, .string dt, .slice ca cl cc] 32) = W
  generalize v.heap.size = bx
  intro HJ HXB
  have hxb := HXB.out
  have hJ0 := HJ.out
  have hJd := jm_drew hJ0
  have c1 := blk_cell (jm_x hJd hxb) 1 rfl
  go_region_held3 (fun v => v.cell? ⟨bx, 1, none⟩ = some (.string nm))
    (first | assumption | exact blk_cell (jm_x hF hxb) 1 rfl | exact blk_cell (jm_x hD1 hxb) 1 rfl | exact blk_cell (jm_x hQ1 hxb) 1 rfl | exact blk_cell (jm_x hJd hxb) 1 rfl)
    (first
      | (go_at_call 23; first | (refine (KD Y R1 _ hQ1).mono ?_; rintro e w2 ⟨rfl, m, hm, hF⟩) | (refine (KD Y R _ hJd).mono ?_; rintro e w2 ⟨rfl, m, hm, hD1⟩); skip)
      | (go_at_call 28; first | (refine (KQ Y m S1 _ hD1).mono ?_; rintro e w3 ⟨rfl, hF⟩) | (refine (KQ Y n S _ hJd).mono ?_; rintro e w3 ⟨rfl, hQ1⟩)))
  all_goals go_wp2
  all_goals go_ret
  all_goals exact ⟨_, rfl, m, hm, jm_drop hF HX.out⟩
set_option maxHeartbeats 4000000 in
set_option maxRecDepth 100000 in
theorem doL2_any (h : JM X w0 b q n S R v) (_hA : JA k S R') (hB : QBk k R) (hk : k ≤ 500) (nm : ByteArray) (hnz : nm.size ≤ 5000) (N : Int) (n1 : -9223372036854775808 ≤ N) (n2 : N ≤ 9223372036854775807) (M : Int) (m1 : -9223372036854775808 ≤ M) (m2 : M ≤ 9223372036854775807) (dt : ByteArray) (ca : Option Addr) (cl cc : Nat) (hn : n ≤ 80000) :
    Calls Tryz.prog 10 #[.pointer (some ⟨b, 0, none⟩), .pointer (some ⟨q, 0, none⟩), .agg (opC 2 nm N M dt ca cl cc)] v (DoL X w0 b q (n + 504) (readG S nm.data.toList N M).2 (qread nm.data.toList N M R).2) := by
  have hbd := bk_bd hB (by omega)
  obtain ⟨x, hx⟩ : ∃ x, x = (readG S nm.data.toList N M).1 := ⟨_, rfl⟩
  obtain ⟨y, hy⟩ : ∃ y, y = (qread nm.data.toList N M R).1 := ⟨_, rfl⟩
  have KD : ∀ (Y : Nat → Obj → Prop) (v1 : World), JM Y w0 b q n S R v1 → Calls Tryz.prog 20 #[.pointer (some ⟨b, 0, none⟩), .string nm, .int .i64 N, .int .i64 M] v1 fun e v2 => e = .returned (.tuple #[.string (bz x.1), .int .i64 x.2]) ∧ ∃ m, m ≤ n + 504 ∧ JM Y w0 b q m (readG S nm.data.toList N M).2 R v2 := fun Y v1 h => by
    refine (jm_read h nm (by omega) N M n2 m2 (by omega)).mono fun e v2 hq => ?_
    obtain ⟨m, he, hJ, hm⟩ := hq
    rw [← hx] at he
    exact ⟨he, m, by omega, hJ⟩
  have KQ : ∀ (Y : Nat → Obj → Prop) (n' : Nat) (S' : DS) (v1 : World), JM Y w0 b q n' S' R v1 → Calls Tryz.prog 29 #[.pointer (some ⟨q, 0, none⟩), .string nm, .int .i64 N, .int .i64 M] v1 fun e v2 => e = .returned (.tuple #[.string (bz y.1), .int .i64 y.2]) ∧ JM Y w0 b q n' S' (qread nm.data.toList N M R).2 v2 := fun Y n' S' v1 h => by
    refine (jq_read h nm N M n1 n2 m1 m2 hbd).mono fun e v2 hq => ?_
    obtain ⟨he, hJ⟩ := hq
    rw [← hy] at he
    exact ⟨he, hJ⟩
  generalize (readG S nm.data.toList N M).2 = S1 at KD ⊢
  generalize (qread nm.data.toList N M R).2 = R1 at KQ ⊢
  obtain ⟨xs, xe⟩ := x
  obtain ⟨ys, ye⟩ := y
  simp only at KD KQ
  generalize bz xs = xb at KD
  generalize bz ys = yb at KQ
  have HJ := Lib.hid (jm_add h (opB 2 nm N M dt ca cl cc))
  obtain ⟨Y, hY⟩ : ∃ Y : Nat → Obj → Prop, Y = fun g o => X g o ∨ (g = v.heap.size ∧ o = opB 2 nm N M dt ca cl cc) := ⟨_, rfl⟩
  rw [← hY] at HJ
  have HX := Lib.hid (show ∀ g o, X g o → Y g o from fun g o hg => by rw [hY]; exact .inl hg)
  have hxb' : Y v.heap.size (opB 2 nm N M dt ca cl cc) := by rw [hY]; exact .inr ⟨rfl, rfl⟩
  have c0 := blk_cell (jm_x HJ.out hxb') 0 rfl; have c1 := blk_cell (jm_x HJ.out hxb') 1 rfl; have c2 := blk_cell (jm_x HJ.out hxb') 2 rfl; have c3 := blk_cell (jm_x HJ.out hxb') 3 rfl
  have HXB := Lib.hid hxb'
  clear h _hA hB hbd hy hx hY hxb'
  go_enter Tryz.func10, Tryz.ntmps10
  go_wp2_with (first
    | (go_at_call 20; refine (KD Y _ HJ.out).mono ?_; rintro e w2 ⟨rfl, m, hm, hD⟩; have d1 := blk_cell (jm_x hD HXB.out) 1 rfl; have d2 := blk_cell (jm_x hD HXB.out) 2 rfl; have d3 := blk_cell (jm_x hD HXB.out) 3 rfl)
    | (go_at_call 29; refine (KQ Y m S1 _ hD).mono ?_; rintro e w3 ⟨rfl, hF⟩))
  all_goals go_ret
  all_goals exact ⟨_, rfl, m, hm, jm_drop hF HX.out⟩
set_option maxHeartbeats 4000000 in
set_option maxRecDepth 100000 in
theorem doL3_any (h : JM X w0 b q n S R v) (hA : JA k S R') (hB : QBk k R) (hk : k ≤ 500) (nm : ByteArray) (hnz : nm.size ≤ 5000) (N : Int) (n1 : -9223372036854775808 ≤ N) (n2 : N ≤ 9223372036854775807) (hN : N ≤ 20000 ∨ 4000000 < N) (M : Int) (_m1 : -9223372036854775808 ≤ M) (_m2 : M ≤ 9223372036854775807) (dt : ByteArray) (hdz : dt.size ≤ 5000) (ca : Option Addr) (cl cc : Nat) (hn : n ≤ 80000) :
    Calls Tryz.prog 10 #[.pointer (some ⟨b, 0, none⟩), .pointer (some ⟨q, 0, none⟩), .agg (opC 3 nm N M dt ca cl cc)] v (DoL X w0 b q (n + 504) ((writeG S nm.data.toList N dt.data.toList).2) ((qcall (qwriIn nm.data.toList N dt.data.toList) R).2)) := by
  have hbd := bk_bd hB (by omega)
  have hpd : S.pend.length ≤ 500 := Nat.le_trans (ja_pend hA) hk
  have hl : nm.data.toList.length = nm.size := by simp
  have hl2 : dt.data.toList.length = dt.size := by simp
  obtain ⟨x, hx⟩ : ∃ x, x = (writeG S nm.data.toList N dt.data.toList).1 := ⟨_, rfl⟩
  obtain ⟨y, hy⟩ : ∃ y, y = (qcall (qwriIn nm.data.toList N dt.data.toList) R).1 := ⟨_, rfl⟩
  have KD : ∀ (Y : Nat → Obj → Prop) (R' : RS) (v1 : World), JM Y w0 b q n S R' v1 → Calls Tryz.prog 24 #[.pointer (some ⟨b, 0, none⟩), .string nm, .int .i64 N, .string dt] v1 fun e v2 => e = .returned (.int .i64 x) ∧ ∃ m, m ≤ n + 504 ∧ JM Y w0 b q m (writeG S nm.data.toList N dt.data.toList).2 R' v2 := fun Y R' v1 h => by
    refine (jm_write h nm (by omega) N n1 n2 dt (by omega) hA.keys (by omega)).mono fun e v2 hq => ?_
    obtain ⟨m, he, hJ, hm⟩ := hq
    rw [← hx] at he
    exact ⟨he, m, by omega, hJ⟩
  have KQ : ∀ (Y : Nat → Obj → Prop) (n' : Nat) (S' : DS) (v1 : World), JM Y w0 b q n' S' R v1 → Calls Tryz.prog 30 #[.pointer (some ⟨q, 0, none⟩), .string nm, .int .i64 N, .string dt] v1 fun e v2 => e = .returned (.int .i64 y) ∧ JM Y w0 b q n' S' (qcall (qwriIn nm.data.toList N dt.data.toList) R).2 v2 := fun Y n' S' v1 h => by
    refine (jq_write h nm N n1 n2 dt (by omega) hbd hN).mono fun e v2 hq => ?_
    obtain ⟨he, hJ⟩ := hq
    rw [← hy] at he
    exact ⟨he, hJ⟩
  generalize (writeG S nm.data.toList N dt.data.toList).2 = S1 at KD ⊢
  generalize (qcall (qwriIn nm.data.toList N dt.data.toList) R).2 = R1 at KQ ⊢
  have HJ := Lib.hid (jm_add h (opB 3 nm N M dt ca cl cc))
  obtain ⟨Y, hY⟩ : ∃ Y : Nat → Obj → Prop, Y = fun g o => X g o ∨ (g = v.heap.size ∧ o = opB 3 nm N M dt ca cl cc) := ⟨_, rfl⟩
  rw [← hY] at HJ
  have HX := Lib.hid (show ∀ g o, X g o → Y g o from fun g o hg => by rw [hY]; exact .inl hg)
  have hxb' : Y v.heap.size (opB 3 nm N M dt ca cl cc) := by rw [hY]; exact .inr ⟨rfl, rfl⟩
  have c0 := blk_cell (jm_x HJ.out hxb') 0 rfl
  have HXB := Lib.hid hxb'
  clear h hA hB hbd hl hl2 hy hx hY hxb'
  go_enter Tryz.func10, Tryz.ntmps10
  go_upto_region 11 with (fail)
  revert HJ HXB
  generalize v.alloc (Obj.cells #[.int .i64 3, .string nm, .int .i64 N, .int .i64 M, .string dt, .slice ca cl cc] 32) = W
  generalize v.heap.size = bx
  intro HJ HXB
  have hxb := HXB.out
  have hJ0 := HJ.out
  have hJd := jm_drew hJ0
  have c1 := blk_cell (jm_x hJd hxb) 1 rfl; have c2 := blk_cell (jm_x hJd hxb) 2 rfl; have c4 := blk_cell (jm_x hJd hxb) 4 rfl
  go_region_held3 (fun v => v.cell? ⟨bx, 1, none⟩ = some (.string nm) ∧ v.cell? ⟨bx, 2, none⟩ = some (.int .i64 N) ∧ v.cell? ⟨bx, 4, none⟩ = some (.string dt))
    (first | assumption | exact ⟨blk_cell (jm_x hF hxb) 1 rfl, blk_cell (jm_x hF hxb) 2 rfl, blk_cell (jm_x hF hxb) 4 rfl⟩ | exact ⟨blk_cell (jm_x hD1 hxb) 1 rfl, blk_cell (jm_x hD1 hxb) 2 rfl, blk_cell (jm_x hD1 hxb) 4 rfl⟩ | exact ⟨blk_cell (jm_x hQ1 hxb) 1 rfl, blk_cell (jm_x hQ1 hxb) 2 rfl, blk_cell (jm_x hQ1 hxb) 4 rfl⟩ | exact ⟨blk_cell (jm_x hJd hxb) 1 rfl, blk_cell (jm_x hJd hxb) 2 rfl, blk_cell (jm_x hJd hxb) 4 rfl⟩)
    (first
      | (go_at_call 24; first | (refine (KD Y R1 _ hQ1).mono ?_; rintro e w2 ⟨rfl, m, hm, hF⟩) | (refine (KD Y R _ hJd).mono ?_; rintro e w2 ⟨rfl, m, hm, hD1⟩); skip)
      | (go_at_call 30; first | (refine (KQ Y m S1 _ hD1).mono ?_; rintro e w3 ⟨rfl, hF⟩) | (refine (KQ Y n S _ hJd).mono ?_; rintro e w3 ⟨rfl, hQ1⟩)))
  all_goals go_wp2
  all_goals go_ret
  all_goals exact ⟨_, rfl, m, hm, jm_drop hF HX.out⟩
set_option maxHeartbeats 4000000 in
set_option maxRecDepth 100000 in
theorem doL4_any (h : JM X w0 b q n S R v) (hA : JA k S R') (hB : QBk k R) (hk : k ≤ 500) (nm : ByteArray) (hnz : nm.size ≤ 5000) (N : Int) (n1 : -9223372036854775808 ≤ N) (n2 : N ≤ 9223372036854775807) (hN : N ≤ 20000 ∨ 4000000 < N) (M : Int) (_m1 : -9223372036854775808 ≤ M) (_m2 : M ≤ 9223372036854775807) (dt : ByteArray) (_hdz : dt.size ≤ 5000) (ca : Option Addr) (cl cc : Nat) (hn : n ≤ 80000) :
    Calls Tryz.prog 10 #[.pointer (some ⟨b, 0, none⟩), .pointer (some ⟨q, 0, none⟩), .agg (opC 4 nm N M dt ca cl cc)] v (DoL X w0 b q (n + 504) ((truncG S nm.data.toList N).2) ((qcall (qtruIn nm.data.toList N) R).2)) := by
  have hbd := bk_bd hB (by omega)
  have hpd : S.pend.length ≤ 500 := Nat.le_trans (ja_pend hA) hk
  have hl : nm.data.toList.length = nm.size := by simp
  have hl2 : dt.data.toList.length = dt.size := by simp
  obtain ⟨x, hx⟩ : ∃ x, x = (truncG S nm.data.toList N).1 := ⟨_, rfl⟩
  obtain ⟨y, hy⟩ : ∃ y, y = (qcall (qtruIn nm.data.toList N) R).1 := ⟨_, rfl⟩
  have KD : ∀ (Y : Nat → Obj → Prop) (R' : RS) (v1 : World), JM Y w0 b q n S R' v1 → Calls Tryz.prog 25 #[.pointer (some ⟨b, 0, none⟩), .string nm, .int .i64 N] v1 fun e v2 => e = .returned (.int .i64 x) ∧ ∃ m, m ≤ n + 504 ∧ JM Y w0 b q m (truncG S nm.data.toList N).2 R' v2 := fun Y R' v1 h => by
    refine (jm_trunc h nm (by omega) N hA.keys (by omega)).mono fun e v2 hq => ?_
    obtain ⟨m, he, hJ, hm⟩ := hq
    rw [← hx] at he
    exact ⟨he, m, by omega, hJ⟩
  have KQ : ∀ (Y : Nat → Obj → Prop) (n' : Nat) (S' : DS) (v1 : World), JM Y w0 b q n' S' R v1 → Calls Tryz.prog 31 #[.pointer (some ⟨q, 0, none⟩), .string nm, .int .i64 N] v1 fun e v2 => e = .returned (.int .i64 y) ∧ JM Y w0 b q n' S' (qcall (qtruIn nm.data.toList N) R).2 v2 := fun Y n' S' v1 h => by
    refine (jq_trunc h nm N n1 n2 hbd hN).mono fun e v2 hq => ?_
    obtain ⟨he, hJ⟩ := hq
    rw [← hy] at he
    exact ⟨he, hJ⟩
  generalize (truncG S nm.data.toList N).2 = S1 at KD ⊢
  generalize (qcall (qtruIn nm.data.toList N) R).2 = R1 at KQ ⊢
  have HJ := Lib.hid (jm_add h (opB 4 nm N M dt ca cl cc))
  obtain ⟨Y, hY⟩ : ∃ Y : Nat → Obj → Prop, Y = fun g o => X g o ∨ (g = v.heap.size ∧ o = opB 4 nm N M dt ca cl cc) := ⟨_, rfl⟩
  rw [← hY] at HJ
  have HX := Lib.hid (show ∀ g o, X g o → Y g o from fun g o hg => by rw [hY]; exact .inl hg)
  have hxb' : Y v.heap.size (opB 4 nm N M dt ca cl cc) := by rw [hY]; exact .inr ⟨rfl, rfl⟩
  have c0 := blk_cell (jm_x HJ.out hxb') 0 rfl
  have HXB := Lib.hid hxb'
  clear h hA hB hbd hl hl2 hy hx hY hxb'
  go_enter Tryz.func10, Tryz.ntmps10
  go_upto_region 13 with (fail)
  revert HJ HXB
  generalize v.alloc (Obj.cells #[.int .i64 4, .string nm, .int .i64 N, .int .i64 M, .string dt, .slice ca cl cc] 32) = W
  generalize v.heap.size = bx
  intro HJ HXB
  have hxb := HXB.out
  have hJ0 := HJ.out
  have hJd := jm_drew hJ0
  have c1 := blk_cell (jm_x hJd hxb) 1 rfl; have c2 := blk_cell (jm_x hJd hxb) 2 rfl
  go_region_held3 (fun v => v.cell? ⟨bx, 1, none⟩ = some (.string nm) ∧ v.cell? ⟨bx, 2, none⟩ = some (.int .i64 N))
    (first | assumption | exact ⟨blk_cell (jm_x hF hxb) 1 rfl, blk_cell (jm_x hF hxb) 2 rfl⟩ | exact ⟨blk_cell (jm_x hD1 hxb) 1 rfl, blk_cell (jm_x hD1 hxb) 2 rfl⟩ | exact ⟨blk_cell (jm_x hQ1 hxb) 1 rfl, blk_cell (jm_x hQ1 hxb) 2 rfl⟩ | exact ⟨blk_cell (jm_x hJd hxb) 1 rfl, blk_cell (jm_x hJd hxb) 2 rfl⟩)
    (first
      | (go_at_call 25; first | (refine (KD Y R1 _ hQ1).mono ?_; rintro e w2 ⟨rfl, m, hm, hF⟩) | (refine (KD Y R _ hJd).mono ?_; rintro e w2 ⟨rfl, m, hm, hD1⟩); skip)
      | (go_at_call 31; first | (refine (KQ Y m S1 _ hD1).mono ?_; rintro e w3 ⟨rfl, hF⟩) | (refine (KQ Y n S _ hJd).mono ?_; rintro e w3 ⟨rfl, hQ1⟩)))
  all_goals go_wp2
  all_goals go_ret
  all_goals exact ⟨_, rfl, m, hm, jm_drop hF HX.out⟩
set_option maxHeartbeats 4000000 in
set_option maxRecDepth 100000 in
theorem doL5_any (h : JM X w0 b q n S R v) (hA : JA k S R') (hB : QBk k R) (hk : k ≤ 500) (nm : ByteArray) (hnz : nm.size ≤ 5000) (N : Int) (_n1 : -9223372036854775808 ≤ N) (_n2 : N ≤ 9223372036854775807) (_hN : N ≤ 20000 ∨ 4000000 < N) (M : Int) (_m1 : -9223372036854775808 ≤ M) (_m2 : M ≤ 9223372036854775807) (dt : ByteArray) (_hdz : dt.size ≤ 5000) (ca : Option Addr) (cl cc : Nat) (hn : n ≤ 80000) :
    Calls Tryz.prog 10 #[.pointer (some ⟨b, 0, none⟩), .pointer (some ⟨q, 0, none⟩), .agg (opC 5 nm N M dt ca cl cc)] v (DoL X w0 b q (n + 504) ((syncG S nm.data.toList).2) ((qcall (qsynIn nm.data.toList) R).2)) := by
  have hbd := bk_bd hB (by omega)
  have hpd : S.pend.length ≤ 500 := Nat.le_trans (ja_pend hA) hk
  have hl : nm.data.toList.length = nm.size := by simp
  have hl2 : dt.data.toList.length = dt.size := by simp
  obtain ⟨x, hx⟩ : ∃ x, x = (syncG S nm.data.toList).1 := ⟨_, rfl⟩
  obtain ⟨y, hy⟩ : ∃ y, y = (qcall (qsynIn nm.data.toList) R).1 := ⟨_, rfl⟩
  have KD : ∀ (Y : Nat → Obj → Prop) (R' : RS) (v1 : World), JM Y w0 b q n S R' v1 → Calls Tryz.prog 14 #[.pointer (some ⟨b, 0, none⟩), .string nm] v1 fun e v2 => e = .returned (.int .i64 x) ∧ ∃ m, m ≤ n + 504 ∧ JM Y w0 b q m (syncG S nm.data.toList).2 R' v2 := fun Y R' v1 h => by
    refine (jm_sync h nm (by omega) (by omega)).mono fun e v2 hq => ?_
    obtain ⟨m, he, hJ, hm⟩ := hq
    rw [← hx] at he
    exact ⟨he, m, by omega, hJ⟩
  have KQ : ∀ (Y : Nat → Obj → Prop) (n' : Nat) (S' : DS) (v1 : World), JM Y w0 b q n' S' R v1 → Calls Tryz.prog 32 #[.pointer (some ⟨q, 0, none⟩), .string nm] v1 fun e v2 => e = .returned (.int .i64 y) ∧ JM Y w0 b q n' S' (qcall (qsynIn nm.data.toList) R).2 v2 := fun Y n' S' v1 h => by
    refine (jq_sync h nm hbd).mono fun e v2 hq => ?_
    obtain ⟨he, hJ⟩ := hq
    rw [← hy] at he
    exact ⟨he, hJ⟩
  generalize (syncG S nm.data.toList).2 = S1 at KD ⊢
  generalize (qcall (qsynIn nm.data.toList) R).2 = R1 at KQ ⊢
  have HJ := Lib.hid (jm_add h (opB 5 nm N M dt ca cl cc))
  obtain ⟨Y, hY⟩ : ∃ Y : Nat → Obj → Prop, Y = fun g o => X g o ∨ (g = v.heap.size ∧ o = opB 5 nm N M dt ca cl cc) := ⟨_, rfl⟩
  rw [← hY] at HJ
  have HX := Lib.hid (show ∀ g o, X g o → Y g o from fun g o hg => by rw [hY]; exact .inl hg)
  have hxb' : Y v.heap.size (opB 5 nm N M dt ca cl cc) := by rw [hY]; exact .inr ⟨rfl, rfl⟩
  have c0 := blk_cell (jm_x HJ.out hxb') 0 rfl
  have HXB := Lib.hid hxb'
  clear h hA hB hbd hl hl2 hy hx hY hxb'
  go_enter Tryz.func10, Tryz.ntmps10
  go_upto_region 15 with (fail)
  revert HJ HXB
  generalize v.alloc (Obj.cells #[.int .i64 5, .string nm, .int .i64 N, .int .i64 M, .string dt, .slice ca cl cc] 32) = W
  generalize v.heap.size = bx
  intro HJ HXB
  have hxb := HXB.out
  have hJ0 := HJ.out
  have hJd := jm_drew hJ0
  have c1 := blk_cell (jm_x hJd hxb) 1 rfl
  go_region_held3 (fun v => v.cell? ⟨bx, 1, none⟩ = some (.string nm))
    (first | assumption | exact blk_cell (jm_x hF hxb) 1 rfl | exact blk_cell (jm_x hD1 hxb) 1 rfl | exact blk_cell (jm_x hQ1 hxb) 1 rfl | exact blk_cell (jm_x hJd hxb) 1 rfl)
    (first
      | (go_at_call 14; first | (refine (KD Y R1 _ hQ1).mono ?_; rintro e w2 ⟨rfl, m, hm, hF⟩) | (refine (KD Y R _ hJd).mono ?_; rintro e w2 ⟨rfl, m, hm, hD1⟩); skip)
      | (go_at_call 32; first | (refine (KQ Y m S1 _ hD1).mono ?_; rintro e w3 ⟨rfl, hF⟩) | (refine (KQ Y n S _ hJd).mono ?_; rintro e w3 ⟨rfl, hQ1⟩)))
  all_goals go_wp2
  all_goals go_ret
  all_goals exact ⟨_, rfl, m, hm, jm_drop hF HX.out⟩
set_option maxHeartbeats 4000000 in
set_option maxRecDepth 100000 in
theorem doL6_any (h : JM X w0 b q n S R v) (hA : JA k S R') (hB : QBk k R) (hk : k ≤ 500) (nm : ByteArray) (N M : Int) (dt : ByteArray) (ca : Option Addr) (cl cc : Nat) (hn : n ≤ 80000) :
    Calls Tryz.prog 10 #[.pointer (some ⟨b, 0, none⟩), .pointer (some ⟨q, 0, none⟩), .agg (opC 6 nm N M dt ca cl cc)] v (DoL X w0 b q (n + 504) (dirsyncG S).2 (qcall qdirIn R).2) := by
  have hbd := bk_bd hB (by omega)
  have hsw := hB.sw
  have hpd : S.pend.length ≤ 500 := Nat.le_trans (ja_pend hA) hk
  obtain ⟨x, hx⟩ : ∃ x, x = (dirsyncG S).1 := ⟨_, rfl⟩
  obtain ⟨y, hy⟩ : ∃ y, y = (qcall qdirIn R).1 := ⟨_, rfl⟩
  have KD : ∀ (Y : Nat → Obj → Prop) (v1 : World), JM Y w0 b q n S R v1 → Calls Tryz.prog 15 #[.pointer (some ⟨b, 0, none⟩)] v1 fun e v2 => e = .returned (.int .i64 x) ∧ ∃ m, m ≤ n + 504 ∧ JM Y w0 b q m (dirsyncG S).2 R v2 := fun Y v1 h => by
    refine (jm_dirsync h (by omega)).mono fun e v2 hq => ?_
    obtain ⟨m, he, hJ, hm⟩ := hq
    rw [← hx] at he
    exact ⟨he, m, by omega, hJ⟩
  have KQ : ∀ (Y : Nat → Obj → Prop) (n' : Nat) (S' : DS) (v1 : World), JM Y w0 b q n' S' R v1 → Calls Tryz.prog 33 #[.pointer (some ⟨q, 0, none⟩)] v1 fun e v2 => e = .returned (.int .i64 y) ∧ JM Y w0 b q n' S' (qcall qdirIn R).2 v2 := fun Y n' S' v1 h => by
    refine (jq_dirsync h hbd (by omega)).mono fun e v2 hq => ?_
    obtain ⟨he, hJ⟩ := hq
    rw [← hy] at he
    exact ⟨he, hJ⟩
  generalize (dirsyncG S).2 = S1 at KD ⊢
  generalize (qcall qdirIn R).2 = R1 at KQ ⊢
  have HJ := Lib.hid (jm_below h ((Below.refl _ v).alloc (Nat.le_refl _) (opB 6 nm N M dt ca cl cc)))
  have c0 : (v.alloc (opB 6 nm N M dt ca cl cc)).cell? ⟨v.heap.size, 0, none⟩ = some (.int .i64 6) := blk_cell (t := 32) (cs := opC 6 nm N M dt ca cl cc) (heap_alloc_new v _) 0 rfl
  clear h hA hB hbd hy hx hsw hpd
  go_enter Tryz.func10, Tryz.ntmps10
  go_wp2_with (first
    | (go_at_call 15; refine (KD X _ HJ.out).mono ?_; rintro e w2 ⟨rfl, m, hm, hD⟩)
    | (go_at_call 33; refine (KQ X m S1 _ hD).mono ?_; rintro e w3 ⟨rfl, hF⟩))
  all_goals go_ret
  all_goals exact ⟨_, rfl, m, hm, hF⟩
set_option maxHeartbeats 4000000 in
set_option maxRecDepth 100000 in
theorem doL9_any (h : JM X w0 b q n S R v) (hA : JA k S R') (hB : QBk k R) (hk : k ≤ 500) (nm : ByteArray) (N M : Int) (dt : ByteArray) (ca : Option Addr) (l : List Int) (cc : Nat) (hl : l.length ≤ 5000) (hI : Ints w0 ca l) (hn : n ≤ 80000) :
    Calls Tryz.prog 10 #[.pointer (some ⟨b, 0, none⟩), .pointer (some ⟨q, 0, none⟩), .agg (opC 9 nm N M dt ca l.length cc)] v (DoL X w0 b q (n + 504) (restartS (uOf l) S) (qrestart (uOf l) R)) := by
  have hpd : S.pend.length ≤ 500 := Nat.le_trans (ja_pend hA) hk
  have HJ := Lib.hid (jm_add h (opB 9 nm N M dt ca l.length cc))
  obtain ⟨Y, hY⟩ : ∃ Y : Nat → Obj → Prop, Y = fun g o => X g o ∨ (g = v.heap.size ∧ o = opB 9 nm N M dt ca l.length cc) := ⟨_, rfl⟩
  rw [← hY] at HJ
  have HX := Lib.hid (show ∀ g o, X g o → Y g o from fun g o hg => by rw [hY]; exact .inl hg)
  have hxb' : Y v.heap.size (opB 9 nm N M dt ca l.length cc) := by rw [hY]; exact .inr ⟨rfl, rfl⟩
  have c0 := blk_cell (jm_x HJ.out hxb') 0 rfl; have c5 := blk_cell (jm_x HJ.out hxb') 5 rfl
  have HXB := Lib.hid hxb'
  have HI := Lib.hid hI
  have HAP := Lib.hid (app_ints (v.alloc (opB 9 nm N M dt ca l.length cc)) 30 ca cc l hl (ints_below hI HJ.out.below))
  have e9 : ((v.alloc (opB 9 nm N M dt ca l.length cc)).alloc (.cells #[] 3)).cell? ⟨v.heap.size, 5, none⟩ = some (.slice ca l.length cc) := cell_alloc c5 _
  have HAR := Lib.hid (fun (Z : Nat → Obj → Prop) (v1 : World) (hz : JM Z w0 b q n S R v1) a' cap' (ap : Apart Z w0 v1 a' l) => jm_restart hz a' cap' l ap (by omega) hA.keys)
  have HQR := Lib.hid (fun (Z : Nat → Obj → Prop) (S' : DS) (m : Nat) (v1 : World) (hz : JM Z w0 b q m S' R v1) => jq_restart hz ca cc l (fun k hk => by
    obtain ⟨g, o, e, hg, hc⟩ := hI k hk
    exact ⟨g, o, e, .inl hg, by rw [hz.below.cell hg]; exact hc⟩) hB (by omega))
  clear h hY hxb' hI hA hB
  go_enter Tryz.func10, Tryz.ntmps10
  go_upto_region 26 with (fail)
  revert HJ HXB HAP e9
  generalize v.alloc (Obj.cells #[.int .i64 9, .string nm, .int .i64 N, .int .i64 M, .string dt, .slice ca l.length cc] 32) = W
  generalize v.heap.size = bx
  intro HJ HXB HAP e9
  have hxw := blk_cell (jm_x HJ.out HXB.out) 5 rfl
  go_wp2_with (first
    | (at_builtin; obtain ⟨vv, w1, a', cap', hr, rfl, hb', hc'⟩ := HAP.out; refine wpList_append_so _ rfl _ _ 30 rfl _ _ _ _ rfl rfl hr ?_; clear hr; obtain ⟨Z, hZX, hZ, hZA⟩ := apart_app HJ.out hb' hc'; have HZX := Lib.hid hZX; clear hb' hc' hZX)
    | (go_at_call 17; refine (HAR.out Z _ hZ _ _ hZA).mono ?_; rintro e w2 ⟨rfl, hD⟩; have d5 := blk_cell (jm_x hD (HZX.out _ _ HXB.out)) 5 rfl)
    | (go_at_call 35; refine (HQR.out Z _ _ _ hD).mono ?_; rintro e w3 ⟨rfl, hF⟩))
  go_ret
  exact ⟨_, rfl, n + S.pend.length, by omega, jm_drop hF (fun g o hg => HZX.out g o (HX.out g o hg))⟩
/-- The helper do, whatever the step. -/
theorem ddoL_any (h : JM X w0 b q n S R v) (hA : JA k S R') (hB : QBk k R) (hk : k ≤ 500) (o : OpL) (hO : OpOk o) (hG : OpG o) (hI : Ints w0 o.cha o.ch) (hn : n ≤ 80000) :
    Calls Tryz.prog 10 #[.pointer (some ⟨b, 0, none⟩), .pointer (some ⟨q, 0, none⟩), .agg (opC o.kind o.name o.n o.m o.data o.cha o.ch.length o.chc)] v (DoL X w0 b q (n + 504) (stepS o S) (stepR o R)) := by
  obtain ⟨kd, nm, N, M, dt, ch, ca, cc⟩ := o
  have g1 := hG.nm; have g2 := hG.d; have g3 := hG.c; have g4 := hG.n
  have o1 := hO.n1; have o2 := hO.n2; have o3 := hO.m1; have o4 := hO.m2
  simp only at g1 g2 g3 g4 o1 o2 o3 o4 hI
  unfold stepS stepR
  simp only
  by_cases e0 : kd = 0
  · subst e0; exact doL0_any h hA hB hk nm g1 N o1 o2 g4 M o3 o4 dt g2 ca _ cc hn
  rw [if_neg e0, if_neg e0]
  by_cases e1 : kd = 1
  · subst e1; exact doL1_any h hA hB hk nm g1 N o1 o2 g4 M o3 o4 dt g2 ca _ cc hn
  rw [if_neg e1, if_neg e1]
  by_cases e2 : kd = 2
  · subst e2; exact doL2_any h hA hB hk nm g1 N o1 o2 M o3 o4 dt ca _ cc hn
  rw [if_neg e2, if_neg e2]
  by_cases e3 : kd = 3
  · subst e3; exact doL3_any h hA hB hk nm g1 N o1 o2 g4 M o3 o4 dt g2 ca _ cc hn
  rw [if_neg e3, if_neg e3]
  by_cases e4 : kd = 4
  · subst e4; exact doL4_any h hA hB hk nm g1 N o1 o2 g4 M o3 o4 dt g2 ca _ cc hn
  rw [if_neg e4, if_neg e4]
  by_cases e5 : kd = 5
  · subst e5; exact doL5_any h hA hB hk nm g1 N o1 o2 g4 M o3 o4 dt g2 ca _ cc hn
  rw [if_neg e5, if_neg e5]
  by_cases e6 : kd = 6
  · subst e6; exact doL6_any h hA hB hk nm N M dt ca _ cc hn
  rw [if_neg e6, if_neg e6]
  by_cases e7 : kd = 7
  · subst e7; exact (do7_any h nm N o1 o2 M o3 o4 dt ca _ cc).mono fun _ _ h => doL_of h
  rw [if_neg e7, if_neg e7]
  by_cases e8 : kd = 8
  · subst e8; exact (do8_any h nm N M dt ca _ cc).mono fun _ _ h => doL_of h
  rw [if_neg e8, if_neg e8]
  by_cases e9 : kd = 9
  · subst e9; exact doL9_any h hA hB hk nm N M dt ca ch cc g3 hI hn
  rw [if_neg e9, if_neg e9]
  exact (doX_any h kd (by omega) nm N M dt ca _ cc).mono fun _ _ h => doL_of h
end Go.Proofs.YtkfncnpeockiaaaGreatDoor
