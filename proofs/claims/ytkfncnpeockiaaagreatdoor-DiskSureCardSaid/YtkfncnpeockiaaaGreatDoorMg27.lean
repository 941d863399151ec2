/-
  Layer 7: one step of DiskDoes by the program's walk: both disks answer the same, and stand behind it as the step says. Condition: the sizes that each contract asks.
-/
import Derived.Deep.RegionHeld3
import Derived.Test.YtkfncnpeockiaaaGreatDoorMg26
namespace Go.Proofs.YtkfncnpeockiaaaGreatDoor
open Go.RowKit
variable {X : Nat → Obj → Prop} {w0 v v' : World} {b q n k : Nat} {S : DS} {R : RS}

abbrev opC (kd : Int) (nm : ByteArray) (N M : Int) (dt : ByteArray) (ca : Option Addr) (cl cc : Nat) : Array Value := #[.int .i64 kd, .string nm, .int .i64 N, .int .i64 M, .string dt, .slice ca cl cc]
abbrev opB (kd : Int) (nm : ByteArray) (N M : Int) (dt : ByteArray) (ca : Option Addr) (cl cc : Nat) : Obj := .cells (opC kd nm N M dt ca cl cc) 32 (0, 0)
/-- What a step leaves. -/
def DoQ (X : Nat → Obj → Prop) (w0 : World) (b q N : Nat) (S : DS) (R : RS) (e : Ending) (v' : World) : Prop := e = .returned (.bool true) ∧ ∃ m, m ≤ N ∧ JM X w0 b q m S R v'
theorem jm_drew (h : JM X w0 b q n S R v) : JM X w0 b q n S R v.drew := jm_below h ((Below.refl _ v).drew)
set_option maxHeartbeats 4000000 in
set_option maxRecDepth 100000 in
theorem do0_any (h : JM X w0 b q n S R v) (hA : JA k S R) (hk : k ≤ 500) (nm : ByteArray) (hnz : nm.size ≤ 5000) (N : Int) (_n1 : -9223372036854775808 ≤ N) (_n2 : N ≤ 9223372036854775807) (_hN : N ≤ 20000 ∨ 4000000 < N) (M : Int) (_m1 : -9223372036854775808 ≤ M) (_m2 : M ≤ 9223372036854775807) (dt : ByteArray) (_hdz : dt.size ≤ 5000) (ca : Option Addr) (cl cc : Nat) (hn : n ≤ 80000) :
    Calls Tryz.prog 10 #[.pointer (some ⟨b, 0, none⟩), .pointer (some ⟨q, 0, none⟩), .agg (opC 0 nm N M dt ca cl cc)] v (DoQ X w0 b q (n + 504) ((createG S nm.data.toList).2) ((qcall (qcreIn nm.data.toList) R).2)) := by
  have hbd := bk_bd hA.bk (by omega)
  have hpd : S.pend.length ≤ 500 := Nat.le_trans (ja_pend hA) hk
  have hl : nm.data.toList.length = nm.size := by simp
  have hl2 : dt.data.toList.length = dt.size := by simp
  have hs := (sim_create hA.sim nm.data.toList (by omega)).1
  obtain ⟨x, hx⟩ : ∃ x, x = (createG S nm.data.toList).1 := ⟨_, rfl⟩
  rw [← hx] at hs
  have KD : ∀ (Y : Nat → Obj → Prop) (R' : RS) (v1 : World), JM Y w0 b q n S R' v1 → Calls Tryz.prog 22 #[.pointer (some ⟨b, 0, none⟩), .string nm] v1 fun e v2 => e = .returned (.int .i64 x) ∧ ∃ m, m ≤ n + 504 ∧ JM Y w0 b q m (createG S nm.data.toList).2 R' v2 := fun Y R' v1 h => by
    refine (jm_create h nm (by omega) (by omega)).mono fun e v2 hq => ?_
    obtain ⟨m, he, hJ, hm⟩ := hq
    rw [← hx] at he
    exact ⟨he, m, by omega, hJ⟩
  have KQ : ∀ (Y : Nat → Obj → Prop) (n' : Nat) (S' : DS) (v1 : World), JM Y w0 b q n' S' R v1 → Calls Tryz.prog 27 #[.pointer (some ⟨q, 0, none⟩), .string nm] v1 fun e v2 => e = .returned (.int .i64 x) ∧ JM Y w0 b q n' S' (qcall (qcreIn nm.data.toList) R).2 v2 := fun Y n' S' v1 h => by
    refine (jq_create h nm (by omega) hbd).mono fun e v2 hq => ?_
    obtain ⟨he, hJ⟩ := hq
    rw [← hs] at he
    exact ⟨he, hJ⟩
  generalize (createG S nm.data.toList).2 = S1 at KD ⊢
  generalize (qcall (qcreIn nm.data.toList) R).2 = R1 at KQ ⊢
  have HJ := Lib.hid (jm_add h (opB 0 nm N M dt ca cl cc))
  obtain ⟨Y, hY⟩ : ∃ Y : Nat → Obj → Prop, Y = fun g o => X g o ∨ (g = v.heap.size ∧ o = opB 0 nm N M dt ca cl cc) := ⟨_, rfl⟩
  rw [← hY] at HJ
  have HX := Lib.hid (show ∀ g o, X g o → Y g o from fun g o hg => by rw [hY]; exact .inl hg)
  have hxb' : Y v.heap.size (opB 0 nm N M dt ca cl cc) := by rw [hY]; exact .inr ⟨rfl, rfl⟩
  have c0 := blk_cell (jm_x HJ.out hxb') 0 rfl
  have HXB := Lib.hid hxb'
  clear h hA hbd hl hl2 hs hx hY hxb'
  go_enter Tryz.func10, Tryz.ntmps10
  go_upto_region 3 with (fail)
  revert HJ HXB
  generalize v.alloc (Obj.cells #[.int .i64 0, .string nm, .int .i64 N, .int .i64 M, .string dt, .slice ca cl cc] 32) = W
  generalize v.heap.size = bx
  intro HJ HXB
  have hxb := HXB.out
  have hJ0 := HJ.out
  have hJd := jm_drew hJ0
  have c1 := blk_cell (jm_x hJd hxb) 1 rfl
  go_region_held3 (fun v => v.cell? ⟨bx, 1, none⟩ = some (.string nm))
    (first | assumption | exact blk_cell (jm_x hF hxb) 1 rfl | exact blk_cell (jm_x hD1 hxb) 1 rfl | exact blk_cell (jm_x hQ1 hxb) 1 rfl | exact blk_cell (jm_x hJd hxb) 1 rfl)
    (first
      | (go_at_call 22; first | (refine (KD Y R1 _ hQ1).mono ?_; rintro e w2 ⟨rfl, m, hm, hF⟩) | (refine (KD Y R _ hJd).mono ?_; rintro e w2 ⟨rfl, m, hm, hD1⟩); skip)
      | (go_at_call 27; first | (refine (KQ Y m S1 _ hD1).mono ?_; rintro e w3 ⟨rfl, hF⟩) | (refine (KQ Y n S _ hJd).mono ?_; rintro e w3 ⟨rfl, hQ1⟩)))
  all_goals go_wp2
  all_goals go_ret
  all_goals exact ⟨rfl, m, hm, jm_drop hF HX.out⟩
set_option maxHeartbeats 4000000 in
set_option maxRecDepth 100000 in
theorem do1_any (h : JM X w0 b q n S R v) (hA : JA k S R) (hk : k ≤ 500) (nm : ByteArray) (hnz : nm.size ≤ 5000) (N : Int) (_n1 : -9223372036854775808 ≤ N) (_n2 : N ≤ 9223372036854775807) (_hN : N ≤ 20000 ∨ 4000000 < N) (M : Int) (_m1 : -9223372036854775808 ≤ M) (_m2 : M ≤ 9223372036854775807) (dt : ByteArray) (_hdz : dt.size ≤ 5000) (ca : Option Addr) (cl cc : Nat) (hn : n ≤ 80000) :
    Calls Tryz.prog 10 #[.pointer (some ⟨b, 0, none⟩), .pointer (some ⟨q, 0, none⟩), .agg (opC 1 nm N M dt ca cl cc)] v (DoQ X w0 b q (n + 504) ((deleteG S nm.data.toList).2) ((qcall (qdelIn nm.data.toList) R).2)) := by
  have hbd := bk_bd hA.bk (by omega)
  have hpd : S.pend.length ≤ 500 := Nat.le_trans (ja_pend hA) hk
  have hl : nm.data.toList.length = nm.size := by simp
  have hl2 : dt.data.toList.length = dt.size := by simp
  have hs := (sim_delete hA.sim nm.data.toList (by omega)).1
  obtain ⟨x, hx⟩ : ∃ x, x = (deleteG S nm.data.toList).1 := ⟨_, rfl⟩
  rw [← hx] at hs
  have KD : ∀ (Y : Nat → Obj → Prop) (R' : RS) (v1 : World), JM Y w0 b q n S R' v1 → Calls Tryz.prog 23 #[.pointer (some ⟨b, 0, none⟩), .string nm] v1 fun e v2 => e = .returned (.int .i64 x) ∧ ∃ m, m ≤ n + 504 ∧ JM Y w0 b q m (deleteG S nm.data.toList).2 R' v2 := fun Y R' v1 h => by
    refine (jm_delete h nm (by omega) (by omega)).mono fun e v2 hq => ?_
    obtain ⟨m, he, hJ, hm⟩ := hq
    rw [← hx] at he
    exact ⟨he, m, by omega, hJ⟩
  have KQ : ∀ (Y : Nat → Obj → Prop) (n' : Nat) (S' : DS) (v1 : World), JM Y w0 b q n' S' R v1 → Calls Tryz.prog 28 #[.pointer (some ⟨q, 0, none⟩), .string nm] v1 fun e v2 => e = .returned (.int .i64 x) ∧ JM Y w0 b q n' S' (qcall (qdelIn nm.data.toList) R).2 v2 := fun Y n' S' v1 h => by
    refine (jq_delete h nm (by omega) hbd).mono fun e v2 hq => ?_
    obtain ⟨he, hJ⟩ := hq
    rw [← hs] at he
    exact ⟨he, hJ⟩
  generalize (deleteG S nm.data.toList).2 = S1 at KD ⊢
  generalize (qcall (qdelIn nm.data.toList) R).2 = R1 at KQ ⊢
  have HJ := Lib.hid (jm_add h (opB 1 nm N M dt ca cl cc))
  obtain ⟨Y, hY⟩ : ∃ Y : Nat → Obj → Prop, Y = fun g o => X g o ∨ (g = v.heap.size ∧ o = opB 1 nm N M dt ca cl cc) := ⟨_, rfl⟩
  rw [← hY] at HJ
  have HX := Lib.hid (show ∀ g o, X g o → Y g o from fun g o hg => by rw [hY]; exact .inl hg)
  have hxb' : Y v.heap.size (opB 1 nm N M dt ca cl cc) := by rw [hY]; exact .inr ⟨rfl, rfl⟩
  have c0 := blk_cell (jm_x HJ.out hxb') 0 rfl
  have HXB := Lib.hid hxb'
  clear h hA hbd hl hl2 hs hx hY hxb'
  go_enter Tryz.func10, Tryz.ntmps10
  go_upto_region 5 with (fail)
  revert HJ HXB
  generalize v.alloc (Obj.cells #[.int .i64 1, .string nm, .int .i64 N, .int .i64 M, .string dt, .slice ca cl cc] 32) = W
  generalize v.heap.size = bx
  intro HJ HXB
  have hxb := HXB.out
  have hJ0 := HJ.out
  have hJd := jm_drew hJ0
  have c1 := blk_cell (jm_x hJd hxb) 1 rfl
  go_region_held3 (fun v => v.cell? ⟨bx, 1, none⟩ = some (.string nm))
    (first | assumption | exact blk_cell (jm_x hF hxb) 1 rfl | exact blk_cell (jm_x hD1 hxb) 1 rfl | exact blk_cell (jm_x hQ1 hxb) 1 rfl | exact blk_cell (jm_x hJd hxb) 1 rfl)
    (first
      | (go_at_call 23; first | (refine (KD Y R1 _ hQ1).mono ?_; rintro e w2 ⟨rfl, m, hm, hF⟩) | (refine (KD Y R _ hJd).mono ?_; rintro e w2 ⟨rfl, m, hm, hD1⟩); skip)
      | (go_at_call 28; first | (refine (KQ Y m S1 _ hD1).mono ?_; rintro e w3 ⟨rfl, hF⟩) | (refine (KQ Y n S _ hJd).mono ?_; rintro e w3 ⟨rfl, hQ1⟩)))
  all_goals go_wp2
  all_goals go_ret
  all_goals exact ⟨rfl, m, hm, jm_drop hF HX.out⟩
set_option maxHeartbeats 4000000 in
set_option maxRecDepth 100000 in
theorem do3_any (h : JM X w0 b q n S R v) (hA : JA k S R) (hk : k ≤ 500) (nm : ByteArray) (hnz : nm.size ≤ 5000) (N : Int) (n1 : -9223372036854775808 ≤ N) (n2 : N ≤ 9223372036854775807) (hN : N ≤ 20000 ∨ 4000000 < N) (M : Int) (_m1 : -9223372036854775808 ≤ M) (_m2 : M ≤ 9223372036854775807) (dt : ByteArray) (hdz : dt.size ≤ 5000) (ca : Option Addr) (cl cc : Nat) (hn : n ≤ 80000) :
    Calls Tryz.prog 10 #[.pointer (some ⟨b, 0, none⟩), .pointer (some ⟨q, 0, none⟩), .agg (opC 3 nm N M dt ca cl cc)] v (DoQ X w0 b q (n + 504) ((writeG S nm.data.toList N dt.data.toList).2) ((qcall (qwriIn nm.data.toList N dt.data.toList) R).2)) := by
  have hbd := bk_bd hA.bk (by omega)
  have hpd : S.pend.length ≤ 500 := Nat.le_trans (ja_pend hA) hk
  have hl : nm.data.toList.length = nm.size := by simp
  have hl2 : dt.data.toList.length = dt.size := by simp
  have hs := (sim_write hA.sim nm.data.toList N dt.data.toList (by omega) hN).1
  obtain ⟨x, hx⟩ : ∃ x, x = (writeG S nm.data.toList N dt.data.toList).1 := ⟨_, rfl⟩
  rw [← hx] at hs
  have KD : ∀ (Y : Nat → Obj → Prop) (R' : RS) (v1 : World), JM Y w0 b q n S R' v1 → Calls Tryz.prog 24 #[.pointer (some ⟨b, 0, none⟩), .string nm, .int .i64 N, .string dt] v1 fun e v2 => e = .returned (.int .i64 x) ∧ ∃ m, m ≤ n + 504 ∧ JM Y w0 b q m (writeG S nm.data.toList N dt.data.toList).2 R' v2 := fun Y R' v1 h => by
    refine (jm_write h nm (by omega) N n1 n2 dt (by omega) hA.keys (by omega)).mono fun e v2 hq => ?_
    obtain ⟨m, he, hJ, hm⟩ := hq
    rw [← hx] at he
    exact ⟨he, m, by omega, hJ⟩
  have KQ : ∀ (Y : Nat → Obj → Prop) (n' : Nat) (S' : DS) (v1 : World), JM Y w0 b q n' S' R v1 → Calls Tryz.prog 30 #[.pointer (some ⟨q, 0, none⟩), .string nm, .int .i64 N, .string dt] v1 fun e v2 => e = .returned (.int .i64 x) ∧ JM Y w0 b q n' S' (qcall (qwriIn nm.data.toList N dt.data.toList) R).2 v2 := fun Y n' S' v1 h => by
    refine (jq_write h nm N n1 n2 dt (by omega) hbd hN).mono fun e v2 hq => ?_
    obtain ⟨he, hJ⟩ := hq
    rw [← hs] at he
    exact ⟨he, hJ⟩
  generalize (writeG S nm.data.toList N dt.data.toList).2 = S1 at KD ⊢
  generalize (qcall (qwriIn nm.data.toList N dt.data.toList) R).2 = R1 at KQ ⊢
  have HJ := Lib.hid (jm_add h (opB 3 nm N M dt ca cl cc))
  obtain ⟨Y, hY⟩ : ∃ Y : Nat → Obj → Prop, Y = fun g o => X g o ∨ (g = v.heap.size ∧ o = opB 3 nm N M dt ca cl cc) := ⟨_, rfl⟩
  rw [← hY] at HJ
  have HX := Lib.hid (show ∀ g o, X g o → Y g o from fun g o hg => by rw [hY]; exact .inl hg)
  have hxb' : Y v.heap.size (opB 3 nm N M dt ca cl cc) := by rw [hY]; exact .inr ⟨rfl, rfl⟩
  have c0 := blk_cell (jm_x HJ.out hxb') 0 rfl
  have HXB := Lib.hid hxb'
  clear h hA hbd hl hl2 hs hx hY hxb'
  go_enter Tryz.func10, Tryz.ntmps10
  go_upto_region 11 with (fail)
  revert HJ HXB
  generalize v.alloc (Obj.cells #[.int .i64 3, .string nm, .int .i64 N, .int .i64 M, .string dt, .slice ca cl cc] 32) = W
  generalize v.heap.size = bx
  intro HJ HXB
  have hxb := HXB.out
  have hJ0 := HJ.out
  have hJd := jm_drew hJ0
  have c1 := blk_cell (jm_x hJd hxb) 1 rfl; have c2 := blk_cell (jm_x hJd hxb) 2 rfl; have c4 := blk_cell (jm_x hJd hxb) 4 rfl
  go_region_held3 (fun v => v.cell? ⟨bx, 1, none⟩ = some (.string nm) ∧ v.cell? ⟨bx, 2, none⟩ = some (.int .i64 N) ∧ v.cell? ⟨bx, 4, none⟩ = some (.string dt))
    (first | assumption | exact ⟨blk_cell (jm_x hF hxb) 1 rfl, blk_cell (jm_x hF hxb) 2 rfl, blk_cell (jm_x hF hxb) 4 rfl⟩ | exact ⟨blk_cell (jm_x hD1 hxb) 1 rfl, blk_cell (jm_x hD1 hxb) 2 rfl, blk_cell (jm_x hD1 hxb) 4 rfl⟩ | exact ⟨blk_cell (jm_x hQ1 hxb) 1 rfl, blk_cell (jm_x hQ1 hxb) 2 rfl, blk_cell (jm_x hQ1 hxb) 4 rfl⟩ | exact ⟨blk_cell (jm_x hJd hxb) 1 rfl, blk_cell (jm_x hJd hxb) 2 rfl, blk_cell (jm_x hJd hxb) 4 rfl⟩)
    (first
      | (go_at_call 24; first | (refine (KD Y R1 _ hQ1).mono ?_; rintro e w2 ⟨rfl, m, hm, hF⟩) | (refine (KD Y R _ hJd).mono ?_; rintro e w2 ⟨rfl, m, hm, hD1⟩); skip)
      | (go_at_call 30; first | (refine (KQ Y m S1 _ hD1).mono ?_; rintro e w3 ⟨rfl, hF⟩) | (refine (KQ Y n S _ hJd).mono ?_; rintro e w3 ⟨rfl, hQ1⟩)))
  all_goals go_wp2
  all_goals go_ret
  all_goals exact ⟨rfl, m, hm, jm_drop hF HX.out⟩
set_option maxHeartbeats 4000000 in
set_option maxRecDepth 100000 in
theorem do4_any (h : JM X w0 b q n S R v) (hA : JA k S R) (hk : k ≤ 500) (nm : ByteArray) (hnz : nm.size ≤ 5000) (N : Int) (n1 : -9223372036854775808 ≤ N) (n2 : N ≤ 9223372036854775807) (hN : N ≤ 20000 ∨ 4000000 < N) (M : Int) (_m1 : -9223372036854775808 ≤ M) (_m2 : M ≤ 9223372036854775807) (dt : ByteArray) (_hdz : dt.size ≤ 5000) (ca : Option Addr) (cl cc : Nat) (hn : n ≤ 80000) :
    Calls Tryz.prog 10 #[.pointer (some ⟨b, 0, none⟩), .pointer (some ⟨q, 0, none⟩), .agg (opC 4 nm N M dt ca cl cc)] v (DoQ X w0 b q (n + 504) ((truncG S nm.data.toList N).2) ((qcall (qtruIn nm.data.toList N) R).2)) := by
  have hbd := bk_bd hA.bk (by omega)
  have hpd : S.pend.length ≤ 500 := Nat.le_trans (ja_pend hA) hk
  have hl : nm.data.toList.length = nm.size := by simp
  have hl2 : dt.data.toList.length = dt.size := by simp
  have hs := (sim_trunc hA.sim nm.data.toList N hN).1
  obtain ⟨x, hx⟩ : ∃ x, x = (truncG S nm.data.toList N).1 := ⟨_, rfl⟩
  rw [← hx] at hs
  have KD : ∀ (Y : Nat → Obj → Prop) (R' : RS) (v1 : World), JM Y w0 b q n S R' v1 → Calls Tryz.prog 25 #[.pointer (some ⟨b, 0, none⟩), .string nm, .int .i64 N] v1 fun e v2 => e = .returned (.int .i64 x) ∧ ∃ m, m ≤ n + 504 ∧ JM Y w0 b q m (truncG S nm.data.toList N).2 R' v2 := fun Y R' v1 h => by
    refine (jm_trunc h nm (by omega) N hA.keys (by omega)).mono fun e v2 hq => ?_
    obtain ⟨m, he, hJ, hm⟩ := hq
    rw [← hx] at he
    exact ⟨he, m, by omega, hJ⟩
  have KQ : ∀ (Y : Nat → Obj → Prop) (n' : Nat) (S' : DS) (v1 : World), JM Y w0 b q n' S' R v1 → Calls Tryz.prog 31 #[.pointer (some ⟨q, 0, none⟩), .string nm, .int .i64 N] v1 fun e v2 => e = .returned (.int .i64 x) ∧ JM Y w0 b q n' S' (qcall (qtruIn nm.data.toList N) R).2 v2 := fun Y n' S' v1 h => by
    refine (jq_trunc h nm N n1 n2 hbd hN).mono fun e v2 hq => ?_
    obtain ⟨he, hJ⟩ := hq
    rw [← hs] at he
    exact ⟨he, hJ⟩
  generalize (truncG S nm.data.toList N).2 = S1 at KD ⊢
  generalize (qcall (qtruIn nm.data.toList N) R).2 = R1 at KQ ⊢
  have HJ := Lib.hid (jm_add h (opB 4 nm N M dt ca cl cc))
  obtain ⟨Y, hY⟩ : ∃ Y : Nat → Obj → Prop, Y = fun g o => X g o ∨ (g = v.heap.size ∧ o = opB 4 nm N M dt ca cl cc) := ⟨_, rfl⟩
  rw [← hY] at HJ
  have HX := Lib.hid (show ∀ g o, X g o → Y g o from fun g o hg => by rw [hY]; exact .inl hg)
  have hxb' : Y v.heap.size (opB 4 nm N M dt ca cl cc) := by rw [hY]; exact .inr ⟨rfl, rfl⟩
  have c0 := blk_cell (jm_x HJ.out hxb') 0 rfl
  have HXB := Lib.hid hxb'
  clear h hA hbd hl hl2 hs hx hY hxb'
  go_enter Tryz.func10, Tryz.ntmps10
  go_upto_region 13 with (fail)
  revert HJ HXB
  generalize v.alloc (Obj.cells #[.int .i64 4, .string nm, .int .i64 N, .int .i64 M, .string dt, .slice ca cl cc] 32) = W
  generalize v.heap.size = bx
  intro HJ HXB
  have hxb := HXB.out
  have hJ0 := HJ.out
  have hJd := jm_drew hJ0
  have c1 := blk_cell (jm_x hJd hxb) 1 rfl; have c2 := blk_cell (jm_x hJd hxb) 2 rfl
  go_region_held3 (fun v => v.cell? ⟨bx, 1, none⟩ = some (.string nm) ∧ v.cell? ⟨bx, 2, none⟩ = some (.int .i64 N))
    (first | assumption | exact ⟨blk_cell (jm_x hF hxb) 1 rfl, blk_cell (jm_x hF hxb) 2 rfl⟩ | exact ⟨blk_cell (jm_x hD1 hxb) 1 rfl, blk_cell (jm_x hD1 hxb) 2 rfl⟩ | exact ⟨blk_cell (jm_x hQ1 hxb) 1 rfl, blk_cell (jm_x hQ1 hxb) 2 rfl⟩ | exact ⟨blk_cell (jm_x hJd hxb) 1 rfl, blk_cell (jm_x hJd hxb) 2 rfl⟩)
    (first
      | (go_at_call 25; first | (refine (KD Y R1 _ hQ1).mono ?_; rintro e w2 ⟨rfl, m, hm, hF⟩) | (refine (KD Y R _ hJd).mono ?_; rintro e w2 ⟨rfl, m, hm, hD1⟩); skip)
      | (go_at_call 31; first | (refine (KQ Y m S1 _ hD1).mono ?_; rintro e w3 ⟨rfl, hF⟩) | (refine (KQ Y n S _ hJd).mono ?_; rintro e w3 ⟨rfl, hQ1⟩)))
  all_goals go_wp2
  all_goals go_ret
  all_goals exact ⟨rfl, m, hm, jm_drop hF HX.out⟩
set_option maxHeartbeats 4000000 in
set_option maxRecDepth 100000 in
theorem do5_any (h : JM X w0 b q n S R v) (hA : JA k S R) (hk : k ≤ 500) (nm : ByteArray) (hnz : nm.size ≤ 5000) (N : Int) (_n1 : -9223372036854775808 ≤ N) (_n2 : N ≤ 9223372036854775807) (_hN : N ≤ 20000 ∨ 4000000 < N) (M : Int) (_m1 : -9223372036854775808 ≤ M) (_m2 : M ≤ 9223372036854775807) (dt : ByteArray) (_hdz : dt.size ≤ 5000) (ca : Option Addr) (cl cc : Nat) (hn : n ≤ 80000) :
    Calls Tryz.prog 10 #[.pointer (some ⟨b, 0, none⟩), .pointer (some ⟨q, 0, none⟩), .agg (opC 5 nm N M dt ca cl cc)] v (DoQ X w0 b q (n + 504) ((syncG S nm.data.toList).2) ((qcall (qsynIn nm.data.toList) R).2)) := by
  have hbd := bk_bd hA.bk (by omega)
  have hpd : S.pend.length ≤ 500 := Nat.le_trans (ja_pend hA) hk
  have hl : nm.data.toList.length = nm.size := by simp
  have hl2 : dt.data.toList.length = dt.size := by simp
  have hs := (sim_sync hA.sim nm.data.toList).1
  obtain ⟨x, hx⟩ : ∃ x, x = (syncG S nm.data.toList).1 := ⟨_, rfl⟩
  rw [← hx] at hs
  have KD : ∀ (Y : Nat → Obj → Prop) (R' : RS) (v1 : World), JM Y w0 b q n S R' v1 → Calls Tryz.prog 14 #[.pointer (some ⟨b, 0, none⟩), .string nm] v1 fun e v2 => e = .returned (.int .i64 x) ∧ ∃ m, m ≤ n + 504 ∧ JM Y w0 b q m (syncG S nm.data.toList).2 R' v2 := fun Y R' v1 h => by
    refine (jm_sync h nm (by omega) (by omega)).mono fun e v2 hq => ?_
    obtain ⟨m, he, hJ, hm⟩ := hq
    rw [← hx] at he
    exact ⟨he, m, by omega, hJ⟩
  have KQ : ∀ (Y : Nat → Obj → Prop) (n' : Nat) (S' : DS) (v1 : World), JM Y w0 b q n' S' R v1 → Calls Tryz.prog 32 #[.pointer (some ⟨q, 0, none⟩), .string nm] v1 fun e v2 => e = .returned (.int .i64 x) ∧ JM Y w0 b q n' S' (qcall (qsynIn nm.data.toList) R).2 v2 := fun Y n' S' v1 h => by
    refine (jq_sync h nm hbd).mono fun e v2 hq => ?_
    obtain ⟨he, hJ⟩ := hq
    rw [← hs] at he
    exact ⟨he, hJ⟩
  generalize (syncG S nm.data.toList).2 = S1 at KD ⊢
  generalize (qcall (qsynIn nm.data.toList) R).2 = R1 at KQ ⊢
  have HJ := Lib.hid (jm_add h (opB 5 nm N M dt ca cl cc))
  obtain ⟨Y, hY⟩ : ∃ Y : Nat → Obj → Prop, Y = fun g o => X g o ∨ (g = v.heap.size ∧ o = opB 5 nm N M dt ca cl cc) := ⟨_, rfl⟩
  rw [← hY] at HJ
  have HX := Lib.hid (show ∀ g o, X g o → Y g o from fun g o hg => by rw [hY]; exact .inl hg)
  have hxb' : Y v.heap.size (opB 5 nm N M dt ca cl cc) := by rw [hY]; exact .inr ⟨rfl, rfl⟩
  have c0 := blk_cell (jm_x HJ.out hxb') 0 rfl
  have HXB := Lib.hid hxb'
  clear h hA hbd hl hl2 hs hx hY hxb'
  go_enter Tryz.func10, Tryz.ntmps10
  go_upto_region 15 with (fail)
  revert HJ HXB
  generalize v.alloc (Obj.cells #[.int .i64 5, .string nm, .int .i64 N, .int .i64 M, .string dt, .slice ca cl cc] 32) = W
  generalize v.heap.size = bx
  intro HJ HXB
  have hxb := HXB.out
  have hJ0 := HJ.out
  have hJd := jm_drew hJ0
  have c1 := blk_cell (jm_x hJd hxb) 1 rfl
  go_region_held3 (fun v => v.cell? ⟨bx, 1, none⟩ = some (.string nm))
    (first | assumption | exact blk_cell (jm_x hF hxb) 1 rfl | exact blk_cell (jm_x hD1 hxb) 1 rfl | exact blk_cell (jm_x hQ1 hxb) 1 rfl | exact blk_cell (jm_x hJd hxb) 1 rfl)
    (first
      | (go_at_call 14; first | (refine (KD Y R1 _ hQ1).mono ?_; rintro e w2 ⟨rfl, m, hm, hF⟩) | (refine (KD Y R _ hJd).mono ?_; rintro e w2 ⟨rfl, m, hm, hD1⟩); skip)
      | (go_at_call 32; first | (refine (KQ Y m S1 _ hD1).mono ?_; rintro e w3 ⟨rfl, hF⟩) | (refine (KQ Y n S _ hJd).mono ?_; rintro e w3 ⟨rfl, hQ1⟩)))
  all_goals go_wp2
  all_goals go_ret
  all_goals exact ⟨rfl, m, hm, jm_drop hF HX.out⟩
end Go.Proofs.YtkfncnpeockiaaaGreatDoor
