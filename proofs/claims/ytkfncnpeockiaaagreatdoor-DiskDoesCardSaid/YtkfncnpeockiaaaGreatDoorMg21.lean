/-
  Layer 7, the document's side: Create. Condition: the rows are of at most ninety thousand entries, the path has at most a million bytes.
  Layer 7, the document's side: what holds in each round of sure, and how each kind of round keeps it. No program text is walked here.
  Layer 7, the document's side: sure behind DirSync. Condition: the rows are of at most ninety thousand entries.
-/
import Derived.Test.YtkfncnpeockiaaaGreatDoorMg20
namespace Go.Proofs.YtkfncnpeockiaaaGreatDoor
open Go.RowKit
variable {w w' : World} {Q : QL} {R : RS}

theorem cre_below {a w5 w6 : World} {o : Obj} {e : TypeId} {size n : Nat} {v : Value} {xs : List Value} (hB : Below a.heap.size a w5) (hO : w5.ownsRow a.heap.size e size v n xs) (hg : (w5.alloc o).grownBy w6 v.ownBlock) : Below a.heap.size a w6 :=
  (hB.alloc hB.size o).grown hg (hB.alloc hB.size o).size (fun k e => (hO.lt k e).1)
def addB (i : Nat) (R : RS) : RS := if i = 2 then { R with seenB := R.seenB ++ [[]] } else { R with sureB := R.sureB ++ [[]] }
/-- One of the two rows of bytes with one file more, laid anew. -/
theorem put_str (h : QInv Q R w) (i : Nat) (hi : i = 2 ∨ i = 3) {w6 : World} {a : Option Addr} {cap : Nat} (hb : Below w.heap.size w w6) (hr : w6.ownsRow w.heap.size 9 1 (.slice a (eln R i + 1) cap) (eln R i + 1) (ecl R i ++ [.string ⟨#[]⟩])) :
    QInv ⟨Q.b, updN Q.v i (.slice a (eln R i + 1) cap)⟩ (addB i R) (w6.setCell ⟨Q.b, i, none⟩ (.slice a (eln R i + 1) cap)) ∧ QStep Q w ⟨Q.b, updN Q.v i (.slice a (eln R i + 1) cap)⟩ (w6.setCell ⟨Q.b, i, none⟩ (.slice a (eln R i + 1) cap)) := by
  rcases hi with rfl | rfl
  · refine q_put (R' := addB 2 R) h 2 (.inl (by decide)) hb ?_ (fun g hg => (hr.lt g hg).1) (fun j hj hne => ?_) ⟨rfl, rfl, rfl, rfl⟩
    · have := row_base hr (Nat.zero_le _)
      show w6.ownsRow 0 9 1 _ (R.seenB ++ [[]]).length ((R.seenB ++ [[]]).flatMap strC)
      rw [List.length_append, List.flatMap_append]
      exact this
    · rcases hj with hj | rfl
      · match j, hj with
        | 0, _ => exact ⟨rfl, rfl⟩
        | 1, _ => exact ⟨rfl, rfl⟩
        | 2, _ => exact absurd rfl hne
        | 3, _ => exact ⟨rfl, rfl⟩
        | 4, _ => exact ⟨rfl, rfl⟩
      · exact ⟨rfl, rfl⟩
  · refine q_put (R' := addB 3 R) h 3 (.inl (by decide)) hb ?_ (fun g hg => (hr.lt g hg).1) (fun j hj hne => ?_) ⟨rfl, rfl, rfl, rfl⟩
    · have := row_base hr (Nat.zero_le _)
      show w6.ownsRow 0 9 1 _ (R.sureB ++ [[]]).length ((R.sureB ++ [[]]).flatMap strC)
      rw [List.length_append, List.flatMap_append]
      exact this
    · rcases hj with hj | rfl
      · match j, hj with
        | 0, _ => exact ⟨rfl, rfl⟩
        | 1, _ => exact ⟨rfl, rfl⟩
        | 2, _ => exact ⟨rfl, rfl⟩
        | 3, _ => exact absurd rfl hne
        | 4, _ => exact ⟨rfl, rfl⟩
      · exact ⟨rfl, rfl⟩
theorem new_is {Q' : QL} {B : RS} (h : QInv Q' (addB 3 (addB 2 B)) w) : QInv Q' (qnew B) w := h

set_option maxRecDepth 100000 in
set_option maxHeartbeats 4000000 in
theorem q7Create_any (p : ByteArray) (hp : p.size ≤ 1000000) (h : QInv Q R w) (hd : QBd R) :
    Calls Tryz.prog 27 #[.pointer (some ⟨Q.b, 0, none⟩), .string p] w (QOut Q w (qcall (qcreIn p.data.toList) R)) := by
  unfold qcall
  cases ho : qoff R with
  | some r =>
    obtain ⟨hr, hb⟩ := beg_some h (by have := hd.cnt; omega) (by have := hd.tel; omega) ho
    have HB := Lib.hid hb
    have t1 : (r.1 == 0) = false := by simpa using hr
    clear h hb hd ho
    rw [Option.getD_some]
    obtain ⟨x, T⟩ := r
    simp only at hr t1 HB
    go_enter Tryz.func27, Tryz.ntmps27
    go_wp2_with (first
      | (go_at_call 60; (with_reducible refine HB.out.mono ?_); rintro e w1 ⟨rfl, hI, hS⟩; have HI := Lib.hid hI; have HS := Lib.hid hS; clear hI hS))
    go_ret
    exact ⟨Q, rfl, HI.out, HS.out⟩
  | none =>
    have HB := Lib.hid (beg_none h (by have := hd.cnt; omega) (by have := hd.tel; omega) ho)
    rw [Option.getD_none]
    have hsen : (qbeg R).seen.length ≤ 90000 := hd.sen
    obtain ⟨dn, hdn⟩ : ∃ dn, dn = qdn (qbeg R) := ⟨_, rfl⟩
    rw [← hdn] at HB ⊢
    have HD := Lib.hid hd
    clear h hd ho hdn
    have HP := Lib.hid (fun w => qpath_any p hp w)
    unfold qcreIn
    cases hpb : pathB p.data.toList with
    | false =>
      rw [hpb] at HP
      rw [if_pos rfl]
      clear hpb
      go_enter Tryz.func27, Tryz.ntmps27
      go_wp2_with (first
        | (go_at_call 60; (with_reducible refine HB.out.mono ?_); rintro e w1 ⟨rfl, hI, hS⟩; have HI := Lib.hid hI; have HS := Lib.hid hS; have c0 := blk_cell hI.blk 0 (v := Q.v 0) rfl; clear hI hS)
        | (go_at_call 61; (with_reducible refine (HP.out _).mono ?_); rintro e wp ⟨rfl, rfl⟩)
        | (go_at_call 62; refine (qend_any HI.out 13 dn).mono ?_; rintro e w9 ⟨Q9, rfl, hI9, hS9⟩))
      go_ret
      exact ⟨Q9, rfl, hI9, HS.out.trans hS9⟩
    | true =>
      rw [hpb] at HP
      rw [if_neg (by decide)]
      clear hpb
      cases hq : findL (qbeg R).seen p.data.toList with
      | some i =>
        have HQ := Lib.hid hq
        have s0 : ¬ (i : Int) < 0 := by omega
        have s9 : decide ((0 : Int) ≤ i) = true := decide_eq_true (by omega)
        clear hq
        go_enter Tryz.func27, Tryz.ntmps27
        go_wp2_with (first
          | (go_at_call 60; (with_reducible refine HB.out.mono ?_); rintro e w1 ⟨rfl, hI, hS⟩; have HI := Lib.hid hI; have HS := Lib.hid hS; have c0 := blk_cell hI.blk 0 (v := Q.v 0) rfl; clear hI hS)
          | (go_at_call 61; (with_reducible refine (HP.out _).mono ?_); rintro e wp ⟨rfl, rfl⟩)
          | (go_at_call 63; (with_reducible refine (find_any2 HI.out hsen p HQ.out).mono ?_); rintro e w2 ⟨rfl, rfl⟩; rw [show fiI (some i) = (i : Int) from rfl])
          | (go_at_call 62; refine (qend_any HI.out 9 dn).mono ?_; rintro e w9 ⟨Q9, rfl, hI9, hS9⟩))
        go_ret
        exact ⟨Q9, rfl, hI9, HS.out.trans hS9⟩
      | none =>
        have HQ := Lib.hid hq
        clear hq
        simp only []
        have hln : ∀ w1, QInv Q (qbeg R) w1 → ∃ a cap, Q.v 0 = .slice a (qbeg R).seen.length cap := fun w1 hI => by
          obtain ⟨a, cap, e, -⟩ := ent_cells (hI.row 0 (.inl (by decide)))
          exact ⟨a, cap, e⟩
        have HLN := Lib.hid hln
        obtain ⟨m, hm⟩ : ∃ m, m = (qbeg R).seen.length := ⟨_, rfl⟩
        rw [← hm] at HLN ⊢
        have HM := Lib.hid hm
        clear hln hm
        by_cases h60 : 60 ≤ m
        · rw [if_pos h60]
          have t6 : decide ((60 : Int) ≤ (m : Int)) = true := decide_eq_true (by omega)
          go_enter Tryz.func27, Tryz.ntmps27
          go_wp2_with (first
            | (go_at_call 60; (with_reducible refine HB.out.mono ?_); rintro e w1 ⟨rfl, hI, hS⟩; have HI := Lib.hid hI; have HS := Lib.hid hS; obtain ⟨a0, cap0, e0⟩ := HLN.out _ hI; have c0 := blk_cell hI.blk 0 (v := .slice a0 m cap0) (by rw [← e0]; rfl); clear hI hS)
            | (go_at_call 61; (with_reducible refine (HP.out _).mono ?_); rintro e wp ⟨rfl, rfl⟩)
            | (go_at_call 63; rw [← e0]; (with_reducible refine (find_any2 HI.out hsen p HQ.out).mono ?_); rintro e w2 ⟨rfl, rfl⟩; rw [show fiI none = -1 from rfl])
            | (go_at_call 62; refine (qend_any HI.out 6 dn).mono ?_; rintro e w9 ⟨Q9, rfl, hI9, hS9⟩))
          go_ret
          exact ⟨Q9, rfl, hI9, HS.out.trans hS9⟩
        · rw [if_neg h60]
          have t6 : decide ((60 : Int) ≤ (m : Int)) = false := decide_eq_false (by omega)
          obtain ⟨i2, hi2, hz2, hs2, hbb2⟩ := infoQS
          have hB := HD.out.sB
          have hC : ∀ Q' w1, QInv Q' (qnew (qbeg R)) w1 → Calls Tryz.prog 64 #[.pointer (some ⟨Q'.b, 0, none⟩), .agg #[.int .i64 1, .string p, .int .i64 (R.seenB.length : Int), .int .i64 0, .string ⟨#[]⟩]] w1 fun e w' => e = .returned (.tuple #[]) ∧ ∃ Q2, QInv Q2 (qchange (.create p.data.toList R.seenB.length) (qnew (qbeg R))) w' ∧ QStep Q' w1 Q2 w' := fun Q' w1 hI =>
            qchange_any (.create p.data.toList R.seenB.length) hI (by refine ⟨?_, by simpa using hp⟩; show R.seenB.length < (R.seenB ++ [[]]).length; simp) HD.out.wts HD.out.sen (by show (R.seenB ++ [[]]).length ≤ _; simp; omega) (fun s hs => by
              rcases List.mem_append.1 hs with hs | hs
              · exact HD.out.bK s hs
              · rw [List.mem_singleton.1 hs]; exact Nat.zero_le _)
          have HC := Lib.hid hC
          have hlenB := HD.out.lenB
          have hw9 : IntKind.i64.wrap (((R.seenB.length + 1 : Nat) : Int) - 1) = (R.seenB.length : Int) := by rw [show ((R.seenB.length + 1 : Nat) : Int) - 1 = (R.seenB.length : Int) by omega]; exact IntWalk.i64_in _ ⟨by omega, by omega⟩
          clear hC
          go_enter Tryz.func27, Tryz.ntmps27
          go_upto_region 10 with (first
            | (go_at_call 60; (with_reducible refine HB.out.mono ?_); rintro e w1 ⟨rfl, hI, hS⟩; have HI := Lib.hid hI; have HS := Lib.hid hS; obtain ⟨a0, cap0, e0⟩ := HLN.out _ hI; have c0 := blk_cell hI.blk 0 (v := .slice a0 m cap0) (by rw [← e0]; rfl); clear hI hS)
            | (go_at_call 61; (with_reducible refine (HP.out _).mono ?_); rintro e wp ⟨rfl, rfl⟩)
            | (go_at_call 63; rw [← e0]; (with_reducible refine (find_any2 HI.out hsen p HQ.out).mono ?_); rintro e w2 ⟨rfl, rfl⟩; rw [show fiI none = -1 from rfl]))
          have HR2 := Lib.hid (HI.out.row 2 (.inl (by decide)))
          change Hid (w1.ownsRow 0 9 1 (Q.v 2) R.seenB.length (R.seenB.flatMap strC)) at HR2
          have T1 : R.seenB.length + 1 ≤ maxLen := by unfold maxLen; omega
          have T2 : (R.seenB.length + 1) * 16 ≤ 140737488355328 := by omega
          have T3 : R.sureB.length + 1 ≤ maxLen := by unfold maxLen; omega
          have T4 : (R.sureB.length + 1) * 16 ≤ 140737488355328 := by omega
          clear hlenB
          have T5 : ∀ u ∈ [Value.string ⟨#[]⟩], u.oneCell' = true := by intro u hu; simp at hu; subst hu; rfl
          have c2 := blk_cell HI.out.blk 2 (v := Q.v 2) rfl
          have c2a := cell_alloc c2 (.cells #[] 9)
          go_upto_region 11 with (first
            | (at_builtin; refine wpList_append_row _ rfl _ _ 43 rfl w1.heap.size 9 i2 _ 1 16 Tryz.underlying43 hi2 hz2 hs2 hbb2 rfl (by decide) (.slice (some ⟨w1.heap.size, 0, none⟩) 0 0) 0 [] rfl (row_none w1 9 1) (Q.v 2) R.seenB.length (R.seenB.flatMap strC) rfl (HR2.out.alloc _) (one_str _) (by unfold maxLen; omega) (by omega) (by simp) ?_; intro v5 w5 hown5 hgrow5 hbk5; rw [Nat.zero_add, List.nil_append] at hown5; have HB5 := Lib.hid (grown_new hgrow5); have HO5 := Lib.hid hown5; clear hown5 hgrow5 hbk5)
            | (at_builtin; have hbs : w1.heap.size ≤ (w5.alloc (.cells #[.string ⟨#[]⟩] 9)).heap.size := (HB5.out.alloc HB5.out.size _).size; refine wpList_append_row _ rfl _ _ 43 rfl w1.heap.size 9 i2 (.string ⟨#[]⟩) 1 16 Tryz.underlying43 hi2 hz2 hs2 hbb2 rfl (by decide) v5 R.seenB.length (R.seenB.flatMap strC) rfl (HO5.out.alloc _) (.slice (some ⟨w5.heap.size, 0, none⟩) 1 1) 1 [.string ⟨#[]⟩] rfl (row_one w5 9 1 [.string ⟨#[]⟩] rfl) T5 T1 T2 hbs ?_; intro v6 w6 hown6 hgrow6 hbk6; obtain ⟨a6, cap6, hv6, -⟩ := row_slice (row_base hown6 (Nat.zero_le _)); subst hv6; have HB6 := Lib.hid (cre_below HB5.out HO5.out hgrow6); have HO6 := Lib.hid hown6; have hB6 : Blk w6 Q.b 64 _ := (HB6.out.block _ (blk_lt HI.out.blk)).trans HI.out.blk; have q2 := blk_cell hB6 2 (v := Q.v 2) rfl; have p2 := blk_frozen hB6 2; clear hown6 hgrow6 hbk6 hB6))
          have HP1 : Hid (QInv ⟨Q.b, updN Q.v 2 (.slice a6 (R.seenB.length + 1) cap6)⟩ (addB 2 (qbeg R)) (w6.setCell ⟨Q.b, 2, none⟩ (.slice a6 (R.seenB.length + 1) cap6)) ∧ QStep Q w1 ⟨Q.b, updN Q.v 2 (.slice a6 (R.seenB.length + 1) cap6)⟩ (w6.setCell ⟨Q.b, 2, none⟩ (.slice a6 (R.seenB.length + 1) cap6))) := Lib.hid (put_str HI.out 2 (.inl rfl) HB6.out HO6.out)
          clear c2 c2a q2 p2 HO5 HB5 HR2
          revert HP1
          generalize w6.setCell ⟨Q.b, 2, none⟩ (.slice a6 (R.seenB.length + 1) cap6) = W6
          intro HP1
          have HR3 := Lib.hid (HP1.out.1.row 3 (.inl (by decide)))
          change Hid (W6.ownsRow 0 9 1 (Q.v 3) R.sureB.length (R.sureB.flatMap strC)) at HR3
          have c3 : W6.cell? ⟨Q.b, 3, none⟩ = some (Q.v 3) := blk_cell HP1.out.1.blk 3 rfl
          have c3a := cell_alloc c3 (.cells #[] 9)
          go_upto_region 12 with (first
            | (at_builtin; refine wpList_append_row _ rfl _ _ 43 rfl W6.heap.size 9 i2 _ 1 16 Tryz.underlying43 hi2 hz2 hs2 hbb2 rfl (by decide) (.slice (some ⟨W6.heap.size, 0, none⟩) 0 0) 0 [] rfl (row_none W6 9 1) (Q.v 3) R.sureB.length (R.sureB.flatMap strC) rfl (HR3.out.alloc _) (one_str _) (by unfold maxLen; omega) (by omega) (by simp) ?_; intro v7 w7 hown7 hgrow7 hbk7; rw [Nat.zero_add, List.nil_append] at hown7; have HB7 := Lib.hid (grown_new hgrow7); have HO7 := Lib.hid hown7; clear hown7 hgrow7 hbk7)
            | (at_builtin; have hbs : W6.heap.size ≤ (w7.alloc (.cells #[.string ⟨#[]⟩] 9)).heap.size := (HB7.out.alloc HB7.out.size _).size; refine wpList_append_row _ rfl _ _ 43 rfl W6.heap.size 9 i2 (.string ⟨#[]⟩) 1 16 Tryz.underlying43 hi2 hz2 hs2 hbb2 rfl (by decide) v7 R.sureB.length (R.sureB.flatMap strC) rfl (HO7.out.alloc _) (.slice (some ⟨w7.heap.size, 0, none⟩) 1 1) 1 [.string ⟨#[]⟩] rfl (row_one w7 9 1 [.string ⟨#[]⟩] rfl) T5 T3 T4 hbs ?_; intro v8 w8 hown8 hgrow8 hbk8; obtain ⟨a8, cap8, hv8, -⟩ := row_slice (row_base hown8 (Nat.zero_le _)); subst hv8; have HB8 := Lib.hid (cre_below HB7.out HO7.out hgrow8); have HO8 := Lib.hid hown8; have hB8 : Blk w8 Q.b 64 _ := (HB8.out.block _ (blk_lt HP1.out.1.blk)).trans HP1.out.1.blk; have q3 : w8.cell? ⟨Q.b, 3, none⟩ = some (Q.v 3) := blk_cell hB8 3 rfl; have p3 := blk_frozen hB8 3; clear hown8 hgrow8 hbk8 hB8))
          have HP2 : Hid (QInv ⟨Q.b, updN (updN Q.v 2 (.slice a6 (R.seenB.length + 1) cap6)) 3 (.slice a8 (R.sureB.length + 1) cap8)⟩ (addB 3 (addB 2 (qbeg R))) (w8.setCell ⟨Q.b, 3, none⟩ (.slice a8 (R.sureB.length + 1) cap8)) ∧ QStep ⟨Q.b, updN Q.v 2 (.slice a6 (R.seenB.length + 1) cap6)⟩ W6 ⟨Q.b, updN (updN Q.v 2 (.slice a6 (R.seenB.length + 1) cap6)) 3 (.slice a8 (R.sureB.length + 1) cap8)⟩ (w8.setCell ⟨Q.b, 3, none⟩ (.slice a8 (R.sureB.length + 1) cap8))) := Lib.hid (put_str HP1.out.1 3 (.inr rfl) HB8.out HO8.out)
          clear c3 c3a q3 p3 HO7 HB7 HR3
          revert HP2
          generalize w8.setCell ⟨Q.b, 3, none⟩ (.slice a8 (R.sureB.length + 1) cap8) = W8
          intro HP2
          have HN2 := Lib.hid (new_is HP2.out.1)
          have c9 : W8.cell? ⟨Q.b, 2, none⟩ = some (.slice a6 (R.seenB.length + 1) cap6) := blk_cell HP2.out.1.blk 2 rfl
          go_wp2_with (first
            | (go_at_call 64; (with_reducible refine (HC.out _ _ HN2.out).mono ?_); rintro e w5 ⟨rfl, Q2, hI2, hS2⟩; have HI2 := Lib.hid hI2; have HS2 := Lib.hid hS2; have HQ2 := Lib.hid hS2.b; clear hI2 hS2)
            | (go_at_call 62; rw [← HQ2.out]; refine (qend_any HI2.out 0 dn).mono ?_; rintro e w9 ⟨Q9, rfl, hI9, hS9⟩))
          go_ret
          exact ⟨Q9, rfl, hI9, HS.out.trans (HP1.out.2.trans (HP2.out.2.trans (HS2.out.trans hS9)))⟩
end Go.Proofs.YtkfncnpeockiaaaGreatDoor

namespace Go.Proofs.YtkfncnpeockiaaaGreatDoor
open Go.RowKit
variable {w w' : World} {Q : QL} {R R' : RS}

/-- A slice stored anew that is not the newest block. -/
theorem q_put2 (h : QInv Q R w) (i : Nat) (hi : fld i) {v1 : Value} (hrow : w.ownsRow 0 (ety i) (esz i) v1 (eln R' i) (ecl R' i)) (hneb : v1.ownBlock ≠ some Q.b)
    (hoth : ∀ j, fld j → j ≠ i → eln R' j = eln R j ∧ ecl R' j = ecl R j) (hsc : R'.room = R.room ∧ R'.count = R.count ∧ R'.crash = R.crash ∧ R'.off = R.off) :
    QInv ⟨Q.b, updN Q.v i v1⟩ R' (w.setCell ⟨Q.b, i, none⟩ v1) := by
  have hk : ∀ k, k ≠ Q.b → (w.setCell ⟨Q.b, i, none⟩ v1).heap[k]? = w.heap[k]? := setCell_keep _ _ _ _
  obtain ⟨e1, e2, e3, e4⟩ := hsc
  refine ⟨?_, fun j hj => ?_, fun j hj => ?_⟩
  · have hb := blk_set h.blk i v1
    have e : (qcells Q R).setIfInBounds i v1 = qcells ⟨Q.b, updN Q.v i v1⟩ R' := by
      unfold qcells
      rw [e1, e2, e3, e4]
      rcases hi with hi | rfl
      · match i, hi with
        | 0, _ => rfl
        | 1, _ => rfl
        | 2, _ => rfl
        | 3, _ => rfl
        | 4, _ => rfl
      · rfl
    rw [e] at hb
    exact hb
  · by_cases e : j = i
    · subst e
      have : updN Q.v j v1 j = v1 := by simp [updN]
      show World.ownsRow _ 0 _ _ (updN Q.v j v1 j) _ _
      rw [this]
      exact row_keep hrow (fun g hg' => hk g (fun e => hneb (e ▸ hg')))
    · have : updN Q.v i v1 j = Q.v j := by simp [updN, e]
      show World.ownsRow _ 0 _ _ (updN Q.v i v1 j) _ _
      rw [this, (hoth j hj e).1, (hoth j hj e).2]
      exact row_keep (h.row j hj) (fun g hg' => hk g (fun e => h.ne j hj (e ▸ hg')))
  · show (updN Q.v i v1 j).ownBlock ≠ some Q.b
    unfold updN
    split
    · exact hneb
    · exact h.ne j hj
theorem qstep_put {w0 : World} {Q0 : QL} (h : QStep Q0 w0 Q w) (i : Nat) {v1 : Value} (hnew : ∀ g, v1.ownBlock = some g → w0.heap.size ≤ g) : QStep Q0 w0 ⟨Q.b, updN Q.v i v1⟩ (w.setCell ⟨Q.b, i, none⟩ v1) := by
  have hk : ∀ k, k ≠ Q.b → (w.setCell ⟨Q.b, i, none⟩ v1).heap[k]? = w.heap[k]? := setCell_keep _ _ _ _
  refine ⟨h.os, h.tape, h.output, by rw [size_setCell']; exact h.size, fun k hk' hne => (hk k (by rw [h.b]; exact hne)).trans (h.blk k hk' hne), h.b, fun g hg' => ?_⟩
  rcases hg' with e | ⟨j, hj, hg'⟩
  · exact h.new g (.inl e)
  · change (updN Q.v i v1 j).ownBlock = some g at hg'
    unfold updN at hg'
    split at hg'
    · exact .inr (hnew g hg')
    · exact h.new g (.inr ⟨j, hj, hg'⟩)

def qmid (p : Chg → Bool) (R : RS) (i : Nat) : RS := (R.waits.take i).foldl (qstepP p) R
theorem qapp_waits (c : Chg) (R : RS) : (qapp c R).waits = R.waits ∧ (qapp c R).seenB = R.seenB ∧ (qapp c R).seen = R.seen ∧ (qapp c R).tells = R.tells ∧ (qapp c R).count = R.count ∧ (qapp c R).sureB.length = R.sureB.length := by
  unfold qapp
  split
  · exact ⟨rfl, rfl, rfl, rfl, rfl, rfl⟩
  · exact ⟨rfl, rfl, rfl, rfl, rfl, List.length_set ..⟩
theorem qfold_waits (p : Chg → Bool) : ∀ (l : List Chg) (R : RS), (l.foldl (qstepP p) R).waits = R.waits ∧ (l.foldl (qstepP p) R).sureB.length = R.sureB.length ∧ (l.foldl (qstepP p) R).count = R.count
  | [], _ => ⟨rfl, rfl, rfl⟩
  | c :: l, R => by
    have h := qfold_waits p l (qstepP p R c)
    have h1 : (qstepP p R c).waits = R.waits ∧ (qstepP p R c).sureB.length = R.sureB.length ∧ (qstepP p R c).count = R.count := by
      unfold qstepP
      split
      · have := qapp_waits c R
        exact ⟨this.1, this.2.2.2.2.2, this.2.2.2.2.1⟩
      · exact ⟨rfl, rfl, rfl⟩
    exact ⟨h.1.trans h1.1, h.2.1.trans h1.2.1, h.2.2.trans h1.2.2⟩
theorem qmid_step (p : Chg → Bool) (R : RS) (i : Nat) (hi : i < R.waits.length) : qmid p R (i + 1) = qstepP p (qmid p R i) R.waits[i] := by
  unfold qmid
  rw [take_snoc _ _ hi, List.foldl_append]
  rfl
/-- A round of sure. -/
structure SureI (Q : QL) (w : World) (R : RS) (p : Chg → Bool) (i : Nat) (t4 : Value) (wr : World) (V : Nat → Value) : Prop where
  inv : QInv ⟨Q.b, V⟩ (qmid p R i) wr
  stp : QStep Q w ⟨Q.b, V⟩ wr
  own : wr.ownsRow w.heap.size 99 5 t4 (keptL p (R.waits.take i)).length ((keptL p (R.waits.take i)).flatMap Chg.qc)
  dis : ∀ j, fld j → ∀ g, (V j).ownBlock = some g → t4.ownBlock ≠ some g
  v3 : ∀ j, fld j → j ≠ 3 → ∀ g, (V 3).ownBlock = some g → (V j).ownBlock ≠ some g
  new3 : ∀ g, (V 3).ownBlock = some g → w.heap.size ≤ g
  old : Q.b < w.heap.size
variable {p : Chg → Bool} {i : Nat} {t4 : Value} {wr : World} {V : Nat → Value}
/-- One that is not chosen. -/
theorem sure_keep (h : SureI Q w R p i t4 wr V) (hi : i < R.waits.length) (hp : p R.waits[i] = false) {wx w' : World} {v' : Value} (hb : Below wr.heap.size wr wx)
    (hr : w'.ownsRow w.heap.size 99 5 v' ((keptL p (R.waits.take i)).length + 1) ((keptL p (R.waits.take i)).flatMap Chg.qc ++ R.waits[i].qc)) (hg : wx.grownBy w' t4.ownBlock) (ho : v'.ownBlock = t4.ownBlock ∨ v'.ownBlock = some wx.heap.size) :
    SureI Q w R p (i + 1) v' w' V := by
  have hx := h.inv.below hb
  have hne : t4.ownBlock ≠ some Q.b := fun e => by have := (h.own.lt _ e).1; have := h.old; omega
  have hk : ∀ g, QB ⟨Q.b, V⟩ g → w'.heap[g]? = wx.heap[g]? := fun g hq => hg.block g (hx.lt hq) (fun e => by
    rcases hq with rfl | ⟨j, hj, hq⟩
    · exact hne e.symm
    · exact h.dis j hj g hq e.symm)
  have e1 : qmid p R (i + 1) = qmid p R i := by rw [qmid_step p R i hi, qstepP, if_neg (by rw [hp]; decide)]
  have e2 : keptL p (R.waits.take (i + 1)) = keptL p (R.waits.take i) ++ [R.waits[i]] := by rw [take_snoc _ _ hi, keptL_snoc, if_neg (by rw [hp]; decide)]
  refine ⟨by rw [e1]; exact hx.heap hk, ?_, ?_, fun j hj g hq e => ?_, h.v3, h.new3, h.old⟩
  · have h1 := h.stp.trans (QStep.below hb)
    refine ⟨hg.os.trans h1.os, hg.tape.trans h1.tape, hg.output.trans h1.output, Nat.le_trans h1.size hg.size, fun k hk' hne' => ?_, h1.b, h1.new⟩
    exact (hg.block k (Nat.lt_of_lt_of_le hk' h1.size) (fun e => by have := (h.own.lt _ e.symm).1; omega)).trans (h1.blk k hk' hne')
  · rw [e2, List.length_append, List.flatMap_append]
    simpa using hr
  · rcases ho with ho | ho
    · exact h.dis j hj g hq (ho ▸ e)
    · rw [ho] at e
      cases e
      have := hx.lt (.inr ⟨j, hj, hq⟩)
      omega
theorem four_or {j : Nat} (hj : fld j) (P : Nat → Prop) (h0 : P 0) (h1 : P 1) (h2 : P 2) (h3 : P 3) (h4 : P 4) (h7 : P 7) : P j := by
  rcases hj with hj | rfl
  · match j, hj with
    | 0, _ => exact h0
    | 1, _ => exact h1
    | 2, _ => exact h2
    | 3, _ => exact h3
    | 4, _ => exact h4
  · exact h7
/-- One of the directory. -/
theorem sure_dir (h : SureI Q w R p i t4 wr V) (hi : i < R.waits.length) (hp : p R.waits[i] = true) (hd : ofDir R.waits[i] = true) {wx w2 : World} {v2 : Value} (hb : Below wr.heap.size wr wx) (hb2 : Below wx.heap.size wx w2)
    (hr : w2.ownsRow wx.heap.size 104 2 v2 (qDir (qmid p R i).sure R.waits[i]).length ((qDir (qmid p R i).sure R.waits[i]).flatMap entC)) :
    SureI Q w R p (i + 1) t4 (w2.setCell ⟨Q.b, 1, none⟩ v2) (updN V 1 v2) := by
  have hx := h.inv.below hb
  have e1 : qmid p R (i + 1) = { qmid p R i with sure := qDir (qmid p R i).sure R.waits[i] } := by rw [qmid_step p R i hi, qstepP, if_pos hp, qapp, if_pos hd]
  have e2 : keptL p (R.waits.take (i + 1)) = keptL p (R.waits.take i) := by rw [take_snoc _ _ hi, keptL_snoc, if_pos hp, List.append_nil]
  have hput := q_put (R' := { qmid p R i with sure := qDir (qmid p R i).sure R.waits[i] }) hx 1 (.inl (by decide)) hb2 (row_base hr (Nat.zero_le _)) (fun g hg => (hr.lt g hg).1)
    (fun j hj hne => four_or hj (fun j => j ≠ 1 → eln { qmid p R i with sure := qDir (qmid p R i).sure R.waits[i] } j = eln (qmid p R i) j ∧ ecl { qmid p R i with sure := qDir (qmid p R i).sure R.waits[i] } j = ecl (qmid p R i) j) (fun _ => ⟨rfl, rfl⟩) (fun e => absurd rfl e) (fun _ => ⟨rfl, rfl⟩) (fun _ => ⟨rfl, rfl⟩) (fun _ => ⟨rfl, rfl⟩) (fun _ => ⟨rfl, rfl⟩) hne) ⟨rfl, rfl, rfl, rfl⟩
  have hsz : w.heap.size ≤ wx.heap.size := Nat.le_trans h.stp.size hb.size
  have hw2 : Below wr.heap.size wr w2 := hb.trans (hb2.mono hb.size)
  refine ⟨by rw [e1]; exact hput.1, (h.stp.trans (QStep.below hb)).trans hput.2, ?_, fun j hj g hq e => ?_, fun j hj hne g hq e => ?_, fun g hq => ?_, h.old⟩
  · rw [e2]
    have := row_below h.own hw2
    exact row_kept5 this (fun g hg => setCell_keep _ _ _ _ g (fun e => by have := (h.own.lt g hg).1; have := h.old; omega))
  · unfold updN at hq
    split at hq
    · have h1 := (hr.lt g hq).1
      have h2 := (h.own.lt g e).2
      have := hb.size
      omega
    · exact h.dis j hj g hq e
  · have hq3 : (V 3).ownBlock = some g := by simpa [updN] using hq
    unfold updN at e
    split at e
    · have h1 := (hr.lt g e).1
      have h2 := h.inv.lt (.inr ⟨3, .inl (by decide), hq3⟩)
      have := hb.size
      omega
    · exact h.v3 j hj hne g hq3 e
  · exact h.new3 g (by simpa [updN] using hq)
/-- One of the file's contents. -/
theorem sure_file (h : SureI Q w R p i t4 wr V) (hi : i < R.waits.length) (hp : p R.waits[i] = true) (hd : ofDir R.waits[i] = false) {wx w6 : World} {g3 cap : Nat} (hb : Below wr.heap.size wr wx) (hb6 : Below wx.heap.size wx w6)
    (hv : V 3 = .slice (some ⟨g3, 0, none⟩) (qmid p R i).sureB.length cap) {f : Nat} (hf : fileC R.waits[i] = f) :
    SureI Q w R p (i + 1) t4 (w6.setCell ⟨g3, f, none⟩ (.string (bz (qByt ((qmid p R i).sureB.getD f []) R.waits[i])))) V := by
  subst hf
  have h6 := (h.inv.below hb).below hb6
  have hg3 : w.heap.size ≤ g3 := h.new3 g3 (by rw [hv]; rfl)
  have e1 : qmid p R (i + 1) = { qmid p R i with sureB := (qmid p R i).sureB.set (fileC R.waits[i]) (qByt ((qmid p R i).sureB.getD (fileC R.waits[i]) []) R.waits[i]) } := by rw [qmid_step p R i hi, qstepP, if_pos hp, qapp, if_neg (by rw [hd]; decide)]
  have e2 : keptL p (R.waits.take (i + 1)) = keptL p (R.waits.take i) := by rw [take_snoc _ _ hi, keptL_snoc, if_pos hp, List.append_nil]
  have hrw := h6.row 3 (.inl (by decide))
  change w6.ownsRow 0 9 1 (V 3) (qmid p R i).sureB.length ((qmid p R i).sureB.flatMap strC) at hrw
  have hrw' := hrw
  rw [hv] at hrw'
  have hw6 : Below wr.heap.size wr w6 := hb.trans (hb6.mono hb.size)
  refine ⟨?_, qstep_cell ((h.stp.trans (QStep.below hb)).trans (QStep.below hb6)) hg3 _ _, ?_, h.dis, h.v3, h.new3, h.old⟩
  · rw [e1]
    refine q_cell (R' := { qmid p R i with sureB := (qmid p R i).sureB.set (fileC R.waits[i]) (qByt ((qmid p R i).sureB.getD (fileC R.waits[i]) []) R.waits[i]) }) h6 3 (.inl (by decide)) hv (fun j hj hne => h.v3 j hj hne g3 (by rw [hv]; rfl)) _ _ ?_ ?_ ⟨rfl, rfl, rfl, rfl⟩
    · show World.ownsRow _ 0 9 1 (V 3) ((qmid p R i).sureB.set _ _).length (((qmid p R i).sureB.set _ _).flatMap strC)
      rw [List.length_set, str_set, hv]
      exact (hrw'.stored _ _).1
    · exact fun j hj hne => four_or hj (fun j => j ≠ 3 → eln { qmid p R i with sureB := (qmid p R i).sureB.set (fileC R.waits[i]) (qByt ((qmid p R i).sureB.getD (fileC R.waits[i]) []) R.waits[i]) } j = eln (qmid p R i) j ∧ ecl { qmid p R i with sureB := (qmid p R i).sureB.set (fileC R.waits[i]) (qByt ((qmid p R i).sureB.getD (fileC R.waits[i]) []) R.waits[i]) } j = ecl (qmid p R i) j) (fun _ => ⟨rfl, rfl⟩) (fun _ => ⟨rfl, rfl⟩) (fun _ => ⟨rfl, rfl⟩) (fun e => absurd rfl e) (fun _ => ⟨rfl, rfl⟩) (fun _ => ⟨rfl, rfl⟩) hne
  · rw [e2]
    exact row_kept5 (row_below h.own hw6) (fun g hg => setCell_keep _ _ _ _ g (fun e => h.dis 3 (.inl (by decide)) g3 (by rw [hv]; rfl) (e ▸ hg)))
/-- The end: what is left waits. -/
theorem sure_end (h : SureI Q w R p R.waits.length t4 wr V) : QInv ⟨Q.b, updN V 4 t4⟩ (qsettle p R) (wr.setCell ⟨Q.b, 4, none⟩ t4) ∧ QStep Q w ⟨Q.b, updN V 4 t4⟩ (wr.setCell ⟨Q.b, 4, none⟩ t4) := by
  have ht : R.waits.take R.waits.length = R.waits := List.take_length
  have e : qsettle p R = { qmid p R R.waits.length with waits := keptL p R.waits } := by unfold qsettle qmid; rw [ht]
  have ho := h.own
  rw [ht] at ho
  refine ⟨?_, qstep_put h.stp 4 (fun g hg => (h.own.lt g hg).1)⟩
  rw [e]
  exact q_put2 (R' := { qmid p R R.waits.length with waits := keptL p R.waits }) h.inv 4 (.inl (by decide)) (row_base ho (Nat.zero_le _)) (fun e => by have h1 : w.heap.size ≤ Q.b := (h.own.lt _ e).1; have := h.old; omega)
    (fun j hj hne => four_or hj (fun j => j ≠ 4 → eln { qmid p R R.waits.length with waits := keptL p R.waits } j = eln (qmid p R R.waits.length) j ∧ ecl { qmid p R R.waits.length with waits := keptL p R.waits } j = ecl (qmid p R R.waits.length) j) (fun _ => ⟨rfl, rfl⟩) (fun _ => ⟨rfl, rfl⟩) (fun _ => ⟨rfl, rfl⟩) (fun _ => ⟨rfl, rfl⟩) (fun e => absurd rfl e) (fun _ => ⟨rfl, rfl⟩) hne) ⟨rfl, rfl, rfl, rfl⟩
end Go.Proofs.YtkfncnpeockiaaaGreatDoor

namespace Go.Proofs.YtkfncnpeockiaaaGreatDoor
open Go.RowKit
variable {w w' : World} {Q : QL} {R : RS}

theorem sure_start {p : Chg → Bool} (h : QInv Q R w) {w5 : World} {v5 : Value} (hb : Below w.heap.size w w5) (hr : w5.ownsRow w.heap.size 9 1 v5 R.sureB.length (R.sureB.flatMap strC)) :
    SureI Q w R p 0 (.slice none 0 0) (w5.setCell ⟨Q.b, 3, none⟩ v5) (updN Q.v 3 v5) := by
  have hp := q_put (R' := R) h 3 (.inl (by decide)) hb (row_base hr (Nat.zero_le _)) (fun g hg => (hr.lt g hg).1) (fun j _ _ => ⟨rfl, rfl⟩) ⟨rfl, rfl, rfl, rfl⟩
  refine ⟨hp.1, hp.2, World.ownsRow_nil _ _ _ _, fun j hj g hg e => by (cases e), fun j hj hne g hg e => ?_, fun g hg => ?_, blk_lt h.blk⟩
  · have h3 : v5.ownBlock = some g := by simpa [updN] using hg
    have hj' : (Q.v j).ownBlock = some g := by simpa [updN, hne] using e
    have := (hr.lt g h3).1
    have := h.lt (.inr ⟨j, hj, hj'⟩)
    omega
  · exact (hr.lt g (by simpa [updN] using hg)).1
theorem qDir_len (l : List (List UInt8 × Nat)) (c : Chg) : (qDir l c).length ≤ l.length + 1 := by
  cases c with
  | create nm i => exact putL_len l nm i
  | remove nm => exact Nat.le_succ_of_le (List.length_filter_le _ _)
  | write _ _ _ => exact Nat.le_succ _
  | trunc _ _ => exact Nat.le_succ _
theorem qfold_sure (p : Chg → Bool) : ∀ (l : List Chg) (R : RS), (l.foldl (qstepP p) R).sure.length ≤ R.sure.length + l.length
  | [], _ => Nat.le_refl _
  | c :: l, R => by
    have h := qfold_sure p l (qstepP p R c)
    have h1 : (qstepP p R c).sure.length ≤ R.sure.length + 1 := by
      unfold qstepP
      split
      · unfold qapp
        split
        · exact qDir_len _ _
        · exact Nat.le_succ _
      · exact Nat.le_succ _
    rw [List.foldl_cons, List.length_cons]
    omega
theorem qmid_sure (p : Chg → Bool) (R : RS) (i : Nat) (hi : i ≤ R.waits.length) : (qmid p R i).sure.length ≤ R.sure.length + i := by
  have := qfold_sure p (R.waits.take i) R
  rw [List.length_take, Nat.min_eq_left hi] at this
  exact this

set_option maxRecDepth 100000 in
set_option maxHeartbeats 4000000 in
theorem qsureD_any (h : QInv Q R w) (h1 : R.waits.length ≤ 90000) (h2 : R.sure.length + R.waits.length ≤ 90000) (h3 : R.sureB.length ≤ 90000) :
    Calls Tryz.prog 66 #[.pointer (some ⟨Q.b, 0, none⟩), .int .i64 (-1)] w fun e w' => e = .returned (.tuple #[]) ∧ ∃ Q', QInv Q' (qsettle ofDir R) w' ∧ QStep Q w Q' w' := by
  obtain ⟨i1, hi1, hz1, hs1, hbb1⟩ := infoQC
  obtain ⟨i2, hi2, hz2, hs2, hbb2⟩ := infoQS
  have HR3 := Lib.hid (h.row 3 (.inl (by decide)))
  change Hid (w.ownsRow 0 9 1 (Q.v 3) R.sureB.length (R.sureB.flatMap strC)) at HR3
  have HBQ := Lib.hid h.blk
  have HH := Lib.hid h
  have c3 := blk_cell h.blk 3 (v := Q.v 3) rfl
  have c3a := cell_alloc c3 (.cells #[] 9)
  have HLT := Lib.hid (blk_lt h.blk)
  have H2 := Lib.hid h2
  clear h2
  clear h
  go_enter Tryz.func66, Tryz.ntmps66
  go_wp2_with (first
    | (at_builtin; refine wpList_append_row _ rfl _ _ 43 rfl w.heap.size 9 i2 _ 1 16 Tryz.underlying43 hi2 hz2 hs2 hbb2 rfl (by decide) (.slice (some ⟨w.heap.size, 0, none⟩) 0 0) 0 [] rfl (row_none w 9 1) (Q.v 3) R.sureB.length (R.sureB.flatMap strC) rfl (HR3.out.alloc _) (one_str _) (by unfold maxLen; omega) (by omega) (by simp) ?_; intro v5 w5 hown5 hgrow5 hbk5; rw [Nat.zero_add, List.nil_append] at hown5; obtain ⟨a5, cap5, hv5, -⟩ := row_slice (row_base hown5 (Nat.zero_le _)); subst hv5; have HB5 := Lib.hid (grown_new hgrow5); have hB5 : Blk w5 Q.b 64 _ := (HB5.out.block _ (blk_lt HBQ.out)).trans HBQ.out; have q3 := blk_cell hB5 3 (v := Q.v 3) rfl; have p3 := blk_frozen hB5 3; have HO5 := Lib.hid hown5; clear hown5 hgrow5 hbk5 hB5))
  have HS0 := Lib.hid (sure_start (p := ofDir) HH.out HB5.out HO5.out)
  clear HO5 HB5 HR3 q3 p3 c3 c3a
  go_loopw [4, 5] (fun t4 t5 wr => ∃ (i : Nat) (V : Nat → Value), i ≤ R.waits.length ∧ t5 = .int .i64 i ∧ Hid (SureI Q w R ofDir i t4 wr V)) (fun _ t5 _ => R.waits.length - (intOf t5).toNat)
  case atStart => exact ⟨0, _, Nat.zero_le _, rfl, HS0⟩
  case round =>
    obtain ⟨i, V, hi, rfl, hI⟩ := hrel
    clear HS0
    have hW : (qmid ofDir R i).waits = R.waits := (qfold_waits ofDir (R.waits.take i) R).1
    have hr4 : wr.ownsRow 0 99 5 (V 4) R.waits.length (R.waits.flatMap Chg.qc) := by
      have := hI.out.inv.row 4 (.inl (by decide))
      change wr.ownsRow 0 99 5 (V 4) (qmid ofDir R i).waits.length ((qmid ofDir R i).waits.flatMap Chg.qc) at this
      rwa [hW] at this
    obtain ⟨a4, cap4, hv4, hc4⟩ := row_slice hr4
    have c4 := blk_cell hI.out.inv.blk 4 (v := .slice a4 R.waits.length cap4) (by rw [← hv4]; rfl)
    have HV4 := Lib.hid hv4
    clear hr4 hW hv4
    by_cases hlt : i < R.waits.length
    · obtain ⟨g4, rfl, hg4, hcc4⟩ := hc4.resolve_left (by omega)
      obtain ⟨kd, nm, fi, at_, d, hcc, hk1, hk2, hk3⟩ := qc_lit R.waits[i]
      have hone := one_chg R.waits[i]
      rw [hcc] at hone
      have r : ∀ j u, R.waits[i].qc[j]? = some u → j < 5 → wr.cell? ⟨g4, i * 5 + j, none⟩ = some u := fun j u hu hj => hcc4 (i * 5 + j) u (by rw [flat_at Chg.qc 5 (fun c => by cases c <;> rfl) R.waits i j hlt hj]; exact hu)
      rw [hcc] at r
      have r0 := r 0 _ rfl (by decide)
      have r1 := r 1 _ rfl (by decide)
      have r2 := r 2 _ rfl (by decide)
      have r3 := r 3 _ rfl (by decide)
      have r4 := r 4 _ rfl (by decide)
      rw [Nat.add_zero] at r0
      have hcc2 : R.waits[i].qc.toArray = #[.int .i64 kd, .string nm, .int .i64 fi, .int .i64 at_, .string d] := by rw [hcc]
      have hltI : (i : Int) < R.waits.length := by omega
      have hn0 : ¬ (i : Int) < 0 := by omega
      obtain ⟨WB, hWB⟩ : ∃ WB, WB = wr.alloc (.cells #[.int .i64 kd, .string nm, .int .i64 fi, .int .i64 at_, .string d] 99) := ⟨_, rfl⟩
      have HXB : Hid (Blk WB wr.heap.size 99 #[.int .i64 kd, .string nm, .int .i64 fi, .int .i64 at_, .string d]) := Lib.hid (by rw [hWB]; exact blk_new wr _ _)
      have hbB : Below wr.heap.size wr WB := by rw [hWB]; exact (Below.refl _ _).alloc (Nat.le_refl _) _
      have HB := Lib.hid hbB
      have HIB := Lib.hid (hI.out.inv.below hbB)
      have HBB : Hid (Blk WB Q.b 64 (qcells ⟨Q.b, V⟩ (qmid ofDir R i))) := Lib.hid HIB.out.blk
      have HNE := Lib.hid (show wr.heap.size ≠ Q.b from fun e => by have h0 : Q.b < wr.heap.size := blk_lt hI.out.inv.blk; omega)
      have HCC := Lib.hid hcc; have HCC2 := Lib.hid hcc2; have HWB := Lib.hid hWB
      clear r hcc hcc2 hc4 hcc4 hWB hbB
      by_cases hp : ofDir R.waits[i] = true
      · have k1 : decide (kd < 3) = true := decide_eq_true (hk1 hp)
        have k2 : kd < 3 := hk1 hp
        have HP := Lib.hid hp
        clear hk1 hk2 hk3 hp
        have hsl := qmid_sure ofDir R i hi
        have HR1 := Lib.hid (HIB.out.row 1 (.inl (by decide)))
        change Hid (WB.ownsRow 0 104 2 (V 1) (qmid ofDir R i).sure.length ((qmid ofDir R i).sure.flatMap entC)) at HR1
        have c1 : WB.cell? ⟨Q.b, 1, none⟩ = some (V 1) := blk_cell HBB.out 1 rfl
        go_upto_region 8 with (fail)
        rw [← HWB.out]
        clear HWB
        have hD := qdir_any (w := WB.drew) (show WB.drew.ownsRow 0 104 2 (V 1) _ _ from HR1.out) (by have := H2.out; omega) R.waits[i] HP.out
        rw [HCC2.out] at hD
        have HD := Lib.hid hD
        clear hD hsl
        refine wp_region_held_drew (S := fun a => a.cell? ⟨wr.heap.size, 0, none⟩ = some (.int .i64 kd) ∧ a.cell? ⟨wr.heap.size, 1, none⟩ = some (.string nm) ∧ a.cell? ⟨wr.heap.size, 2, none⟩ = some (.int .i64 fi) ∧ a.cell? ⟨wr.heap.size, 3, none⟩ = some (.int .i64 at_) ∧ a.cell? ⟨wr.heap.size, 4, none⟩ = some (.string d)) (by kernel_rfl) (bxs_of (show Blk WB.drew _ _ _ from HXB.out)) (fun hHeld => ?_)
        refine wpAnyH_take (i := 0) (v := (.pointer (some ⟨Q.b, 0, none⟩))) rfl (by kernel_rfl) (by kernel_rfl) (by kernel_rfl) (fun _ _ _ h => h) (Or.inl ⟨by rfl, ?_⟩) hHeld ?_
        · intro w' hSw
          obtain ⟨a0, a1, a2, a3, a4⟩ := hSw
          go_simp
        go_frame
        refine wpAnyH_take (i := 1) (v := (.pointer (some ⟨Q.b, 0, none⟩))) rfl (by kernel_rfl) (by kernel_rfl) (by kernel_rfl) (fun _ _ _ h => h) (Or.inl ⟨by rfl, ?_⟩) hHeld ?_
        · intro w' hSw
          obtain ⟨a0, a1, a2, a3, a4⟩ := hSw
          go_simp
        go_frame
        refine wpAnyH_take (i := 2) (v := (.pointer (some ⟨Q.b, 0, none⟩))) rfl (by kernel_rfl) (by kernel_rfl) (by kernel_rfl) (fun _ _ _ h => h) (Or.inl ⟨by rfl, ?_⟩) hHeld ?_
        · intro w' hSw
          obtain ⟨a0, a1, a2, a3, a4⟩ := hSw
          go_simp
        go_frame
        refine wpAnyH_take (i := 3) (v := (.pointer (some ⟨Q.b, 1, none⟩))) rfl (by kernel_rfl) (by kernel_rfl) (by kernel_rfl) (fun _ _ _ h => h) (Or.inl ⟨by rfl, ?_⟩) hHeld ?_
        · intro w' hSw
          obtain ⟨a0, a1, a2, a3, a4⟩ := hSw
          go_simp
        go_frame
        refine wpAnyH_take (i := 5) (v := (.agg #[.int .i64 kd, .string nm, .int .i64 fi, .int .i64 at_, .string d])) rfl (by kernel_rfl) (by kernel_rfl) (by kernel_rfl) (fun _ _ _ h => h) (Or.inl ⟨by rfl, ?_⟩) hHeld ?_
        · intro w' hSw
          obtain ⟨a0, a1, a2, a3, a4⟩ := hSw
          go_simp
        go_frame
        refine wpAnyH_ready (rs := [4]) (by kernel_rfl) (by simp) ?_
        refine AllReadyH.cons rfl (fun K hK => ?_) AllReadyH.nil
        go_simp
        refine hK.out _ _ hHeld (fun hHeld => ?_)
        clear hK K
        refine wpAnyH_ready (rs := [6]) (by kernel_rfl) (by simp) ?_
        refine AllReadyH.cons rfl (fun K hK => ?_) AllReadyH.nil
        go_simp
        (with_reducible refine HD.out.mono ?_)
        rintro e w2 ⟨v2, rfl, hr2, hb2⟩
        obtain ⟨a2, cap2, hv2, -⟩ := row_slice (row_base hr2 (Nat.zero_le _))
        subst hv2
        have hB2 : Blk w2 Q.b 64 _ := (hb2.block _ (blk_lt (show Blk WB.drew _ _ _ from HBB.out))).trans HBB.out
        have q1 := blk_cell hB2 1 (v := V 1) rfl
        have p1 := blk_frozen hB2 1
        have HX2 : Hid (Blk w2 wr.heap.size 99 #[.int .i64 kd, .string nm, .int .i64 fi, .int .i64 at_, .string d]) := Lib.hid ((hb2.block _ (blk_lt (show Blk WB.drew _ _ _ from HXB.out))).trans HXB.out)
        have HR2 := Lib.hid hr2; have HB2 := Lib.hid hb2
        clear hr2 hb2 hB2
        go_simp
        refine hK.out _ _ (bxs_of HX2.out) (fun hHeld => ?_)
        clear hK K
        refine wpAnyH_take (i := 7) (v := (.pointer (some ⟨Q.b, 0, none⟩))) rfl (by kernel_rfl) (by kernel_rfl) (by kernel_rfl) (fun _ _ _ h => h) (Or.inl ⟨by rfl, ?_⟩) hHeld ?_
        · intro w' hSw
          obtain ⟨a0, a1, a2, a3, a4⟩ := hSw
          go_simp
        go_frame
        refine wpAnyH_take (i := 8) (v := (.pointer (some ⟨Q.b, 1, none⟩))) rfl (by kernel_rfl) (by kernel_rfl) (by kernel_rfl) (fun _ _ _ h => h) (Or.inl ⟨by rfl, ?_⟩) hHeld ?_
        · intro w' hSw
          obtain ⟨a0, a1, a2, a3, a4⟩ := hSw
          go_simp
        go_frame
        refine wpAnyH_ready (rs := [9]) (by kernel_rfl) (by simp) ?_
        refine AllReadyH.cons rfl (fun K hK => ?_) AllReadyH.nil
        go_simp
        refine hK.out _ _ (bxs_of ((setCell_keep _ _ _ _ _ HNE.out).trans HX2.out)) (fun hHeld => ?_)
        clear hK K
        refine wpAnyH_done (by kernel_rfl) ?_ _
        go_wp2
        have HI3 := Lib.hid (sure_dir hI.out hlt HP.out HP.out (HB.out.trans ((Same.refl WB).drew.below.mono HB.out.size)) HB2.out HR2.out)
        go_roundw
        case rel => exact ⟨i + 1, _, by omega, by go_num, HI3⟩
        case measure => simp [intOf]; omega
      · have hpf : ofDir R.waits[i] = false := by simpa using hp
        have k1 : decide (kd < 3) = false := decide_eq_false (by have := hk2 hpf; omega)
        have k2 : ¬ kd < 3 := by have := hk2 hpf; omega
        have HP := Lib.hid hpf
        clear hk1 hk2 hk3 hp hpf
        have hke := hI.out.own
        have hkl := keptL_le ofDir (R.waits.take i)
        have hkt : (R.waits.take i).length = i := by rw [List.length_take]; omega
        have hkb : (keptL ofDir (R.waits.take i)).length ≤ 90000 := by omega
        have HOA := Lib.hid ((row_below hI.out.own HB.out).alloc (.cells #[.int .i64 kd, .string nm, .int .i64 fi, .int .i64 at_, .string d] 99))
        have HO1 := Lib.hid (row_one WB 99 5 [.int .i64 kd, .string nm, .int .i64 fi, .int .i64 at_, .string d] rfl)
        have HBASE := Lib.hid (show w.heap.size ≤ (WB.alloc (.cells #[.int .i64 kd, .string nm, .int .i64 fi, .int .i64 at_, .string d] 99)).heap.size from by
          have x1 := hI.out.stp.size; have x2 := HB.out.size; have x3 : (WB.alloc (.cells #[.int .i64 kd, .string nm, .int .i64 fi, .int .i64 at_, .string d] 99)).heap.size = WB.heap.size + 1 := by simp
          omega)
        clear hke hkl hkt
        obtain ⟨x0, x1, x2, x3, x4⟩ := bxs_of HXB.out
        go_upto_region 6 with (fail)
        rw [← HWB.out]
        clear HWB
        go_wp2_with (first
          | (at_builtin; refine wpList_append_row _ rfl _ _ 61 rfl w.heap.size 99 i1 _ 5 56 Tryz.underlying61 hi1 hz1 hs1 hbb1 rfl (by decide) _ _ _ rfl HOA.out (.slice (some ⟨WB.heap.size, 0, none⟩) 1 1) 1 [.int .i64 kd, .string nm, .int .i64 fi, .int .i64 at_, .string d] rfl HO1.out hone (by unfold maxLen; omega) (by omega) HBASE.out ?_; intro v3 w3 hown3 hgrow3 hb3))
        have HI3 := Lib.hid (sure_keep hI.out hlt HP.out (HB.out.alloc HB.out.size (.cells #[.int .i64 kd, .string nm, .int .i64 fi, .int .i64 at_, .string d] 99)) (by rw [HCC.out]; exact hown3) hgrow3 (hb3.imp_right (fun e => by rw [e])))
        clear hown3 hgrow3 hb3
        go_wp2
        go_roundw
        case rel => exact ⟨i + 1, V, by omega, by go_num, HI3⟩
        case measure => simp [intOf]; omega
    · obtain rfl : i = R.waits.length := by omega
      obtain ⟨a5, cap5, hv5, -⟩ := row_slice (row_base hI.out.own (Nat.zero_le _))
      subst hv5
      have f4 := blk_frozen hI.out.inv.blk 4
      have HE := Lib.hid (sure_end hI.out)
      simp only [List.take_length] at HE
      go_wp2
      go_returns
      exact ⟨rfl, _, HE.out.1, HE.out.2⟩
end Go.Proofs.YtkfncnpeockiaaaGreatDoor
