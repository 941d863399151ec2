/-
  Layer 7, the document's side: Write and Truncate. Condition: the rows are of at most ninety thousand entries, data and places as the law bounds them.
-/
import Derived.Test.YtkfncnpeockiaaaGreatDoorMg19
namespace Go.Proofs.YtkfncnpeockiaaaGreatDoor
open Go.RowKit
variable {w w' : World} {Q : QL} {R : RS}

set_option maxRecDepth 100000 in
set_option maxHeartbeats 4000000 in
theorem q7Trunc_any (p : ByteArray) (z : Int) (hz1 : -9223372036854775808 ≤ z) (hz2 : z ≤ 9223372036854775807) (h : QInv Q R w) (hd : QBd R) (hzz : z ≤ 20000 ∨ 4000000 < z) :
    Calls Tryz.prog 31 #[.pointer (some ⟨Q.b, 0, none⟩), .string p, .int .i64 z] w (QOut Q w (qcall (qtruIn p.data.toList z) R)) := by
  unfold qcall
  cases ho : qoff R with
  | some r =>
    obtain ⟨hr, hb⟩ := beg_some h (by have := hd.cnt; omega) (by have := hd.tel; omega) ho
    have HB := Lib.hid hb
    have t1 : (r.1 == 0) = false := by simpa using hr
    clear h hb hd ho
    rw [Option.getD_some]
    obtain ⟨x, T⟩ := r
    simp only at hr t1 HB
    go_enter Tryz.func31, Tryz.ntmps31
    go_wp2_with (first
      | (go_at_call 60; (with_reducible refine HB.out.mono ?_); rintro e w1 ⟨rfl, hI, hS⟩; have HI := Lib.hid hI; have HS := Lib.hid hS; clear hI hS))
    go_ret
    exact ⟨Q, rfl, HI.out, HS.out⟩
  | none =>
    have HB := Lib.hid (beg_none h (by have := hd.cnt; omega) (by have := hd.tel; omega) ho)
    rw [Option.getD_none]
    have hsen : (qbeg R).seen.length ≤ 90000 := hd.sen
    obtain ⟨dn, hdn⟩ : ∃ dn, dn = qdn (qbeg R) := ⟨_, rfl⟩
    rw [← hdn] at HB ⊢
    have HD := Lib.hid hd
    clear h hd ho hdn
    unfold qtruIn
    cases hq : findL (qbeg R).seen p.data.toList with
    | none =>
      have HQ := Lib.hid hq
      clear hq
      go_enter Tryz.func31, Tryz.ntmps31
      go_wp2_with (first
        | (go_at_call 60; (with_reducible refine HB.out.mono ?_); rintro e w1 ⟨rfl, hI, hS⟩; have HI := Lib.hid hI; have HS := Lib.hid hS; have c0 := blk_cell hI.blk 0 (v := Q.v 0) rfl; clear hI hS)
        | (go_at_call 63; (with_reducible refine (find_any2 HI.out hsen p HQ.out).mono ?_); rintro e w2 ⟨rfl, rfl⟩; rw [show fiI none = -1 from rfl])
        | (go_at_call 62; refine (qend_any HI.out 8 dn).mono ?_; rintro e w9 ⟨Q9, rfl, hI9, hS9⟩))
      go_ret
      exact ⟨Q9, rfl, hI9, HS.out.trans hS9⟩
    | some i =>
      have HQ := Lib.hid hq
      have s0 : ¬ (i : Int) < 0 := by omega
      have s9 : (0 : Int) ≤ i := by omega
      simp only []
      by_cases hr : z < 0 ∨ 4000000 < z
      · rw [if_pos hr]
        clear hq
        by_cases hr0 : z < 0
        · have t1 : decide (z < 0) = true := decide_eq_true hr0
          go_enter Tryz.func31, Tryz.ntmps31
          go_wp2_with (first
            | (go_at_call 60; (with_reducible refine HB.out.mono ?_); rintro e w1 ⟨rfl, hI, hS⟩; have HI := Lib.hid hI; have HS := Lib.hid hS; have c0 := blk_cell hI.blk 0 (v := Q.v 0) rfl; clear hI hS)
            | (go_at_call 63; (with_reducible refine (find_any2 HI.out hsen p HQ.out).mono ?_); rintro e w2 ⟨rfl, rfl⟩; rw [show fiI (some i) = (i : Int) from rfl])
            | (go_at_call 62; refine (qend_any HI.out 3 dn).mono ?_; rintro e w9 ⟨Q9, rfl, hI9, hS9⟩))
          go_ret
          exact ⟨Q9, rfl, hI9, HS.out.trans hS9⟩
        · have t1 : decide (z < 0) = false := decide_eq_false hr0
          have t2 : decide (4000000 < z) = true := decide_eq_true (by omega)
          go_enter Tryz.func31, Tryz.ntmps31
          go_wp2_with (first
            | (go_at_call 60; (with_reducible refine HB.out.mono ?_); rintro e w1 ⟨rfl, hI, hS⟩; have HI := Lib.hid hI; have HS := Lib.hid hS; have c0 := blk_cell hI.blk 0 (v := Q.v 0) rfl; clear hI hS)
            | (go_at_call 63; (with_reducible refine (find_any2 HI.out hsen p HQ.out).mono ?_); rintro e w2 ⟨rfl, rfl⟩; rw [show fiI (some i) = (i : Int) from rfl])
            | (go_at_call 62; refine (qend_any HI.out 3 dn).mono ?_; rintro e w9 ⟨Q9, rfl, hI9, hS9⟩))
          go_ret
          exact ⟨Q9, rfl, hI9, HS.out.trans hS9⟩
      · rw [if_neg hr]
        have t1 : decide (z < 0) = false := decide_eq_false (by omega)
        have t2 : decide (4000000 < z) = false := decide_eq_false (by omega)
        obtain ⟨sv, hsv⟩ : ∃ sv, sv = (qbeg R).seenB.getD i [] := ⟨_, rfl⟩
        rw [← hsv]
        have hle : sv.length ≤ 40000 := by rw [hsv]; exact getD_le HD.out.bK i
        have hsz := bz_size sv
        have hszI : (bz sv).size ≤ 40000 := by omega
        rw [← hsz]
        obtain ⟨qq, hqm, hqi⟩ := findL_in hq
        have hil : i < R.seenB.length := by rw [← hqi]; exact HD.out.seenK qq hqm
        have hilI : (i : Int) < R.seenB.length := by omega
        have hw3 : IntKind.i64.wrap (z - ((bz sv).size : Int)) = z - ((bz sv).size : Int) := IntWalk.i64_in _ ⟨by omega, by omega⟩
        have hG : ∀ w1, QInv Q (qbeg R) w1 → Calls Tryz.prog 65 #[.pointer (some ⟨Q.b, 0, none⟩), .int .i64 (z - ((bz sv).size : Int))] w1 fun e w' => e = .returned (.bool (qgrows (qbeg R) (z - ((bz sv).size : Int)))) ∧ ∃ q, w' = w1.drewN q := fun w1 hI =>
          qgrows_any hI HD.out.sen (by have := HD.out.sB; show R.seenB.length ≤ _; omega) HD.out.seenK HD.out.bK _ (by omega)
        have HG := Lib.hid hG
        have HSV := Lib.hid hsv
        clear hq hG hqm hqi hsz hsv
        cases hgr : qgrows (qbeg R) (z - ((bz sv).size : Int)) with
        | true =>
          rw [hgr] at HG
          rw [if_pos rfl]
          clear hgr
          go_enter Tryz.func31, Tryz.ntmps31
          go_wp2_with (first
            | (go_at_call 60; (with_reducible refine HB.out.mono ?_); rintro e w1 ⟨rfl, hI, hS⟩; have HI := Lib.hid hI; have HS := Lib.hid hS; have c0 := blk_cell hI.blk 0 (v := Q.v 0) rfl; have c2x := str_cells (hI.row 2 (.inl (by decide))); obtain ⟨a2, cap2, e2, hc2⟩ := c2x; obtain ⟨g2, hg2a, hg2, q2⟩ := hc2 i hil; rw [← HSV.out] at q2; subst hg2a; have c2 := blk_cell hI.blk 2 (v := .slice (some ⟨g2, 0, none⟩) R.seenB.length cap2) (by rw [← show Q.v 2 = .slice (some ⟨g2, 0, none⟩) R.seenB.length cap2 from e2]; rfl); clear hc2 e2 hg2; clear hI hS)
            | (go_at_call 63; (with_reducible refine (find_any2 HI.out hsen p HQ.out).mono ?_); rintro e w2 ⟨rfl, rfl⟩; rw [show fiI (some i) = (i : Int) from rfl])
            | (go_at_call 65; (with_reducible refine (HG.out _ HI.out).mono ?_); rintro e w4 ⟨rfl, hG⟩; obtain ⟨q4, hG⟩ := hG; subst hG; have HI4 := Lib.hid (show QInv Q (qbeg R) (w1.drewN q4) from HI.out.heap (fun _ _ => rfl)))
            | (go_at_call 62; refine (qend_any HI4.out 31 dn).mono ?_; rintro e w9 ⟨Q9, rfl, hI9, hS9⟩))
          go_ret
          exact ⟨Q9, rfl, hI9, HS.out.trans ((QStep.below ((Same.refl _).drewN _).below).trans hS9)⟩
        | false =>
          rw [hgr] at HG
          rw [if_neg (by decide)]
          have hC : ∀ w1, QInv Q (qbeg R) w1 → Calls Tryz.prog 64 #[.pointer (some ⟨Q.b, 0, none⟩), .agg #[.int .i64 4, .string ⟨#[]⟩, .int .i64 (i : Int), .int .i64 z, .string ⟨#[]⟩]] w1 fun e w' => e = .returned (.tuple #[]) ∧ ∃ Q', QInv Q' (qchange (.trunc i z.toNat) (qbeg R)) w' ∧ QStep Q w1 Q' w' := fun w1 hI => by
            have := qchange_any (.trunc i z.toNat) hI (show Chg.QOk R.seenB.length (.trunc i z.toNat) from ⟨hil, by omega⟩) HD.out.wts HD.out.sen (by have := HD.out.sB; show R.seenB.length ≤ _; omega) HD.out.bK
            rw [show (Chg.trunc i z.toNat).qc.toArray = #[.int .i64 4, .string ⟨#[]⟩, .int .i64 (i : Int), .int .i64 (z.toNat : Int), .string ⟨#[]⟩] from rfl, show ((z.toNat : Nat) : Int) = z by omega] at this
            exact this
          have HC := Lib.hid hC
          clear hgr hC
          go_enter Tryz.func31, Tryz.ntmps31
          go_wp2_with (first
            | (go_at_call 60; (with_reducible refine HB.out.mono ?_); rintro e w1 ⟨rfl, hI, hS⟩; have HI := Lib.hid hI; have HS := Lib.hid hS; have c0 := blk_cell hI.blk 0 (v := Q.v 0) rfl; have c2x := str_cells (hI.row 2 (.inl (by decide))); obtain ⟨a2, cap2, e2, hc2⟩ := c2x; obtain ⟨g2, hg2a, hg2, q2⟩ := hc2 i hil; rw [← HSV.out] at q2; subst hg2a; have c2 := blk_cell hI.blk 2 (v := .slice (some ⟨g2, 0, none⟩) R.seenB.length cap2) (by rw [← show Q.v 2 = .slice (some ⟨g2, 0, none⟩) R.seenB.length cap2 from e2]; rfl); clear hc2 e2 hg2; clear hI hS)
            | (go_at_call 63; (with_reducible refine (find_any2 HI.out hsen p HQ.out).mono ?_); rintro e w2 ⟨rfl, rfl⟩; rw [show fiI (some i) = (i : Int) from rfl])
            | (go_at_call 65; (with_reducible refine (HG.out _ HI.out).mono ?_); rintro e w4 ⟨rfl, hG⟩; obtain ⟨q4, hG⟩ := hG; subst hG; have HI4 := Lib.hid (show QInv Q (qbeg R) (w1.drewN q4) from HI.out.heap (fun _ _ => rfl)))
            | (go_at_call 64; (with_reducible refine (HC.out _ HI4.out).mono ?_); rintro e w5 ⟨rfl, Q2, hI2, hS2⟩; have HI2 := Lib.hid hI2; have HS2 := Lib.hid hS2; have HQ2 := Lib.hid hS2.b; clear hI2 hS2)
            | (go_at_call 62; rw [← HQ2.out]; refine (qend_any HI2.out 0 dn).mono ?_; rintro e w9 ⟨Q9, rfl, hI9, hS9⟩))
          go_ret
          exact ⟨Q9, rfl, hI9, HS.out.trans ((QStep.below ((Same.refl _).drewN _).below).trans (HS2.out.trans hS9))⟩

set_option maxRecDepth 100000 in
set_option maxHeartbeats 4000000 in
theorem q7Write_any (p : ByteArray) (o : Int) (ho1 : -9223372036854775808 ≤ o) (ho2 : o ≤ 9223372036854775807) (d : ByteArray) (hdz : d.size ≤ 20000) (h : QInv Q R w) (hd : QBd R) (hoz : o ≤ 20000 ∨ 4000000 < o) :
    Calls Tryz.prog 30 #[.pointer (some ⟨Q.b, 0, none⟩), .string p, .int .i64 o, .string d] w (QOut Q w (qcall (qwriIn p.data.toList o d.data.toList) R)) := by
  unfold qcall
  cases ho : qoff R with
  | some r =>
    obtain ⟨hr, hb⟩ := beg_some h (by have := hd.cnt; omega) (by have := hd.tel; omega) ho
    have HB := Lib.hid hb
    have t1 : (r.1 == 0) = false := by simpa using hr
    clear h hb hd ho
    rw [Option.getD_some]
    obtain ⟨x, T⟩ := r
    simp only at hr t1 HB
    go_enter Tryz.func30, Tryz.ntmps30
    go_wp2_with (first
      | (go_at_call 60; (with_reducible refine HB.out.mono ?_); rintro e w1 ⟨rfl, hI, hS⟩; have HI := Lib.hid hI; have HS := Lib.hid hS; clear hI hS))
    go_ret
    exact ⟨Q, rfl, HI.out, HS.out⟩
  | none =>
    have HB := Lib.hid (beg_none h (by have := hd.cnt; omega) (by have := hd.tel; omega) ho)
    rw [Option.getD_none]
    have hsen : (qbeg R).seen.length ≤ 90000 := hd.sen
    obtain ⟨dn, hdn⟩ : ∃ dn, dn = qdn (qbeg R) := ⟨_, rfl⟩
    rw [← hdn] at HB ⊢
    have HD := Lib.hid hd
    clear h hd ho hdn
    unfold qwriIn
    have hdl : d.data.toList.length = d.size := by simp
    rw [hdl]
    cases hq : findL (qbeg R).seen p.data.toList with
    | none =>
      have HQ := Lib.hid hq
      clear hq
      go_enter Tryz.func30, Tryz.ntmps30
      go_wp2_with (first
        | (go_at_call 60; (with_reducible refine HB.out.mono ?_); rintro e w1 ⟨rfl, hI, hS⟩; have HI := Lib.hid hI; have HS := Lib.hid hS; have c0 := blk_cell hI.blk 0 (v := Q.v 0) rfl; clear hI hS)
        | (go_at_call 63; (with_reducible refine (find_any2 HI.out hsen p HQ.out).mono ?_); rintro e w2 ⟨rfl, rfl⟩; rw [show fiI none = -1 from rfl])
        | (go_at_call 62; refine (qend_any HI.out 8 dn).mono ?_; rintro e w9 ⟨Q9, rfl, hI9, hS9⟩))
      go_ret
      exact ⟨Q9, rfl, hI9, HS.out.trans hS9⟩
    | some i =>
      have HQ := Lib.hid hq
      have s0 : ¬ (i : Int) < 0 := by omega
      have s9 : (0 : Int) ≤ i := by omega
      simp only []
      by_cases hr : o < 0 ∨ 4000000 - (d.size : Int) < o
      · rw [if_pos hr]
        clear hq
        by_cases hr0 : o < 0
        · have t1 : decide (o < 0) = true := decide_eq_true hr0
          have hw : IntKind.i64.wrap (4000000 - (d.size : Int)) = 4000000 - (d.size : Int) := IntWalk.i64_in _ ⟨by omega, by omega⟩
          go_enter Tryz.func30, Tryz.ntmps30
          go_wp2_with (first
            | (go_at_call 60; (with_reducible refine HB.out.mono ?_); rintro e w1 ⟨rfl, hI, hS⟩; have HI := Lib.hid hI; have HS := Lib.hid hS; have c0 := blk_cell hI.blk 0 (v := Q.v 0) rfl; clear hI hS)
            | (go_at_call 63; (with_reducible refine (find_any2 HI.out hsen p HQ.out).mono ?_); rintro e w2 ⟨rfl, rfl⟩; rw [show fiI (some i) = (i : Int) from rfl])
            | (go_at_call 62; refine (qend_any HI.out 3 dn).mono ?_; rintro e w9 ⟨Q9, rfl, hI9, hS9⟩))
          go_ret
          exact ⟨Q9, rfl, hI9, HS.out.trans hS9⟩
        · have t1 : decide (o < 0) = false := decide_eq_false hr0
          have t2 : decide (4000000 - (d.size : Int) < o) = true := decide_eq_true (by omega)
          have hw : IntKind.i64.wrap (4000000 - (d.size : Int)) = 4000000 - (d.size : Int) := IntWalk.i64_in _ ⟨by omega, by omega⟩
          go_enter Tryz.func30, Tryz.ntmps30
          go_wp2_with (first
            | (go_at_call 60; (with_reducible refine HB.out.mono ?_); rintro e w1 ⟨rfl, hI, hS⟩; have HI := Lib.hid hI; have HS := Lib.hid hS; have c0 := blk_cell hI.blk 0 (v := Q.v 0) rfl; clear hI hS)
            | (go_at_call 63; (with_reducible refine (find_any2 HI.out hsen p HQ.out).mono ?_); rintro e w2 ⟨rfl, rfl⟩; rw [show fiI (some i) = (i : Int) from rfl])
            | (go_at_call 62; refine (qend_any HI.out 3 dn).mono ?_; rintro e w9 ⟨Q9, rfl, hI9, hS9⟩))
          go_ret
          exact ⟨Q9, rfl, hI9, HS.out.trans hS9⟩
      · rw [if_neg hr]
        have t1 : decide (o < 0) = false := decide_eq_false (by omega)
        have t2 : decide (4000000 - (d.size : Int) < o) = false := decide_eq_false (by omega)
        have hw : IntKind.i64.wrap (4000000 - (d.size : Int)) = 4000000 - (d.size : Int) := IntWalk.i64_in _ ⟨by omega, by omega⟩
        by_cases hd0 : d.data.toList = []
        · rw [if_pos hd0]
          have t3 : (d.toList == []) = true := by rw [ByteArray.toList_eq, hd0]; rfl
          clear hq
          go_enter Tryz.func30, Tryz.ntmps30
          go_wp2_with (first
            | (go_at_call 60; (with_reducible refine HB.out.mono ?_); rintro e w1 ⟨rfl, hI, hS⟩; have HI := Lib.hid hI; have HS := Lib.hid hS; have c0 := blk_cell hI.blk 0 (v := Q.v 0) rfl; clear hI hS)
            | (go_at_call 63; (with_reducible refine (find_any2 HI.out hsen p HQ.out).mono ?_); rintro e w2 ⟨rfl, rfl⟩; rw [show fiI (some i) = (i : Int) from rfl])
            | (go_at_call 62; refine (qend_any HI.out 0 dn).mono ?_; rintro e w9 ⟨Q9, rfl, hI9, hS9⟩))
          go_ret
          exact ⟨Q9, rfl, hI9, HS.out.trans hS9⟩
        · rw [if_neg hd0]
          have t3 : (d.toList == []) = false := by rw [ByteArray.toList_eq]; simpa using hd0
          obtain ⟨sv, hsv⟩ : ∃ sv, sv = (qbeg R).seenB.getD i [] := ⟨_, rfl⟩
          rw [← hsv]
          have hle : sv.length ≤ 40000 := by rw [hsv]; exact getD_le HD.out.bK i
          have hsz := bz_size sv
          have hszI : (bz sv).size ≤ 40000 := by omega
          rw [← hsz]
          obtain ⟨qq, hqm, hqi⟩ := findL_in hq
          have hil : i < R.seenB.length := by rw [← hqi]; exact HD.out.seenK qq hqm
          have hilI : (i : Int) < R.seenB.length := by omega
          have hw2 : IntKind.i64.wrap (o + (d.size : Int)) = o + (d.size : Int) := IntWalk.i64_in _ ⟨by omega, by omega⟩
          have hw3 : IntKind.i64.wrap (o + (d.size : Int) - ((bz sv).size : Int)) = o + (d.size : Int) - ((bz sv).size : Int) := IntWalk.i64_in _ ⟨by omega, by omega⟩
          have hG : ∀ w1, QInv Q (qbeg R) w1 → Calls Tryz.prog 65 #[.pointer (some ⟨Q.b, 0, none⟩), .int .i64 (o + (d.size : Int) - ((bz sv).size : Int))] w1 fun e w' => e = .returned (.bool (qgrows (qbeg R) (o + (d.size : Int) - ((bz sv).size : Int)))) ∧ ∃ q, w' = w1.drewN q := fun w1 hI =>
            qgrows_any hI HD.out.sen (by have := HD.out.sB; show R.seenB.length ≤ _; omega) HD.out.seenK HD.out.bK _ (by omega)
          have HG := Lib.hid hG
          have HSV := Lib.hid hsv
          clear hq hG hqm hqi hsz hsv
          cases hgr : qgrows (qbeg R) (o + (d.size : Int) - ((bz sv).size : Int)) with
          | true =>
            rw [hgr] at HG
            rw [if_pos rfl]
            clear hgr
            go_enter Tryz.func30, Tryz.ntmps30
            go_wp2_with (first
              | (go_at_call 60; (with_reducible refine HB.out.mono ?_); rintro e w1 ⟨rfl, hI, hS⟩; have HI := Lib.hid hI; have HS := Lib.hid hS; have c0 := blk_cell hI.blk 0 (v := Q.v 0) rfl; have c2x := str_cells (hI.row 2 (.inl (by decide))); obtain ⟨a2, cap2, e2, hc2⟩ := c2x; obtain ⟨g2, hg2a, hg2, q2⟩ := hc2 i hil; rw [← HSV.out] at q2; subst hg2a; have c2 := blk_cell hI.blk 2 (v := .slice (some ⟨g2, 0, none⟩) R.seenB.length cap2) (by rw [← show Q.v 2 = .slice (some ⟨g2, 0, none⟩) R.seenB.length cap2 from e2]; rfl); clear hc2 e2 hg2; clear hI hS)
              | (go_at_call 63; (with_reducible refine (find_any2 HI.out hsen p HQ.out).mono ?_); rintro e w2 ⟨rfl, rfl⟩; rw [show fiI (some i) = (i : Int) from rfl])
              | (go_at_call 65; (with_reducible refine (HG.out _ HI.out).mono ?_); rintro e w4 ⟨rfl, hG⟩; obtain ⟨q4, hG⟩ := hG; subst hG; have HI4 := Lib.hid (show QInv Q (qbeg R) (w1.drewN q4) from HI.out.heap (fun _ _ => rfl)))
              | (go_at_call 62; refine (qend_any HI4.out 31 dn).mono ?_; rintro e w9 ⟨Q9, rfl, hI9, hS9⟩))
            go_ret
            exact ⟨Q9, rfl, hI9, HS.out.trans ((QStep.below ((Same.refl _).drewN _).below).trans hS9)⟩
          | false =>
            rw [hgr] at HG
            rw [if_neg (by decide)]
            have hC : ∀ w1, QInv Q (qbeg R) w1 → Calls Tryz.prog 64 #[.pointer (some ⟨Q.b, 0, none⟩), .agg #[.int .i64 3, .string ⟨#[]⟩, .int .i64 (i : Int), .int .i64 o, .string d]] w1 fun e w' => e = .returned (.tuple #[]) ∧ ∃ Q', QInv Q' (qchange (.write i o.toNat d.data.toList) (qbeg R)) w' ∧ QStep Q w1 Q' w' := fun w1 hI => by
              have := qchange_any (.write i o.toNat d.data.toList) hI (show Chg.QOk R.seenB.length (.write i o.toNat d.data.toList) from ⟨hil, by omega, by rw [hdl]; omega, hd0⟩) HD.out.wts HD.out.sen (by have := HD.out.sB; show R.seenB.length ≤ _; omega) HD.out.bK
              rw [show (Chg.write i o.toNat d.data.toList).qc.toArray = #[.int .i64 3, .string ⟨#[]⟩, .int .i64 (i : Int), .int .i64 (o.toNat : Int), .string (bz d.data.toList)] from rfl, bz_back, show ((o.toNat : Nat) : Int) = o by omega] at this
              exact this
            have HC := Lib.hid hC
            clear hgr hC
            go_enter Tryz.func30, Tryz.ntmps30
            go_wp2_with (first
              | (go_at_call 60; (with_reducible refine HB.out.mono ?_); rintro e w1 ⟨rfl, hI, hS⟩; have HI := Lib.hid hI; have HS := Lib.hid hS; have c0 := blk_cell hI.blk 0 (v := Q.v 0) rfl; have c2x := str_cells (hI.row 2 (.inl (by decide))); obtain ⟨a2, cap2, e2, hc2⟩ := c2x; obtain ⟨g2, hg2a, hg2, q2⟩ := hc2 i hil; rw [← HSV.out] at q2; subst hg2a; have c2 := blk_cell hI.blk 2 (v := .slice (some ⟨g2, 0, none⟩) R.seenB.length cap2) (by rw [← show Q.v 2 = .slice (some ⟨g2, 0, none⟩) R.seenB.length cap2 from e2]; rfl); clear hc2 e2 hg2; clear hI hS)
              | (go_at_call 63; (with_reducible refine (find_any2 HI.out hsen p HQ.out).mono ?_); rintro e w2 ⟨rfl, rfl⟩; rw [show fiI (some i) = (i : Int) from rfl])
              | (go_at_call 65; (with_reducible refine (HG.out _ HI.out).mono ?_); rintro e w4 ⟨rfl, hG⟩; obtain ⟨q4, hG⟩ := hG; subst hG; have HI4 := Lib.hid (show QInv Q (qbeg R) (w1.drewN q4) from HI.out.heap (fun _ _ => rfl)))
              | (go_at_call 64; (with_reducible refine (HC.out _ HI4.out).mono ?_); rintro e w5 ⟨rfl, Q2, hI2, hS2⟩; have HI2 := Lib.hid hI2; have HS2 := Lib.hid hS2; have HQ2 := Lib.hid hS2.b; clear hI2 hS2)
              | (go_at_call 62; rw [← HQ2.out]; refine (qend_any HI2.out 0 dn).mono ?_; rintro e w9 ⟨Q9, rfl, hI9, hS9⟩))
            go_ret
            exact ⟨Q9, rfl, hI9, HS.out.trans ((QStep.below ((Same.refl _).drewN _).below).trans (HS2.out.trans hS9))⟩
end Go.Proofs.YtkfncnpeockiaaaGreatDoor
