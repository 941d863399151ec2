/-
  Layer 7, the document's side: Sync and DirSync. Condition: the rows are of at most ninety thousand entries.
  Layer 7, the document's side: Read. Condition: the rows are of at most ninety thousand entries.
  Layer 7, the document's side: what holds in each round of Restart, and how each kind of round keeps it. No program text is walked here.
  Layer 7: the program's disk and the document's, side by side: Faults, CrashAt, Restart, a new disk. No program text is walked here.
  Layer 7: slices.Clone of a file's contents. Condition: at most four million bytes.
-/
import Derived.Test.YtkfncnpeockiaaaGreatDoorMg21
import Derived.Test.YtkfncnpeockiaaaGreatDoorMg22
import Derived.Test.YtkfncnpeockiaaaGreatDoorMg12
import Derived.Test.YtkfncnpeockiaaaGreatDoorMg13
import Derived.Test.YtkfncnpeockiaaaGreatDoorMg14
import Derived.Test.YtkfncnpeockiaaaGreatDoorMg17
import Derived.Test.YtkfncnpeockiaaaGreatDoorMg16
namespace Go.Proofs.YtkfncnpeockiaaaGreatDoor
open Go.RowKit
variable {w w' : World} {Q : QL} {R : RS}

theorem qByt_len {s : List UInt8} {c : Chg} {nf : Nat} (hs : s.length ≤ 40000) (hc : c.QOk nf) : (qByt s c).length ≤ 40000 := by
  cases c with
  | create _ _ => exact hs
  | remove _ => exact hs
  | write i o d =>
    obtain ⟨-, ho, hd, -⟩ := hc
    show (overD s o d).length ≤ 40000
    unfold overD
    simp only [List.length_append, List.length_take, List.length_drop, List.length_replicate]
    omega
  | trunc i z =>
    obtain ⟨-, hz⟩ := hc
    show (resizeL s z).length ≤ 40000
    rw [resizeL_len]
    omega
theorem qfold_sl (p : Chg → Bool) (nf : Nat) : ∀ (l : List Chg) (R : RS), (∀ c, c ∈ l → c.QOk nf) → (∀ s, s ∈ R.sureB → s.length ≤ 40000) → ∀ s, s ∈ (l.foldl (qstepP p) R).sureB → s.length ≤ 40000
  | [], _, _, h => h
  | c :: l, R, hc, h => by
    rw [List.foldl_cons]
    refine qfold_sl p nf l _ (fun c' hc' => hc c' (List.mem_cons_of_mem _ hc')) ?_
    unfold qstepP
    split
    · unfold qapp
      split
      · exact h
      · intro s hs
        rcases List.mem_or_eq_of_mem_set hs with hs | rfl
        · exact h s hs
        · exact qByt_len (getD_le h _) (hc c (List.mem_cons_self ..))
    · exact h
theorem qmid_sl (p : Chg → Bool) (R : RS) {nf : Nat} (hc : ∀ c, c ∈ R.waits → c.QOk nf) (h : ∀ s, s ∈ R.sureB → s.length ≤ 40000) (i : Nat) : ∀ s, s ∈ (qmid p R i).sureB → s.length ≤ 40000 :=
  qfold_sl p nf (R.waits.take i) R (fun c hc' => hc c (List.mem_of_mem_take hc')) h

set_option maxRecDepth 100000 in
set_option maxHeartbeats 4000000 in
theorem q7Sync_any (p : ByteArray) (h : QInv Q R w) (hd : QBd R) :
    Calls Tryz.prog 32 #[.pointer (some ⟨Q.b, 0, none⟩), .string p] w (QOut Q w (qcall (qsynIn p.data.toList) R)) := by
  unfold qcall
  cases ho : qoff R with
  | some r =>
    obtain ⟨hr, hb⟩ := beg_some h (by have := hd.cnt; omega) (by have := hd.tel; omega) ho
    have HB := Lib.hid hb
    have t1 : (r.1 == 0) = false := by simpa using hr
    clear h hb hd ho
    rw [Option.getD_some]
    obtain ⟨x, T⟩ := r
    simp only at hr t1 HB
    go_enter Tryz.func32, Tryz.ntmps32
    go_wp2_with (first
      | (go_at_call 60; (with_reducible refine HB.out.mono ?_); rintro e w1 ⟨rfl, hI, hS⟩; have HI := Lib.hid hI; have HS := Lib.hid hS; clear hI hS))
    go_ret
    exact ⟨Q, rfl, HI.out, HS.out⟩
  | none =>
    have HB := Lib.hid (beg_none h (by have := hd.cnt; omega) (by have := hd.tel; omega) ho)
    rw [Option.getD_none]
    have hsen : (qbeg R).seen.length ≤ 90000 := hd.sen
    obtain ⟨dn, hdn⟩ : ∃ dn, dn = qdn (qbeg R) := ⟨_, rfl⟩
    rw [← hdn] at HB ⊢
    have HD := Lib.hid hd
    clear h hd ho hdn
    unfold qsynIn
    cases hq : findL (qbeg R).seen p.data.toList with
    | none =>
      have HQ := Lib.hid hq
      clear hq
      go_enter Tryz.func32, Tryz.ntmps32
      go_wp2_with (first
        | (go_at_call 60; (with_reducible refine HB.out.mono ?_); rintro e w1 ⟨rfl, hI, hS⟩; have HI := Lib.hid hI; have HS := Lib.hid hS; have c0 := blk_cell hI.blk 0 (v := Q.v 0) rfl; clear hI hS)
        | (go_at_call 63; (with_reducible refine (find_any2 HI.out hsen p HQ.out).mono ?_); rintro e w2 ⟨rfl, rfl⟩; rw [show fiI none = -1 from rfl])
        | (go_at_call 62; refine (qend_any HI.out 8 dn).mono ?_; rintro e w9 ⟨Q9, rfl, hI9, hS9⟩))
      go_ret
      exact ⟨Q9, rfl, hI9, HS.out.trans hS9⟩
    | some i =>
      have HQ := Lib.hid hq
      have s0 : ¬ (i : Int) < 0 := by omega
      obtain ⟨qq, hqm, hqi⟩ := findL_in hq
      have hil : i < R.sureB.length := by rw [HD.out.lenB, ← hqi]; exact HD.out.seenK qq hqm
      have hok : ∀ c, c ∈ (qbeg R).waits → c.QOk (qbeg R).sureB.length := fun c hc => by show c.QOk R.sureB.length; rw [HD.out.lenB]; exact HD.out.wK c hc
      have hC : ∀ w1, QInv Q (qbeg R) w1 → Calls Tryz.prog 66 #[.pointer (some ⟨Q.b, 0, none⟩), .int .i64 (i : Int)] w1 fun e w' => e = .returned (.tuple #[]) ∧ ∃ Q', QInv Q' (qsettle (ofFile i) (qbeg R)) w' ∧ QStep Q w1 Q' w' := fun w1 hI =>
        qsureF_any i hil (qmid_sl (ofFile i) (qbeg R) hok HD.out.cK) hok hI HD.out.wts (by have := HD.out.sB; have := HD.out.lenB; show R.sureB.length ≤ _; omega)
      have HC := Lib.hid hC
      clear hq hqm hqi hil hok hC
      simp only []
      cases dn with
      | true =>
        rw [if_pos rfl]
        go_enter Tryz.func32, Tryz.ntmps32
        go_wp2_with (first
          | (go_at_call 60; (with_reducible refine HB.out.mono ?_); rintro e w1 ⟨rfl, hI, hS⟩; have HI := Lib.hid hI; have HS := Lib.hid hS; have c0 := blk_cell hI.blk 0 (v := Q.v 0) rfl; clear hI hS)
          | (go_at_call 63; (with_reducible refine (find_any2 HI.out hsen p HQ.out).mono ?_); rintro e w2 ⟨rfl, rfl⟩; rw [show fiI (some i) = (i : Int) from rfl])
          | (go_at_call 62; refine (qend_any HI.out 0 true).mono ?_; rintro e w9 ⟨Q9, rfl, hI9, hS9⟩))
        go_ret
        exact ⟨Q9, rfl, hI9, HS.out.trans hS9⟩
      | false =>
        rw [if_neg (by decide)]
        go_enter Tryz.func32, Tryz.ntmps32
        go_wp2_with (first
          | (go_at_call 60; (with_reducible refine HB.out.mono ?_); rintro e w1 ⟨rfl, hI, hS⟩; have HI := Lib.hid hI; have HS := Lib.hid hS; have c0 := blk_cell hI.blk 0 (v := Q.v 0) rfl; clear hI hS)
          | (go_at_call 63; (with_reducible refine (find_any2 HI.out hsen p HQ.out).mono ?_); rintro e w2 ⟨rfl, rfl⟩; rw [show fiI (some i) = (i : Int) from rfl])
          | (go_at_call 66; (with_reducible refine (HC.out _ HI.out).mono ?_); rintro e w5 ⟨rfl, Q2, hI2, hS2⟩; have HI2 := Lib.hid hI2; have HS2 := Lib.hid hS2; have HQ2 := Lib.hid hS2.b; clear hI2 hS2)
          | (go_at_call 62; rw [← HQ2.out]; refine (qend_any HI2.out 0 false).mono ?_; rintro e w9 ⟨Q9, rfl, hI9, hS9⟩))
        go_ret
        exact ⟨Q9, rfl, hI9, HS.out.trans (HS2.out.trans hS9)⟩

set_option maxRecDepth 100000 in
set_option maxHeartbeats 4000000 in
theorem q7DirSync_any (h : QInv Q R w) (hd : QBd R) (hsw : R.sure.length + R.waits.length ≤ 90000) :
    Calls Tryz.prog 33 #[.pointer (some ⟨Q.b, 0, none⟩)] w (QOut Q w (qcall (qdirIn) R)) := by
  unfold qcall
  cases ho : qoff R with
  | some r =>
    obtain ⟨hr, hb⟩ := beg_some h (by have := hd.cnt; omega) (by have := hd.tel; omega) ho
    have HB := Lib.hid hb
    have t1 : (r.1 == 0) = false := by simpa using hr
    clear h hb hd ho
    rw [Option.getD_some]
    obtain ⟨x, T⟩ := r
    simp only at hr t1 HB
    go_enter Tryz.func33, Tryz.ntmps33
    go_wp2_with (first
      | (go_at_call 60; (with_reducible refine HB.out.mono ?_); rintro e w1 ⟨rfl, hI, hS⟩; have HI := Lib.hid hI; have HS := Lib.hid hS; clear hI hS))
    go_ret
    exact ⟨Q, rfl, HI.out, HS.out⟩
  | none =>
    have HB := Lib.hid (beg_none h (by have := hd.cnt; omega) (by have := hd.tel; omega) ho)
    rw [Option.getD_none]
    obtain ⟨dn, hdn⟩ : ∃ dn, dn = qdn (qbeg R) := ⟨_, rfl⟩
    rw [← hdn] at HB ⊢
    have HD := Lib.hid hd
    clear h hd ho hdn
    have hC : ∀ w1, QInv Q (qbeg R) w1 → Calls Tryz.prog 66 #[.pointer (some ⟨Q.b, 0, none⟩), .int .i64 (-1)] w1 fun e w' => e = .returned (.tuple #[]) ∧ ∃ Q', QInv Q' (qsettle ofDir (qbeg R)) w' ∧ QStep Q w1 Q' w' := fun w1 hI =>
      qsureD_any hI HD.out.wts hsw (by have := HD.out.sB; have := HD.out.lenB; show R.sureB.length ≤ _; omega)
    have HC := Lib.hid hC
    clear hC hsw
    unfold qdirIn
    cases dn with
    | true =>
      rw [if_pos rfl]
      go_enter Tryz.func33, Tryz.ntmps33
      go_wp2_with (first
        | (go_at_call 60; (with_reducible refine HB.out.mono ?_); rintro e w1 ⟨rfl, hI, hS⟩; have HI := Lib.hid hI; have HS := Lib.hid hS; clear hI hS)
        | (go_at_call 62; refine (qend_any HI.out 0 true).mono ?_; rintro e w9 ⟨Q9, rfl, hI9, hS9⟩))
      go_ret
      exact ⟨Q9, rfl, hI9, HS.out.trans hS9⟩
    | false =>
      rw [if_neg (by decide)]
      go_enter Tryz.func33, Tryz.ntmps33
      go_wp2_with (first
        | (go_at_call 60; (with_reducible refine HB.out.mono ?_); rintro e w1 ⟨rfl, hI, hS⟩; have HI := Lib.hid hI; have HS := Lib.hid hS; clear hI hS)
        | (go_at_call 66; (with_reducible refine (HC.out _ HI.out).mono ?_); rintro e w5 ⟨rfl, Q2, hI2, hS2⟩; have HI2 := Lib.hid hI2; have HS2 := Lib.hid hS2; have HQ2 := Lib.hid hS2.b; clear hI2 hS2)
        | (go_at_call 62; rw [← HQ2.out]; refine (qend_any HI2.out 0 false).mono ?_; rintro e w9 ⟨Q9, rfl, hI9, hS9⟩))
      go_ret
      exact ⟨Q9, rfl, hI9, HS.out.trans (HS2.out.trans hS9)⟩
end Go.Proofs.YtkfncnpeockiaaaGreatDoor

namespace Go.Proofs.YtkfncnpeockiaaaGreatDoor
open Go.RowKit
variable {w w' : World} {Q : QL} {R : RS}

def QRd (Q : QL) (w : World) (r : (List UInt8 × Int) × RS) (e : Ending) (w' : World) : Prop := ∃ Q', e = .returned (.tuple #[.string (bz r.1.1), .int .i64 r.1.2]) ∧ QInv Q' r.2 w' ∧ QStep Q w Q' w'
theorem qoff_off (h : qoff R = none) : R.off = false := by
  unfold qoff at h
  by_cases ho : R.off = true
  · rw [if_pos ho] at h; cases h
  · simpa using ho
theorem bz_dropx (l : List UInt8) (k : Nat) : (bz l).extract k (bz l).size = bz (l.drop k) := by
  apply ByteArray.ext
  apply Array.ext'
  rw [bz_size]
  simp [bz, ByteArray.data_extract]
  exact List.take_of_length_le (by simp)

set_option maxRecDepth 100000 in
set_option maxHeartbeats 4000000 in
theorem q7Read_any (p : ByteArray) (o m : Int) (ho1 : -9223372036854775808 ≤ o) (ho2 : o ≤ 9223372036854775807) (hm1 : -9223372036854775808 ≤ m) (hm2 : m ≤ 9223372036854775807) (h : QInv Q R w) (hd : QBd R) :
    Calls Tryz.prog 29 #[.pointer (some ⟨Q.b, 0, none⟩), .string p, .int .i64 o, .int .i64 m] w (QRd Q w (qread p.data.toList o m R)) := by
  unfold qread
  cases ho : qoff R with
  | some r =>
    obtain ⟨hr, hb⟩ := beg_some h (by have := hd.cnt; omega) (by have := hd.tel; omega) ho
    have HB := Lib.hid hb
    have t1 : (r.1 == 0) = false := by simpa using hr
    clear h hb hd ho
    obtain ⟨x, T⟩ := r
    simp only at hr t1 HB
    go_enter Tryz.func29, Tryz.ntmps29
    go_wp2_with (first
      | (go_at_call 60; (with_reducible refine HB.out.mono ?_); rintro e w1 ⟨rfl, hI, hS⟩; have HI := Lib.hid hI; have HS := Lib.hid hS; clear hI hS))
    go_ret2
    exact ⟨Q, rfl, HI.out, HS.out⟩
  | none =>
    have HB := Lib.hid (beg_none h (by have := hd.cnt; omega) (by have := hd.tel; omega) ho)
    have hoff : R.off = false := qoff_off ho
    have hsen : (qbeg R).seen.length ≤ 90000 := hd.sen
    simp only []
    obtain ⟨dn, hdn⟩ : ∃ dn, dn = qdn (qbeg R) := ⟨_, rfl⟩
    rw [← hdn] at HB ⊢
    have HD := Lib.hid hd
    clear h hd ho hdn
    cases dn with
    | true =>
      unfold qreadIn
      cases hq : findL (qbeg R).seen p.data.toList with
      | none =>
        have HQ := Lib.hid hq
        clear hq
        go_enter Tryz.func29, Tryz.ntmps29
        go_wp2_with (first
          | (go_at_call 60; (with_reducible refine HB.out.mono ?_); rintro e w1 ⟨rfl, hI, hS⟩; have HI := Lib.hid hI; have HS := Lib.hid hS; have c0 := blk_cell hI.blk 0 (v := Q.v 0) rfl; clear hI hS)
          | (go_at_call 63; (with_reducible refine (find_any2 HI.out hsen p HQ.out).mono ?_); rintro e w2 ⟨rfl, rfl⟩; rw [show fiI none = -1 from rfl])
          | (go_at_call 62; refine (qend_any HI.out 8 true).mono ?_; rintro e w9 ⟨Q9, rfl, hI9, hS9⟩))
        go_ret2
        exact ⟨Q9, rfl, hI9, HS.out.trans hS9⟩
      | some i =>
        have HQ := Lib.hid hq
        have s0 : ¬ (i : Int) < 0 := by omega
        simp only []
        by_cases h1 : o < 0
        · rw [if_pos (.inl h1)]
          have t1 : decide (o < 0) = true := decide_eq_true h1
          clear hq
          go_enter Tryz.func29, Tryz.ntmps29
          go_wp2_with (first
            | (go_at_call 60; (with_reducible refine HB.out.mono ?_); rintro e w1 ⟨rfl, hI, hS⟩; have HI := Lib.hid hI; have HS := Lib.hid hS; have c0 := blk_cell hI.blk 0 (v := Q.v 0) rfl; clear hI hS)
            | (go_at_call 63; (with_reducible refine (find_any2 HI.out hsen p HQ.out).mono ?_); rintro e w2 ⟨rfl, rfl⟩; rw [show fiI (some i) = (i : Int) from rfl])
            | (go_at_call 62; refine (qend_any HI.out 3 true).mono ?_; rintro e w9 ⟨Q9, rfl, hI9, hS9⟩))
          go_ret2
          exact ⟨Q9, rfl, hI9, HS.out.trans hS9⟩
        · have t1 : decide (o < 0) = false := decide_eq_false h1
          by_cases h2 : m < 0
          · rw [if_pos (.inr h2)]
            have t2 : decide (m < 0) = true := decide_eq_true h2
            clear hq
            go_enter Tryz.func29, Tryz.ntmps29
            go_wp2_with (first
              | (go_at_call 60; (with_reducible refine HB.out.mono ?_); rintro e w1 ⟨rfl, hI, hS⟩; have HI := Lib.hid hI; have HS := Lib.hid hS; have c0 := blk_cell hI.blk 0 (v := Q.v 0) rfl; clear hI hS)
              | (go_at_call 63; (with_reducible refine (find_any2 HI.out hsen p HQ.out).mono ?_); rintro e w2 ⟨rfl, rfl⟩; rw [show fiI (some i) = (i : Int) from rfl])
              | (go_at_call 62; refine (qend_any HI.out 3 true).mono ?_; rintro e w9 ⟨Q9, rfl, hI9, hS9⟩))
            go_ret2
            exact ⟨Q9, rfl, hI9, HS.out.trans hS9⟩
          · rw [if_neg (by omega)]
            have t2 : decide (m < 0) = false := decide_eq_false h2
            clear hq
            go_enter Tryz.func29, Tryz.ntmps29
            go_wp2_with (first
              | (go_at_call 60; (with_reducible refine HB.out.mono ?_); rintro e w1 ⟨rfl, hI, hS⟩; have HI := Lib.hid hI; have HS := Lib.hid hS; have c0 := blk_cell hI.blk 0 (v := Q.v 0) rfl; clear hI hS)
              | (go_at_call 63; (with_reducible refine (find_any2 HI.out hsen p HQ.out).mono ?_); rintro e w2 ⟨rfl, rfl⟩; rw [show fiI (some i) = (i : Int) from rfl])
              | (go_at_call 62; refine (qend_any HI.out 0 true).mono ?_; rintro e w9 ⟨Q9, rfl, hI9, hS9⟩))
            go_ret2
            exact ⟨Q9, rfl, hI9, HS.out.trans hS9⟩
    | false =>
      rw [show ({ qbeg R with off := false } : RS) = qbeg R by rw [← show (qbeg R).off = false from hoff]]
      unfold qreadIn
      cases hq : findL (qbeg R).seen p.data.toList with
      | none =>
        have HQ := Lib.hid hq
        clear hq
        go_enter Tryz.func29, Tryz.ntmps29
        go_wp2_with (first
          | (go_at_call 60; (with_reducible refine HB.out.mono ?_); rintro e w1 ⟨rfl, hI, hS⟩; have HI := Lib.hid hI; have HS := Lib.hid hS; have c0 := blk_cell hI.blk 0 (v := Q.v 0) rfl; clear hI hS)
          | (go_at_call 63; (with_reducible refine (find_any2 HI.out hsen p HQ.out).mono ?_); rintro e w2 ⟨rfl, rfl⟩; rw [show fiI none = -1 from rfl])
          | (go_at_call 62; refine (qend_any HI.out 8 false).mono ?_; rintro e w9 ⟨Q9, rfl, hI9, hS9⟩))
        go_ret2
        exact ⟨Q9, rfl, hI9, HS.out.trans hS9⟩
      | some i =>
        have HQ := Lib.hid hq
        have s0 : ¬ (i : Int) < 0 := by omega
        simp only []
        by_cases h1 : o < 0
        · rw [if_pos (.inl h1)]
          have t1 : decide (o < 0) = true := decide_eq_true h1
          clear hq
          go_enter Tryz.func29, Tryz.ntmps29
          go_wp2_with (first
            | (go_at_call 60; (with_reducible refine HB.out.mono ?_); rintro e w1 ⟨rfl, hI, hS⟩; have HI := Lib.hid hI; have HS := Lib.hid hS; have c0 := blk_cell hI.blk 0 (v := Q.v 0) rfl; clear hI hS)
            | (go_at_call 63; (with_reducible refine (find_any2 HI.out hsen p HQ.out).mono ?_); rintro e w2 ⟨rfl, rfl⟩; rw [show fiI (some i) = (i : Int) from rfl])
            | (go_at_call 62; refine (qend_any HI.out 3 false).mono ?_; rintro e w9 ⟨Q9, rfl, hI9, hS9⟩))
          go_ret2
          exact ⟨Q9, rfl, hI9, HS.out.trans hS9⟩
        · have t1 : decide (o < 0) = false := decide_eq_false h1
          by_cases h2 : m < 0
          · rw [if_pos (.inr h2)]
            have t2 : decide (m < 0) = true := decide_eq_true h2
            clear hq
            go_enter Tryz.func29, Tryz.ntmps29
            go_wp2_with (first
              | (go_at_call 60; (with_reducible refine HB.out.mono ?_); rintro e w1 ⟨rfl, hI, hS⟩; have HI := Lib.hid hI; have HS := Lib.hid hS; have c0 := blk_cell hI.blk 0 (v := Q.v 0) rfl; clear hI hS)
              | (go_at_call 63; (with_reducible refine (find_any2 HI.out hsen p HQ.out).mono ?_); rintro e w2 ⟨rfl, rfl⟩; rw [show fiI (some i) = (i : Int) from rfl])
              | (go_at_call 62; refine (qend_any HI.out 3 false).mono ?_; rintro e w9 ⟨Q9, rfl, hI9, hS9⟩))
            go_ret2
            exact ⟨Q9, rfl, hI9, HS.out.trans hS9⟩
          · rw [if_neg (by omega)]
            have t2 : decide (m < 0) = false := decide_eq_false h2
            rw [if_neg (by decide)]
            obtain ⟨sv, hsv⟩ : ∃ sv, sv = (qbeg R).seenB.getD i [] := ⟨_, rfl⟩
            rw [← hsv]
            have hle : sv.length ≤ 40000 := by rw [hsv]; exact getD_le HD.out.bK i
            have hsz := bz_size sv
            obtain ⟨qq, hqm, hqi⟩ := findL_in hq
            have hil : i < R.seenB.length := by rw [← hqi]; exact HD.out.seenK qq hqm
            have hilI : (i : Int) < R.seenB.length := by omega
            obtain ⟨k, hk⟩ : ∃ k : Nat, (k : Int) = min o (sv.length : Int) := ⟨(min o (sv.length : Int)).toNat, by omega⟩
            obtain ⟨q, hqq⟩ : ∃ q : Nat, (q : Int) = min m ((sv.length - k : Nat) : Int) := ⟨(min m ((sv.length - k : Nat) : Int)).toNat, by omega⟩
            have HR := Lib.hid (readL_at sv o m k q hk (by omega) (by omega) hqq)
            obtain ⟨Z, hZ⟩ : ∃ Z, Z = bz (sv.drop k) := ⟨_, rfl⟩
            have hzs : Z.size = sv.length - k := by rw [hZ, bz_size, List.length_drop]
            have hkl : k ≤ (bz sv).size := by omega
            have e1 : (bz sv).extract k (bz sv).size = Z := by rw [hZ, bz_dropx]
            have m1 : min o ((bz sv).size : Int) = (k : Int) := by rw [hsz]; exact hk.symm
            have m2 : min m (Z.size : Int) = (q : Int) := by rw [hzs]; exact hqq.symm
            have hql : q ≤ Z.size := by omega
            have hklI : (k : Int) ≤ (bz sv).size := by omega
            have hqlI : (q : Int) ≤ Z.size := by omega
            have HZ := Lib.hid (show Z.extract 0 q = bz ((sv.drop k).take q) by rw [hZ]; exact bz_take _ _)
            have HSV := Lib.hid hsv
            have hszI : (bz sv).size ≤ 40000 := by omega
            clear hq hqm hqi hsv hk hqq hzs hZ hsz
            go_enter Tryz.func29, Tryz.ntmps29
            go_wp2_with (first
              | (go_at_call 60; (with_reducible refine HB.out.mono ?_); rintro e w1 ⟨rfl, hI, hS⟩; have HI := Lib.hid hI; have HS := Lib.hid hS; have c0 := blk_cell hI.blk 0 (v := Q.v 0) rfl; have c2x := str_cells (hI.row 2 (.inl (by decide))); obtain ⟨a2, cap2, e2, hc2⟩ := c2x; obtain ⟨g2, hg2a, hg2, q2⟩ := hc2 i hil; rw [← HSV.out] at q2; subst hg2a; have c2 := blk_cell hI.blk 2 (v := .slice (some ⟨g2, 0, none⟩) R.seenB.length cap2) (by rw [← show Q.v 2 = .slice (some ⟨g2, 0, none⟩) R.seenB.length cap2 from e2]; rfl); clear hc2 e2 hg2; clear hI hS)
              | (go_at_call 63; (with_reducible refine (find_any2 HI.out hsen p HQ.out).mono ?_); rintro e w2 ⟨rfl, rfl⟩; rw [show fiI (some i) = (i : Int) from rfl]))
            go_ret2
            exact ⟨Q, by rw [HZ.out, HR.out]; rfl, HI.out, HS.out⟩
end Go.Proofs.YtkfncnpeockiaaaGreatDoor

namespace Go.Proofs.YtkfncnpeockiaaaGreatDoor
open Go.RowKit
variable {w w' : World} {Q : QL} {R T : RS}

structure MidI (Q : QL) (w : World) (T : RS) (wr : World) (V : Nat → Value) : Prop where
  inv : QInv ⟨Q.b, V⟩ T wr
  stp : QStep Q w ⟨Q.b, V⟩ wr
  v3 : ∀ j, fld j → j ≠ 3 → ∀ g, (V 3).ownBlock = some g → (V j).ownBlock ≠ some g
  new3 : ∀ g, (V 3).ownBlock = some g → w.heap.size ≤ g
  old : Q.b < w.heap.size
variable {wr wx : World} {V : Nat → Value}
theorem mid_below (h : MidI Q w T wr V) (hb : Below wr.heap.size wr wx) : MidI Q w T wx V := ⟨h.inv.below hb, h.stp.trans (QStep.below hb), h.v3, h.new3, h.old⟩
theorem mid_start (h : QInv Q R w) {w5 : World} {v5 : Value} (hb : Below w.heap.size w w5) (hr : w5.ownsRow w.heap.size 9 1 v5 R.sureB.length (R.sureB.flatMap strC)) :
    MidI Q w R (w5.setCell ⟨Q.b, 3, none⟩ v5) (updN Q.v 3 v5) := by
  have := sure_start (p := ofDir) h hb hr
  exact ⟨this.inv, this.stp, this.v3, this.new3, this.old⟩
theorem mid_dir (h : MidI Q w T wr V) (l : List (List UInt8 × Nat)) {w2 : World} {v2 : Value} (hb2 : Below wr.heap.size wr w2) (hr : w2.ownsRow wr.heap.size 104 2 v2 l.length (l.flatMap entC)) :
    MidI Q w { T with sure := l } (w2.setCell ⟨Q.b, 1, none⟩ v2) (updN V 1 v2) := by
  have hput := q_put (R' := { T with sure := l }) h.inv 1 (.inl (by decide)) hb2 (row_base hr (Nat.zero_le _)) (fun g hg => (hr.lt g hg).1)
    (fun j hj hne => four_or hj (fun j => j ≠ 1 → eln { T with sure := l } j = eln T j ∧ ecl { T with sure := l } j = ecl T j) (fun _ => ⟨rfl, rfl⟩) (fun e => absurd rfl e) (fun _ => ⟨rfl, rfl⟩) (fun _ => ⟨rfl, rfl⟩) (fun _ => ⟨rfl, rfl⟩) (fun _ => ⟨rfl, rfl⟩) hne) ⟨rfl, rfl, rfl, rfl⟩
  refine ⟨hput.1, h.stp.trans hput.2, fun j hj hne g hq e => ?_, fun g hq => ?_, h.old⟩
  · have hq3 : (V 3).ownBlock = some g := by simpa [updN] using hq
    unfold updN at e
    split at e
    · have h1 := (hr.lt g e).1
      have h2 := h.inv.lt (.inr ⟨3, .inl (by decide), hq3⟩)
      omega
    · exact h.v3 j hj hne g hq3 e
  · exact h.new3 g (by simpa [updN] using hq)
theorem mid_file (h : MidI Q w T wr V) {g3 n cap : Nat} (hn : n = T.sureB.length) (hv : V 3 = .slice (some ⟨g3, 0, none⟩) n cap) (f : Nat) (x : List UInt8) :
    MidI Q w { T with sureB := T.sureB.set f x } (wr.setCell ⟨g3, f, none⟩ (.string (bz x))) V := by
  subst hn
  have hg3 : w.heap.size ≤ g3 := h.new3 g3 (by rw [hv]; rfl)
  have hrw := h.inv.row 3 (.inl (by decide))
  change wr.ownsRow 0 9 1 (V 3) T.sureB.length (T.sureB.flatMap strC) at hrw
  rw [hv] at hrw
  refine ⟨q_cell (R' := { T with sureB := T.sureB.set f x }) h.inv 3 (.inl (by decide)) hv (fun j hj hne => h.v3 j hj hne g3 (by rw [hv]; rfl)) _ _ ?_ ?_ ⟨rfl, rfl, rfl, rfl⟩, qstep_cell h.stp hg3 _ _, h.v3, h.new3, h.old⟩
  · show World.ownsRow _ 0 9 1 (V 3) (T.sureB.set f x).length ((T.sureB.set f x).flatMap strC)
    rw [List.length_set, str_set, hv]
    exact (hrw.stored _ _).1
  · exact fun j hj hne => four_or hj (fun j => j ≠ 3 → eln { T with sureB := T.sureB.set f x } j = eln T j ∧ ecl { T with sureB := T.sureB.set f x } j = ecl T j) (fun _ => ⟨rfl, rfl⟩) (fun _ => ⟨rfl, rfl⟩) (fun _ => ⟨rfl, rfl⟩) (fun e => absurd rfl e) (fun _ => ⟨rfl, rfl⟩) (fun _ => ⟨rfl, rfl⟩) hne
theorem qsurvN_step (u : Nat → Nat) (l : List Chg) (R : RS) (k : Nat) (hk : k < l.length) : qsurvN u l R (k + 1) = qsurv l[k] (u k) (qsurvN u l R k) := by
  show (match l[k]? with | some c => qsurv c (u k) (qsurvN u l R k) | none => qsurvN u l R k) = _
  rw [List.getElem?_eq_getElem hk]
theorem qsurv_none {c : Chg} {u : Nat} (h : u % 3 = 0) : qsurv c u T = T := by unfold qsurv survC; rw [if_pos h]
theorem qsurv_one {c : Chg} {u : Nat} (h0 : ¬ u % 3 = 0) (h2 : ¬ u % 3 = 2) (hd : noDat c = false) : qsurv c u T = qapp c T := by unfold qsurv survC; rw [if_neg h0, if_neg h2]; simp [hd]
theorem qsurv_cut {c : Chg} {u : Nat} (h2 : u % 3 = 2) (hd : noDat (cutC (u / 3 % ((datL c).length + 1)) c) = false) : qsurv c u T = qapp (cutC (u / 3 % ((datL c).length + 1)) c) T := by
  unfold qsurv survC
  rw [if_neg (by omega), if_pos h2]
  simp [hd]
theorem qsurv_cut0 {c : Chg} {u : Nat} (h2 : u % 3 = 2) (hd : noDat (cutC (u / 3 % ((datL c).length + 1)) c) = true) : qsurv c u T = T := by
  unfold qsurv survC
  rw [if_neg (by omega), if_pos h2]
  simp [hd]
theorem cutC_qok {nf k : Nat} {c : Chg} (h : c.QOk nf) (hd : noDat (cutC k c) = false) : (cutC k c).QOk nf := by
  cases c with
  | create _ _ => exact h
  | remove _ => exact h
  | trunc _ _ => exact h
  | write i o d =>
    obtain ⟨h1, h2, h3, h4⟩ := h
    refine ⟨h1, h2, ?_, fun e => ?_⟩
    · rw [List.length_take]; omega
    · have : noDat (cutC k (.write i o d)) = noDat (.write i o (d.take k)) := rfl
      rw [this, e] at hd
      cases hd
theorem qok_dat {nf : Nat} {c : Chg} (h : c.QOk nf) : noDat c = false := by
  cases c with
  | create _ _ => rfl
  | remove _ => rfl
  | trunc _ _ => rfl
  | write i o d =>
    cases d with
    | nil => exact absurd rfl h.2.2.2
    | cons _ _ => rfl
/-- The bounds in each round. -/
theorem qsurvN_bd (u : Nat → Nat) {nf : Nat} (R : RS) (hc : ∀ c, c ∈ R.waits → c.QOk nf) (hs : ∀ s, s ∈ R.sureB → s.length ≤ 40000) : ∀ k, k ≤ R.waits.length →
    (qsurvN u R.waits R k).waits = R.waits ∧ (qsurvN u R.waits R k).sureB.length = R.sureB.length ∧ (qsurvN u R.waits R k).sure.length ≤ R.sure.length + k ∧ ∀ s, s ∈ (qsurvN u R.waits R k).sureB → s.length ≤ 40000
  | 0, _ => ⟨rfl, rfl, Nat.le_refl _, hs⟩
  | k + 1, hk => by
    obtain ⟨h1, h2, h3, h4⟩ := qsurvN_bd u R hc hs k (Nat.le_of_succ_le hk)
    rw [qsurvN_step u R.waits R k hk]
    have app : ∀ c : Chg, c.QOk nf → (qapp c (qsurvN u R.waits R k)).waits = R.waits ∧ (qapp c (qsurvN u R.waits R k)).sureB.length = R.sureB.length ∧ (qapp c (qsurvN u R.waits R k)).sure.length ≤ R.sure.length + (k + 1) ∧ ∀ s, s ∈ (qapp c (qsurvN u R.waits R k)).sureB → s.length ≤ 40000 := by
      intro c hcc
      unfold qapp
      split
      · exact ⟨h1, h2, by have := qDir_len (qsurvN u R.waits R k).sure c; show (qDir _ c).length ≤ _; omega, h4⟩
      · refine ⟨h1, (List.length_set ..).trans h2, Nat.le_succ_of_le h3, fun s hs' => ?_⟩
        rcases List.mem_or_eq_of_mem_set hs' with hs' | rfl
        · exact h4 s hs'
        · exact qByt_len (getD_le h4 _) hcc
    have hok := hc R.waits[k] (List.getElem_mem hk)
    unfold qsurv survC
    by_cases e0 : u k % 3 = 0
    · rw [if_pos e0]; exact ⟨h1, h2, Nat.le_succ_of_le h3, h4⟩
    · rw [if_neg e0]
      by_cases e2 : u k % 3 = 2
      · rw [if_pos e2]
        cases hd : noDat (cutC (u k / 3 % ((datL R.waits[k]).length + 1)) R.waits[k]) with
        | true => simp only [hd, if_pos]; exact ⟨h1, h2, Nat.le_succ_of_le h3, h4⟩
        | false => simp only [hd]; exact app _ (cutC_qok hok hd)
      · rw [if_neg e2]
        simp only [qok_dat hok]
        exact app _ hok
end Go.Proofs.YtkfncnpeockiaaaGreatDoor

namespace Go.Proofs.YtkfncnpeockiaaaGreatDoor
open Go.RowKit
variable {S : DS} {R : RS}

theorem tellL_two (a x k : Int) : tellL [(a, x), (a, 30)] k = putF (fun _ => 0) a (if x = 0 then 30 else x) k := by
  unfold tellL putF
  by_cases hk : a = k
  · subst hk
    by_cases hx : x = 0
    · subst hx
      simp
    · have h1 : (x == 0) = false := by simpa using hx
      simp [List.find?, h1, hx]
  · have h1 : (a == k) = false := by simpa using hk
    have h2 : ¬ k = a := fun e => hk e.symm
    simp [List.find?, h1, h2]
theorem sim_faults (h : SimD S R) (a x : Int) : SimD (faultsS S a x) { R with tells := [(a, x), (a, 30)] } :=
  ⟨{ h.1 with tel := fun k => tellL_two a x k }, h.2⟩
theorem sim_nofaults (h : SimD S R) : SimD { S with flt := fun _ => 0 } { R with tells := [] } := ⟨{ h.1 with tel := fun _ => rfl }, h.2⟩
theorem sim_crash (h : SimD S R) (z : Int) : SimD { S with crash := z } (qcrash z R) := by
  refine ⟨{ h.1 with cra := fun k hk => ?_ }, h.2⟩
  show ((k : Int) = (if (R.count : Int) < z then z else 0)) ↔ (k : Int) = z
  have hc := h.1.cnt
  change S.ops < k at hk
  split
  · exact Iff.rfl
  · constructor
    · intro e; omega
    · intro e; omega
/-- What the choices leave, on the program's side. -/
def survF (u : Nat → Nat) (l : List Chg) (S : DS) : Nat → DS
  | 0 => S
  | k + 1 => match l[k]? with
    | some c => survS c (u k) (survF u l S k)
    | none => survF u l S k
theorem survF_step (u : Nat → Nat) (l : List Chg) (S : DS) (k : Nat) (hk : k < l.length) : survF u l S (k + 1) = survS l[k] (u k) (survF u l S k) := by
  show (match l[k]? with | some c => survS c (u k) (survF u l S k) | none => survF u l S k) = _
  rw [List.getElem?_eq_getElem hk]
theorem survS_nf (c : Chg) (u : Nat) (S : DS) : (survS c u S).nf = S.nf := by
  unfold survS
  split
  · rfl
  · exact applyS_nf _ _ _
theorem survF_nf (u : Nat → Nat) (l : List Chg) (S : DS) : ∀ k, (survF u l S k).nf = S.nf
  | 0 => rfl
  | k + 1 => by
    unfold survF
    split
    · exact (survS_nf _ _ _).trans (survF_nf u l S k)
    · exact survF_nf u l S k
theorem sim_nodat (h : Sim S R) (i o : Nat) : Sim (applyS true (.write i o []) S) R := { h with
  vis := fun p hp => by
    show R.seenB.getD p.2 [] = upd2 S.con true i (overL (S.con true i) o []) false p.2
    simp only [upd2]
    rw [if_neg (by simp)]
    exact h.vis p hp
  dur := fun j hj => by
    show R.sureB.getD j [] = upd2 S.con true i (overL (S.con true i) o []) true j
    rw [show overL (S.con true i) o [] = S.con true i by unfold overL; rw [if_pos rfl]]
    simp only [upd2]
    split
    · rename_i e
      rw [e.2] at hj ⊢
      exact h.dur i hj
    · exact h.dur j hj }
theorem sim_surv (h : Sim S R) (c : Chg) (hc : c.QOk S.nf) (u : Nat) : Sim (survS c u S) (qsurv c u R) := by
  have key : ∀ c' : Chg, (noDat c' = false → c'.QOk S.nf) → Sim (applyS true c' S) (if noDat c' = true then R else qapp c' R) := by
    intro c' hc'
    cases hd : noDat c' with
    | false => rw [if_neg (by decide)]; exact sim_app h c' (hc' hd)
    | true =>
      rw [if_pos rfl]
      match c', hd with
      | .write i o [], _ => exact sim_nodat h i o
  unfold survS qsurv survC
  by_cases h0 : u % 3 = 0
  · rw [if_pos h0]; exact h
  · rw [if_neg h0]
    by_cases h2 : u % 3 = 2
    · rw [if_pos h2]; exact key _ (fun hd => cutC_qok hc hd)
    · rw [if_neg h2]; exact key _ (fun _ => hc)
theorem sim_survN (h : Sim S R) (u : Nat → Nat) : ∀ k, Sim (survF u S.pend S k) (qsurvN u R.waits R k)
  | 0 => h
  | k + 1 => by
    have ih := sim_survN h u k
    unfold survF qsurvN
    rw [h.wts] at ih ⊢
    cases hk : S.pend[k]? with
    | none => exact ih
    | some c => exact sim_surv ih c (by rw [survF_nf]; exact h.pok c (List.mem_of_getElem? hk)) (u k)
/-- The program's state behind a Restart. -/
def restartS (u : Nat → Nat) (S : DS) : DS :=
  let T := survF u S.pend S S.pend.length
  { T with dirs := upd T.dirs false (T.dirs true), pend := [], con := fun s i => if s = false ∧ (T.dirs true).any (fun p => p.2 == i) = true then T.con true i else T.con s i, flt := fun _ => 0, crash := 0, down := false }
theorem sim_restart (h : Sim S R) (u : Nat → Nat) : SimD (restartS u S) (qrestart u R) := by
  have hT := sim_survN h u S.pend.length
  unfold restartS qrestart
  rw [show R.waits.length = S.pend.length by rw [h.wts]]
  generalize survF u S.pend S S.pend.length = T at *
  generalize qsurvN u R.waits R S.pend.length = U at *
  refine ⟨?_, rfl⟩
  exact { hT with
    seen := by show U.sure = upd T.dirs false (T.dirs true) false; rw [upd_same]; exact hT.sure
    sure := by show U.sure = upd T.dirs false (T.dirs true) true; rw [upd_other _ _ (by decide)]; exact hT.sure
    nB := hT.nC
    vis := fun p hp => by
      change p ∈ upd T.dirs false (T.dirs true) false at hp
      rw [upd_same] at hp
      show U.sureB.getD p.2 [] = if false = false ∧ (T.dirs true).any (fun q => q.2 == p.2) = true then T.con true p.2 else T.con false p.2
      rw [if_pos ⟨rfl, List.any_eq_true.2 ⟨p, hp, by simp⟩⟩]
      exact hT.dur p.2 (hT.dok true p hp)
    dur := fun i hi => by
      show U.sureB.getD i [] = if true = false ∧ (T.dirs true).any (fun q => q.2 == i) = true then T.con true i else T.con true i
      rw [if_neg (by simp)]
      exact hT.dur i hi
    wts := rfl
    tel := fun _ => rfl
    cra := fun _ _ => Iff.rfl
    dok := fun s p hp => by
      change p ∈ upd T.dirs false (T.dirs true) s at hp
      unfold upd at hp
      split at hp
      · exact hT.dok true p hp
      · exact hT.dok s p hp
    pok := fun c hc => by cases hc }
end Go.Proofs.YtkfncnpeockiaaaGreatDoor

namespace Go.Proofs.YtkfncnpeockiaaaGreatDoor
open Go.RowKit
variable {w w' : World}

theorem one_byte (l : List UInt8) : ∀ u ∈ Lib.byteCells l, u.oneCell' = true := fun u hu => by
  obtain ⟨b, -, rfl⟩ := List.mem_map.1 hu
  rfl
theorem grown_new1 {a a' : World} {o : Obj} (hg : (a.alloc o).grownBy a' (some a.heap.size)) : Below a.heap.size a a' :=
  ((Below.refl _ a).alloc (Nat.le_refl _) o).grown hg (by simp) (fun k e => by cases e; exact Nat.le_refl _)
theorem eqlB_nil (w : World) : (binOp .eql 79 (.slice none 0 0) (.slice none 0 0)).run Tryz.prog w = .ok (.bool true) w := by kernel_rfl
theorem eqlB_some (w : World) (g n cap : Nat) : (binOp .eql 79 (.slice (some ⟨g, 0, none⟩) n cap) (.slice none 0 0)).run Tryz.prog w = .ok (.bool false) w := by kernel_rfl
set_option maxRecDepth 100000 in
theorem sclone_any {v : Value} {l : List UInt8} (h : Bys w v l) (hl : l.length ≤ 4000000) :
    Calls Tryz.prog 49 #[v] w fun e w' => ∃ v', e = .returned v' ∧ Bys w' v' l ∧ Below w.heap.size w w' ∧ ∀ g, v'.ownBlock = some g → w.heap.size ≤ g := by
  rcases bys_cases h with ⟨rfl, rfl⟩ | ⟨g, cap, cur, rfl, -⟩
  · have H := Lib.hid h
    have e0 := eqlB_nil
    clear h
    go_enter Tryz.func49, Tryz.ntmps49
    go_wp2
    go_ret
    exact ⟨_, rfl, H.out, Below.refl _ _, fun g e => by cases e⟩
  · obtain ⟨i, hi, hz⟩ : ∃ i, Tryz.prog.info? 5 = some i ∧ (i.zero = some (.int .u8 0) ∧ i.size = 1 ∧ i.bytes = 1) := by
      have := u8_info
      cases hq : Tryz.prog.info? 5 with
      | none => rw [hq] at this; simp at this
      | some i => rw [hq] at this; simp at this; exact ⟨i, rfl, this⟩
    have H := Lib.hid h
    have e0 := eqlB_some
    clear h
    go_enter Tryz.func49, Tryz.ntmps49
    go_wp2_with (at_builtin; refine wpList_append_row _ rfl _ _ 79 rfl w.heap.size 5 i _ 1 1 Tryz.underlying79 hi hz.1 hz.2.1 hz.2.2 rfl (by decide) (.slice (some ⟨w.heap.size, 0, none⟩) 0 0) 0 [] rfl (row_none w 5 1) (.slice (some ⟨g, 0, none⟩) l.length cap) l.length (Lib.byteCells l) rfl (H.out.alloc _) (one_byte l) (by unfold maxLen; omega) (by omega) (by simp) ?_; intro v5 w5 hown5 hgrow5 hbk5)
    rw [Nat.zero_add, List.nil_append] at hown5
    go_ret
    exact ⟨_, rfl, row_base hown5 (Nat.zero_le _), grown_new1 hgrow5, fun g e => (hown5.lt g e).1⟩
end Go.Proofs.YtkfncnpeockiaaaGreatDoor
