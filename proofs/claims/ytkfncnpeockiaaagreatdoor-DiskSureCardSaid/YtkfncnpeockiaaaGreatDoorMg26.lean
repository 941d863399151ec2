/-
  Layer 7, the document's side: how long its parts get, call by call. No program text is walked here.
  Layer 7, the document's side: Names. Condition: the directory has at most ninety thousand entries.
  Layer 7: the program's disk and the document's, side by side in one memory, apart; each call of either leaves the other as it was. Condition: the sizes that each contract asks.
  Layer 7: both disks side by side: Faults, Restart and what tells of faults; append([]int{}, l...). Condition: the sizes that each contract asks.
  Layer 7: one step of DiskDoes on the two disks' states: both stay alike, the paths differ, and the bounds grow by 4. No program text is walked here.
-/
import Derived.Maps.AppendAt
import Derived.Test.YtkfncnpeockiaaaGreatDoorMg23
import Derived.Test.YtkfncnpeockiaaaGreatDoorMg14
import Derived.Test.YtkfncnpeockiaaaGreatDoorMg18
import Derived.Test.YtkfncnpeockiaaaGreatDoorMg24
import Derived.Test.YtkfncnpeockiaaaGreatDoorMg25
import Derived.Test.YtkfncnpeockiaaaGreatDoorMg21
import Derived.Test.YtkfncnpeockiaaaGreatDoorMg10
namespace Go.Proofs.YtkfncnpeockiaaaGreatDoor
open Go.RowKit
variable {R : RS} {k : Nat}

structure QBk (k : Nat) (R : RS) : Prop where
  cnt : R.count ≤ k
  tel : R.tells.length ≤ 2
  sw : R.sure.length + R.waits.length ≤ k
  sen : R.seen.length ≤ k
  sB : R.seenB.length ≤ k
  lenB : R.sureB.length = R.seenB.length
  seenK : ∀ p, p ∈ R.seen → p.2 < R.seenB.length
  sureK : ∀ p, p ∈ R.sure → p.2 < R.seenB.length
  wK : ∀ c, c ∈ R.waits → c.QOk R.seenB.length
  bK : ∀ s, s ∈ R.seenB → s.length ≤ 40000
  cK : ∀ s, s ∈ R.sureB → s.length ≤ 40000
theorem bk_mono {k' : Nat} (h : QBk k R) (hk : k ≤ k') : QBk k' R := { h with cnt := Nat.le_trans h.cnt hk, sw := Nat.le_trans h.sw hk, sen := Nat.le_trans h.sen hk, sB := Nat.le_trans h.sB hk }
theorem bk_bd (h : QBk k R) (hk : k ≤ 80000) : QBd R := { h with
  cnt := by have := h.cnt; omega
  tel := by have := h.tel; omega
  wts := by have := h.sw; omega
  sen := by have := h.sen; omega
  sur := by have := h.sw; omega
  sB := by have := h.sB; omega }
theorem bk_beg (h : QBk k R) : QBk (k + 1) (qbeg R) := { bk_mono h (Nat.le_succ k) with cnt := Nat.succ_le_succ h.cnt }
theorem bk_off (h : QBk k R) (b : Bool) : QBk k { R with off := b } := { h with }
theorem bk_crash (h : QBk k R) (z : Int) : QBk k (qcrash z R) := { h with }
theorem bk_tells (h : QBk k R) (l : List (Int × Int)) (hl : l.length ≤ 2) : QBk k { R with tells := l } := { h with tel := hl }
theorem bk_new (h : QBk k R) : QBk (k + 1) (qnew R) := by
  have e : (R.seenB ++ [[]]).length = R.seenB.length + 1 := by simp
  exact { bk_mono h (Nat.le_succ k) with
    sB := by show (R.seenB ++ [[]]).length ≤ k + 1; have := h.sB; omega
    lenB := by show (R.sureB ++ [[]]).length = (R.seenB ++ [[]]).length; simp [h.lenB]
    seenK := fun p hp => by show p.2 < (R.seenB ++ [[]]).length; have := h.seenK p hp; omega
    sureK := fun p hp => by show p.2 < (R.seenB ++ [[]]).length; have := h.sureK p hp; omega
    wK := fun c hc => by show c.QOk (R.seenB ++ [[]]).length; exact chg_mono (h.wK c hc) (by omega)
    bK := fun s hs => by
      rcases List.mem_append.1 hs with hs | hs
      · exact h.bK s hs
      · rw [List.mem_singleton.1 hs]; exact Nat.zero_le _
    cK := fun s hs => by
      rcases List.mem_append.1 hs with hs | hs
      · exact h.cK s hs
      · rw [List.mem_singleton.1 hs]; exact Nat.zero_le _ }
theorem qDir_K {l : List (List UInt8 × Nat)} {nf : Nat} (h : ∀ p, p ∈ l → p.2 < nf) {c : Chg} (hc : c.QOk nf) : ∀ p, p ∈ qDir l c → p.2 < nf := by
  intro p hp
  cases c with
  | create nm i =>
    rcases putL_mem hp with rfl | hp
    · exact hc.1
    · exact h p hp
  | remove nm => exact h p (List.mem_filter.1 hp).1
  | write _ _ _ => exact h p hp
  | trunc _ _ => exact h p hp
theorem bk_change (h : QBk k R) (c : Chg) (hc : c.QOk R.seenB.length) : QBk (k + 1) (qchange c R) := by
  have hw : ∀ x, x ∈ R.waits ++ [c] → x.QOk R.seenB.length := fun x hx => by
    rcases List.mem_append.1 hx with hx | hx
    · exact h.wK x hx
    · rw [List.mem_singleton.1 hx]; exact hc
  have hs : R.sure.length + (R.waits ++ [c]).length ≤ k + 1 := by rw [List.length_append, List.length_singleton]; have := h.sw; omega
  unfold qchange
  split
  · exact { bk_mono h (Nat.le_succ k) with
      sw := hs
      wK := hw
      sen := by show (qDir R.seen c).length ≤ k + 1; have := qDir_len R.seen c; have := h.sen; omega
      seenK := qDir_K h.seenK hc }
  · have e : (R.seenB.set (fileC c) (qByt (R.seenB.getD (fileC c) []) c)).length = R.seenB.length := List.length_set ..
    exact { bk_mono h (Nat.le_succ k) with
      sw := hs
      sB := by show (R.seenB.set (fileC c) (qByt (R.seenB.getD (fileC c) []) c)).length ≤ k + 1; rw [e]; exact Nat.le_succ_of_le h.sB
      lenB := h.lenB.trans e.symm
      seenK := fun p hp => by show p.2 < (R.seenB.set (fileC c) (qByt (R.seenB.getD (fileC c) []) c)).length; rw [e]; exact h.seenK p hp
      sureK := fun p hp => by show p.2 < (R.seenB.set (fileC c) (qByt (R.seenB.getD (fileC c) []) c)).length; rw [e]; exact h.sureK p hp
      wK := fun x hx => by show x.QOk (R.seenB.set (fileC c) (qByt (R.seenB.getD (fileC c) []) c)).length; rw [e]; exact hw x hx
      bK := fun s hs' => by
        rcases List.mem_or_eq_of_mem_set hs' with hs' | rfl
        · exact h.bK s hs'
        · exact qByt_len (getD_le h.bK _) hc }
/-- What a change made sure keeps. -/
structure AppK (nf : Nat) (R T : RS) : Prop where
  seen : T.seen = R.seen
  seenB : T.seenB = R.seenB
  tells : T.tells = R.tells
  count : T.count = R.count
  waits : T.waits = R.waits
  lenC : T.sureB.length = R.sureB.length
  sureK : (∀ p, p ∈ R.sure → p.2 < nf) → ∀ p, p ∈ T.sure → p.2 < nf
theorem AppK.refl (nf : Nat) (R : RS) : AppK nf R R := ⟨rfl, rfl, rfl, rfl, rfl, rfl, fun h => h⟩
theorem AppK.trans {nf : Nat} {R T U : RS} (h : AppK nf R T) (g : AppK nf T U) : AppK nf R U :=
  ⟨g.seen.trans h.seen, g.seenB.trans h.seenB, g.tells.trans h.tells, g.count.trans h.count, g.waits.trans h.waits, g.lenC.trans h.lenC, fun x => g.sureK (h.sureK x)⟩
theorem appK (nf : Nat) (c : Chg) (hc : c.QOk nf) (R : RS) : AppK nf R (qapp c R) := by
  unfold qapp
  split
  · exact ⟨rfl, rfl, rfl, rfl, rfl, rfl, fun h => qDir_K h hc⟩
  · exact ⟨rfl, rfl, rfl, rfl, rfl, List.length_set .., fun h => h⟩
theorem appK_fold (nf : Nat) (p : Chg → Bool) : ∀ (l : List Chg) (R : RS), (∀ c, c ∈ l → c.QOk nf) → AppK nf R (l.foldl (qstepP p) R) ∧ (l.foldl (qstepP p) R).sure.length + (keptL p l).length ≤ R.sure.length + l.length
  | [], R, _ => ⟨AppK.refl _ _, Nat.le_refl _⟩
  | c :: l, R, hc => by
    rw [List.foldl_cons]
    obtain ⟨h1, h2⟩ := appK_fold nf p l (qstepP p R c) (fun x hx => hc x (List.mem_cons_of_mem _ hx))
    have h3 : AppK nf R (qstepP p R c) := by unfold qstepP; split; exact appK nf c (hc c (List.mem_cons_self ..)) R; exact AppK.refl _ _
    refine ⟨h3.trans h1, ?_⟩
    have h4 : (qstepP p R c).sure.length + (keptL p (c :: l)).length ≤ R.sure.length + 1 + (keptL p l).length := by
      unfold qstepP keptL
      rw [List.filter_cons]
      cases hp : p c with
      | true =>
        rw [if_pos rfl, if_neg (by simp)]
        unfold qapp
        split
        · have := qDir_len R.sure c
          show (qDir R.sure c).length + _ ≤ _
          omega
        · show R.sure.length + _ ≤ _
          omega
      | false =>
        rw [if_neg (by decide), if_pos (by simp), List.length_cons]
        omega
    rw [List.length_cons]
    omega
theorem bk_settle (h : QBk k R) (p : Chg → Bool) : QBk k (qsettle p R) := by
  obtain ⟨h1, h2⟩ := appK_fold R.seenB.length p R.waits R h.wK
  have h3 := qfold_sl p R.seenB.length R.waits R h.wK h.cK
  unfold qsettle
  generalize R.waits.foldl (qstepP p) R = T at *
  exact {
    cnt := by show T.count ≤ k; rw [h1.count]; exact h.cnt
    tel := by show T.tells.length ≤ 2; rw [h1.tells]; exact h.tel
    sw := Nat.le_trans h2 h.sw
    sen := by show T.seen.length ≤ k; rw [h1.seen]; exact h.sen
    sB := by show T.seenB.length ≤ k; rw [h1.seenB]; exact h.sB
    lenB := by show T.sureB.length = T.seenB.length; rw [h1.seenB, h1.lenC]; exact h.lenB
    seenK := by show ∀ q, q ∈ T.seen → q.2 < T.seenB.length; rw [h1.seen, h1.seenB]; exact h.seenK
    sureK := by show ∀ q, q ∈ T.sure → q.2 < T.seenB.length; rw [h1.seenB]; exact h1.sureK h.sureK
    wK := fun c hc => by show c.QOk T.seenB.length; rw [h1.seenB]; exact h.wK c (keptL_mem hc)
    bK := by show ∀ s, s ∈ T.seenB → s.length ≤ 40000; rw [h1.seenB]; exact h.bK
    cK := h3 }
theorem appK_surv (nf : Nat) (c : Chg) (hc : c.QOk nf) (u : Nat) (R : RS) : AppK nf R (qsurv c u R) := by
  unfold qsurv survC
  by_cases h0 : u % 3 = 0
  · rw [if_pos h0]; exact AppK.refl _ _
  · rw [if_neg h0]
    by_cases h2 : u % 3 = 2
    · rw [if_pos h2]
      cases hd : noDat (cutC (u / 3 % ((datL c).length + 1)) c) with
      | true => simp only [hd, if_pos]; exact AppK.refl _ _
      | false => simp only [hd]; exact appK nf _ (cutC_qok hc hd) R
    · rw [if_neg h2]
      simp only [qok_dat hc]
      exact appK nf c hc R
theorem appK_survN (nf : Nat) (u : Nat → Nat) (l : List Chg) (R : RS) (hc : ∀ c, c ∈ l → c.QOk nf) : ∀ j, AppK nf R (qsurvN u l R j)
  | 0 => AppK.refl _ _
  | j + 1 => by
    have ih := appK_survN nf u l R hc j
    unfold qsurvN
    cases hj : l[j]? with
    | none => exact ih
    | some c => exact ih.trans (appK_surv nf c (hc c (List.mem_of_getElem? hj)) (u j) _)
theorem bk_restart (h : QBk k R) (u : Nat → Nat) : QBk k (qrestart u R) := by
  have h1 := appK_survN R.seenB.length u R.waits R h.wK R.waits.length
  obtain ⟨-, h2, h3, h4⟩ := qsurvN_bd u R h.wK h.cK R.waits.length (Nat.le_refl _)
  unfold qrestart
  generalize qsurvN u R.waits R R.waits.length = T at *
  have hl : T.sureB.length = R.seenB.length := h2.trans h.lenB
  exact {
    cnt := by show T.count ≤ k; rw [h1.count]; exact h.cnt
    tel := Nat.zero_le _
    sw := by show T.sure.length + 0 ≤ k; have := h.sw; omega
    sen := by show T.sure.length ≤ k; have := h.sw; omega
    sB := by show T.sureB.length ≤ k; rw [hl]; exact h.sB
    lenB := rfl
    seenK := by show ∀ q, q ∈ T.sure → q.2 < T.sureB.length; rw [hl]; exact h1.sureK h.sureK
    sureK := by show ∀ q, q ∈ T.sure → q.2 < T.sureB.length; rw [hl]; exact h1.sureK h.sureK
    wK := fun c hc => by cases hc
    bK := h4
    cK := h4 }
/-- Every counted call. -/
theorem bk_call (h : QBk k R) {In : Bool → RS → Int × RS} (hIn : ∀ dn, QBk (k + 4) (In dn (qbeg R)).2) : QBk (k + 4) (qcall In R).2 := by
  unfold qcall qoff
  by_cases ho : R.off = true
  · rw [if_pos ho]; exact bk_mono h (by omega)
  · rw [if_neg ho]
    split
    · rw [Option.getD_none]
      unfold qend
      split
      · exact bk_off (hIn _) true
      · exact hIn _
    · exact bk_mono (bk_beg h) (by omega)
theorem bk_create (h : QBk k R) (p : List UInt8) (hp : p.length ≤ 1000000) : QBk (k + 4) (qcall (qcreIn p) R).2 := bk_call h fun dn => by
  have hb := bk_beg h
  unfold qcreIn
  split
  · exact bk_mono hb (by omega)
  · split
    · exact bk_mono hb (by omega)
    · split
      · exact bk_mono hb (by omega)
      · refine bk_mono (bk_change (bk_new hb) (.create p (qbeg R).seenB.length) ⟨?_, hp⟩) (by omega)
        show (qbeg R).seenB.length < ((qbeg R).seenB ++ [[]]).length
        simp
theorem bk_delete (h : QBk k R) (p : List UInt8) (hp : p.length ≤ 1000000) : QBk (k + 4) (qcall (qdelIn p) R).2 := bk_call h fun dn => by
  have hb := bk_beg h
  unfold qdelIn
  split
  · exact bk_mono hb (by omega)
  · exact bk_mono (bk_change hb (.remove p) hp) (by omega)
theorem bk_write (h : QBk k R) (p : List UInt8) (o : Int) (d : List UInt8) (hd : d.length ≤ 20000) (ho : o ≤ 20000 ∨ 4000000 < o) : QBk (k + 4) (qcall (qwriIn p o d) R).2 := bk_call h fun dn => by
  have hb := bk_beg h
  unfold qwriIn
  split
  · exact bk_mono hb (by omega)
  · rename_i i hf
    split
    · exact bk_mono hb (by omega)
    · split
      · exact bk_mono hb (by omega)
      · split
        · exact bk_mono hb (by omega)
        · rename_i h1 h2 h3
          obtain ⟨q, hq, rfl⟩ := findL_in hf
          exact bk_mono (bk_change hb (.write q.2 o.toNat d) ⟨hb.seenK q hq, by omega, hd, h2⟩) (by omega)
theorem bk_trunc (h : QBk k R) (p : List UInt8) (z : Int) (hz : z ≤ 20000 ∨ 4000000 < z) : QBk (k + 4) (qcall (qtruIn p z) R).2 := bk_call h fun dn => by
  have hb := bk_beg h
  unfold qtruIn
  split
  · exact bk_mono hb (by omega)
  · rename_i i hf
    split
    · exact bk_mono hb (by omega)
    · split
      · exact bk_mono hb (by omega)
      · rename_i h1 h2
        obtain ⟨q, hq, rfl⟩ := findL_in hf
        exact bk_mono (bk_change hb (.trunc q.2 z.toNat) ⟨hb.seenK q hq, by omega⟩) (by omega)
theorem bk_sync (h : QBk k R) (p : List UInt8) : QBk (k + 4) (qcall (qsynIn p) R).2 := bk_call h fun dn => by
  have hb := bk_beg h
  unfold qsynIn
  split
  · exact bk_mono hb (by omega)
  · show QBk (k + 4) (if dn = true then qbeg R else _)
    split
    · exact bk_mono hb (by omega)
    · exact bk_mono (bk_settle hb _) (by omega)
theorem bk_dirsync (h : QBk k R) : QBk (k + 4) (qcall qdirIn R).2 := bk_call h fun dn => by
  have hb := bk_beg h
  unfold qdirIn
  show QBk (k + 4) (if dn = true then qbeg R else _)
  split
  · exact bk_mono hb (by omega)
  · exact bk_mono (bk_settle hb _) (by omega)
theorem bk_read (h : QBk k R) (p : List UInt8) (o m : Int) : QBk (k + 4) (qread p o m R).2 := by
  unfold qread qoff
  by_cases ho : R.off = true
  · rw [if_pos ho]; exact bk_mono h (by omega)
  · rw [if_neg ho]
    by_cases ht : tellL R.tells ((R.count + 1 : Nat) : Int) = 0
    · rw [if_pos ht]; exact bk_off (bk_mono (bk_beg h) (by omega)) _
    · rw [if_neg ht]; exact bk_mono (bk_beg h) (by omega)
end Go.Proofs.YtkfncnpeockiaaaGreatDoor

namespace Go.Proofs.YtkfncnpeockiaaaGreatDoor
open Go.RowKit
variable {w w' : World} {Q : QL} {R : RS}

def nameC (q : List UInt8 × Nat) : List Value := strC q.1
set_option maxRecDepth 100000 in
set_option maxHeartbeats 2000000 in
theorem qnames_any (h : QInv Q R w) (hs : R.seen.length ≤ 90000) :
    Calls Tryz.prog 36 #[.pointer (some ⟨Q.b, 0, none⟩)] w fun e w' => ∃ v', e = .returned v' ∧ w'.ownsRow w.heap.size 9 1 v' R.seen.length (R.seen.flatMap nameC) ∧ Below w.heap.size w w' := by
  obtain ⟨i2, hi2, hz2, hs2, hbb2⟩ := infoQS
  have hr0 := h.row 0 (.inl (by decide))
  change w.ownsRow 0 104 2 (Q.v 0) R.seen.length (R.seen.flatMap entC) at hr0
  obtain ⟨a0, cap0, hv0, hc0⟩ := ent_cells hr0
  have HBQ := Lib.hid h.blk
  have HV := Lib.hid hv0
  have HC := Lib.hid hc0
  have HLT := Lib.hid (blk_lt h.blk)
  have c0 := blk_cell h.blk 0 (v := .slice a0 R.seen.length cap0) (by rw [← hv0]; rfl)
  clear h hr0 hv0 hc0
  go_enter Tryz.func36, Tryz.ntmps36
  go_wp2
  go_loopw [3, 4] (fun t3 t4 wr => ∃ k : Nat, k ≤ R.seen.length ∧ t4 = .int .i64 k ∧ Hid (wr.ownsRow w.heap.size 9 1 t3 k ((R.seen.take k).flatMap nameC)) ∧ Hid (Below w.heap.size w wr)) (fun _ t4 _ => R.seen.length - (intOf t4).toNat)
  case atStart => exact ⟨0, Nat.zero_le _, rfl, Lib.hid (World.ownsRow_nil _ _ _ _), Lib.hid (Below.refl _ _)⟩
  case round =>
    obtain ⟨k, hk, rfl, hO, hB⟩ := hrel
    have hbq : Blk wr Q.b 64 (qcells Q R) := (hB.out.block _ HLT.out).trans HBQ.out
    replace c0 := blk_cell hbq 0 (v := .slice a0 R.seen.length cap0) (by rw [← HV.out]; rfl)
    clear hbq
    by_cases hlt : k < R.seen.length
    · obtain ⟨g, rfl, -, hg, d0, -⟩ := HC.out k hlt
      replace d0 := (hB.out.cell (p := ⟨g, k * 2, none⟩) hg).trans d0
      have hkI : (k : Int) < R.seen.length := by omega
      have s0 : ¬ (k : Int) < 0 := by omega
      have htk : (R.seen.take (k + 1)).flatMap nameC = (R.seen.take k).flatMap nameC ++ nameC R.seen[k] := by rw [take_snoc _ _ hlt, List.flatMap_append]; simp
      have HTK := Lib.hid htk
      obtain ⟨s, hsx⟩ : ∃ s, s = bz R.seen[k].1 := ⟨_, rfl⟩
      rw [← hsx] at d0
      have HS := Lib.hid (show nameC R.seen[k] = [.string s] by rw [hsx]; rfl)
      have HOA := Lib.hid (hO.out.alloc (.cells #[.string s] 9))
      have HO1 := Lib.hid (row_one wr 9 1 [.string s] rfl)
      have HBASE := Lib.hid (show w.heap.size ≤ (wr.alloc (.cells #[.string s] 9)).heap.size from Nat.le_trans hB.out.size (by simp))
      clear htk hsx
      go_wp2_with (first | (at_builtin; refine wpList_append_row _ rfl _ _ 43 rfl w.heap.size 9 i2 _ 1 16 Tryz.underlying43 hi2 hz2 hs2 hbb2 rfl (by decide) _ _ _ rfl HOA.out (.slice (some ⟨wr.heap.size, 0, none⟩) 1 1) 1 [.string s] rfl HO1.out (fun u hu => by rw [List.mem_singleton.1 hu]; rfl) (by unfold maxLen; omega) (by omega) HBASE.out ?_; intro v3 w3 hown3 hgrow3 hb3))
      rw [← HS.out, ← HTK.out] at hown3
      have HO3 := Lib.hid hown3
      have HB3 := Lib.hid ((hB.out.alloc hB.out.size (.cells #[.string s] 9)).grown hgrow3 HBASE.out (fun j e => (HOA.out.lt j e).1))
      clear hown3 hgrow3 hb3
      go_roundw
      case rel => exact ⟨k + 1, by omega, by go_num, HO3, HB3⟩
      case measure => simp [intOf]; omega
    · obtain rfl : k = R.seen.length := by omega
      have HE := Lib.hid (show wr.ownsRow w.heap.size 9 1 _ R.seen.length (R.seen.flatMap nameC) by have := hO.out; rwa [List.take_length] at this)
      go_wp2
      go_ret
      exact ⟨_, rfl, HE.out, hB.out⟩
end Go.Proofs.YtkfncnpeockiaaaGreatDoor

namespace Go.Proofs.YtkfncnpeockiaaaGreatDoor
open Go.RowKit

theorem keys_surv {S : DS} (h : KeysS S) (c : Chg) (u : Nat) : KeysS (survS c u S) := by
  unfold survS
  split
  · exact h
  · exact keys_apply h true _
theorem keys_survF {S : DS} (h : KeysS S) (u : Nat → Nat) (l : List Chg) : ∀ k, KeysS (survF u l S k)
  | 0 => h
  | k + 1 => by
    unfold survF
    split
    · exact keys_surv (keys_survF h u l k) _ _
    · exact keys_survF h u l k
theorem keys_restart {S : DS} (h : KeysS S) (u : Nat → Nat) : KeysS (restartS u S) := by
  have hk := keys_survF h u S.pend S.pend.length
  intro s
  show Keys (upd (survF u S.pend S S.pend.length).dirs false ((survF u S.pend S S.pend.length).dirs true) s)
  unfold upd
  split
  · exact hk true
  · exact hk s

/-- Both disks in one memory, and blocks of our own that neither turns (X). -/
structure JM (X : Nat → Obj → Prop) (w0 : World) (b q n : Nat) (S : DS) (R : RS) (v : World) : Prop where
  ex : ∃ (L : Loc) (ρ : Nat → Option Role) (Q : QL), L.b = b ∧ Q.b = q ∧ Inv L ρ n S v ∧ QInv Q R v ∧ (∀ g, g < w0.heap.size → ρ g = none) ∧ (∀ g, QB Q g → ρ g = none ∧ w0.heap.size ≤ g) ∧ (∀ g o, X g o → v.heap[g]? = some o ∧ ρ g = none ∧ ¬ QB Q g)
  below : Below w0.heap.size w0 v
  glob : Glob v
  pos : 0 < w0.heap.size

variable {X : Nat → Obj → Prop} {w0 v v' : World} {b q n : Nat} {S : DS} {R : RS}
theorem jm_disk {L L' : Loc} {ρ ρ' : Nat → Option Role} {Q : QL} {m : Nat} {S' : DS} (hb : L.b = b) (hq : Q.b = q) (hQ : QInv Q R v) (hr : ∀ g, g < w0.heap.size → ρ g = none) (ha : ∀ g, QB Q g → ρ g = none ∧ w0.heap.size ≤ g) (hx : ∀ g o, X g o → v.heap[g]? = some o ∧ ρ g = none ∧ ¬ QB Q g)
    (hB : Below w0.heap.size w0 v) (hG : Glob v) (hp : 0 < w0.heap.size) (hI : Inv L' ρ' m S' v') (hS : Step L ρ v L' ρ' v') : JM X w0 b q m S' R v' :=
  ⟨⟨L', ρ', Q, hS.b.trans hb, hq, hI, hQ.heap (fun g hg => hS.blk g (hQ.lt hg) (ha g hg).1), fun g hg => (hS.ro g (Nat.lt_of_lt_of_le hg hB.size)).trans (hr g hg), fun g hg => ⟨(hS.ro g (hQ.lt hg)).trans (ha g hg).1, (ha g hg).2⟩,
     fun g o hg => by
       obtain ⟨h1, h2, h3⟩ := hx g o hg
       have hl : g < v.heap.size := (Array.getElem?_eq_some_iff.1 h1).1
       exact ⟨(hS.blk g hl h2).trans h1, (hS.ro g hl).trans h2, h3⟩⟩,
   ⟨hS.os.trans hB.os, hS.tape.trans hB.tape, hS.output.trans hB.output, Nat.le_trans hB.size hS.size, fun k hk => (hS.blk k (Nat.lt_of_lt_of_le hk hB.size) (hr k hk)).trans (hB.block k hk)⟩,
   glob_block hG (hS.blk 0 (Nat.lt_of_lt_of_le hp hB.size) (hr 0 hp)), hp⟩
theorem jm_doc {L : Loc} {ρ : Nat → Option Role} {Q Q' : QL} {R' : RS} (hb : L.b = b) (hq : Q.b = q) (hI : Inv L ρ n S v) (hr : ∀ g, g < w0.heap.size → ρ g = none) (ha : ∀ g, QB Q g → ρ g = none ∧ w0.heap.size ≤ g) (hx : ∀ g o, X g o → v.heap[g]? = some o ∧ ρ g = none ∧ ¬ QB Q g)
    (hB : Below w0.heap.size w0 v) (hG : Glob v) (hp : 0 < w0.heap.size) (hQ : QInv Q' R' v') (hS : QStep Q v Q' v') : JM X w0 b q n S R' v' := by
  have hQb := ha Q.b (.inl rfl)
  exact ⟨⟨L, ρ, Q', hb, hS.b.trans hq, hI.heap (fun g hg => hS.blk g (hI.lt hg) (fun e => hg (by rw [e]; exact hQb.1))) hS.size, hQ, hr, fun g hg => (hS.new g hg).elim (fun h => ha g h) (fun h => ⟨hI.old g h, Nat.le_trans hB.size h⟩),
     fun g o hg => by
       obtain ⟨h1, h2, h3⟩ := hx g o hg
       have hl : g < v.heap.size := (Array.getElem?_eq_some_iff.1 h1).1
       exact ⟨(hS.blk g hl (fun e => h3 (.inl e))).trans h1, h2, fun h => (hS.new g h).elim h3 (fun h => by omega)⟩⟩,
   ⟨hS.os.trans hB.os, hS.tape.trans hB.tape, hS.output.trans hB.output, Nat.le_trans hB.size hS.size, fun k hk => (hS.blk k (Nat.lt_of_lt_of_le hk hB.size) (fun e => by have := hQb.2; omega)).trans (hB.block k hk)⟩,
   glob_block hG (hS.blk 0 (Nat.lt_of_lt_of_le hp hB.size) (fun e => by have := hQb.2; omega)), hp⟩
theorem jm_below (h : JM X w0 b q n S R v) (hb : Below v.heap.size v v') : JM X w0 b q n S R v' := by
  obtain ⟨L, ρ, Q, e1, e2, hI, hQ, hr, ha, hX⟩ := h.ex
  exact jm_disk e1 e2 hQ hr ha hX h.below h.glob h.pos (hI.below hb) (Step.below hb)
theorem jm_same (h : JM X w0 b q n S R v) (hb : Same v v') : JM X w0 b q n S R v' :=
  jm_below h ⟨hb.os, hb.tape, hb.output, by rw [hb.heap]; exact Nat.le_refl _, fun k _ => by rw [hb.heap]⟩
theorem jm_rho0 {ρ : Nat → Option Role} (h : JM X w0 b q n S R v) (hr : ∀ g, g < w0.heap.size → ρ g = none) : ρ 0 = none := hr 0 h.pos

/-- A new block of our own. -/
theorem jm_add (h : JM X w0 b q n S R v) (ob : Obj) : JM (fun g o => X g o ∨ (g = v.heap.size ∧ o = ob)) w0 b q n S R (v.alloc ob) := by
  have h' := jm_below h ((Below.refl _ v).alloc (Nat.le_refl _) ob)
  obtain ⟨L, ρ, Q, e1, e2, hI, hQ, hr, ha, hX⟩ := h.ex
  refine ⟨⟨L, ρ, Q, e1, e2, hI.alloc ob, hQ.alloc ob, hr, ha, fun g o hg => ?_⟩, h'.below, h'.glob, h'.pos⟩
  rcases hg with hg | ⟨rfl, rfl⟩
  · obtain ⟨h1, h2, h3⟩ := hX g o hg
    have hl : g < v.heap.size := (Array.getElem?_eq_some_iff.1 h1).1
    exact ⟨(((Below.refl _ v).alloc (Nat.le_refl _) ob).block g hl).trans h1, h2, h3⟩
  · exact ⟨heap_alloc_new v _, hI.old _ (Nat.le_refl _), fun hq => Nat.lt_irrefl _ (hQ.lt hq)⟩
theorem jm_drop {Y : Nat → Obj → Prop} (h : JM X w0 b q n S R v) (hy : ∀ g o, Y g o → X g o) : JM Y w0 b q n S R v := by
  obtain ⟨L, ρ, Q, e1, e2, hI, hQ, hr, ha, hX⟩ := h.ex
  exact ⟨⟨L, ρ, Q, e1, e2, hI, hQ, hr, ha, fun g o hg => hX g o (hy g o hg)⟩, h.below, h.glob, h.pos⟩
theorem jm_x (h : JM X w0 b q n S R v) {g : Nat} {o : Obj} (hg : X g o) : v.heap[g]? = some o := by
  obtain ⟨L, ρ, Q, e1, e2, hI, hQ, hr, ha, hX⟩ := h.ex
  exact (hX g o hg).1
/-- A counted call of the program's disk. -/
def JO (X : Nat → Obj → Prop) (w0 : World) (b q : Nat) (R : RS) (r : Int × DS) (N : Nat) (e : Ending) (v' : World) : Prop := ∃ m, e = .returned (.int .i64 r.1) ∧ JM X w0 b q m r.2 R v' ∧ m ≤ N
theorem jo_of {L : Loc} {ρ : Nat → Option Role} {Q : QL} {r : Int × DS} {N : Nat} {e : Ending} (hb : L.b = b) (hq : Q.b = q) (hQ : QInv Q R v) (hr : ∀ g, g < w0.heap.size → ρ g = none) (ha : ∀ g, QB Q g → ρ g = none ∧ w0.heap.size ≤ g) (hx : ∀ g o, X g o → v.heap[g]? = some o ∧ ρ g = none ∧ ¬ QB Q g)
    (hB : Below w0.heap.size w0 v) (hG : Glob v) (hp : 0 < w0.heap.size) (h : OutQ L ρ v r N e v') : JO X w0 b q R r N e v' := by
  obtain ⟨L', ρ', n', he, hI, hS, hn⟩ := h
  exact ⟨n', he, jm_disk hb hq hQ hr ha hx hB hG hp hI hS, hn⟩
def JQ (X : Nat → Obj → Prop) (w0 : World) (b q n : Nat) (S : DS) (r : Int × RS) (e : Ending) (v' : World) : Prop := e = .returned (.int .i64 r.1) ∧ JM X w0 b q n S r.2 v'
theorem jq_of {L : Loc} {ρ : Nat → Option Role} {Q : QL} {r : Int × RS} {e : Ending} (hb : L.b = b) (hq : Q.b = q) (hI : Inv L ρ n S v) (hr : ∀ g, g < w0.heap.size → ρ g = none) (ha : ∀ g, QB Q g → ρ g = none ∧ w0.heap.size ≤ g) (hx : ∀ g o, X g o → v.heap[g]? = some o ∧ ρ g = none ∧ ¬ QB Q g)
    (hB : Below w0.heap.size w0 v) (hG : Glob v) (hp : 0 < w0.heap.size) (h : QOut Q v r e v') : JQ X w0 b q n S r e v' := by
  obtain ⟨Q', he, hQ', hS⟩ := h
  exact ⟨he, jm_doc hb hq hI hr ha hx hB hG hp hQ' hS⟩

theorem jm_create (h : JM X w0 b q n S R v) (p : ByteArray) (hp : p.size ≤ 1000000) (hn : n + 3 ≤ 100000) :
    Calls Tryz.prog 22 #[.pointer (some ⟨b, 0, none⟩), .string p] v (JO X w0 b q R (createG S p.data.toList) (n + 3)) := by
  obtain ⟨L, ρ, Q, rfl, e2, hI, hQ, hr, ha, hX⟩ := h.ex
  exact (create_all p hp hI h.glob (jm_rho0 h hr) hn).mono fun _ _ hx => jo_of rfl e2 hQ hr ha hX h.below h.glob h.pos hx
theorem jm_delete (h : JM X w0 b q n S R v) (p : ByteArray) (hp : p.size ≤ 1000000) (hn : n + 3 ≤ 100000) :
    Calls Tryz.prog 23 #[.pointer (some ⟨b, 0, none⟩), .string p] v (JO X w0 b q R (deleteG S p.data.toList) (n + 3)) := by
  obtain ⟨L, ρ, Q, rfl, e2, hI, hQ, hr, ha, hX⟩ := h.ex
  exact (delete_all p hp hI h.glob (jm_rho0 h hr) hn).mono fun _ _ hx => jo_of rfl e2 hQ hr ha hX h.below h.glob h.pos hx
theorem jm_write (h : JM X w0 b q n S R v) (p : ByteArray) (hp : p.size ≤ 1000000) (o : Int) (ho1 : -9223372036854775808 ≤ o) (ho2 : o ≤ 9223372036854775807) (d : ByteArray) (hd : d.size ≤ 4611686018427387904) (hk : KeysS S) (hn : n + 3 ≤ 100000) :
    Calls Tryz.prog 24 #[.pointer (some ⟨b, 0, none⟩), .string p, .int .i64 o, .string d] v (JO X w0 b q R (writeG S p.data.toList o d.data.toList) (n + 3)) := by
  obtain ⟨L, ρ, Q, rfl, e2, hI, hQ, hr, ha, hX⟩ := h.ex
  exact (write_all p hp o ho1 ho2 d hd hI h.glob (jm_rho0 h hr) (hk false) hn).mono fun _ _ hx => jo_of rfl e2 hQ hr ha hX h.below h.glob h.pos hx
theorem jm_trunc (h : JM X w0 b q n S R v) (p : ByteArray) (hp : p.size ≤ 1000000) (z : Int) (hk : KeysS S) (hn : n + 3 ≤ 100000) :
    Calls Tryz.prog 25 #[.pointer (some ⟨b, 0, none⟩), .string p, .int .i64 z] v (JO X w0 b q R (truncG S p.data.toList z) (n + 3)) := by
  obtain ⟨L, ρ, Q, rfl, e2, hI, hQ, hr, ha, hX⟩ := h.ex
  exact (trunc_all p hp z hI h.glob (jm_rho0 h hr) (hk false) hn).mono fun _ _ hx => jo_of rfl e2 hQ hr ha hX h.below h.glob h.pos hx
theorem jm_sync (h : JM X w0 b q n S R v) (p : ByteArray) (hp : p.size ≤ 1000000) (hn : n + S.pend.length + 2 ≤ 100000) :
    Calls Tryz.prog 14 #[.pointer (some ⟨b, 0, none⟩), .string p] v (JO X w0 b q R (syncG S p.data.toList) (n + 1 + S.pend.length)) := by
  obtain ⟨L, ρ, Q, rfl, e2, hI, hQ, hr, ha, hX⟩ := h.ex
  exact (sync_all p hp hI h.glob (jm_rho0 h hr) hn).mono fun _ _ hx => jo_of rfl e2 hQ hr ha hX h.below h.glob h.pos hx
theorem jm_dirsync (h : JM X w0 b q n S R v) (hn : n + S.pend.length + 2 ≤ 100000) :
    Calls Tryz.prog 15 #[.pointer (some ⟨b, 0, none⟩)] v (JO X w0 b q R (dirsyncG S) (n + 1 + S.pend.length)) := by
  obtain ⟨L, ρ, Q, rfl, e2, hI, hQ, hr, ha, hX⟩ := h.ex
  exact (dirsync_all hI h.glob (jm_rho0 h hr) hn).mono fun _ _ hx => jo_of rfl e2 hQ hr ha hX h.below h.glob h.pos hx
theorem jm_read (h : JM X w0 b q n S R v) (p : ByteArray) (hp : p.size ≤ 1000000) (o m : Int) (ho2 : o ≤ 9223372036854775807) (hm2 : m ≤ 9223372036854775807) (hn : n + 1 ≤ 100000) :
    Calls Tryz.prog 20 #[.pointer (some ⟨b, 0, none⟩), .string p, .int .i64 o, .int .i64 m] v fun e v' => ∃ n', e = .returned (.tuple #[.string (bz (readG S p.data.toList o m).1.1), .int .i64 (readG S p.data.toList o m).1.2]) ∧ JM X w0 b q n' (readG S p.data.toList o m).2 R v' ∧ n' ≤ n + 1 := by
  obtain ⟨L, ρ, Q, rfl, e2, hI, hQ, hr, ha, hX⟩ := h.ex
  refine (read_all p hp o m ho2 hm2 hI h.glob (jm_rho0 h hr) hn).mono fun _ _ hx => ?_
  obtain ⟨he, L', ρ', n', hI', hS, hn'⟩ := hx
  exact ⟨n', he, jm_disk rfl e2 hQ hr ha hX h.below h.glob h.pos hI' hS, hn'⟩
theorem jm_faults (h : JM X w0 b q n S R v) (gl : Nat) (tA : TypeId) (a x : Int) (hbl : Blk v gl tA #[.int .i64 a, .int .i64 x, .int .i64 a, .int .i64 30]) (hnew : ∀ (L : Loc) (ρ : Nat → Option Role), Inv L ρ n S v → (∀ g, g < w0.heap.size → ρ g = none) → L.b = b → ρ gl = none)
    (a0 : -9223372036854775808 ≤ a) (a1 : a ≤ 9223372036854775807) (x0 : -9223372036854775808 ≤ x) (x1 : x ≤ 9223372036854775807) :
    Calls Tryz.prog 12 #[.pointer (some ⟨b, 0, none⟩), .slice (some ⟨gl, 0, none⟩) 2 2] v fun e v' => e = .returned (.tuple #[]) ∧ JM X w0 b q n (faultsS S a x) R v' := by
  obtain ⟨L, ρ, Q, rfl, e2, hI, hQ, hr, ha, hX⟩ := h.ex
  refine (faults_two gl tA a x hI hbl (hnew L ρ hI hr rfl) a0 a1 x0 x1).mono fun _ _ hx => ?_
  obtain ⟨he, L', ρ', hI', hS⟩ := hx
  exact ⟨he, jm_disk rfl e2 hQ hr ha hX h.below h.glob h.pos hI' hS⟩
theorem jm_nofaults (h : JM X w0 b q n S R v) :
    Calls Tryz.prog 12 #[.pointer (some ⟨b, 0, none⟩), .slice none 0 0] v fun e v' => e = .returned (.tuple #[]) ∧ JM X w0 b q n { S with flt := fun _ => 0 } R v' := by
  obtain ⟨L, ρ, Q, rfl, e2, hI, hQ, hr, ha, hX⟩ := h.ex
  refine (faults_nil hI).mono fun _ _ hx => ?_
  obtain ⟨he, L', ρ', hI', hS⟩ := hx
  exact ⟨he, jm_disk rfl e2 hQ hr ha hX h.below h.glob h.pos hI' hS⟩
theorem jm_crash (h : JM X w0 b q n S R v) (z : Int) :
    Calls Tryz.prog 13 #[.pointer (some ⟨b, 0, none⟩), .int .i64 z] v fun e v' => e = .returned (.tuple #[]) ∧ JM X w0 b q n { S with crash := z } R v' := by
  obtain ⟨L, ρ, Q, rfl, e2, hI, hQ, hr, ha, hX⟩ := h.ex
  refine (crashat_any hI z).mono fun _ _ hx => ?_
  obtain ⟨he, hI', hS⟩ := hx
  exact ⟨he, jm_disk rfl e2 hQ hr ha hX h.below h.glob h.pos hI' hS⟩
theorem jm_content (h : JM X w0 b q n S R v) (p : ByteArray) (hp : p.size ≤ 1000000) :
    Calls Tryz.prog 16 #[.pointer (some ⟨b, 0, none⟩), .string p] v fun e v' => e = .returned (.tuple #[.string (bz (contZ S p.data.toList)), .bool (hasZ S p.data.toList)]) ∧ v' = v := by
  obtain ⟨L, ρ, Q, rfl, e2, hI, hQ, hr, ha, hX⟩ := h.ex
  exact content_any hI p hp
theorem jm_ops (h : JM X w0 b q n S R v) : Calls Tryz.prog 26 #[.pointer (some ⟨b, 0, none⟩)] v fun e v' => e = .returned (.int .i64 S.ops) ∧ v' = v := by
  obtain ⟨L, ρ, Q, rfl, e2, hI, hQ, hr, ha, hX⟩ := h.ex
  exact ops_any hI
theorem jm_down (h : JM X w0 b q n S R v) : Calls Tryz.prog 19 #[.pointer (some ⟨b, 0, none⟩)] v fun e v' => e = .returned (.bool S.down) ∧ v' = v := by
  obtain ⟨L, ρ, Q, rfl, e2, hI, hQ, hr, ha, hX⟩ := h.ex
  exact down_any hI

theorem jq_create (h : JM X w0 b q n S R v) (p : ByteArray) (hp : p.size ≤ 1000000) (hd : QBd R) :
    Calls Tryz.prog 27 #[.pointer (some ⟨q, 0, none⟩), .string p] v (JQ X w0 b q n S (qcall (qcreIn p.data.toList) R)) := by
  obtain ⟨L, ρ, Q, e1, rfl, hI, hQ, hr, ha, hX⟩ := h.ex
  exact (q7Create_any p hp hQ hd).mono fun _ _ hx => jq_of e1 rfl hI hr ha hX h.below h.glob h.pos hx
theorem jq_delete (h : JM X w0 b q n S R v) (p : ByteArray) (hp : p.size ≤ 1000000) (hd : QBd R) :
    Calls Tryz.prog 28 #[.pointer (some ⟨q, 0, none⟩), .string p] v (JQ X w0 b q n S (qcall (qdelIn p.data.toList) R)) := by
  obtain ⟨L, ρ, Q, e1, rfl, hI, hQ, hr, ha, hX⟩ := h.ex
  exact (qdelete_any p hp hQ hd).mono fun _ _ hx => jq_of e1 rfl hI hr ha hX h.below h.glob h.pos hx
theorem jq_write (h : JM X w0 b q n S R v) (p : ByteArray) (o : Int) (ho1 : -9223372036854775808 ≤ o) (ho2 : o ≤ 9223372036854775807) (d : ByteArray) (hdz : d.size ≤ 20000) (hd : QBd R) (hoz : o ≤ 20000 ∨ 4000000 < o) :
    Calls Tryz.prog 30 #[.pointer (some ⟨q, 0, none⟩), .string p, .int .i64 o, .string d] v (JQ X w0 b q n S (qcall (qwriIn p.data.toList o d.data.toList) R)) := by
  obtain ⟨L, ρ, Q, e1, rfl, hI, hQ, hr, ha, hX⟩ := h.ex
  exact (q7Write_any p o ho1 ho2 d hdz hQ hd hoz).mono fun _ _ hx => jq_of e1 rfl hI hr ha hX h.below h.glob h.pos hx
theorem jq_trunc (h : JM X w0 b q n S R v) (p : ByteArray) (z : Int) (hz1 : -9223372036854775808 ≤ z) (hz2 : z ≤ 9223372036854775807) (hd : QBd R) (hzz : z ≤ 20000 ∨ 4000000 < z) :
    Calls Tryz.prog 31 #[.pointer (some ⟨q, 0, none⟩), .string p, .int .i64 z] v (JQ X w0 b q n S (qcall (qtruIn p.data.toList z) R)) := by
  obtain ⟨L, ρ, Q, e1, rfl, hI, hQ, hr, ha, hX⟩ := h.ex
  exact (q7Trunc_any p z hz1 hz2 hQ hd hzz).mono fun _ _ hx => jq_of e1 rfl hI hr ha hX h.below h.glob h.pos hx
theorem jq_sync (h : JM X w0 b q n S R v) (p : ByteArray) (hd : QBd R) :
    Calls Tryz.prog 32 #[.pointer (some ⟨q, 0, none⟩), .string p] v (JQ X w0 b q n S (qcall (qsynIn p.data.toList) R)) := by
  obtain ⟨L, ρ, Q, e1, rfl, hI, hQ, hr, ha, hX⟩ := h.ex
  exact (q7Sync_any p hQ hd).mono fun _ _ hx => jq_of e1 rfl hI hr ha hX h.below h.glob h.pos hx
theorem jq_dirsync (h : JM X w0 b q n S R v) (hd : QBd R) (hsw : R.sure.length + R.waits.length ≤ 90000) :
    Calls Tryz.prog 33 #[.pointer (some ⟨q, 0, none⟩)] v (JQ X w0 b q n S (qcall (qdirIn) R)) := by
  obtain ⟨L, ρ, Q, e1, rfl, hI, hQ, hr, ha, hX⟩ := h.ex
  exact (q7DirSync_any hQ hd hsw).mono fun _ _ hx => jq_of e1 rfl hI hr ha hX h.below h.glob h.pos hx
theorem jq_read (h : JM X w0 b q n S R v) (p : ByteArray) (o m : Int) (ho1 : -9223372036854775808 ≤ o) (ho2 : o ≤ 9223372036854775807) (hm1 : -9223372036854775808 ≤ m) (hm2 : m ≤ 9223372036854775807) (hd : QBd R) :
    Calls Tryz.prog 29 #[.pointer (some ⟨q, 0, none⟩), .string p, .int .i64 o, .int .i64 m] v fun e v' => e = .returned (.tuple #[.string (bz (qread p.data.toList o m R).1.1), .int .i64 (qread p.data.toList o m R).1.2]) ∧ JM X w0 b q n S (qread p.data.toList o m R).2 v' := by
  obtain ⟨L, ρ, Q, e1, rfl, hI, hQ, hr, ha, hX⟩ := h.ex
  refine (q7Read_any p o m ho1 ho2 hm1 hm2 hQ hd).mono fun _ _ hx => ?_
  obtain ⟨Q', he, hQ', hS⟩ := hx
  exact ⟨he, jm_doc e1 rfl hI hr ha hX h.below h.glob h.pos hQ' hS⟩
theorem jq_crash (h : JM X w0 b q n S R v) (k : Int) :
    Calls Tryz.prog 34 #[.pointer (some ⟨q, 0, none⟩), .int .i64 k] v fun e v' => e = .returned (.tuple #[]) ∧ JM X w0 b q n S (qcrash k R) v' := by
  obtain ⟨L, ρ, Q, e1, rfl, hI, hQ, hr, ha, hX⟩ := h.ex
  refine (qcrashat_any hQ k).mono fun _ _ hx => ?_
  exact ⟨hx.1, jm_doc e1 rfl hI hr ha hX h.below h.glob h.pos hx.2.1 hx.2.2⟩
end Go.Proofs.YtkfncnpeockiaaaGreatDoor

namespace Go.Proofs.YtkfncnpeockiaaaGreatDoor
open Go.RowKit
variable {X : Nat → Obj → Prop} {w0 v v' : World} {b q n : Nat} {S : DS} {R : RS}

theorem jm_faults2 (h : JM X w0 b q n S R v) (gl : Nat) (tA : TypeId) (a x : Int) (hg : X gl (.cells #[.int .i64 a, .int .i64 x, .int .i64 a, .int .i64 30] tA (0, 0)))
    (a0 : -9223372036854775808 ≤ a) (a1 : a ≤ 9223372036854775807) (x0 : -9223372036854775808 ≤ x) (x1 : x ≤ 9223372036854775807) :
    Calls Tryz.prog 12 #[.pointer (some ⟨b, 0, none⟩), .slice (some ⟨gl, 0, none⟩) 2 2] v fun e v' => e = .returned (.tuple #[]) ∧ JM X w0 b q n (faultsS S a x) R v' := by
  obtain ⟨L, ρ, Q, rfl, e2, hI, hQ, hr, ha, hX⟩ := h.ex
  refine (faults_two gl tA a x hI (hX gl _ hg).1 (hX gl _ hg).2.1 a0 a1 x0 x1).mono fun _ _ hx => ?_
  obtain ⟨he, L', ρ', hI', hS⟩ := hx
  exact ⟨he, jm_disk rfl e2 hQ hr ha hX h.below h.glob h.pos hI' hS⟩
/-- What is told of faults, laid by the law itself. -/
theorem jq_tells (h : JM X w0 b q n S R v) (a x : Int) : JM X w0 b q n S { R with tells := [(a, x), (a, 30)] } ((v.alloc (.cells #[.int .i64 a, .int .i64 x, .int .i64 a, .int .i64 30] 68)).setCell ⟨q, 7, none⟩ (.slice (some ⟨v.heap.size, 0, none⟩) 2 2)) := by
  obtain ⟨L, ρ, Q, e1, rfl, hI, hQ, hr, ha, hX⟩ := h.ex
  have hp := q_put (R' := { R with tells := [(a, x), (a, 30)] }) hQ 7 (.inr rfl) (v1 := .slice (some ⟨v.heap.size, 0, none⟩) 2 2) ((Below.refl _ v).alloc (Nat.le_refl _) (.cells #[.int .i64 a, .int .i64 x, .int .i64 a, .int .i64 30] 68))
    ⟨rfl, .inr ⟨v.heap.size, 2, #[.int .i64 a, .int .i64 x, .int .i64 a, .int .i64 30], rfl, Nat.zero_le _, heap_alloc_new _ _, Nat.le_refl _, by unfold maxLen; omega, rfl, rfl⟩⟩
    (fun g e => by cases e; exact Nat.le_refl _) (fun j hj hne => by
      rcases hj with hj | hj
      · match j, hj with
        | 0, _ => exact ⟨rfl, rfl⟩
        | 1, _ => exact ⟨rfl, rfl⟩
        | 2, _ => exact ⟨rfl, rfl⟩
        | 3, _ => exact ⟨rfl, rfl⟩
        | 4, _ => exact ⟨rfl, rfl⟩
      · exact absurd hj hne) ⟨rfl, rfl, rfl, rfl⟩
  exact jm_doc e1 rfl hI hr ha hX h.below h.glob h.pos hp.1 hp.2
/-- The place where the document's disk holds what is told. -/
theorem jq_cell (h : JM X w0 b q n S R v) (i : Nat) {x : Value} (hi : ∀ Q : QL, (qcells Q R)[i]? = some x ∨ i = 7) : i = 7 ∨ v.cell? ⟨q, i, none⟩ = some x := by
  obtain ⟨L, ρ, Q, e1, rfl, hI, hQ, hr, ha, hX⟩ := h.ex
  rcases hi Q with hi | hi
  · exact .inr (blk_cell hQ.blk i hi)
  · exact .inl hi
theorem jq_seven (h : JM X w0 b q n S R v) : (∃ x, v.cell? ⟨q, 7, none⟩ = some x) ∧ v.frozen? ⟨q, 7, none⟩ = false ∧ v.cell? ⟨q, 6, none⟩ = some (.int .i64 R.count) ∧ v.cell? ⟨q, 9, none⟩ = some (.bool R.off) := by
  obtain ⟨L, ρ, Q, e1, rfl, hI, hQ, hr, ha, hX⟩ := h.ex
  exact ⟨⟨_, blk_cell hQ.blk 7 rfl⟩, blk_frozen hQ.blk 7, blk_cell hQ.blk 6 rfl, blk_cell hQ.blk 9 rfl⟩

/-- The choices lie in memory that neither disk has. -/
def Apart (X : Nat → Obj → Prop) (w0 v : World) (a : Option Addr) (l : List Int) : Prop := ∀ k (h : k < l.length), ∃ g o, a = some ⟨g, o, none⟩ ∧ (g < w0.heap.size ∨ ∃ ob, X g ob) ∧ v.cell? ⟨g, o + k, none⟩ = some (.int .i64 l[k])
def uOf (l : List Int) (k : Nat) : Nat := (IntKind.u64.wrap (l.getD k 0)).toNat
theorem uOf_at {l : List Int} {k : Nat} (h : k < l.length) : IntKind.u64.wrap l[k] = (uOf l k : Int) := by
  unfold uOf
  rw [List.getD_eq_getElem?_getD, List.getElem?_eq_getElem h, Option.getD_some]
  have : 0 ≤ IntKind.u64.wrap l[k] := by rw [IntKind.wrap_u64]; omega
  omega
theorem uOf_none {l : List Int} {k : Nat} (h : l.length ≤ k) : uOf l k = 0 := by
  unfold uOf
  rw [List.getD_eq_getElem?_getD, List.getElem?_eq_none h, Option.getD_none, IntKind.wrap_u64]; rfl
theorem uOf_lt (l : List Int) (k : Nat) : uOf l k < 18446744073709551616 := by
  unfold uOf
  rw [IntKind.wrap_u64]; omega
theorem jm_restart (h : JM X w0 b q n S R v) (a : Option Addr) (cap : Nat) (l : List Int) (hl : Apart X w0 v a l) (hn : n + S.pend.length + 1 ≤ 100000) (hK : KeysS S) :
    Calls Tryz.prog 17 #[.pointer (some ⟨b, 0, none⟩), .slice a l.length cap] v fun e v' => e = .returned (.tuple #[]) ∧ JM X w0 b q (n + S.pend.length) (restartS (uOf l) S) R v' := by
  obtain ⟨L, ρ, Q, rfl, e2, hI, hQ, hr, ha, hX⟩ := h.ex
  refine (rest_any (uOf l) a l.length cap (fun k => l.getD k 0) (fun k hk => ?_) (fun k hk => uOf_none hk) (uOf_lt l) hI hn (keys_survF hK _ _ _ true)).mono fun _ _ hx => ?_
  · obtain ⟨g, o, e, hg, hc⟩ := hl k hk
    have hgg : g < v.heap.size ∧ ρ g = none := hg.elim (fun h1 => ⟨Nat.lt_of_lt_of_le h1 h.below.size, hr g h1⟩) (fun ⟨ob, h1⟩ => ⟨(Array.getElem?_eq_some_iff.1 (hX g ob h1).1).1, (hX g ob h1).2.1⟩)
    have e' : l.getD k 0 = l[k] := by rw [List.getD_eq_getElem?_getD, List.getElem?_eq_getElem hk, Option.getD_some]
    refine ⟨g, o, e, hgg.1, hgg.2, ?_, ?_⟩
    · show _ = some (Value.int .i64 (l.getD k 0)); rw [e']; exact hc
    · show IntKind.u64.wrap (l.getD k 0) = _; rw [e']; exact uOf_at hk
  · obtain ⟨he, L', ρ', hI', hS, -⟩ := hx
    exact ⟨he, jm_disk rfl e2 hQ hr ha hX h.below h.glob h.pos hI' hS⟩
theorem jq_restart (h : JM X w0 b q n S R v) (a : Option Addr) (cap : Nat) (l : List Int) (hl : Apart X w0 v a l) {k : Nat} (hd : QBk k R) (hk : k ≤ 80000) :
    Calls Tryz.prog 35 #[.pointer (some ⟨q, 0, none⟩), .slice a l.length cap] v fun e v' => e = .returned (.tuple #[]) ∧ JM X w0 b q n S (qrestart (uOf l) R) v' := by
  obtain ⟨L, ρ, Q, e1, rfl, hI, hQ, hr, ha, hX⟩ := h.ex
  have hsw := hd.sw
  have hsb := hd.sB
  have hlb := hd.lenB
  refine (qrestart_any (uOf l) a l.length cap (fun k => l.getD k 0) (fun k hk => ?_) (fun k hk => uOf_none hk) (uOf_lt l) hQ (by omega) (by omega) (by omega) (fun c hc => by rw [hlb]; exact hd.wK c hc) hd.cK).mono fun _ _ hx => ?_
  · obtain ⟨g, o, e, hg, hc⟩ := hl k hk
    have hgg : g < v.heap.size ∧ g ≠ Q.b := hg.elim (fun h1 => ⟨Nat.lt_of_lt_of_le h1 h.below.size, fun e => by have := (ha Q.b (.inl rfl)).2; omega⟩) (fun ⟨ob, h1⟩ => ⟨(Array.getElem?_eq_some_iff.1 (hX g ob h1).1).1, fun e => (hX g ob h1).2.2 (.inl e)⟩)
    have e' : l.getD k 0 = l[k] := by rw [List.getD_eq_getElem?_getD, List.getElem?_eq_getElem hk, Option.getD_some]
    refine ⟨g, o, e, hgg.1, hgg.2, ?_, ?_⟩
    · show _ = some (Value.int .i64 (l.getD k 0)); rw [e']; exact hc
    · show IntKind.u64.wrap (l.getD k 0) = _; rw [e']; exact uOf_at hk
  · obtain ⟨he, Q', hQ', hS⟩ := hx
    exact ⟨he, jm_doc e1 rfl hI hr ha hX h.below h.glob h.pos hQ' hS⟩
end Go.Proofs.YtkfncnpeockiaaaGreatDoor

namespace Go.Proofs.YtkfncnpeockiaaaGreatDoor
open Go.RowKit

def stepS (o : OpL) (S : DS) : DS :=
  if o.kind = 0 then (createG S o.name.data.toList).2 else if o.kind = 1 then (deleteG S o.name.data.toList).2 else if o.kind = 2 then (readG S o.name.data.toList o.n o.m).2
  else if o.kind = 3 then (writeG S o.name.data.toList o.n o.data.data.toList).2 else if o.kind = 4 then (truncG S o.name.data.toList o.n).2 else if o.kind = 5 then (syncG S o.name.data.toList).2
  else if o.kind = 6 then (dirsyncG S).2 else if o.kind = 7 then faultsS S o.n o.m else if o.kind = 8 then { S with crash := o.n } else if o.kind = 9 then restartS (uOf o.ch) S else S
def stepR (o : OpL) (R : RS) : RS :=
  if o.kind = 0 then (qcall (qcreIn o.name.data.toList) R).2 else if o.kind = 1 then (qcall (qdelIn o.name.data.toList) R).2 else if o.kind = 2 then (qread o.name.data.toList o.n o.m R).2
  else if o.kind = 3 then (qcall (qwriIn o.name.data.toList o.n o.data.data.toList) R).2 else if o.kind = 4 then (qcall (qtruIn o.name.data.toList o.n) R).2 else if o.kind = 5 then (qcall (qsynIn o.name.data.toList) R).2
  else if o.kind = 6 then (qcall qdirIn R).2 else if o.kind = 7 then { R with tells := [(o.n, o.m), (o.n, 30)] } else if o.kind = 8 then qcrash o.n R else if o.kind = 9 then qrestart (uOf o.ch) R else R
/-- What is known of the two states. -/
structure JA (k : Nat) (S : DS) (R : RS) : Prop where
  sim : SimD S R
  keys : KeysS S
  bk : QBk k R
theorem ja_step {k : Nat} {S : DS} {R : RS} (h : JA k S R) (o : OpL) (hG : OpG o) : JA (k + 4) (stepS o S) (stepR o R) := by
  have hnm : o.name.data.toList.length ≤ 1000000 := by have := hG.nm; simp; omega
  have hd : o.data.data.toList.length ≤ 20000 := by have := hG.d; simp; omega
  unfold stepS stepR
  by_cases e0 : o.kind = 0
  · rw [if_pos e0, if_pos e0]; exact ⟨(sim_create h.sim _ hnm).2, keys_create h.keys _, bk_create h.bk _ hnm⟩
  rw [if_neg e0, if_neg e0]
  by_cases e1 : o.kind = 1
  · rw [if_pos e1, if_pos e1]; exact ⟨(sim_delete h.sim _ hnm).2, keys_delete h.keys _, bk_delete h.bk _ hnm⟩
  rw [if_neg e1, if_neg e1]
  by_cases e2 : o.kind = 2
  · rw [if_pos e2, if_pos e2]; exact ⟨(sim_read h.sim _ _ _).2, keys_read h.keys _ _ _, bk_read h.bk _ _ _⟩
  rw [if_neg e2, if_neg e2]
  by_cases e3 : o.kind = 3
  · rw [if_pos e3, if_pos e3]; exact ⟨(sim_write h.sim _ _ _ hd hG.n).2, keys_write h.keys _ _ _, bk_write h.bk _ _ _ hd hG.n⟩
  rw [if_neg e3, if_neg e3]
  by_cases e4 : o.kind = 4
  · rw [if_pos e4, if_pos e4]; exact ⟨(sim_trunc h.sim _ _ hG.n).2, keys_trunc h.keys _ _, bk_trunc h.bk _ _ hG.n⟩
  rw [if_neg e4, if_neg e4]
  by_cases e5 : o.kind = 5
  · rw [if_pos e5, if_pos e5]; exact ⟨(sim_sync h.sim _).2, keys_sync h.keys _, bk_sync h.bk _⟩
  rw [if_neg e5, if_neg e5]
  by_cases e6 : o.kind = 6
  · rw [if_pos e6, if_pos e6]; exact ⟨(sim_dirsync h.sim).2, keys_dirsync h.keys, bk_dirsync h.bk⟩
  rw [if_neg e6, if_neg e6]
  by_cases e7 : o.kind = 7
  · rw [if_pos e7, if_pos e7]; exact ⟨sim_faults h.sim _ _, h.keys, bk_mono (bk_tells h.bk _ (Nat.le_refl 2)) (by omega)⟩
  rw [if_neg e7, if_neg e7]
  by_cases e8 : o.kind = 8
  · rw [if_pos e8, if_pos e8]; exact ⟨sim_crash h.sim _, h.keys, bk_mono (bk_crash h.bk _) (by omega)⟩
  rw [if_neg e8, if_neg e8]
  by_cases e9 : o.kind = 9
  · rw [if_pos e9, if_pos e9]; exact ⟨sim_restart h.sim.1 _, keys_restart h.keys _, bk_mono (bk_restart h.bk _) (by omega)⟩
  rw [if_neg e9, if_neg e9]
  exact ⟨h.sim, h.keys, bk_mono h.bk (by omega)⟩
theorem ja_pend {k : Nat} {S : DS} {R : RS} (h : JA k S R) : S.pend.length ≤ k := by
  have := h.bk.sw
  rw [h.sim.1.wts] at this
  omega
end Go.Proofs.YtkfncnpeockiaaaGreatDoor
