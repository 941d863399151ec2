/-
  Layer 7, the document's side: sure behind Sync. Condition: the rows are of at most ninety thousand entries.
-/
import Derived.Test.YtkfncnpeockiaaaGreatDoorMg21
namespace Go.Proofs.YtkfncnpeockiaaaGreatDoor
open Go.RowKit
variable {w w' : World} {Q : QL} {R : RS}

theorem ofFile_dir (f : Nat) {c : Chg} (h : ofDir c = true) : ofFile f c = false := by
  cases c with
  | create _ _ => rfl
  | remove _ => rfl
  | write _ _ _ => cases h
  | trunc _ _ => cases h
theorem ofFile_file (f : Nat) {c : Chg} (h : ofDir c = false) : ofFile f c = decide (fileC c = f) := by
  cases c with
  | create _ _ => cases h
  | remove _ => cases h
  | write i _ _ => exact (show (i == f) = decide (i = f) by by_cases e : i = f <;> simp [e])
  | trunc i _ => exact (show (i == f) = decide (i = f) by by_cases e : i = f <;> simp [e])
theorem cell6_set3 {a : World} {g q f : Nat} {x0 x1 x2 x3 x4 x5 : Value} (h1 : g ≠ f) (h2 : q ≠ f) (h : a.cell? ⟨g, 0, none⟩ = some x0 ∧ a.cell? ⟨g, 1, none⟩ = some x1 ∧ a.cell? ⟨g, 2, none⟩ = some x2 ∧ a.cell? ⟨g, 3, none⟩ = some x3 ∧ a.cell? ⟨g, 4, none⟩ = some x4 ∧ a.cell? ⟨q, 3, none⟩ = some x5) (j : Nat) (v : Value) :
    (a.setCell ⟨f, j, none⟩ v).cell? ⟨g, 0, none⟩ = some x0 ∧ (a.setCell ⟨f, j, none⟩ v).cell? ⟨g, 1, none⟩ = some x1 ∧ (a.setCell ⟨f, j, none⟩ v).cell? ⟨g, 2, none⟩ = some x2 ∧ (a.setCell ⟨f, j, none⟩ v).cell? ⟨g, 3, none⟩ = some x3 ∧ (a.setCell ⟨f, j, none⟩ v).cell? ⟨g, 4, none⟩ = some x4 ∧ (a.setCell ⟨f, j, none⟩ v).cell? ⟨q, 3, none⟩ = some x5 := by
  have k : ∀ (b o : Nat), b ≠ f → (a.setCell ⟨f, j, none⟩ v).cell? ⟨b, o, none⟩ = a.cell? ⟨b, o, none⟩ := fun b o hb => World.cell?_of_block (a := ⟨b, o, none⟩) (setCell_keep _ _ _ _ b hb)
  exact ⟨(k _ _ h1).trans h.1, (k _ _ h1).trans h.2.1, (k _ _ h1).trans h.2.2.1, (k _ _ h1).trans h.2.2.2.1, (k _ _ h1).trans h.2.2.2.2.1, (k _ _ h2).trans h.2.2.2.2.2⟩

set_option maxRecDepth 100000 in
set_option maxHeartbeats 4000000 in
theorem qsureF_any (f : Nat) (hf : f < R.sureB.length) (hsl : ∀ i, ∀ s, s ∈ (qmid (ofFile f) R i).sureB → s.length ≤ 40000) (hok : ∀ c, c ∈ R.waits → c.QOk R.sureB.length) (h : QInv Q R w) (h1 : R.waits.length ≤ 90000) (h3 : R.sureB.length ≤ 90000) :
    Calls Tryz.prog 66 #[.pointer (some ⟨Q.b, 0, none⟩), .int .i64 (f : Int)] w fun e w' => e = .returned (.tuple #[]) ∧ ∃ Q', QInv Q' (qsettle (ofFile f) R) w' ∧ QStep Q w Q' w' := by
  obtain ⟨i1, hi1, hz1, hs1, hbb1⟩ := infoQC
  obtain ⟨i2, hi2, hz2, hs2, hbb2⟩ := infoQS
  have HR3 := Lib.hid (h.row 3 (.inl (by decide)))
  change Hid (w.ownsRow 0 9 1 (Q.v 3) R.sureB.length (R.sureB.flatMap strC)) at HR3
  have HBQ := Lib.hid h.blk
  have HH := Lib.hid h
  have c3 := blk_cell h.blk 3 (v := Q.v 3) rfl
  have c3a := cell_alloc c3 (.cells #[] 9)
  have HLT := Lib.hid (blk_lt h.blk)
  have HSL := Lib.hid hsl; have HOKW := Lib.hid hok
  have g0 : ¬ (f : Int) < 0 := by omega
  have g1 : decide ((f : Int) < 0) = false := decide_eq_false g0
  have g2 : (0 : Int) ≤ f := by omega
  clear hsl hok
  clear h
  go_enter Tryz.func66, Tryz.ntmps66
  go_wp2_with (first
    | (at_builtin; refine wpList_append_row _ rfl _ _ 43 rfl w.heap.size 9 i2 _ 1 16 Tryz.underlying43 hi2 hz2 hs2 hbb2 rfl (by decide) (.slice (some ⟨w.heap.size, 0, none⟩) 0 0) 0 [] rfl (row_none w 9 1) (Q.v 3) R.sureB.length (R.sureB.flatMap strC) rfl (HR3.out.alloc _) (one_str _) (by unfold maxLen; omega) (by omega) (by simp) ?_; intro v5 w5 hown5 hgrow5 hbk5; rw [Nat.zero_add, List.nil_append] at hown5; obtain ⟨a5, cap5, hv5, -⟩ := row_slice (row_base hown5 (Nat.zero_le _)); subst hv5; have HB5 := Lib.hid (grown_new hgrow5); have hB5 : Blk w5 Q.b 64 _ := (HB5.out.block _ (blk_lt HBQ.out)).trans HBQ.out; have q3 := blk_cell hB5 3 (v := Q.v 3) rfl; have p3 := blk_frozen hB5 3; have HO5 := Lib.hid hown5; clear hown5 hgrow5 hbk5 hB5))
  have HS0 := Lib.hid (sure_start (p := (ofFile f)) HH.out HB5.out HO5.out)
  clear HO5 HB5 HR3 q3 p3 c3 c3a
  go_loopw [4, 5] (fun t4 t5 wr => ∃ (i : Nat) (V : Nat → Value), i ≤ R.waits.length ∧ t5 = .int .i64 i ∧ Hid (SureI Q w R (ofFile f) i t4 wr V)) (fun _ t5 _ => R.waits.length - (intOf t5).toNat)
  case atStart => exact ⟨0, _, Nat.zero_le _, rfl, HS0⟩
  case round =>
    obtain ⟨i, V, hi, rfl, hI⟩ := hrel
    clear HS0
    have hW : (qmid (ofFile f) R i).waits = R.waits := (qfold_waits (ofFile f) (R.waits.take i) R).1
    have hr4 : wr.ownsRow 0 99 5 (V 4) R.waits.length (R.waits.flatMap Chg.qc) := by
      have := hI.out.inv.row 4 (.inl (by decide))
      change wr.ownsRow 0 99 5 (V 4) (qmid (ofFile f) R i).waits.length ((qmid (ofFile f) R i).waits.flatMap Chg.qc) at this
      rwa [hW] at this
    obtain ⟨a4, cap4, hv4, hc4⟩ := row_slice hr4
    have c4 := blk_cell hI.out.inv.blk 4 (v := .slice a4 R.waits.length cap4) (by rw [← hv4]; rfl)
    have HV4 := Lib.hid hv4
    clear hr4 hW hv4
    by_cases hlt : i < R.waits.length
    · obtain ⟨g4, rfl, hg4, hcc4⟩ := hc4.resolve_left (by omega)
      obtain ⟨kd, nm, fi, at_, d, hcc, hk1, hk2, hk3⟩ := qc_lit R.waits[i]
      have hone := one_chg R.waits[i]
      rw [hcc] at hone
      have r : ∀ j u, R.waits[i].qc[j]? = some u → j < 5 → wr.cell? ⟨g4, i * 5 + j, none⟩ = some u := fun j u hu hj => hcc4 (i * 5 + j) u (by rw [flat_at Chg.qc 5 (fun c => by cases c <;> rfl) R.waits i j hlt hj]; exact hu)
      rw [hcc] at r
      have r0 := r 0 _ rfl (by decide)
      have r1 := r 1 _ rfl (by decide)
      have r2 := r 2 _ rfl (by decide)
      have r3 := r 3 _ rfl (by decide)
      have r4 := r 4 _ rfl (by decide)
      rw [Nat.add_zero] at r0
      have hcc2 : R.waits[i].qc.toArray = #[.int .i64 kd, .string nm, .int .i64 fi, .int .i64 at_, .string d] := by rw [hcc]
      have hltI : (i : Int) < R.waits.length := by omega
      have hn0 : ¬ (i : Int) < 0 := by omega
      obtain ⟨WB, hWB⟩ : ∃ WB, WB = wr.alloc (.cells #[.int .i64 kd, .string nm, .int .i64 fi, .int .i64 at_, .string d] 99) := ⟨_, rfl⟩
      have HXB : Hid (Blk WB wr.heap.size 99 #[.int .i64 kd, .string nm, .int .i64 fi, .int .i64 at_, .string d]) := Lib.hid (by rw [hWB]; exact blk_new wr _ _)
      have hbB : Below wr.heap.size wr WB := by rw [hWB]; exact (Below.refl _ _).alloc (Nat.le_refl _) _
      have HB := Lib.hid hbB
      have HIB := Lib.hid (hI.out.inv.below hbB)
      have HBB : Hid (Blk WB Q.b 64 (qcells ⟨Q.b, V⟩ (qmid (ofFile f) R i))) := Lib.hid HIB.out.blk
      have HNE := Lib.hid (show wr.heap.size ≠ Q.b from fun e => by have h0 : Q.b < wr.heap.size := blk_lt hI.out.inv.blk; omega)
      have HCC := Lib.hid hcc; have HCC2 := Lib.hid hcc2; have HWB := Lib.hid hWB
      clear r hcc hcc2 hc4 hcc4 hWB hbB
      cases hod : ofDir R.waits[i] with
      | true =>
        have k1 : decide (3 ≤ kd) = false := decide_eq_false (by have := hk1 hod; omega)
        have k2 : ¬ 3 ≤ kd := by have := hk1 hod; omega
        have HP := Lib.hid (show ofFile f R.waits[i] = false from (ofFile_dir f hod))
        clear hk1 hk2 hk3 hod
        have hke := hI.out.own
        have hkl := keptL_le (ofFile f) (R.waits.take i)
        have hkt : (R.waits.take i).length = i := by rw [List.length_take]; omega
        have hkb : (keptL (ofFile f) (R.waits.take i)).length ≤ 90000 := by omega
        have HOA := Lib.hid ((row_below hI.out.own HB.out).alloc (.cells #[.int .i64 kd, .string nm, .int .i64 fi, .int .i64 at_, .string d] 99))
        have HO1 := Lib.hid (row_one WB 99 5 [.int .i64 kd, .string nm, .int .i64 fi, .int .i64 at_, .string d] rfl)
        have HBASE := Lib.hid (show w.heap.size ≤ (WB.alloc (.cells #[.int .i64 kd, .string nm, .int .i64 fi, .int .i64 at_, .string d] 99)).heap.size from by
          have x1 := hI.out.stp.size; have x2 := HB.out.size; have x3 : (WB.alloc (.cells #[.int .i64 kd, .string nm, .int .i64 fi, .int .i64 at_, .string d] 99)).heap.size = WB.heap.size + 1 := by simp
          omega)
        clear hke hkl hkt
        obtain ⟨x0, x1, x2, x3, x4⟩ := bxs_of HXB.out
        go_upto_region 6 with (fail)
        rw [← HWB.out]
        clear HWB
        go_wp2_with (first
          | (at_builtin; refine wpList_append_row _ rfl _ _ 61 rfl w.heap.size 99 i1 _ 5 56 Tryz.underlying61 hi1 hz1 hs1 hbb1 rfl (by decide) _ _ _ rfl HOA.out (.slice (some ⟨WB.heap.size, 0, none⟩) 1 1) 1 [.int .i64 kd, .string nm, .int .i64 fi, .int .i64 at_, .string d] rfl HO1.out hone (by unfold maxLen; omega) (by omega) HBASE.out ?_; intro v3 w3 hown3 hgrow3 hb3))
        have HI3 := Lib.hid (sure_keep hI.out hlt HP.out (HB.out.alloc HB.out.size (.cells #[.int .i64 kd, .string nm, .int .i64 fi, .int .i64 at_, .string d] 99)) (by rw [HCC.out]; exact hown3) hgrow3 (hb3.imp_right (fun e => by rw [e])))
        clear hown3 hgrow3 hb3
        go_wp2
        go_roundw
        case rel => exact ⟨i + 1, V, by omega, by go_num, HI3⟩
        case measure => simp [intOf]; omega
      | false =>
        have k1 : decide (3 ≤ kd) = true := decide_eq_true (hk2 hod)
        have k2 : 3 ≤ kd := hk2 hod
        have hfi : fi = (fileC R.waits[i] : Int) := hk3 hod
        have HOD := Lib.hid hod
        by_cases hff : fileC R.waits[i] = f
        · have HFF := Lib.hid hff
          rw [hff] at hfi
          subst hfi
          have HP := Lib.hid (show ofFile f R.waits[i] = true from (ofFile_file f hod).trans (decide_eq_true hff))
          clear hk1 hk2 hk3 hod hff
          have hlb : (qmid (ofFile f) R i).sureB.length = R.sureB.length := (qfold_waits (ofFile f) (R.waits.take i) R).2.1
          obtain ⟨sv, hsv⟩ : ∃ sv, sv = (qmid (ofFile f) R i).sureB.getD f [] := ⟨_, rfl⟩
          have hle : sv.length ≤ 40000 := by
            rw [hsv, List.getD_eq_getElem?_getD, List.getElem?_eq_getElem (by omega)]
            exact HSL.out i _ (List.getElem_mem _)
          have hr3 := HIB.out.row 3 (.inl (by decide))
          change WB.ownsRow 0 9 1 (V 3) (qmid (ofFile f) R i).sureB.length ((qmid (ofFile f) R i).sureB.flatMap strC) at hr3
          obtain ⟨a3, cap3, hv3, hc3⟩ := row_slice hr3
          obtain ⟨g3, rfl, hg3, -⟩ := hc3.resolve_left (by omega)
          have HV3 := Lib.hid hv3
          rw [hv3, hlb] at hr3
          have HR3 := Lib.hid hr3
          have HI3 := Lib.hid (show ((qmid (ofFile f) R i).sureB.flatMap strC)[f]? = some (.string (bz sv)) by rw [hsv]; exact str_at _ f (by omega))
          have HN3 := Lib.hid (show wr.heap.size ≠ g3 ∧ Q.b ≠ g3 from ⟨fun e => by have h0 : g3 < wr.heap.size := hI.out.inv.lt (.inr ⟨3, .inl (by decide), show (V 3).ownBlock = some g3 by rw [hv3]; rfl⟩); omega, fun e => hI.out.inv.ne 3 (.inl (by decide)) (show (V 3).ownBlock = some Q.b by rw [hv3, e]; rfl)⟩)
          have c3 : WB.cell? ⟨Q.b, 3, none⟩ = some (.slice (some ⟨g3, 0, none⟩) R.sureB.length cap3) := blk_cell HBB.out 3 (by rw [← hlb, ← hv3]; rfl)
          have HSV := Lib.hid hsv; have HLB := Lib.hid hlb
          obtain ⟨z5, -⟩ := row6 HR3.out (Below.refl _ _) HI3.out
          obtain ⟨x0, x1, x2, x3, x4⟩ := bxs_of HXB.out
          have hfI : (f : Int) < R.sureB.length := by omega
          clear hr3 hc3 hg3 hv3 hlb hsv
          go_upto_region 10 with (fail)
          rw [← HWB.out]
          clear HWB
          have hD := qbytes_any (w := WB.drew) R.waits[i] HOD.out (HOKW.out _ (List.getElem_mem hlt)) sv (by omega)
          rw [HCC2.out] at hD
          have HD := Lib.hid hD
          clear hD
          refine wp_region_held_drew (S := fun a => a.cell? ⟨wr.heap.size, 0, none⟩ = some (.int .i64 kd) ∧ a.cell? ⟨wr.heap.size, 1, none⟩ = some (.string nm) ∧ a.cell? ⟨wr.heap.size, 2, none⟩ = some (.int .i64 (f : Int)) ∧ a.cell? ⟨wr.heap.size, 3, none⟩ = some (.int .i64 at_) ∧ a.cell? ⟨wr.heap.size, 4, none⟩ = some (.string d) ∧ a.cell? ⟨Q.b, 3, none⟩ = some (.slice (some ⟨g3, 0, none⟩) R.sureB.length cap3)) (by kernel_rfl) ⟨x0, x1, x2, x3, x4, c3⟩ (fun hHeld => ?_)
          refine wpAnyH_take (i := 0) (v := (.pointer (some ⟨Q.b, 0, none⟩))) rfl (by kernel_rfl) (by kernel_rfl) (by kernel_rfl) (fun _ _ _ h => h) (Or.inl ⟨by rfl, ?_⟩) hHeld ?_
          · intro w' hSw
            obtain ⟨a0, a1, a2, a3, a4, a5⟩ := hSw
            go_simp
          go_frame
          refine wpAnyH_take (i := 1) (v := (.pointer (some ⟨Q.b, 0, none⟩))) rfl (by kernel_rfl) (by kernel_rfl) (by kernel_rfl) (fun _ _ _ h => h) (Or.inl ⟨by rfl, ?_⟩) hHeld ?_
          · intro w' hSw
            obtain ⟨a0, a1, a2, a3, a4, a5⟩ := hSw
            go_simp
          go_frame
          refine wpAnyH_take (i := 2) (v := (.pointer (some ⟨Q.b, 3, none⟩))) rfl (by kernel_rfl) (by kernel_rfl) (by kernel_rfl) (fun _ _ _ h => h) (Or.inl ⟨by rfl, ?_⟩) hHeld ?_
          · intro w' hSw
            obtain ⟨a0, a1, a2, a3, a4, a5⟩ := hSw
            go_simp
          go_frame
          refine wpAnyH_take (i := 3) (v := (.slice (some ⟨g3, 0, none⟩) R.sureB.length cap3)) rfl (by kernel_rfl) (by kernel_rfl) (by kernel_rfl) (fun _ _ _ h => h) (Or.inl ⟨by rfl, ?_⟩) hHeld ?_
          · intro w' hSw
            obtain ⟨a0, a1, a2, a3, a4, a5⟩ := hSw
            go_simp
          go_frame
          refine wpAnyH_take (i := 4) (v := (.int .i64 (f : Int))) rfl (by kernel_rfl) (by kernel_rfl) (by kernel_rfl) (fun _ _ _ h => h) (Or.inl ⟨by rfl, ?_⟩) hHeld ?_
          · intro w' hSw
            obtain ⟨a0, a1, a2, a3, a4, a5⟩ := hSw
            go_simp
          go_frame
          refine wpAnyH_take (i := 5) (v := (.pointer (some ⟨Q.b, 0, none⟩))) rfl (by kernel_rfl) (by kernel_rfl) (by kernel_rfl) (fun _ _ _ h => h) (Or.inl ⟨by rfl, ?_⟩) hHeld ?_
          · intro w' hSw
            obtain ⟨a0, a1, a2, a3, a4, a5⟩ := hSw
            go_simp
          go_frame
          refine wpAnyH_take (i := 6) (v := (.pointer (some ⟨Q.b, 0, none⟩))) rfl (by kernel_rfl) (by kernel_rfl) (by kernel_rfl) (fun _ _ _ h => h) (Or.inl ⟨by rfl, ?_⟩) hHeld ?_
          · intro w' hSw
            obtain ⟨a0, a1, a2, a3, a4, a5⟩ := hSw
            go_simp
          go_frame
          refine wpAnyH_take (i := 7) (v := (.pointer (some ⟨Q.b, 3, none⟩))) rfl (by kernel_rfl) (by kernel_rfl) (by kernel_rfl) (fun _ _ _ h => h) (Or.inl ⟨by rfl, ?_⟩) hHeld ?_
          · intro w' hSw
            obtain ⟨a0, a1, a2, a3, a4, a5⟩ := hSw
            go_simp
          go_frame
          refine wpAnyH_take (i := 8) (v := (.slice (some ⟨g3, 0, none⟩) R.sureB.length cap3)) rfl (by kernel_rfl) (by kernel_rfl) (by kernel_rfl) (fun _ _ _ h => h) (Or.inl ⟨by rfl, ?_⟩) hHeld ?_
          · intro w' hSw
            obtain ⟨a0, a1, a2, a3, a4, a5⟩ := hSw
            go_simp
          go_frame
          refine wpAnyH_take (i := 9) (v := (.int .i64 (f : Int))) rfl (by kernel_rfl) (by kernel_rfl) (by kernel_rfl) (fun _ _ _ h => h) (Or.inl ⟨by rfl, ?_⟩) hHeld ?_
          · intro w' hSw
            obtain ⟨a0, a1, a2, a3, a4, a5⟩ := hSw
            go_simp
          go_frame
          refine wpAnyH_take (i := 10) (v := (.pointer (some ⟨g3, f, none⟩))) rfl (by kernel_rfl) (by kernel_rfl) (by kernel_rfl) (fun _ _ _ h => h) (Or.inl ⟨by rfl, ?_⟩) hHeld ?_
          · intro w' hSw
            obtain ⟨a0, a1, a2, a3, a4, a5⟩ := hSw
            go_simp
          go_frame
          refine wpAnyH_take (i := 12) (v := (.agg #[.int .i64 kd, .string nm, .int .i64 (f : Int), .int .i64 at_, .string d])) rfl (by kernel_rfl) (by kernel_rfl) (by kernel_rfl) (fun _ _ _ h => h) (Or.inl ⟨by rfl, ?_⟩) hHeld ?_
          · intro w' hSw
            obtain ⟨a0, a1, a2, a3, a4, a5⟩ := hSw
            go_simp
          go_frame
          refine wpAnyH_ready (rs := [11]) (by kernel_rfl) (by simp) ?_
          refine AllReadyH.cons rfl (fun K hK => ?_) AllReadyH.nil
          go_simp
          refine hK.out _ _ hHeld (fun hHeld => ?_)
          clear hK K
          refine wpAnyH_ready (rs := [13]) (by kernel_rfl) (by simp) ?_
          refine AllReadyH.cons rfl (fun K hK => ?_) AllReadyH.nil
          go_simp
          (with_reducible refine HD.out.mono ?_)
          rintro e w6 ⟨rfl, hb6⟩
          have q6 := row6 (show WB.drew.ownsRow _ _ _ _ _ _ from HR3.out) hb6 HI3.out
          have p6 := q6.2
          have HX6 : Hid (Blk w6 wr.heap.size 99 #[.int .i64 kd, .string nm, .int .i64 (f : Int), .int .i64 at_, .string d]) := Lib.hid ((hb6.block _ (blk_lt (show Blk WB.drew _ _ _ from HXB.out))).trans HXB.out)
          have HC6 : Hid (w6.cell? ⟨Q.b, 3, none⟩ = some (.slice (some ⟨g3, 0, none⟩) R.sureB.length cap3)) := Lib.hid ((hb6.cell (p := ⟨Q.b, 3, none⟩) (blk_lt HBB.out)).trans c3)
          have HB6 := Lib.hid hb6
          obtain ⟨y0, y1, y2, y3, y4⟩ := bxs_of HX6.out
          replace q6 := q6.1
          clear hb6
          go_simp
          refine hK.out _ _ ⟨y0, y1, y2, y3, y4, HC6.out⟩ (fun hHeld => ?_)
          clear hK K
          refine wpAnyH_take (i := 14) (v := (.pointer (some ⟨g3, f, none⟩))) rfl (by kernel_rfl) (by kernel_rfl) (by kernel_rfl) (fun _ _ _ h => h) (Or.inl ⟨by rfl, ?_⟩) hHeld ?_
          · intro w' hSw
            obtain ⟨a0, a1, a2, a3, a4, a5⟩ := hSw
            go_simp
          go_frame
          refine wpAnyH_ready (rs := [15]) (by kernel_rfl) (by simp) ?_
          refine AllReadyH.cons rfl (fun K hK => ?_) AllReadyH.nil
          go_simp
          refine hK.out _ _ (cell6_set3 HN3.out.1 HN3.out.2 ⟨y0, y1, y2, y3, y4, HC6.out⟩ _ _) (fun hHeld => ?_)
          clear hK K
          refine wpAnyH_done (by kernel_rfl) ?_ _
          go_wp2
          have hi3 := sure_file hI.out hlt HP.out HOD.out (HB.out.trans ((Same.refl WB).drew.below.mono HB.out.size)) HB6.out HV3.out HFF.out
          rw [← HSV.out] at hi3
          have HI9 := Lib.hid hi3
          clear hi3
          go_roundw
          case rel => exact ⟨i + 1, _, by omega, by go_num, HI9⟩
          case measure => simp [intOf]; omega
        · have e0 : ¬ fi = (f : Int) := by rw [hfi]; omega
          have e1 : (fi == (f : Int)) = false := by simpa using e0
          have e2 : decide (fi = (f : Int)) = false := decide_eq_false e0
          have HP := Lib.hid (show ofFile f R.waits[i] = false from (ofFile_file f hod).trans (decide_eq_false hff))
          clear hk1 hk2 hk3 hod hff hfi
          have hke := hI.out.own
          have hkl := keptL_le (ofFile f) (R.waits.take i)
          have hkt : (R.waits.take i).length = i := by rw [List.length_take]; omega
          have hkb : (keptL (ofFile f) (R.waits.take i)).length ≤ 90000 := by omega
          have HOA := Lib.hid ((row_below hI.out.own HB.out).alloc (.cells #[.int .i64 kd, .string nm, .int .i64 fi, .int .i64 at_, .string d] 99))
          have HO1 := Lib.hid (row_one WB 99 5 [.int .i64 kd, .string nm, .int .i64 fi, .int .i64 at_, .string d] rfl)
          have HBASE := Lib.hid (show w.heap.size ≤ (WB.alloc (.cells #[.int .i64 kd, .string nm, .int .i64 fi, .int .i64 at_, .string d] 99)).heap.size from by
            have x1 := hI.out.stp.size; have x2 := HB.out.size; have x3 : (WB.alloc (.cells #[.int .i64 kd, .string nm, .int .i64 fi, .int .i64 at_, .string d] 99)).heap.size = WB.heap.size + 1 := by simp
            omega)
          clear hke hkl hkt
          obtain ⟨x0, x1, x2, x3, x4⟩ := bxs_of HXB.out
          go_upto_region 6 with (fail)
          rw [← HWB.out]
          clear HWB
          go_wp2_with (first
            | (at_builtin; refine wpList_append_row _ rfl _ _ 61 rfl w.heap.size 99 i1 _ 5 56 Tryz.underlying61 hi1 hz1 hs1 hbb1 rfl (by decide) _ _ _ rfl HOA.out (.slice (some ⟨WB.heap.size, 0, none⟩) 1 1) 1 [.int .i64 kd, .string nm, .int .i64 fi, .int .i64 at_, .string d] rfl HO1.out hone (by unfold maxLen; omega) (by omega) HBASE.out ?_; intro v3 w3 hown3 hgrow3 hb3))
          have HI3 := Lib.hid (sure_keep hI.out hlt HP.out (HB.out.alloc HB.out.size (.cells #[.int .i64 kd, .string nm, .int .i64 fi, .int .i64 at_, .string d] 99)) (by rw [HCC.out]; exact hown3) hgrow3 (hb3.imp_right (fun e => by rw [e])))
          clear hown3 hgrow3 hb3
          go_wp2
          go_roundw
          case rel => exact ⟨i + 1, V, by omega, by go_num, HI3⟩
          case measure => simp [intOf]; omega
    · obtain rfl : i = R.waits.length := by omega
      obtain ⟨a5, cap5, hv5, -⟩ := row_slice (row_base hI.out.own (Nat.zero_le _))
      subst hv5
      have f4 := blk_frozen hI.out.inv.blk 4
      have HE := Lib.hid (sure_end hI.out)
      simp only [List.take_length] at HE
      go_wp2
      go_returns
      exact ⟨rfl, _, HE.out.1, HE.out.2⟩
end Go.Proofs.YtkfncnpeockiaaaGreatDoor
